/-
  Plain facts of the law SealBack: what is sealed is got, and with some bytes within four side by side turned it is not.
-/
import Derived.Test.YtekjlmnnaaodjaaSealK
namespace Go.Proofs.Ytekjlmnnaaodjaa.Seal
open Go.RowKit
open Math
open Crc
namespace sealBack

/-- The first k bytes of e, lowest first, xored to those from place p on. -/
def turn (e p : Nat) : Nat → List Nat → List Nat
  | 0, l => l
  | k + 1, l => (turn e p k l).set (p + k) ((turn e p k l)[p + k]?.getD 0 ^^^ (e / 256 ^ k % 256))

theorem turn_length (e p k : Nat) (l : List Nat) : (turn e p k l).length = l.length := by
  induction k with
  | zero => rfl
  | succ k ih => simp only [turn]; rw [List.length_set, ih]

theorem xor_byte {a b : Nat} (ha : a < 256) (hb : b < 256) : a ^^^ b < 256 := Nat.xor_lt_two_pow (n := 8) ha hb

theorem turn_byte (e p k : Nat) (l : List Nat) (h : ∀ b ∈ l, b < 256) : ∀ b ∈ turn e p k l, b < 256 := by
  induction k with
  | zero => exact h
  | succ k ih =>
    intro b hb
    rcases List.mem_or_eq_of_mem_set hb with h1 | rfl
    · exact ih b h1
    · exact xor_byte (getD_lt _ _ ih) (Nat.mod_lt _ (by omega))

theorem turn_four (e : Nat) (ps cs : List Nat) (b0 b1 b2 b3 : Nat) :
    turn e ps.length 4 (ps ++ [b0, b1, b2, b3] ++ cs) = ps ++ [b0 ^^^ e % 256, b1 ^^^ e / 256 % 256, b2 ^^^ e / 65536 % 256, b3 ^^^ e / 16777216 % 256] ++ cs := by
  simp [turn]

/-- Bytes within which a burst stands. -/
theorem around (l : List Nat) (p : Nat) (h : p + 4 ≤ l.length) : ∃ ps b0 b1 b2 b3 cs, ps.length = p ∧ l = ps ++ [b0, b1, b2, b3] ++ cs := by
  obtain ⟨q, hq⟩ : ∃ q, l.drop p = q := ⟨_, rfl⟩
  have hl : q.length = l.length - p := by rw [← hq, List.length_drop]
  match q, hq, hl with
  | b0 :: b1 :: b2 :: b3 :: cs, hq, _ =>
    refine ⟨l.take p, b0, b1, b2, b3, cs, by simp; omega, ?_⟩
    rw [List.append_assoc]
    have := List.take_append_drop p l
    rw [hq] at this
    simpa using this.symm
  | [], _, hl => simp at hl; omega
  | [_], _, hl => simp at hl; omega
  | [_, _], _, hl => simp at hl; omega
  | [_, _, _], _, hl => simp at hl; omega

/-- What is turned within four bytes is taken otherwise. -/
theorem turned_taken (x e p : Nat) (l : List Nat) (h : p + 4 ≤ l.length) (he : e < 4294967296) (h0 : 0 < e) : taken x (turn e p 4 l) ≠ taken x l := by
  obtain ⟨ps, b0, b1, b2, b3, cs, rfl, rfl⟩ := around l p h
  rw [turn_four]
  exact burst x b0 b1 b2 b3 e ps cs he h0

/-- Four bytes taken at once. -/
theorem taken_zeros (x : Nat) : taken x [0, 0, 0, 0] = halves 32 x := by
  have a : ∀ y, by8 y 0 = halves 8 y := fun y => by unfold by8; rw [Nat.xor_zero]
  simp only [run_cons, run_nil, a]
  rw [show (32 : Nat) = 8 + (8 + (8 + 8)) from rfl, halves_add, halves_add, halves_add]
theorem taken_le4 (x e : Nat) (he : e < 4294967296) : taken x (le4 e) = halves 32 (x ^^^ e) := by
  have h := run_burst x 0 0 0 0 e he
  rw [Nat.zero_xor, Nat.zero_xor, Nat.zero_xor, Nat.zero_xor, taken_zeros] at h
  rw [halves_xor, ← h]
  rfl
/-- What stands behind bytes and their sum is always the same. -/
theorem taken_sealed (bs : List Nat) (hb : ∀ b ∈ bs, b < 256) : taken 4294967295 (sealed bs) = halves 32 4294967295 := by
  rw [sealed, run_append, taken_le4 _ _ (more_lt (by omega) hb)]
  congr 1
  unfold more
  rw [Nat.xor_zero, Nat.xor_comm 4294967295, ← Nat.xor_assoc, Nat.xor_self, Nat.zero_xor]
/-- With some bytes within four turned nothing is sealed. -/
theorem turned_sealed (e p : Nat) (bs ps : List Nat) (hb : ∀ b ∈ bs, b < 256) (hp : ∀ b ∈ ps, b < 256) (h : p + 4 ≤ bs.length + 4) (he : e < 4294967296) (h0 : 0 < e) : sealed ps ≠ turn e p 4 (sealed bs) := by
  intro hh
  refine turned_taken 4294967295 e p (sealed bs) (by rw [sealed_length]; exact h) he h0 ?_
  rw [← hh, taken_sealed ps hp, taken_sealed bs hb]

/-- What Get tells of sealed bytes, and of turned ones. -/
theorem got_len (bs : List Nat) : (sealed bs).take ((sealed bs).length - 4) = bs := by
  rw [sealed_length, Nat.add_sub_cancel, sealed]
  simp
theorem gotE_sealed (bs : List Nat) : gotE (sealed bs) = 0 := by
  unfold gotE
  rw [got_len, if_pos rfl, if_neg (by rw [sealed_length]; omega)]
theorem gotL_sealed (bs : List Nat) : gotL (sealed bs) = bs := by
  unfold gotL
  rw [got_len, if_pos rfl, if_neg (by rw [sealed_length]; omega)]
theorem gotE_turned (e p : Nat) (bs : List Nat) (hb : ∀ b ∈ bs, b < 256) (h : p + 4 ≤ bs.length + 4) (he : e < 4294967296) (h0 : 0 < e) : gotE (turn e p 4 (sealed bs)) = 10 := by
  have hl : (turn e p 4 (sealed bs)).length = bs.length + 4 := by rw [turn_length, sealed_length]
  have ht := turn_byte e p 4 (sealed bs) (sealed_byte bs hb)
  unfold gotE
  rw [if_neg (by rw [hl]; omega), if_neg]
  exact turned_sealed e p bs _ hb (fun b hm => ht b (List.mem_of_mem_take hm)) h he h0

/-- What Open tells of a record, of a turned one, and of noughts. -/
theorem opN_recd (n y : Nat) (hn : n < 4294967296) : opN (recd n y) = n := by
  unfold opN
  rw [getv_in (by rw [recd_length]; omega)]
  have : (recd n y).take 4 = be 4 n := by
    unfold recd sealed twelve
    rw [List.append_assoc, List.take_append_of_le_length (by rw [be_length]; omega), List.take_of_length_le (by rw [be_length]; omega)]
  rw [this, val_be]
  omega
theorem opY_recd (n y : Nat) (hy : y < 18446744073709551616) : opY (recd n y) = y := by
  unfold opY
  have hd : (recd n y).drop 4 = be 8 y ++ le4 (more 0 (twelve n y)) := by
    unfold recd sealed
    conv => lhs; rw [twelve, List.append_assoc, List.drop_append_of_le_length (by rw [be_length]; omega), List.drop_of_length_le (by rw [be_length]; omega), List.nil_append]
    rfl
  rw [getv_in (by rw [hd, List.length_append, be_length]; omega), hd, List.take_append_of_le_length (by rw [be_length]; omega), List.take_of_length_le (by rw [be_length]; omega), val_be]
  omega
theorem isRec_recd (n y : Nat) (hn : n < 4294967296) (hy : y < 18446744073709551616) : isRec (recd n y) = true := by
  unfold isRec
  rw [opN_recd n y hn, opY_recd n y hy]
  exact decide_eq_true rfl
theorem isRec_turned (e p n y : Nat) (h : p + 4 ≤ 16) (he : e < 4294967296) (h0 : 0 < e) : isRec (turn e p 4 (recd n y)) = false := by
  refine decide_eq_false fun hh => ?_
  exact turned_sealed e p (twelve n y) (twelve _ _) (twelve_byte _ _) (twelve_byte _ _) (by rw [twelve_length]; exact h) he h0 hh.symm
theorem isRec_zeros : isRec (zeros 16) = false := by kernel_rfl

end sealBack
end Go.Proofs.Ytekjlmnnaaodjaa.Seal
