/-
  The walk of the law CrcBurst, of bytes up to 4,000 and a burst within them.
-/
import Derived.Test.YtlnkmbcbifopoaaWalksD
namespace Go.Proofs.Ytlnkmbcbifopoaa
open Go.RowKit
open Crc
namespace crcBurst

/-- The first k bytes of e, lowest first, xored to those from place p on. -/
def turn (e p : Nat) : Nat → List Nat → List Nat
  | 0, l => l
  | k + 1, l => (turn e p k l).set (p + k) ((turn e p k l)[p + k]?.getD 0 ^^^ (e / 256 ^ k % 256))
theorem turn_length (e p k : Nat) (l : List Nat) : (turn e p k l).length = l.length := by
  induction k with
  | zero => rfl
  | succ k ih => simp only [turn]; rw [List.length_set, ih]
theorem xor_byte {a b : Nat} (ha : a < 256) (hb : b < 256) : a ^^^ b < 256 := Nat.xor_lt_two_pow (n := 8) ha hb
theorem turn_byte (e p k : Nat) (l : List Nat) (h : ∀ b ∈ l, b < 256) : ∀ b ∈ turn e p k l, b < 256 := by
  induction k with
  | zero => exact h
  | succ k ih =>
    intro b hb
    rcases List.mem_or_eq_of_mem_set hb with h1 | rfl
    · exact ih b h1
    · exact xor_byte (getD_lt _ _ ih) (Nat.mod_lt _ (by omega))
theorem turn_four (e : Nat) (ps cs : List Nat) (b0 b1 b2 b3 : Nat) :
    turn e ps.length 4 (ps ++ [b0, b1, b2, b3] ++ cs) = ps ++ [b0 ^^^ e % 256, b1 ^^^ e / 256 % 256, b2 ^^^ e / 65536 % 256, b3 ^^^ e / 16777216 % 256] ++ cs := by
  simp [turn]
/-- Bytes within which a burst stands. -/
theorem around (l : List Nat) (p : Nat) (h : p + 4 ≤ l.length) : ∃ ps b0 b1 b2 b3 cs, ps.length = p ∧ l = ps ++ [b0, b1, b2, b3] ++ cs := by
  obtain ⟨q, hq⟩ : ∃ q, l.drop p = q := ⟨_, rfl⟩
  have hl : q.length = l.length - p := by rw [← hq, List.length_drop]
  match q, hq, hl with
  | b0 :: b1 :: b2 :: b3 :: cs, hq, _ =>
    refine ⟨l.take p, b0, b1, b2, b3, cs, by simp; omega, ?_⟩
    rw [List.append_assoc]
    have := List.take_append_drop p l
    rw [hq] at this
    simpa using this.symm
  | [], _, hl => simp at hl; omega
  | [_], _, hl => simp at hl; omega
  | [_, _], _, hl => simp at hl; omega
  | [_, _, _], _, hl => simp at hl; omega
/-- What is turned within four bytes has another sum. -/
theorem turned_sum (e p : Nat) (l : List Nat) (h : p + 4 ≤ l.length) (he : e < 4294967296) (h0 : 0 < e) : more 0 (turn e p 4 l) ≠ more 0 l := by
  obtain ⟨ps, b0, b1, b2, b3, cs, rfl, rfl⟩ := around l p h
  rw [turn_four]
  unfold more
  intro hh
  have hh2 := congrArg (4294967295 ^^^ ·) hh
  simp only [← Nat.xor_assoc, Nat.xor_self, Nat.zero_xor] at hh2
  exact burst _ b0 b1 b2 b3 e ps cs he h0 hh2

set_option maxHeartbeats 1000000 in
theorem walkIn (a : Addr) (len cap : Nat) (bs : List Nat) (p e : Nat) (w : World) (hlen : bs.length = len) (hl : len ≤ 4000) (hp : p + 4 ≤ len) (he : e < 4294967296) (h0 : 0 < e)
    (hI : BytesAt w.heap.size w (.slice (some a) len cap) bs) :
    Calls Try.prog 6 #[.slice (some a) len cap, .int .i64 p, .int .u32 e] w fun e w' => e = .returned (.bool true) ∧ Below w.heap.size w w' := by
  have q1 := fun w' (h : Below w.heap.size w w') => sum_any _ bs w' (by omega) ((hI.below h).mono h.size)
  have q2 : Hid (∀ w' v, BytesAt w'.heap.size w' v (turn e p 4 bs) → Calls Try.prog 8 #[v] w' fun e' w'' => e' = .returned (.int .u32 (more 0 (turn e p 4 bs) : Nat)) ∧ Below w'.heap.size w' w'') := fun w' v h => sum_any v _ w' (by rw [turn_length]; omega) h
  have hne := turned_sum e p bs (by omega) he h0
  have HV := hI.values
  have S1 : Hid (∀ j u, (bs.map enc)[j]? = some u → (w.alloc (.cells #[] 5)).cell? (a.add j) = some u) := fun j u hj => by
    have := HV j u hj
    rw [← this]
    exact Below.cell ((Below.refl _ _).alloc (Nat.le_refl _) _) (World.block_lt_of_cell? w _ this)
  have HB : Hid (∀ b ∈ bs, b < 256) := hI.1
  have HL : Hid (bs.length = len) := hlen
  clear hI HV hlen
  have S2 : Hid (∀ u ∈ bs.map enc, u.oneCell' = true) := fun u hu => by simp at hu; obtain ⟨x, _, rfl⟩ := hu; rfl
  have S0 : Hid ((bs.map enc).length = len * 1) := by show _ = _; rw [List.length_map, HL.out, Nat.mul_one]
  have S3 : Hid (0 + len ≤ maxLen) := by show _ ≤ maxLen; unfold maxLen; omega
  have S4 : Hid ((0 + len) * 1 ≤ 140737488355328) := by show _ ≤ 140737488355328; omega
  generalize more 0 bs = m at *
  obtain ⟨i0, hi, hz0, hz1, hz2⟩ := info_parts Try.info5
  have hown0 : (w.alloc (.cells #[] 5)).ownsRow w.heap.size 5 1 (.slice (some ⟨w.heap.size, 0, none⟩) 0 0) 0 [] := World.ownsRow_made w _ 0 (Nat.le_refl _) (by decide) rfl
  have hB0 : Below w.heap.size w (w.alloc (.cells #[] 5)) := (Below.refl _ _).alloc (Nat.le_refl _) _
  have k1 : ¬ ((4000 : Int) < (len : Int)) := by omega
  have k2 : ¬ ((len : Int) - 4 < (p : Int)) := by omega
  have k3 : ¬ ((p : Int) < 0) := by omega
  have k4 : ((e : Int) == 0) = false := by simp; omega
  go_enter Try.func6, Try.ntmps6
  go_wp2_with (first
    | (at_builtin; refine wpList_append_own _ rfl _ _ 22 rfl w.heap.size 5 i0 (.int .u8 0) 1 1 Try.underlying22 hi hz0 hz1 hz2 rfl (by decide) _ 0 [] rfl hown0 a len cap (bs.map enc) rfl S0.out S1.out S2.out S3.out S4.out hB0.size ?_)
    | go_in)
  intro v1 w1 hown1 hgrow1 hnn
  have hB1 := below_append (Nat.le_refl _) hB0 hown0 hgrow1
  try rw [Nat.zero_add, List.nil_append] at hown1
  clear hown0 hB0 hgrow1 S0 S1 S2 S3 S4
  obtain ⟨-, ⟨rfl, -⟩ | ⟨g, cap', cur, rfl, hrest⟩⟩ := id hown1
  · simp at hnn
  clear hrest hnn
  clear k1 k2 k3 k4
  go_wp2
  go_loopw [8, 9] (fun x i wr => ∃ k : Nat, k ≤ 4 ∧ i = .int .i64 k ∧ x = .int .u32 (e / 256 ^ k : Nat) ∧ wr.ownsRow w.heap.size 5 1 (.slice (some ⟨g, 0, none⟩) len cap') len ((turn e p k bs).map enc) ∧ Below w.heap.size w wr) (fun _ i _ => 4 - (intOf i).toNat)
  case atStart => exact ⟨0, by omega, rfl, by simp, hown1, hB1⟩
  case round =>
    obtain ⟨k, hk, rfl, rfl, hown, hB⟩ := hrel
    clear hown1 hB1
    by_cases hlt : k < 4
    · have hpk : p + k < len := by omega
      have hTl : (turn e p k bs).length = len := (turn_length e p k bs).trans HL.out
      have hTb := turn_byte e p k bs HB.out
      have hcx := hown.cellAt (p + k) (by omega)
      rw [enc_get _ _ (by omega)] at hcx
      have hfx := hown.frozenAt (p + k)
      have hg := getD_lt (turn e p k bs) (p + k) hTb
      have hst := (hown.stored (p + k) (enc ((turn e p k bs)[p + k]?.getD 0 ^^^ (e / 256 ^ k % 256)))).1
      rw [← List.map_set] at hst
      have hst2 : Hid ((wr.setCell ⟨g, p + k, none⟩ (enc ((turn e p k bs)[p + k]?.getD 0 ^^^ (e / 256 ^ k % 256)))).ownsRow w.heap.size 5 1 (.slice (some ⟨g, 0, none⟩) len cap') len ((turn e p (k + 1) bs).map enc)) := hst
      have hBs : Hid (Below w.heap.size w (wr.setCell ⟨g, p + k, none⟩ (enc ((turn e p k bs)[p + k]?.getD 0 ^^^ (e / 256 ^ k % 256))))) := hB.setCell (p := ⟨g, p + k, none⟩) ((hown.lt g rfl).1) _
      have hy : e / 256 ^ k < 4294967296 := Nat.lt_of_le_of_lt (Nat.div_le_self _ _) he
      have HD : Hid (e / 256 ^ k / 256 = e / 256 ^ (k + 1)) := by show _ = _; rw [Nat.div_div_eq_div_mul, Nat.pow_succ]
      have ho : bits .xor .u8 (((turn e p k bs)[p + k]?.getD 0 : Nat) : Int) (((e / 256 ^ k : Nat) : Int) % 256) = (((turn e p k bs)[p + k]?.getD 0 ^^^ (e / 256 ^ k % 256) : Nat) : Int) := u8_xor_nat _ (e / 256 ^ k % 256) hg (Nat.mod_lt _ (by omega))
      clear hst hown hB hTl hTb q1 q2 hne
      generalize (turn e p k bs)[p + k]?.getD 0 = c at *
      generalize e / 256 ^ k = y at *
      go_wp2
      go_roundw
      case rel => exact ⟨k + 1, by omega, by go_num, by rw [← HD.out]; first | rfl | go_num, hst2.out, hBs.out⟩
      case measure => simp [intOf]; omega
    · obtain rfl : k = 4 := by omega
      have hT : BytesAt wr.heap.size wr (.slice (some ⟨g, 0, none⟩) len cap') (turn e p 4 bs) := bytesAt_owns (turn_byte e p 4 bs HB.out) (Nat.le_refl _) (by rw [turn_length, HL.out]; exact hown)
      have q3 : ∀ w' (h : Below wr.heap.size wr w'), Calls Try.prog 8 #[.slice (some ⟨g, 0, none⟩) len cap'] w' fun e' w'' => e' = .returned (.int .u32 (more 0 (turn e p 4 bs) : Nat)) ∧ Below w'.heap.size w' w'' := fun w' h => q2.out w' _ (hT.next h)
      have hC := Below.refl wr.heap.size wr
      generalize more 0 (turn e p 4 bs) = m' at *
      have hne2 : ((m' : Int) != (m : Int)) = true := by simp; omega
      clear hT q2 hown HL HB hne
      go_wp2_with (first
        | (go_at_call 8; refine (q3 _ hC).mono ?_; rintro e w' ⟨rfl, hB'⟩; replace hB := hB.trans (hB'.mono hB.size); replace hC := hC.trans (hB'.mono hC.size); clear q3)
        | (go_at_call 8; refine (q1 _ hB).mono ?_; rintro e w' ⟨rfl, hB'⟩; replace hB := hB.trans (hB'.mono hB.size); replace hC := hC.trans (hB'.mono hC.size); clear q1)
        | (go_at_call 7; refine (lives_any _).mono ?_; rintro e w' ⟨rfl, hB'⟩; replace hB := hB.trans (hB'.mono hB.size)))
      go_ret
      exact ⟨rfl, hB⟩

end crcBurst
end Go.Proofs.Ytlnkmbcbifopoaa
