/-
  The walk of the law SealBack.
-/
import Derived.Test.YtkiaeeojgcmcaaaWalksN
namespace Go.Proofs.Ytkiaeeojgcmcaaa
open Go.RowKit
open Math
open Crc
namespace sealBack

theorem below_box (w : World) (o : Obj) (m : Nat) : Below w.heap.size w ((w.alloc o).drewN m) := by
  have h : Below w.heap.size w (w.alloc o) := (Below.refl _ _).alloc (Nat.le_refl _) _
  exact ⟨h.os, h.tape, h.output, h.size, h.block⟩

theorem walkLong (a : Option Addr) (len cap : Nat) (n y t b : Int) (w : World) (h : 2000 < len) (hl : len ≤ 9223372036854775807) :
    Calls Try.prog 5 #[.slice a len cap, .agg #[.int .u32 n, .int .u64 y, .int .i64 t, .int .u32 b]] w fun e w' => e = .returned (.bool true) ∧ Below w.heap.size w w' := by
  go_enter Try.func5, Try.ntmps5
  go_wp2
  go_quiet (fail)
  have hB := below_box w (.cells #[.int .u32 n, .int .u64 y, .int .i64 t, .int .u32 b] 40) nq
  go_wp2_with (go_at_call 6; refine (lives_any _).mono ?_; rintro e w1 ⟨rfl, hB1⟩; replace hB := hB.trans (hB1.mono hB.size))
  go_ret
  exact ⟨rfl, hB⟩

/-- What was sealed is got. -/
theorem get_back (bs : List Nat) (len : Nat) (hl : bs.length = len) (h2 : len ≤ 2000) (hb : ∀ b ∈ bs, b < 256) (g : Nat) (W : World) (hA : Arr W g 5 (sealed bs)) :
    Calls Try.prog 11 #[.slice (some ⟨g, 0, none⟩) (len + 4) (len + 4)] W fun e W' => ∃ v, e = .returned (.tuple #[v, .int .i64 0]) ∧ BytesAt W'.heap.size W' v bs ∧ Below W.heap.size W W' := by
  have := get_any _ (sealed bs) W (by rw [sealed_length]; omega) (hA.bytes (sealed_byte bs hb) (by rw [sealed_length, hl]))
  rw [gotE_sealed, gotL_sealed] at this
  exact this
theorem get_turned (bs : List Nat) (len p b : Nat) (hl : bs.length = len) (h2 : len ≤ 2000) (hb : ∀ b ∈ bs, b < 256) (hp : p + 4 ≤ len + 4) (he : b < 4294967296) (h0 : 0 < b) (g : Nat) (W : World) (hA : Arr W g 5 (turn b p 4 (sealed bs))) :
    Calls Try.prog 11 #[.slice (some ⟨g, 0, none⟩) (len + 4) (len + 4)] W fun e W' => ∃ v, e = .returned (.tuple #[v, .int .i64 10]) ∧ Below W.heap.size W W' := by
  have hlen : (turn b p 4 (sealed bs)).length = len + 4 := by rw [turn_length, sealed_length, hl]
  refine (get_any _ (turn b p 4 (sealed bs)) W (by omega) (hA.bytes (turn_byte b p 4 _ (sealed_byte bs hb)) hlen)).mono ?_
  rw [gotE_turned b p bs hb (by omega) he h0]
  rintro e w' ⟨v, rfl, _, hB⟩
  exact ⟨v, rfl, hB⟩
theorem open_back (n y : Nat) (hn : n < 4294967296) (hy : y < 18446744073709551616) (W : World) :
    Calls Try.prog 13 #[arr (recd n y)] W fun e W' => e = .returned (.tuple #[.int .u32 n, .int .u64 y, .bool true]) ∧ Below W.heap.size W W' := by
  have := open_any (recd n y) W (recd_length n y) (recd_byte n y)
  rw [toldN, toldY, isRec_recd n y hn hy, opN_recd n y hn, opY_recd n y hy] at this
  exact this
theorem open_none (s : List Nat) (hs : s.length = 16) (hb : ∀ c ∈ s, c < 256) (h : isRec s = false) (W : World) :
    Calls Try.prog 13 #[arr s] W fun e W' => e = .returned (.tuple #[.int .u32 0, .int .u64 0, .bool false]) ∧ Below W.heap.size W W' := by
  have := open_any s W hs hb
  rw [toldN, toldY, h] at this
  exact this
theorem zeros_byte (n : Nat) : ∀ c ∈ zeros n, c < 256 := by
  intro c hc
  have := List.eq_of_mem_replicate hc
  omega

set_option maxRecDepth 100000 in
set_option maxHeartbeats 2000000 in
theorem walkShort (sv : Value) (bs : List Nat) (n y : Nat) (t : Int) (b : Nat) (w : World) (hlen : bs.length ≤ 2000) (hn : n < 4294967296) (hy : y < 18446744073709551616) (ht : t ≤ 9223372036854775807) (hb : b < 4294967296) (hI : BytesAt w.heap.size w sv bs) :
    Calls Try.prog 5 #[sv, .agg #[.int .u32 n, .int .u64 y, .int .i64 t, .int .u32 b]] w fun e w' => e = .returned (.bool true) ∧ Below w.heap.size w w' := by
  have q7 := fun w' (h : Below w.heap.size w w') => put_any sv bs w' hlen ((hI.below h).mono h.size)
  obtain ⟨a, cap, rfl⟩ : ∃ a cap, sv = .slice a bs.length cap := by obtain ⟨_, a, cap, e, _⟩ := hI; exact ⟨a, cap, e⟩
  have HC : Hid (∀ W, Below w.heap.size w W → (convert 22 9 (.slice a bs.length cap)).run Try.prog W = .ok (.string (txt bs)) W) := fun W h => conv_txt (hI.below h)
  have HD : Hid (∀ (W : World) v, BytesAt W.heap.size W v bs → (convert 22 9 v).run Try.prog W = .ok (.string (txt bs)) W) := fun W v h => conv_txt h
  have hbs := hI.1
  obtain ⟨len, hl⟩ : ∃ len, bs.length = len := ⟨_, rfl⟩
  have HL : Hid (bs.length = len) := hl
  have HB : Hid (∀ c ∈ bs, c < 256) := hbs
  rw [hl] at hlen q7 HC ⊢
  have q11 := get_back bs len hl hlen hbs
  have q9 := fun w' => record_any n y w' hn hy
  have q13 := open_back n y hn hy
  have q13' := open_none (zeros 16) rfl (zeros_byte 16) isRec_zeros
  have HR : Hid ((recd n y).length = 16) := recd_length n y
  have HRB : Hid (∀ c ∈ recd n y, c < 256) := recd_byte n y
  have HT : Hid (∀ p, p + 4 ≤ 16 → 0 < b → isRec (turn b p 4 (recd n y)) = false) := fun p hp h0 => isRec_turned b p n y hp hb h0
  clear hI hl hbs
  generalize recd n y = r at *
  generalize txt bs = S at *
  go_enter Try.func5, Try.ntmps5
  go_wp2
  go_quiet (fail)
  have hB := below_box w (.cells #[.int .u32 n, .int .u64 y, .int .i64 t, .int .u32 b] 40) nq
  go_upto_region 9 with (first
    | (go_at_call 7; refine (q7 _ hB).mono ?_; rintro e w1 ⟨g, rfl, -, hA1, hB1⟩; replace hB := hB.trans (hB1.mono hB.size))
    | (go_at_call 11; refine (q11 _ _ hA1).mono ?_; rintro e w2 ⟨v2, rfl, hI2, hB2⟩; replace hB := hB.trans (hB2.mono hB.size); clear hA1 hB1)
    | (go_at_call 9; refine (q9 _).mono ?_; rintro e w3 ⟨rfl, hB3⟩; replace hB := hB.trans (hB3.mono hB.size); replace hI2 := hI2.next hB3)
    | (go_at_call 13; refine (q13 _).mono ?_; rintro e w4 ⟨rfl, hB4⟩; replace hB := hB.trans (hB4.mono hB.size); replace hI2 := hI2.next hB4; clear q13)
    | (go_at_call 13; refine (q13' _).mono ?_; rintro e w5 ⟨rfl, hB5⟩; replace hB := hB.trans (hB5.mono hB.size); replace hI2 := hI2.next hB5; have hc1 := HD.out _ _ hI2; have hc2 := HC.out _ hB))
  clear hc1 hc2 hI2 q11 q13' HC HD
  by_cases h1 : t < 0
  · go_wp2_with (go_at_call 6; refine (lives_any _).mono ?_; rintro e w6 ⟨rfl, hB6⟩; replace hB := hB.trans (hB6.mono hB.size))
    go_ret
    exact ⟨rfl, hB⟩
  by_cases h2 : b = 0
  · subst h2
    go_wp2_with (go_at_call 6; refine (lives_any _).mono ?_; rintro e w6 ⟨rfl, hB6⟩; replace hB := hB.trans (hB6.mono hB.size))
    go_ret
    exact ⟨rfl, hB⟩
  have k0 : ((b : Int) == 0) = false := by simp; omega
  obtain ⟨k, rfl⟩ : ∃ k : Nat, t = k := ⟨t.toNat, by omega⟩
  have HZ : Hid ((Try.prog.info? 28).map (·.size) = some r.length) := by show _ = _; rw [HR.out]; exact Try.size28
  have HZ2 : Hid (r.length = (zeros 16).length) := HR.out
  go_wp2_with (first
    | (go_at_call 7; refine (q7 _ hB).mono ?_; rintro e w6 ⟨g, rfl, hg, hA, hB6⟩; replace hg := Nat.le_trans hB.size hg; replace hB := hB.trans (hB6.mono hB.size))
    | (go_at_call 9; refine (q9 _).mono ?_; rintro e w7 ⟨rfl, hB7⟩; replace hA := hA.below hB7 hA.lt; replace hB := hB.trans (hB7.mono hB.size))
    | (refine wpList_store_arr rfl 28 _ _ rfl w7.heap.size 28 (zeros 16) r rfl rfl (arr_sec0 w7) HZ2.out HZ.out w.heap.size w (hB.alloc hB.size _) hB.size ?_; intro w8 hS hOld _ hB8; have HNE : Hid (g ≠ w7.heap.size) := Nat.ne_of_lt hA.lt; replace hA := hOld _ _ _ (Nat.ne_of_lt hA.lt) (hA.alloc _); have hs := hB.size; replace hB := hB8; clear hOld hB8))
  clear q7 q9 hB2 hB3 hB4 hB5 hB6 hB7 k0
  have hne : g ≠ w7.heap.size := HNE.out
  generalize w7.heap.size = h at *
  obtain ⟨p, hp⟩ : ∃ p, k % (len + 1) = p := ⟨_, rfl⟩
  obtain ⟨q, hq⟩ : ∃ q, k % 13 = q := ⟨_, rfl⟩
  have hpl : p + 4 ≤ len + 4 := by have := Nat.mod_lt k (show 0 < len + 1 by omega); omega
  have hql : q + 4 ≤ 16 := by have := Nat.mod_lt k (show 0 < 13 by omega); omega
  have m1 : (k : Int) % ((len : Int) + 4 - 3) = (p : Int) := by rw [show (len : Int) + 4 - 3 = ((len + 1 : Nat) : Int) by omega, ← Int.natCast_emod, hp]
  have m2 : (k : Int) % 13 = (q : Int) := by omega
  clear hp hq
  go_loopw [19, 20] (fun x i wr => ∃ j : Nat, j ≤ 4 ∧ i = .int .i64 j ∧ x = .int .u32 (b / 256 ^ j : Nat) ∧ Arr wr g 5 (turn b p j (sealed bs)) ∧ Arr wr h 28 (turn b q j r) ∧ Below w.heap.size w wr) (fun _ i _ => 4 - (intOf i).toNat)
  case atStart => exact ⟨0, by omega, rfl, by simp, hA, hS, hB⟩
  case round =>
    obtain ⟨j, hj, rfl, rfl, hA', hS', hB'⟩ := hrel
    clear hA hS hB
    by_cases hlt : j < 4
    · have hLA : (turn b p j (sealed bs)).length = len + 4 := by rw [turn_length, sealed_length, HL.out]
      have hLS : (turn b q j r).length = 16 := by rw [turn_length, HR.out]
      have hBA := turn_byte b p j _ (sealed_byte bs HB.out)
      have hBS := turn_byte b q j _ HRB.out
      have hcx := hA'.cell (p + j) (by omega)
      have hfx := hA'.frozen (p + j)
      have hgA := getD_lt (turn b p j (sealed bs)) (p + j) hBA
      have hgS := getD_lt (turn b q j r) (q + j) hBS
      have hy' : b / 256 ^ j < 4294967296 := Nat.lt_of_le_of_lt (Nat.div_le_self _ _) hb
      have HD : Hid (b / 256 ^ j / 256 = b / 256 ^ (j + 1)) := div_pow_succ _ _
      have hA2 := hA'.set (p + j) ((turn b p j (sealed bs))[p + j]?.getD 0 ^^^ (b / 256 ^ j % 256))
      have hS2 := hS'.set_other (p + j) (enc ((turn b p j (sealed bs))[p + j]?.getD 0 ^^^ (b / 256 ^ j % 256))) (Ne.symm hne)
      have hB2 := hB'.setCell (p := ⟨g, p + j, none⟩) hg (enc ((turn b p j (sealed bs))[p + j]?.getD 0 ^^^ (b / 256 ^ j % 256)))
      have hcy := hS2.cell (q + j) (by omega)
      have hfy := hS2.frozen (q + j)
      have hA3 := hA2.set_other (q + j) (enc ((turn b q j r)[q + j]?.getD 0 ^^^ (b / 256 ^ j % 256))) hne
      have hS3 := hS2.set (q + j) ((turn b q j r)[q + j]?.getD 0 ^^^ (b / 256 ^ j % 256))
      have hB3 := hB2.setCell (p := ⟨h, q + j, none⟩) hs (enc ((turn b q j r)[q + j]?.getD 0 ^^^ (b / 256 ^ j % 256)))
      have HA3 : Hid (Arr (((wr.setCell ⟨g, p + j, none⟩ (.int .u8 (((turn b p j (sealed bs))[p + j]?.getD 0 ^^^ (b / 256 ^ j % 256) : Nat) : Int))).setCell ⟨h, q + j, none⟩ (.int .u8 (((turn b q j r)[q + j]?.getD 0 ^^^ (b / 256 ^ j % 256) : Nat) : Int)))) g 5 (turn b p (j + 1) (sealed bs))) := hA3
      have HS3 : Hid (Arr (((wr.setCell ⟨g, p + j, none⟩ (.int .u8 (((turn b p j (sealed bs))[p + j]?.getD 0 ^^^ (b / 256 ^ j % 256) : Nat) : Int))).setCell ⟨h, q + j, none⟩ (.int .u8 (((turn b q j r)[q + j]?.getD 0 ^^^ (b / 256 ^ j % 256) : Nat) : Int)))) h 28 (turn b q (j + 1) r)) := hS3
      have HB3 : Hid (Below w.heap.size w ((wr.setCell ⟨g, p + j, none⟩ (.int .u8 (((turn b p j (sealed bs))[p + j]?.getD 0 ^^^ (b / 256 ^ j % 256) : Nat) : Int))).setCell ⟨h, q + j, none⟩ (.int .u8 (((turn b q j r)[q + j]?.getD 0 ^^^ (b / 256 ^ j % 256) : Nat) : Int)))) := hB3
      simp only [enc] at hcy hfy
      clear hA' hS' hB' hA2 hS2 hB2 hA3 hS3 hB3 hLA hLS hBA hBS
      generalize (turn b p j (sealed bs))[p + j]?.getD 0 = c at *
      generalize (turn b q j r)[q + j]?.getD 0 = d at *
      generalize b / 256 ^ j = y' at *
      have o1 : bits .xor .u8 (c : Int) ((y' : Int) % 256) = ((c ^^^ y' % 256 : Nat) : Int) := u8_xor_nat c (y' % 256) hgA (Nat.mod_lt _ (by omega))
      have o2 : bits .xor .u8 (d : Int) ((y' : Int) % 256) = ((d ^^^ y' % 256 : Nat) : Int) := u8_xor_nat d (y' % 256) hgS (Nat.mod_lt _ (by omega))
      generalize c ^^^ y' % 256 = c1 at *
      generalize d ^^^ y' % 256 = d1 at *
      go_wp2
      go_roundw
      case rel => exact ⟨j + 1, by omega, by go_num, by rw [← HD.out]; first | rfl | go_num, HA3.out, HS3.out, HB3.out⟩
      case measure => simp [intOf]; omega
    · obtain rfl : j = 4 := by omega
      have q11 := get_turned bs len p b HL.out hlen HB.out hpl hb (by omega) g wr hA'
      have q13 := open_none (turn b q 4 r) (by rw [turn_length, HR.out]) (turn_byte b q 4 r HRB.out) (HT.out q hql (by omega))
      have HZ4 : Hid ((Try.prog.info? 28).map (·.size) = some (turn b q 4 r).length) := by show _ = _; rw [turn_length]; exact HZ.out
      clear hA' hlen
      generalize turn b q 4 r = s at *
      go_wp2_with (first
        | (refine wpList_load_arr rfl 28 _ rfl h 28 s rfl hS' _ _ Try.underlying28 HZ4.out ?_)
        | (go_at_call 11; refine q11.mono ?_; rintro e w9 ⟨v9, rfl, hB9⟩; replace hS' := hS'.below hB9 hS'.lt; replace hB' := hB'.trans (hB9.mono hB'.size))
        | (go_at_call 13; refine (q13 _).mono ?_; rintro e w10 ⟨rfl, hB10⟩; replace hB' := hB'.trans (hB10.mono hB'.size))
        | (go_at_call 6; refine (lives_any _).mono ?_; rintro e w11 ⟨rfl, hB11⟩; replace hB' := hB'.trans (hB11.mono hB'.size)))
      go_ret
      exact ⟨rfl, hB'⟩

end sealBack
end Go.Proofs.Ytkiaeeojgcmcaaa
