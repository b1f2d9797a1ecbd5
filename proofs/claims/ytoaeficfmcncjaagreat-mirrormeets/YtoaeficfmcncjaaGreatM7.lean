/-
 Texts of ours, joined: SealA, SealB, SealC, SealD, SealP, SealE.
-/
import Derived.Test.YtoaeficfmcncjaaGreatProg
import Derived.WalkSpells
import Derived.WalkLawsBesides
import Derived.Deep.WholeRow
import Derived.BigQuiet
import Derived.ProofKit
import Derived.OpenShut
import Derived.Laws.CopyOwn
import Derived.Deep.MidRow
import Derived.Test.YtoaeficfmcncjaaGreatM6
/-
 The walks of layers 2 and 3's functions that only reckon (taken over from the rounds before).
-/
namespace Go.Proofs.YtoaeficfmcncjaaGreat.Seal
open Go.RowKit
open Math
open Crc
theorem ret_int {k : IntKind} {a b : Int} (h : a = b) : Ending.returned (.int k a) = .returned (.int k b) := by rw [h]
theorem ret_bool {a b : Bool} (h : a = b) : Ending.returned (.bool a) = .returned (.bool b) := by rw [h]
section
set_option maxRecDepth 100000
theorem len32 (w : World) : Calls Tryz.prog 247 #[.int .u64 4294967295] w fun e w' => e = .returned (.int .i64 32) ∧ w' = w := by
 go_enter Tryz.func247, Tryz.ntmps247
 go_wp2
 go_ret
 exact ⟨by kernel_rfl, rfl⟩
theorem len64 (w : World) : Calls Tryz.prog 247 #[.int .u64 18446744073709551615] w fun e w' => e = .returned (.int .i64 64) ∧ w' = w := by
 go_enter Tryz.func247, Tryz.ntmps247
 go_wp2
 go_ret
 exact ⟨by kernel_rfl, rfl⟩
theorem size32 (w : World) : Calls Tryz.prog 309 #[] w fun e w' => e = .returned (.int .i64 4) ∧ w' = w := by
 go_enter Tryz.func309, Tryz.ntmps309
 go_wp2_with (go_at_call 247; refine (len32 _).mono ?_; rintro e w' ⟨rfl, rfl⟩)
 go_ret
 exact ⟨rfl, rfl⟩
theorem size64 (w : World) : Calls Tryz.prog 308 #[] w fun e w' => e = .returned (.int .i64 8) ∧ w' = w := by
 go_enter Tryz.func308, Tryz.ntmps308
 go_wp2_with (go_at_call 247; refine (len64 _).mono ?_; rintro e w' ⟨rfl, rfl⟩)
 go_ret
 exact ⟨rfl, rfl⟩
end
theorem table_at (r : Nat) (h : r < 16) : ([.int .u32 0, .int .u32 498536548, .int .u32 997073096, .int .u32 651767980, .int .u32 1994146192, .int .u32 1802195444, .int .u32 1303535960, .int .u32 1342533948, .int .u32 3988292384, .int .u32 4027552580, .int .u32 3604390888, .int .u32 3412177804, .int .u32 2607071920, .int .u32 2262029012, .int .u32 2685067896, .int .u32 3183342108] : List Value)[r]? = some (.int .u32 ((halves 4 r : Nat) : Int)) := by
 have e : ([.int .u32 0, .int .u32 498536548, .int .u32 997073096, .int .u32 651767980, .int .u32 1994146192, .int .u32 1802195444, .int .u32 1303535960, .int .u32 1342533948, .int .u32 3988292384, .int .u32 4027552580, .int .u32 3604390888, .int .u32 3412177804, .int .u32 2607071920, .int .u32 2262029012, .int .u32 2685067896, .int .u32 3183342108] : List Value) = (List.range 16).map (fun r => .int .u32 ((halves 4 r : Nat) : Int)) := by kernel_rfl
 rw [e]
 simp [h]
set_option maxRecDepth 100000 in
theorem halve4_any (x : Nat) (w : World) (hx : x < 4294967296) :
  Calls Tryz.prog 318 #[.int .u32 x] w fun e w' => e = .returned (.int .u32 (halves 4 x : Nat)) ∧ Below w.heap.size w w' := by
 have ht := table_at (x % 16) (by omega)
 have hl : halves 4 (x % 16) < 4294967296 := halves_lt 4 (by omega)
 have HT : Hid (halves 4 x = (x / 16) ^^^ halves 4 (x % 16)) := halves_table 4 x
 have ho := u32_xor_nat (x / 16) (halves 4 (x % 16)) (by omega) (by omega)
 generalize halves 4 (x % 16) = t at *
 go_enter Tryz.func318, Tryz.ntmps318
 go_wp2
 go_ret
 exact ⟨ret_int (by rw [HT.out, ← ho, Int.natCast_ediv]; rfl), (Below.refl _ _).alloc (Nat.le_refl _) _⟩
set_option maxRecDepth 100000 in
theorem step_any (x c : Nat) (w : World) (hx : x < 4294967296) (hc : c < 256) :
  Calls Tryz.prog 317 #[.int .u32 x, .int .u8 c] w fun e w' => e = .returned (.int .u32 (by8 x c : Nat)) ∧ Below w.heap.size w w' := by
 have ho := u32_xor_nat x c hx (by omega)
 have hy : x ^^^ c < 4294967296 := Nat.xor_lt_two_pow (n := 32) hx (by omega)
 have hz : halves 4 (x ^^^ c) < 4294967296 := halves_lt 4 hy
 have HE : Hid (by8 x c = halves 4 (halves 4 (x ^^^ c))) := halves_add 4 4 _
 generalize x ^^^ c = y at *
 have hB := Below.refl w.heap.size w
 go_enter Tryz.func317, Tryz.ntmps317
 go_wp2_with (go_at_call 318; refine (halve4_any _ _ (by assumption)).mono ?_; rintro e w' ⟨rfl, hB'⟩; replace hB := hB.trans (hB'.mono hB.size))
 go_ret
 exact ⟨ret_int (by rw [HE.out]), hB⟩
end Go.Proofs.YtoaeficfmcncjaaGreat.Seal
namespace Go.Proofs.YtoaeficfmcncjaaGreat.Seal
open Go.RowKit
open Math
open Crc
def BytesAt (n₀ : Nat) (W : World) (sv : Value) (bs : List Nat) : Prop :=
 (∀ b ∈ bs, b < 256) ∧ ∃ a cap, sv = .slice a bs.length cap ∧ (a = none → cap = 0) ∧ (bs = [] ∨ ∃ b off, a = some ⟨b, off, none⟩ ∧ bs.length ≤ cap ∧ b < n₀ ∧ ∀ j, j < bs.length → W.cell? ⟨b, off + j, none⟩ = some (.int .u8 ((bs[j]?.getD 0 : Nat) : Int)))
theorem BytesAt.below {n₀ : Nat} {A B : World} (h : Below n₀ A B) {sv : Value} {bs : List Nat} : BytesAt n₀ A sv bs → BytesAt n₀ B sv bs
 | ⟨hb, a, cap, e, hn, .inl r⟩ => ⟨hb, a, cap, e, hn, .inl r⟩
 | ⟨hb, a, cap, e, hn, .inr ⟨b, off, e2, hl, hb', hc⟩⟩ => ⟨hb, a, cap, e, hn, .inr ⟨b, off, e2, hl, hb', fun j hj => (h.cell (p := ⟨b, off + j, none⟩) hb').trans (hc j hj)⟩⟩
theorem BytesAt.mono {n m : Nat} {A : World} {sv : Value} {bs : List Nat} (hn : n ≤ m) : BytesAt n A sv bs → BytesAt m A sv bs
 | ⟨hb, a, cap, e, hz, .inl r⟩ => ⟨hb, a, cap, e, hz, .inl r⟩
 | ⟨hb, a, cap, e, hz, .inr ⟨b, off, e2, hl, hb', hc⟩⟩ => ⟨hb, a, cap, e, hz, .inr ⟨b, off, e2, hl, by omega, hc⟩⟩
set_option maxRecDepth 100000 in
theorem join32_any (b off cap : Nat) (bs : List Nat) (w : World) (hlen : bs.length = 4) (hb : ∀ c ∈ bs, c < 256) (hc : ∀ j, j < 4 → w.cell? ⟨b, off + j, none⟩ = some (.int .u8 ((bs[j]?.getD 0 : Nat) : Int))) :
  Calls Tryz.prog 315 #[.slice (some ⟨b, off, none⟩) 4 cap] w fun e w' => e = .returned (.int .u32 (val bs)) ∧ w' = w := by
 go_enter Tryz.func315, Tryz.ntmps315
 go_wp2
 go_loop [3, 8] (fun x i => ∃ k : Nat, k ≤ 4 ∧ i = .int .i64 k ∧ x = .int .u32 (val (bs.take k))) (fun _ i => 4 - (intOf i).toNat)
 case atStart => exact ⟨0, Nat.zero_le _, rfl, rfl⟩
 case round =>
  obtain ⟨k, hk, rfl, rfl⟩ := hrel
  by_cases hlt : k < 4
  ·have hcx := hc k hlt
   have hv := take_lt bs k hb (by omega)
   have hp := Nat.pow_le_pow_right (n := 256) (by omega) (show k ≤ 4 - 1 by omega)
   have HS : Hid (val (bs.take (k + 1)) = val (bs.take k) * 256 + bs[k]?.getD 0) := take_val bs k (by omega)
   have hg := getD_lt bs k hb
   clear hc
   generalize bs[k]?.getD 0 = c at *
   generalize val (bs.take k) = v at *
   have hv2 : v < 16777216 := by have : v < 256 ^ (4 - 1) := Nat.lt_of_lt_of_le hv hp; simpa using this
   clear hv hp
   have ho := u32_or_nat (v * 256) c (by omega) (by omega)
   rw [shift_or v c hg, Int.natCast_mul, Int.natCast_add, Int.natCast_mul] at ho
   go_wp2
   go_round
   case rel => exact ⟨k + 1, by omega, by go_num, by rw [HS.out]; first | rfl | go_num⟩
   case measure => simp [intOf]; omega
  ·obtain rfl : k = 4 := by omega
   go_wp2
   go_ret
   exact ⟨ret_int (by rw [List.take_of_length_le (by omega)]), rfl⟩
set_option maxRecDepth 100000 in
theorem join64_any (b off cap : Nat) (bs : List Nat) (w : World) (hlen : bs.length = 8) (hb : ∀ c ∈ bs, c < 256) (hc : ∀ j, j < 8 → w.cell? ⟨b, off + j, none⟩ = some (.int .u8 ((bs[j]?.getD 0 : Nat) : Int))) :
  Calls Tryz.prog 316 #[.slice (some ⟨b, off, none⟩) 8 cap] w fun e w' => e = .returned (.int .u64 (val bs)) ∧ w' = w := by
 go_enter Tryz.func316, Tryz.ntmps316
 go_wp2
 go_loop [3, 8] (fun x i => ∃ k : Nat, k ≤ 8 ∧ i = .int .i64 k ∧ x = .int .u64 (val (bs.take k))) (fun _ i => 8 - (intOf i).toNat)
 case atStart => exact ⟨0, Nat.zero_le _, rfl, rfl⟩
 case round =>
  obtain ⟨k, hk, rfl, rfl⟩ := hrel
  by_cases hlt : k < 8
  ·have hcx := hc k hlt
   have hv := take_lt bs k hb (by omega)
   have hp := Nat.pow_le_pow_right (n := 256) (by omega) (show k ≤ 8 - 1 by omega)
   have HS : Hid (val (bs.take (k + 1)) = val (bs.take k) * 256 + bs[k]?.getD 0) := take_val bs k (by omega)
   have hg := getD_lt bs k hb
   clear hc
   generalize bs[k]?.getD 0 = c at *
   generalize val (bs.take k) = v at *
   have hv2 : v < 72057594037927936 := by have : v < 256 ^ (8 - 1) := Nat.lt_of_lt_of_le hv hp; simpa using this
   clear hv hp
   have ho := u64_or_nat (v * 256) c (by omega) (by omega)
   rw [shift_or v c hg, Int.natCast_mul, Int.natCast_add, Int.natCast_mul] at ho
   go_wp2
   go_round
   case rel => exact ⟨k + 1, by omega, by go_num, by rw [HS.out]; first | rfl | go_num⟩
   case measure => simp [intOf]; omega
  ·obtain rfl : k = 8 := by omega
   go_wp2
   go_ret
   exact ⟨ret_int (by rw [List.take_of_length_le (by omega)]), rfl⟩
def getv (k : Nat) (bs : List Nat) : Nat := if bs.length < k then 0 else val (bs.take k)
def getB (k : Nat) (bs : List Nat) : Bool := decide (¬ bs.length < k)
theorem getv_out {k : Nat} {bs : List Nat} (h : bs.length < k) : getv k bs = 0 := if_pos h
theorem getv_in {k : Nat} {bs : List Nat} (h : ¬ bs.length < k) : getv k bs = val (bs.take k) := if_neg h
theorem getB_out {k : Nat} {bs : List Nat} (h : bs.length < k) : getB k bs = false := decide_eq_false (by omega)
theorem getB_in {k : Nat} {bs : List Nat} (h : ¬ bs.length < k) : getB k bs = true := decide_eq_true h
theorem getv_lt {k : Nat} {bs : List Nat} (h : ∀ b ∈ bs, b < 256) : getv k bs < 256 ^ k := by
 by_cases hl : bs.length < k
 ·rw [getv_out hl]; exact Nat.pow_pos (by omega)
 ·rw [getv_in hl]; exact take_lt bs k h (by omega)
section
set_option maxRecDepth 100000
theorem first32_any (n₀ : Nat) (sv : Value) (bs : List Nat) (w : World) (hlen : bs.length ≤ 9223372036854775807) (hI : BytesAt n₀ w sv bs) :
  Calls Tryz.prog 312 #[sv] w fun e w' => e = .returned (.tuple #[.int .u32 (getv 4 bs), .bool (getB 4 bs)]) ∧ w' = w := by
 obtain ⟨hb, a, cap, rfl, hn, h⟩ := hI
 by_cases hl : bs.length < 4
 ·rw [getv_out hl, getB_out hl]
  generalize bs.length = len at *
  go_enter Tryz.func312, Tryz.ntmps312
  go_wp2_with (go_at_call 309; refine (size32 _).mono ?_; rintro e w' ⟨rfl, rfl⟩)
  go_ret2
  exact ⟨rfl, rfl⟩
 ·rw [getv_in hl, getB_in hl]
  rcases h with rfl | ⟨b, off, rfl, hcap, _, hc⟩
  ·simp at hl
  ·have hj := fun cap => join32_any b off cap (bs.take 4) w (by simp; omega) (fun c hm => hb c (List.mem_of_mem_take hm)) (fun j hj => by rw [hc j (by omega), List.getElem?_take, if_pos hj])
   generalize val (bs.take 4) = v at *
   clear hc
   generalize bs.length = len at *
   clear hb bs
   go_enter Tryz.func312, Tryz.ntmps312
   go_wp2_with (first
    | (go_at_call 309; refine (size32 _).mono ?_; rintro e w' ⟨rfl, rfl⟩)
    | (go_at_call 315; refine (hj _).mono ?_; rintro e w' ⟨rfl, rfl⟩))
   go_ret2
   exact ⟨rfl, rfl⟩
theorem first64_any (n₀ : Nat) (sv : Value) (bs : List Nat) (w : World) (hlen : bs.length ≤ 9223372036854775807) (hI : BytesAt n₀ w sv bs) :
  Calls Tryz.prog 313 #[sv] w fun e w' => e = .returned (.tuple #[.int .u64 (getv 8 bs), .bool (getB 8 bs)]) ∧ w' = w := by
 obtain ⟨hb, a, cap, rfl, hn, h⟩ := hI
 by_cases hl : bs.length < 8
 ·rw [getv_out hl, getB_out hl]
  generalize bs.length = len at *
  go_enter Tryz.func313, Tryz.ntmps313
  go_wp2_with (go_at_call 308; refine (size64 _).mono ?_; rintro e w' ⟨rfl, rfl⟩)
  go_ret2
  exact ⟨rfl, rfl⟩
 ·rw [getv_in hl, getB_in hl]
  rcases h with rfl | ⟨b, off, rfl, hcap, _, hc⟩
  ·simp at hl
  ·have hj := fun cap => join64_any b off cap (bs.take 8) w (by simp; omega) (fun c hm => hb c (List.mem_of_mem_take hm)) (fun j hj => by rw [hc j (by omega), List.getElem?_take, if_pos hj])
   generalize val (bs.take 8) = v at *
   clear hc
   generalize bs.length = len at *
   clear hb bs
   go_enter Tryz.func313, Tryz.ntmps313
   go_wp2_with (first
    | (go_at_call 308; refine (size64 _).mono ?_; rintro e w' ⟨rfl, rfl⟩)
    | (go_at_call 316; refine (hj _).mono ?_; rintro e w' ⟨rfl, rfl⟩))
   go_ret2
   exact ⟨rfl, rfl⟩
theorem get32_any (n₀ : Nat) (sv : Value) (bs : List Nat) (w : World) (hlen : bs.length ≤ 9223372036854775807) (hI : BytesAt n₀ w sv bs) :
  Calls Tryz.prog 305 #[sv] w fun e w' => e = .returned (.tuple #[.int .u32 (getv 4 bs), .bool (getB 4 bs)]) ∧ w' = w := by
 have hf := first32_any n₀ sv bs w hlen hI
 generalize getv 4 bs = v at *
 generalize getB 4 bs = t at *
 clear hI hlen
 go_enter Tryz.func305, Tryz.ntmps305
 go_wp2_with (go_at_call 312; refine hf.mono ?_; rintro e w' ⟨rfl, rfl⟩)
 go_ret2
 exact ⟨rfl, rfl⟩
theorem get64_any (n₀ : Nat) (sv : Value) (bs : List Nat) (w : World) (hlen : bs.length ≤ 9223372036854775807) (hI : BytesAt n₀ w sv bs) :
  Calls Tryz.prog 306 #[sv] w fun e w' => e = .returned (.tuple #[.int .u64 (getv 8 bs), .bool (getB 8 bs)]) ∧ w' = w := by
 have hf := first64_any n₀ sv bs w hlen hI
 generalize getv 8 bs = v at *
 generalize getB 8 bs = t at *
 clear hI hlen
 go_enter Tryz.func306, Tryz.ntmps306
 go_wp2_with (go_at_call 313; refine hf.mono ?_; rintro e w' ⟨rfl, rfl⟩)
 go_ret2
 exact ⟨rfl, rfl⟩
end
theorem BytesAt.cell {n₀ : Nat} {W : World} {a : Option Addr} {n cap : Nat} {bs : List Nat} (hI : BytesAt n₀ W (.slice a n cap) bs) (k : Nat) (hk : k < bs.length) :
  ∃ b off, a = some ⟨b, off, none⟩ ∧ W.cell? ⟨b, off + k, none⟩ = some (.int .u8 ((bs[k]?.getD 0 : Nat) : Int)) := by
 obtain ⟨_, a', cap', e, _, h⟩ := hI
 injection e with e1 e2 e3
 subst e1
 rcases h with rfl | ⟨b, off, rfl, _, _, hc⟩
 ·simp at hk
 ·exact ⟨b, off, rfl, hc k hk⟩
theorem taken_take (x : Nat) (bs : List Nat) (k : Nat) (h : k < bs.length) : taken x (bs.take (k + 1)) = by8 (taken x (bs.take k)) (bs[k]?.getD 0) := by
 rw [List.take_add_one, List.getElem?_eq_getElem h]
 exact run_snoc _ _ _
def more (s : Nat) (bs : List Nat) : Nat := 4294967295 ^^^ taken (4294967295 ^^^ s) bs
theorem inv_lt {s : Nat} (h : s < 4294967296) : 4294967295 ^^^ s < 4294967296 := Nat.xor_lt_two_pow (n := 32) (by decide) h
theorem more_lt {s : Nat} {bs : List Nat} (h : s < 4294967296) (hb : ∀ b ∈ bs, b < 256) : more s bs < 4294967296 := inv_lt (run_lt bs (inv_lt h) hb)
set_option maxRecDepth 100000 in
theorem more_any (s : Nat) (sv : Value) (bs : List Nat) (w : World) (hs : s < 4294967296) (hlen : bs.length ≤ 9223372036854775807) (hI : BytesAt w.heap.size w sv bs) :
  Calls Tryz.prog 314 #[.int .u32 s, sv] w fun e w' => e = .returned (.int .u32 (more s bs : Nat)) ∧ Below w.heap.size w w' := by
 have hb := hI.1
 obtain ⟨a, cap, rfl⟩ : ∃ a cap, sv = .slice a bs.length cap := by obtain ⟨_, a, cap, e, _⟩ := hI; exact ⟨a, cap, e⟩
 have h1 : bits .xor .u32 IntKind.u32.max (s : Int) = ((4294967295 ^^^ s : Nat) : Int) := u32_xor_nat 4294967295 s (by omega) hs
 have hy := inv_lt hs
 have HM : Hid (more s bs = 4294967295 ^^^ taken (4294967295 ^^^ s) bs) := rfl
 generalize 4294967295 ^^^ s = y at *
 obtain ⟨len, hle⟩ : ∃ len, bs.length = len := ⟨_, rfl⟩
 have HL : Hid (bs.length = len) := hle
 rw [hle] at hlen hI ⊢
 clear hle
 go_enter Tryz.func314, Tryz.ntmps314
 go_wp2
 go_loopw [5, 11] (fun x i wr => ∃ k : Nat, k ≤ len ∧ i = .int .i64 k ∧ x = .int .u32 (taken y (bs.take k) : Nat) ∧ Below w.heap.size w wr) (fun _ i _ => len - (intOf i).toNat)
 case atStart => exact ⟨0, Nat.zero_le _, rfl, rfl, Below.refl _ _⟩
 case round =>
  obtain ⟨k, hk, rfl, rfl, hB⟩ := hrel
  clear h1
  have ht := run_lt (bs.take k) hy (fun c hc => hb c (List.mem_of_mem_take hc))
  by_cases hlt : k < len
  ·obtain ⟨b, off, rfl, hcx⟩ := (hI.below hB).cell k (by rw [HL.out]; exact hlt)
   have HS : Hid (taken y (bs.take (k + 1)) = by8 (taken y (bs.take k)) (bs[k]?.getD 0)) := taken_take y bs k (by rw [HL.out]; exact hlt)
   have hg := getD_lt bs k hb
   clear hI
   generalize bs[k]?.getD 0 = c at *
   generalize taken y (bs.take k) = v at *
   go_wp2_with (go_at_call 317; refine (step_any _ _ _ (by assumption) (by assumption)).mono ?_; rintro e w' ⟨rfl, hB'⟩; replace hB := hB.trans (hB'.mono hB.size))
   go_roundw
   case rel => exact ⟨k + 1, by omega, by go_num, by rw [HS.out], hB⟩
   case measure => simp [intOf]; omega
  ·obtain rfl : k = len := by omega
   have h2 : bits .xor .u32 IntKind.u32.max ((taken y (bs.take k) : Nat) : Int) = ((4294967295 ^^^ taken y (bs.take k) : Nat) : Int) := u32_xor_nat 4294967295 _ (by omega) ht
   have HE : Hid (taken y (bs.take k) = taken y bs) := by
    show _ = _
    rw [List.take_of_length_le (by rw [HL.out]; exact Nat.le_refl _)]
   generalize taken y (bs.take k) = v at *
   clear hI
   go_wp2
   go_ret
   exact ⟨ret_int (by rw [HM.out, ← HE.out]), hB⟩
set_option maxRecDepth 100000 in
theorem sum_any (sv : Value) (bs : List Nat) (w : World) (hlen : bs.length ≤ 9223372036854775807) (hI : BytesAt w.heap.size w sv bs) :
  Calls Tryz.prog 307 #[sv] w fun e w' => e = .returned (.int .u32 (more 0 bs : Nat)) ∧ Below w.heap.size w w' := by
 have hm := more_any 0 sv bs w (by omega) hlen hI
 generalize more 0 bs = m at *
 clear hI hlen
 go_enter Tryz.func307, Tryz.ntmps307
 go_wp2_with (go_at_call 314; refine hm.mono ?_; rintro e w' ⟨rfl, hB⟩)
 go_ret
 exact ⟨rfl, hB⟩
end Go.Proofs.YtoaeficfmcncjaaGreat.Seal
namespace Go.Proofs.YtoaeficfmcncjaaGreat.Seal
open Go.RowKit
open Math
open Crc
def enc (i : Nat) : Value := .int .u8 (i : Int)
theorem enc_get (l : List Nat) (j : Nat) (h : j < l.length) : (l.map enc)[j]? = some (.int .u8 ((l[j]?.getD 0 : Nat) : Int)) := by
 simp [h, enc]
set_option maxRecDepth 100000 in
theorem Tryz.info5 : (Tryz.prog.info? 5).map (fun i => (i.zero, i.size, i.bytes)) = some (some (.int .u8 0), 1, 1) := by kernel_rfl
theorem fill_at {k i x : Nat} : (fill k (i + 1) x)[i]? = some 0 := by
 unfold fill
 rw [List.getElem?_append_left (by simp)]
 simp
set_option maxRecDepth 100000 in
theorem split32_any (x : Nat) (w : World) (hx : x < 4294967296) :
  Calls Tryz.prog 299 #[.int .u32 x] w fun e w' => e = .returned (.slice (some ⟨w.heap.size, 0, none⟩) 4 4) ∧ w'.ownsRow w.heap.size 5 1 (.slice (some ⟨w.heap.size, 0, none⟩) 4 4) 4 ((be 4 x).map enc) ∧ Below w.heap.size w w' := by
 have hmk : ∀ w : World, (Instr.makeSlice 45 (.int .i64 4) (.int .i64 4)).run Tryz.prog w = .ok (.slice (some ⟨w.heap.size, 0, none⟩) 4 4) (w.alloc (.cells #[.int .u8 0, .int .u8 0, .int .u8 0, .int .u8 0] 5)) := fun _ => by kernel_rfl
 have h0 : (w.alloc (.cells #[.int .u8 0, .int .u8 0, .int .u8 0, .int .u8 0] 5)).ownsRow w.heap.size 5 1 (.slice (some ⟨w.heap.size, 0, none⟩) 4 4) 4 ((fill 4 4 x).map enc) := by
  rw [fill_start]
  exact World.ownsRow_lit w _ 4 (Nat.le_refl _) (by decide) rfl
 go_enter Tryz.func299, Tryz.ntmps299
 go_wp2_with (go_at_call 309; refine (size32 _).mono ?_; rintro e w ⟨rfl, rfl⟩)
 go_loopw [0, 4] (fun n i wr => ∃ k : Nat, k ≤ 4 ∧ i = .int .i64 ((k : Int) - 1) ∧ n = .int .u32 ((x / 256 ^ (4 - k) : Nat) : Int) ∧ wr.ownsRow w.heap.size 5 1 (.slice (some ⟨w.heap.size, 0, none⟩) 4 4) 4 ((fill 4 k x).map enc) ∧ Below w.heap.size w wr) (fun _ i _ => (intOf i + 1).toNat)
 case atStart => exact ⟨4, Nat.le_refl _, rfl, by simp, h0, (Below.refl _ _).alloc (Nat.le_refl _) _⟩
 case round =>
  obtain ⟨k, hk, rfl, rfl, hown, hB⟩ := hrel
  clear h0 hmk
  cases k with
  | zero =>
   go_wp2
   go_ret
   exact ⟨rfl, by rw [← fill_end]; exact hown, hB⟩
  | succ j =>
   have hcx := hown.cellAt j (by omega)
   rw [List.getElem?_map, fill_at] at hcx
   have hfx := hown.frozenAt j
   have hst := (hown.stored j (enc (x / 256 ^ (4 - (j + 1)) % 256))).1
   rw [fill_step_map enc hk] at hst
   have hBs := hB.setCell (p := ⟨w.heap.size, j, none⟩) (Nat.le_refl _) (enc (x / 256 ^ (4 - (j + 1)) % 256))
   have hy : x / 256 ^ (4 - (j + 1)) < 4294967296 := Nat.lt_of_le_of_lt (Nat.div_le_self _ _) hx
   have HD : Hid (x / 256 ^ (4 - (j + 1)) / 256 = x / 256 ^ (4 - j)) := (div_pow_succ _ _).trans (by rw [show 4 - (j + 1) + 1 = 4 - j by omega])
   have ej : (((j + 1 : Nat) : Int) - 1) = (j : Int) := by omega
   rw [ej]
   generalize x / 256 ^ (4 - (j + 1)) = y at *
   simp only [Option.map_some, enc] at hcx hst hBs
   clear ej hown hB
   go_wp2
   go_roundw
   case rel => exact ⟨j, by omega, by go_num, by rw [← HD.out]; first | rfl | go_num, by first | exact hst | simpa using hst, by first | exact hBs | simpa using hBs⟩
   case measure => simp [intOf]
set_option maxRecDepth 100000 in
theorem split64_any (x : Nat) (w : World) (hx : x < 18446744073709551616) :
  Calls Tryz.prog 298 #[.int .u64 x] w fun e w' => e = .returned (.slice (some ⟨w.heap.size, 0, none⟩) 8 8) ∧ w'.ownsRow w.heap.size 5 1 (.slice (some ⟨w.heap.size, 0, none⟩) 8 8) 8 ((be 8 x).map enc) ∧ Below w.heap.size w w' := by
 have hmk : ∀ w : World, (Instr.makeSlice 45 (.int .i64 8) (.int .i64 8)).run Tryz.prog w = .ok (.slice (some ⟨w.heap.size, 0, none⟩) 8 8) (w.alloc (.cells #[.int .u8 0, .int .u8 0, .int .u8 0, .int .u8 0, .int .u8 0, .int .u8 0, .int .u8 0, .int .u8 0] 5)) := fun _ => by kernel_rfl
 have h0 : (w.alloc (.cells #[.int .u8 0, .int .u8 0, .int .u8 0, .int .u8 0, .int .u8 0, .int .u8 0, .int .u8 0, .int .u8 0] 5)).ownsRow w.heap.size 5 1 (.slice (some ⟨w.heap.size, 0, none⟩) 8 8) 8 ((fill 8 8 x).map enc) := by
  rw [fill_start]
  exact World.ownsRow_lit w _ 8 (Nat.le_refl _) (by decide) rfl
 go_enter Tryz.func298, Tryz.ntmps298
 go_wp2_with (go_at_call 308; refine (size64 _).mono ?_; rintro e w ⟨rfl, rfl⟩)
 go_loopw [0, 4] (fun n i wr => ∃ k : Nat, k ≤ 8 ∧ i = .int .i64 ((k : Int) - 1) ∧ n = .int .u64 ((x / 256 ^ (8 - k) : Nat) : Int) ∧ wr.ownsRow w.heap.size 5 1 (.slice (some ⟨w.heap.size, 0, none⟩) 8 8) 8 ((fill 8 k x).map enc) ∧ Below w.heap.size w wr) (fun _ i _ => (intOf i + 1).toNat)
 case atStart => exact ⟨8, Nat.le_refl _, rfl, by simp, h0, (Below.refl _ _).alloc (Nat.le_refl _) _⟩
 case round =>
  obtain ⟨k, hk, rfl, rfl, hown, hB⟩ := hrel
  clear h0 hmk
  cases k with
  | zero =>
   go_wp2
   go_ret
   exact ⟨rfl, by rw [← fill_end]; exact hown, hB⟩
  | succ j =>
   have hcx := hown.cellAt j (by omega)
   rw [List.getElem?_map, fill_at] at hcx
   have hfx := hown.frozenAt j
   have hst := (hown.stored j (enc (x / 256 ^ (8 - (j + 1)) % 256))).1
   rw [fill_step_map enc hk] at hst
   have hBs := hB.setCell (p := ⟨w.heap.size, j, none⟩) (Nat.le_refl _) (enc (x / 256 ^ (8 - (j + 1)) % 256))
   have hy : x / 256 ^ (8 - (j + 1)) < 18446744073709551616 := Nat.lt_of_le_of_lt (Nat.div_le_self _ _) hx
   have HD : Hid (x / 256 ^ (8 - (j + 1)) / 256 = x / 256 ^ (8 - j)) := (div_pow_succ _ _).trans (by rw [show 8 - (j + 1) + 1 = 8 - j by omega])
   have ej : (((j + 1 : Nat) : Int) - 1) = (j : Int) := by omega
   rw [ej]
   generalize x / 256 ^ (8 - (j + 1)) = y at *
   simp only [Option.map_some, enc] at hcx hst hBs
   clear ej hown hB
   go_wp2
   go_roundw
   case rel => exact ⟨j, by omega, by go_num, by rw [← HD.out]; first | rfl | go_num, by first | exact hst | simpa using hst, by first | exact hBs | simpa using hBs⟩
   case measure => simp [intOf]
theorem bytesAt_owns {W : World} {base n₀ : Nat} {v : Value} {l : List Nat} (hl : ∀ b ∈ l, b < 256) (hn : W.heap.size ≤ n₀) (h : W.ownsRow base 5 1 v l.length (l.map enc)) : BytesAt n₀ W v l := by
 obtain ⟨_, ⟨rfl, h0⟩ | ⟨g, cap, cur, rfl, hb, hg, h1, h2, h3, h4⟩⟩ := h
 ·have : l = [] := by simpa using h0
  subst this
  exact ⟨hl, none, 0, rfl, fun _ => rfl, .inl rfl⟩
 ·refine ⟨hl, some ⟨g, 0, none⟩, cap, rfl, fun h => by simp at h, .inr ⟨g, 0, rfl, h1, Nat.lt_of_lt_of_le (Array.getElem?_eq_some_iff.1 hg).1 hn, fun j hj => ?_⟩⟩
  have e : cur.toList[j]? = some (enc l[j]) := by
   have := congrArg (fun t => t[j]?) h4
   simp [hj] at this
   simpa using this
  simp [World.cell?, hg]
  rw [Array.getElem?_toList] at e
  rw [e]
  simp [enc, hj]
theorem owns_le {w : World} {base base' : Nat} {e : TypeId} {size : Nat} {v : Value} {n : Nat} {xs : List Value} (h : w.ownsRow base e size v n xs) (hb : base' ≤ base) : w.ownsRow base' e size v n xs :=
 ⟨h.1, h.2.imp id fun ⟨g, cap, cur, e, hg, r⟩ => ⟨g, cap, cur, e, Nat.le_trans hb hg, r⟩⟩
theorem below_append {w W w1 : World} {n₀ : Nat} {e : TypeId} {size k : Nat} {v : Value} {xs : List Value} (hn : n₀ ≤ w.heap.size) (hB : Below n₀ w W) (hrow : W.ownsRow n₀ e size v k xs) (hgrow : W.grownBy w1 v.ownBlock) : Below n₀ w w1 := by
 have hsz := hB.size
 refine hB.grown hgrow (by omega) fun j ej => ?_
 rcases hrow.2 with ⟨rfl, _⟩ | ⟨g, cap, cur, rfl, hb, _, _⟩
 ·simp [Value.ownBlock] at ej
 ·obtain rfl : g = j := by simpa [Value.ownBlock] using ej
  exact hb
set_option maxRecDepth 100000 in
theorem behind_some (a : Addr) (len cap : Nat) (bs ms : List Nat) (g m : Nat) (w : World) (hlen : len = bs.length) (hm : ms.length = m) (hb : len ≤ 1000) (hm8 : m ≤ 8)
  (hc : ∀ j u, (bs.map enc)[j]? = some u → w.cell? (a.add j) = some u) (hcm : ∀ j u, (ms.map enc)[j]? = some u → w.cell? ((⟨g, 0, none⟩ : Addr).add j) = some u) :
  Calls Tryz.prog 297 #[.slice (some a) len cap, .slice (some ⟨g, 0, none⟩) m m] w fun e w' => ∃ v, e = .returned v ∧ w'.ownsRow w.heap.size 5 1 v (len + m) ((bs ++ ms).map enc) ∧ Below w.heap.size w w' := by
 obtain ⟨i0, hi, hz0, hz1, hz2⟩ := info_parts Tryz.info5
 have hmk : ∀ w : World, (Instr.makeSlice 45 (.int .i64 0) (.int .i64 ((len : Int) + (m : Int)))).run Tryz.prog w = .ok (.slice (some ⟨w.heap.size, 0, none⟩) 0 (len + m)) (w.alloc (.cells (madeCells #[.int .u8 0] (len + m)) 5)) := fun w => by
  have := run_make (P := Tryz.prog) w 45 5 i0 (.int .u8 0) Tryz.underlying45 hi hz0 .i64 .i64 0 ((len : Int) + (m : Int)) (Int.le_refl _) (by omega) (by rw [hz2]; omega) (by omega)
  rw [hz1, show ((len : Int) + (m : Int)).toNat = len + m by omega, Nat.mul_one] at this
  exact this
 have hown : (w.alloc (.cells (madeCells #[.int .u8 0] (len + m)) 5)).ownsRow w.heap.size 5 1 (.slice (some ⟨w.heap.size, 0, none⟩) 0 (len + m)) 0 [] :=
  World.ownsRow_made w _ _ (Nat.le_refl _) (by unfold maxLen; omega) (by rw [size_madeCells, Nat.mul_one])
 have hB0 : Below w.heap.size w (w.alloc (.cells (madeCells #[.int .u8 0] (len + m)) 5)) := (Below.refl _ _).alloc (Nat.le_refl _) _
 have HL : Hid (len = bs.length) := hlen
 have HM : Hid (ms.length = m) := hm
 clear hlen hm
 go_enter Tryz.func297, Tryz.ntmps297
 go_wp2_with (first
  | (at_builtin; refine wpList_append_own _ rfl _ _ 45 rfl w.heap.size 5 i0 (.int .u8 0) 1 1 Tryz.underlying45 hi hz0 hz1 hz2 rfl (by decide) _ 0 [] rfl hown a len cap (bs.map enc) rfl ?c0 ?c1 ?c2 ?c3 ?c4 ?c5 ?_)
  | go_in)
 case c0 => simp [HL.out]
 case c1 =>
  intro j u hj
  have := hc j u hj
  rw [← this]
  exact hB0.cell (World.block_lt_of_cell? w _ this)
 case c2 => intro u hu; simp at hu; obtain ⟨x, _, rfl⟩ := hu; rfl
 case c3 => unfold maxLen; omega
 case c4 => omega
 case c5 => simp
 intro v1 w1 hown1 hgrow1 _
 have hB1 := below_append (Nat.le_refl _) hB0 hown hgrow1
 try rw [Nat.zero_add, List.nil_append] at hown1
 go_wp2_with (first
  | (at_builtin; refine wpList_append_own _ rfl _ _ 45 rfl w.heap.size 5 i0 (.int .u8 0) 1 1 Tryz.underlying45 hi hz0 hz1 hz2 rfl (by decide) v1 len _ rfl hown1 ⟨g, 0, none⟩ m m (ms.map enc) rfl ?c0 ?c1 ?c2 ?c3 ?c4 ?c5 ?_)
  | go_in)
 case c0 => simp [HM.out]
 case c1 =>
  intro j u hj
  have := hcm j u hj
  rw [← this]
  exact hB1.cell (World.block_lt_of_cell? w _ this)
 case c2 => intro u hu; simp at hu; obtain ⟨x, _, rfl⟩ := hu; rfl
 case c3 => unfold maxLen; omega
 case c4 => omega
 case c5 => exact hB1.size
 intro v2 w2 hown2 hgrow2 _
 have hB2 := below_append (Nat.le_refl _) hB1 hown1 hgrow2
 rw [← List.map_append] at hown2
 go_wp2
 go_ret
 exact ⟨_, rfl, hown2, hB2⟩
set_option maxRecDepth 100000 in
theorem behind_none (ms : List Nat) (g m : Nat) (w : World) (hm : ms.length = m) (hm8 : m ≤ 8)
  (hcm : ∀ j u, (ms.map enc)[j]? = some u → w.cell? ((⟨g, 0, none⟩ : Addr).add j) = some u) :
  Calls Tryz.prog 297 #[.slice none 0 0, .slice (some ⟨g, 0, none⟩) m m] w fun e w' => ∃ v, e = .returned v ∧ w'.ownsRow w.heap.size 5 1 v m (ms.map enc) ∧ Below w.heap.size w w' := by
 obtain ⟨i0, hi, hz0, hz1, hz2⟩ := info_parts Tryz.info5
 have hmk : ∀ w : World, (Instr.makeSlice 45 (.int .i64 0) (.int .i64 (m : Int))).run Tryz.prog w = .ok (.slice (some ⟨w.heap.size, 0, none⟩) 0 m) (w.alloc (.cells (madeCells #[.int .u8 0] m) 5)) := fun w => by
  have := run_make (P := Tryz.prog) w 45 5 i0 (.int .u8 0) Tryz.underlying45 hi hz0 .i64 .i64 0 (m : Int) (Int.le_refl _) (by omega) (by rw [hz2]; omega) (by omega)
  rw [hz1, show ((m : Int)).toNat = m by omega, Nat.mul_one] at this
  exact this
 have hown : (w.alloc (.cells (madeCells #[.int .u8 0] m) 5)).ownsRow w.heap.size 5 1 (.slice (some ⟨w.heap.size, 0, none⟩) 0 m) 0 [] :=
  World.ownsRow_made w _ _ (Nat.le_refl _) (by unfold maxLen; omega) (by rw [size_madeCells, Nat.mul_one])
 have hB0 : Below w.heap.size w (w.alloc (.cells (madeCells #[.int .u8 0] m) 5)) := (Below.refl _ _).alloc (Nat.le_refl _) _
 have HM : Hid (ms.length = m) := hm
 clear hm
 go_enter Tryz.func297, Tryz.ntmps297
 go_wp2_with (first
  | (at_builtin; refine wpList_append_own _ rfl _ _ 45 rfl w.heap.size 5 i0 (.int .u8 0) 1 1 Tryz.underlying45 hi hz0 hz1 hz2 rfl (by decide) _ 0 [] rfl hown ⟨g, 0, none⟩ m m (ms.map enc) rfl ?c0 ?c1 ?c2 ?c3 ?c4 ?c5 ?_)
  | go_in)
 case c0 => simp [HM.out]
 case c1 =>
  intro j u hj
  have := hcm j u hj
  rw [← this]
  exact hB0.cell (World.block_lt_of_cell? w _ this)
 case c2 => intro u hu; simp at hu; obtain ⟨x, _, rfl⟩ := hu; rfl
 case c3 => unfold maxLen; omega
 case c4 => omega
 case c5 => simp
 intro v2 w2 hown2 hgrow2 _
 have hB2 := below_append (Nat.le_refl _) hB0 hown hgrow2
 try rw [Nat.zero_add, List.nil_append] at hown2
 go_wp2
 go_ret
 exact ⟨_, rfl, hown2, hB2⟩
theorem cells_of {w : World} {b off : Nat} {bs : List Nat} (hc : ∀ j, j < bs.length → w.cell? ⟨b, off + j, none⟩ = some (.int .u8 ((bs[j]?.getD 0 : Nat) : Int))) :
  ∀ j u, (bs.map enc)[j]? = some u → w.cell? ((⟨b, off, none⟩ : Addr).add j) = some u := by
 intro j u hj
 have hl : j < bs.length := by
  rcases Nat.lt_or_ge j bs.length with h | h
  ·exact h
  ·simp [List.getElem?_eq_none h] at hj
 have hplain : (⟨b, off, none⟩ : Addr).add j = ⟨b, off + j, none⟩ := by unfold Addr.add; split <;> simp_all
 rw [hplain, hc j hl]
 rw [enc_get bs j hl] at hj
 exact hj
section
set_option maxRecDepth 100000
theorem behind_any (sv : Value) (bs ms : List Nat) (g m : Nat) (w : World) (hm : ms.length = m) (hb : bs.length ≤ 1000) (hm8 : m ≤ 8) (hI : BytesAt w.heap.size w sv bs)
  (hcm : ∀ j u, (ms.map enc)[j]? = some u → w.cell? ((⟨g, 0, none⟩ : Addr).add j) = some u) :
  Calls Tryz.prog 297 #[sv, .slice (some ⟨g, 0, none⟩) m m] w fun e w' => ∃ v, e = .returned v ∧ w'.ownsRow w.heap.size 5 1 v (bs.length + m) ((bs ++ ms).map enc) ∧ Below w.heap.size w w' := by
 obtain ⟨_, a, cap, rfl, hn, h⟩ := hI
 cases a with
 | none =>
  obtain rfl := hn rfl
  rcases h with rfl | ⟨b, off, e, _⟩
  ·have := behind_none ms g m w hm hm8 hcm
   simpa using this
  ·simp at e
 | some a =>
  refine behind_some a _ cap bs ms g m w rfl hm hb hm8 ?_ hcm
  rcases h with rfl | ⟨b, off, e, _, _, hc⟩
  ·intro j u hj; simp at hj
  ·obtain rfl : a = ⟨b, off, none⟩ := by simpa using e
   exact cells_of hc
theorem put32_any (sv : Value) (bs : List Nat) (y : Nat) (w : World) (hb : bs.length ≤ 1000) (hy : y < 4294967296) (hI : BytesAt w.heap.size w sv bs) :
  Calls Tryz.prog 271 #[sv, .int .u32 y] w fun e w' => ∃ v, e = .returned v ∧ w'.ownsRow w.heap.size 5 1 v (bs.length + 4) ((bs ++ be 4 y).map enc) ∧ Below w.heap.size w w' := by
 have q : ∀ w1 : World, w1.ownsRow w.heap.size 5 1 (.slice (some ⟨w.heap.size, 0, none⟩) 4 4) 4 ((be 4 y).map enc) → Below w.heap.size w w1 →
   Calls Tryz.prog 297 #[sv, .slice (some ⟨w.heap.size, 0, none⟩) 4 4] w1 fun e w' => ∃ v, e = .returned v ∧ w'.ownsRow w.heap.size 5 1 v (bs.length + 4) ((bs ++ be 4 y).map enc) ∧ Below w.heap.size w w' := by
  intro w1 ho hB
  refine (behind_any sv bs (be 4 y) w.heap.size 4 w1 (be_length _ _) hb (by omega) ((hI.below hB).mono hB.size) (ho.cells rfl)).mono ?_
  rintro e w' ⟨v, rfl, ho', hB'⟩
  exact ⟨v, rfl, owns_le ho' hB.size, hB.trans (hB'.mono hB.size)⟩
 obtain ⟨_, a, cap, rfl, _, _⟩ := hI
 generalize bs.length = len at *
 go_enter Tryz.func271, Tryz.ntmps271
 go_wp2_with (first
  | (go_at_call 299; refine (split32_any y _ hy).mono ?_; rintro e w1 ⟨rfl, ho, hB⟩)
  | (go_at_call 297; refine (q _ ho hB).mono ?_; rintro e w2 ⟨v, rfl, ho', hB'⟩))
 go_ret
 exact ⟨v, rfl, ho', hB'⟩
theorem put64_any (sv : Value) (bs : List Nat) (y : Nat) (w : World) (hb : bs.length ≤ 1000) (hy : y < 18446744073709551616) (hI : BytesAt w.heap.size w sv bs) :
  Calls Tryz.prog 270 #[sv, .int .u64 y] w fun e w' => ∃ v, e = .returned v ∧ w'.ownsRow w.heap.size 5 1 v (bs.length + 8) ((bs ++ be 8 y).map enc) ∧ Below w.heap.size w w' := by
 have q : ∀ w1 : World, w1.ownsRow w.heap.size 5 1 (.slice (some ⟨w.heap.size, 0, none⟩) 8 8) 8 ((be 8 y).map enc) → Below w.heap.size w w1 →
   Calls Tryz.prog 297 #[sv, .slice (some ⟨w.heap.size, 0, none⟩) 8 8] w1 fun e w' => ∃ v, e = .returned v ∧ w'.ownsRow w.heap.size 5 1 v (bs.length + 8) ((bs ++ be 8 y).map enc) ∧ Below w.heap.size w w' := by
  intro w1 ho hB
  refine (behind_any sv bs (be 8 y) w.heap.size 8 w1 (be_length _ _) hb (by omega) ((hI.below hB).mono hB.size) (ho.cells rfl)).mono ?_
  rintro e w' ⟨v, rfl, ho', hB'⟩
  exact ⟨v, rfl, owns_le ho' hB.size, hB.trans (hB'.mono hB.size)⟩
 obtain ⟨_, a, cap, rfl, _, _⟩ := hI
 generalize bs.length = len at *
 go_enter Tryz.func270, Tryz.ntmps270
 go_wp2_with (first
  | (go_at_call 298; refine (split64_any y _ hy).mono ?_; rintro e w1 ⟨rfl, ho, hB⟩)
  | (go_at_call 297; refine (q _ ho hB).mono ?_; rintro e w2 ⟨v, rfl, ho', hB'⟩))
 go_ret
 exact ⟨v, rfl, ho', hB'⟩
end
end Go.Proofs.YtoaeficfmcncjaaGreat.Seal
namespace Go.Proofs.YtoaeficfmcncjaaGreat.Seal
open Go.RowKit
open Math
open Crc
theorem BytesAt.values {n₀ : Nat} {W : World} {a : Addr} {n cap : Nat} {bs : List Nat} (h : BytesAt n₀ W (.slice (some a) n cap) bs) : ∀ j u, (bs.map enc)[j]? = some u → W.cell? (a.add j) = some u := by
 obtain ⟨_, a', cap', e, _, h⟩ := h
 injection e with e1 e2 e3
 subst e1
 rcases h with rfl | ⟨b, off, e, _, _, hc⟩
 ·intro j u hj; simp at hj
 ·obtain rfl : a = ⟨b, off, none⟩ := by simpa using e
  exact cells_of hc
def le4 (m : Nat) : List Nat := [m % 256, m / 256 % 256, m / 65536 % 256, m / 16777216 % 256]
def lay (k m : Nat) : List Nat := (List.range 4).map fun j => if j < k then m / 256 ^ j % 256 else 0
theorem lay_end (m : Nat) : lay 4 m = le4 m := by simp [lay, le4, List.range_succ]
theorem lay_length (k m : Nat) : (lay k m).length = 4 := by simp [lay]
theorem lay_step (k m : Nat) (h : k < 4) : (lay k m).set k (m / 256 ^ k % 256) = lay (k + 1) m := by
 match k, h with
 | 0, _ => rfl
 | 1, _ => rfl
 | 2, _ => rfl
 | 3, _ => rfl
theorem le4_length (m : Nat) : (le4 m).length = 4 := rfl
theorem le4_byte (m : Nat) : ∀ b ∈ le4 m, b < 256 := by
 intro b hb
 simp only [le4, List.mem_cons, List.not_mem_nil, or_false] at hb
 omega
def sealed (bs : List Nat) : List Nat := bs ++ le4 (more 0 bs)
theorem sealed_length (bs : List Nat) : (sealed bs).length = bs.length + 4 := by simp [sealed, le4]
theorem sealed_byte (bs : List Nat) (h : ∀ b ∈ bs, b < 256) : ∀ b ∈ sealed bs, b < 256 := by
 intro b hb
 rcases List.mem_append.1 hb with h1 | h1
 ·exact h b h1
 ·exact le4_byte _ b h1
def arr (l : List Nat) : Value := .agg (l.map enc).toArray
def Arr (W : World) (g : Nat) (t : TypeId) (l : List Nat) : Prop := W.heap[g]? = some (.cells (l.map enc).toArray t (0, 0))
theorem Arr.lt {W : World} {g : Nat} {t : TypeId} {l : List Nat} (h : Arr W g t l) : g < W.heap.size := (Array.getElem?_eq_some_iff.1 h).1
theorem Arr.below {n : Nat} {A B : World} {g : Nat} {t : TypeId} {l : List Nat} (h : Arr A g t l) (hB : Below n A B) (hg : g < n) : Arr B g t l := by
 have := hB.5 g hg
 unfold Arr at *
 rw [← h]
 exact this
theorem Arr.cell {W : World} {g : Nat} {t : TypeId} {l : List Nat} (h : Arr W g t l) (j : Nat) (hj : j < l.length) : W.cell? ⟨g, j, none⟩ = some (.int .u8 ((l[j]?.getD 0 : Nat) : Int)) := by
 rw [cell_of_row W g j _ t (0, 0) h, List.getElem?_toArray, enc_get l j hj]
theorem Arr.frozen {W : World} {g : Nat} {t : TypeId} {l : List Nat} (h : Arr W g t l) (j : Nat) : W.frozen? ⟨g, j, none⟩ = false := by
 unfold Arr at h
 simp [World.frozen?, h]
theorem Arr.range {W : World} {g : Nat} {t : TypeId} {l : List Nat} (h : Arr W g t l) : W.rangeAt g 0 (l.map enc) := fun j v hv => by
 rw [Nat.zero_add, cell_of_row W g j _ t (0, 0) h, List.getElem?_toArray]
 exact hv
theorem Arr.there {W : World} {g : Nat} {t : TypeId} {l : List Nat} (h : Arr W g t l) : W.there g 0 l.length := fun j hj => by
 rw [Nat.zero_add]
 exact ⟨by rw [h.cell j hj]; rfl, h.frozen j⟩
theorem Arr.set {W : World} {g : Nat} {t : TypeId} {l : List Nat} (h : Arr W g t l) (j v : Nat) : Arr (W.setCell ⟨g, j, none⟩ (enc v)) g t (l.set j v) := by
 unfold Arr at *
 rw [setCell_eq_setRow W g j _ t (0, 0) _ h]
 rw [setRow_heap W g _ _ t _ h]
 simp [List.map_set]
theorem Arr.set_other {W : World} {g g' : Nat} {t : TypeId} {l : List Nat} (h : Arr W g t l) (j : Nat) (v : Value) (hg : g ≠ g') : Arr (W.setCell ⟨g', j, none⟩ v) g t l := by
 unfold Arr at *
 rw [← h]
 simp [World.setCell, Array.getElem?_modify, Ne.symm hg]
theorem arr_new (w : World) (t : TypeId) (l : List Nat) : Arr (w.alloc (.cells (l.map enc).toArray t)) w.heap.size t l := heap_alloc_last w _
theorem Arr.alloc {W : World} {g : Nat} {t : TypeId} {l : List Nat} (h : Arr W g t l) (o : Obj) : Arr (W.alloc o) g t l := by
 have := h.lt
 unfold Arr at *
 show (W.heap.push o)[g]? = _
 rw [Array.getElem?_push, if_neg (by omega)]
 exact h
theorem enc_one (l : List Nat) : ∀ v ∈ l.map enc, v.oneCell' = true := by
 intro u hu
 simp at hu
 obtain ⟨x, _, rfl⟩ := hu
 rfl
section
set_option maxRecDepth 100000
theorem Tryz.size363 : (Tryz.prog.info? 363).map (·.size) = some 4 := by kernel_rfl
theorem Tryz.size113 : (Tryz.prog.info? 113).map (·.size) = some 16 := by kernel_rfl
theorem Tryz.size5 : (Tryz.prog.info? 5).map (·.size) = some 1 := by kernel_rfl
theorem setCells_row {W : World} {g : Nat} {t : TypeId} {cur : Array Value} {vs : List Value} (hg : W.heap[g]? = some (.cells cur t (0, 0))) (hl : vs.length = cur.size) (h1 : ∀ v ∈ vs, v.oneCell' = true) : W.setCells g 0 vs = W.setRow g vs.toArray := by
 have hin : ∀ j, j < vs.length → (W.cell? ⟨g, 0 + 0 + j, none⟩).isSome = true := fun j hj => by
  rw [cell_of_row W g _ cur t (0, 0) hg]
  simp
  omega
 have hfr : ∀ j, j < vs.length → W.frozen? ⟨g, 0 + 0 + j, none⟩ = false := fun j _ => by simp [World.frozen?, hg]
 have e1 := run_storeCells_cells (P := Tryz.prog) g 0 vs 0 W hin hfr h1
 have e2 := run_storeCells_at Tryz.prog g 0 t vs 0 cur W hg (by omega) h1
 rw [e1] at e2
 injection e2 with _ e3
 have e4 : cur.toList.drop (0 + 0 + vs.length) = [] := by apply List.drop_eq_nil_of_le; simp; omega
 rw [e4] at e3
 simpa using e3
end
theorem Arr.setAll {W : World} {g : Nat} {t : TypeId} {l : List Nat} (h : Arr W g t l) (l' : List Nat) (hl : l'.length = l.length) : Arr (W.setCells g 0 (l'.map enc)) g t l' := by
 rw [setCells_row h (by simp [hl]) (enc_one l')]
 exact setRow_heap W g _ _ t _ h
theorem Arr.setAll_other {W : World} {g g' : Nat} {t t' : TypeId} {l k : List Nat} (h : Arr W g t l) (h' : Arr W g' t' k) (l' : List Nat) (hl : l'.length = k.length) (hne : g ≠ g') : Arr (W.setCells g' 0 (l'.map enc)) g t l := by
 rw [setCells_row h' (by simp [hl]) (enc_one l')]
 exact (setRow_other W g' g _ hne).trans h
theorem Arr.below_setAll {W w : World} {n g : Nat} {t : TypeId} {l : List Nat} (h : Arr W g t l) (l' : List Nat) (hl : l'.length = l.length) (hB : Below n w W) (hn : n ≤ g) : Below n w (W.setCells g 0 (l'.map enc)) := by
 rw [setCells_row h (by simp [hl]) (enc_one l')]
 exact below_setRow hB hn _
theorem below_alloc (w : World) (o : Obj) : Below w.heap.size w (w.alloc o) := (Below.refl _ _).alloc (Nat.le_refl _) _
set_option maxRecDepth 100000 in
set_option maxHeartbeats 400000 in
theorem sumOf_any (sv : Value) (bs : List Nat) (w : World) (hlen : bs.length ≤ 9223372036854775807) (hI : BytesAt w.heap.size w sv bs) :
  Calls Tryz.prog 296 #[sv] w fun e w' => e = .returned (arr (le4 (more 0 bs))) ∧ Below w.heap.size w w' := by
 have hm := more_lt (s := 0) (bs := bs) (by omega) hI.1
 have q := fun w' (h : Below w.heap.size w w') => sum_any sv bs w' hlen ((hI.below h).mono h.size)
 generalize more 0 bs = m at *
 have hB0 : Below w.heap.size w ((w.alloc (.cells #[.int .u8 0, .int .u8 0, .int .u8 0, .int .u8 0] 363)).alloc (.cells #[.int .u8 0, .int .u8 0, .int .u8 0, .int .u8 0] 363)) := (below_alloc w _).alloc (by simp) _
 have hA : Arr ((w.alloc (.cells #[.int .u8 0, .int .u8 0, .int .u8 0, .int .u8 0] 363)).alloc (.cells #[.int .u8 0, .int .u8 0, .int .u8 0, .int .u8 0] 363)) w.heap.size 363 [0, 0, 0, 0] := (arr_new w 363 [0, 0, 0, 0]).alloc _
 have hC : Arr ((w.alloc (.cells #[.int .u8 0, .int .u8 0, .int .u8 0, .int .u8 0] 363)).alloc (.cells #[.int .u8 0, .int .u8 0, .int .u8 0, .int .u8 0] 363)) (w.heap.size + 1) 363 [0, 0, 0, 0] := by
  have := arr_new (w.alloc (.cells #[.int .u8 0, .int .u8 0, .int .u8 0, .int .u8 0] 363)) 363 [0, 0, 0, 0]
  rwa [World.size_alloc] at this
 clear hI hlen
 go_enter Tryz.func296, Tryz.ntmps296
 go_wp2_with (go_at_call 307; refine (q _ hB0).mono ?_; rintro e w1 ⟨rfl, hB1⟩)
 replace hA := hA.below hB1 (by simp; omega)
 replace hC := hC.below hB1 (by simp)
 replace hB0 := hB0.trans (hB1.mono hB0.size)
 clear hB1 q
 obtain ⟨n, hn⟩ : ∃ n, w.heap.size = n := ⟨_, rfl⟩
 rw [hn] at hA hC hB0 ⊢
 have HN : Hid (w.heap.size = n) := hn
 clear hn
 go_loopw [8] (fun i wr => ∃ k : Nat, k ≤ 4 ∧ i = .int .i64 k ∧ Arr wr n 363 [0, 0, 0, 0] ∧ Arr wr (n + 1) 363 (lay k m) ∧ Below n w wr) (fun i _ => 4 - (intOf i).toNat)
 case atStart => exact ⟨0, by omega, rfl, hA, hC, hB0⟩
 case round =>
  obtain ⟨k, hk, rfl, hA', hC', hB⟩ := hrel
  clear hA hC hB0
  by_cases hlt : k < 4
  ·have hcx := hC'.cell k (by rw [lay_length]; exact hlt)
   have hfx := hC'.frozen k
   have H : Hid (∀ c : Int, c = ((m / 256 ^ k % 256 : Nat) : Int) → Arr (wr.setCell ⟨n + 1, k, none⟩ (.int .u8 c)) n 363 [0, 0, 0, 0] ∧ Arr (wr.setCell ⟨n + 1, k, none⟩ (.int .u8 c)) (n + 1) 363 (lay (k + 1) m) ∧ Below n w (wr.setCell ⟨n + 1, k, none⟩ (.int .u8 c))) := fun c hc => by
    subst hc
    refine ⟨hA'.set_other k _ (by omega), ?_, hB.setCell (p := ⟨n + 1, k, none⟩) (show n ≤ n + 1 by omega) _⟩
    have := hC'.set k (m / 256 ^ k % 256)
    rwa [lay_step k m hlt] at this
   clear hA' hC' hB
   generalize (lay k m)[k]?.getD 0 = old at *
   rcases (show k = 0 ∨ k = 1 ∨ k = 2 ∨ k = 3 by omega) with rfl | rfl | rfl | rfl
   all_goals
    go_wp2
    go_roundw
    case rel => first | exact ⟨1, by omega, rfl, H.out _ (by omega)⟩ | exact ⟨2, by omega, rfl, H.out _ (by omega)⟩ | exact ⟨3, by omega, rfl, H.out _ (by omega)⟩ | exact ⟨4, by omega, rfl, H.out _ (by omega)⟩
    case measure => simp [intOf]
  ·obtain rfl : k = 4 := by omega
   rw [lay_end] at hC'
   go_wp2_with (first
    | refine wpList_load_mid rfl 363 _ rfl (n + 1) 0 rfl ((le4 m).map enc) _ hC'.range Tryz.underlying363 rfl Tryz.size363 ?_
    | refine wpList_store_mid rfl 363 _ _ rfl n 0 ((le4 m).map enc).toArray rfl rfl hA'.there Tryz.size363 (all_oneCell_toArray (enc_one _)) ?_)
   refine bodyPost_ret (v := arr (le4 m)) (results_cell_row rfl _ _ n 363 ((le4 m).map enc).toArray (0, 0) _ rfl (hA'.setAll (le4 m) rfl) Tryz.underlying363 rfl Tryz.size363) rfl ⟨rfl, ?_⟩
   rw [HN.out]
   exact hA'.below_setAll (le4 m) rfl hB (Nat.le_refl _)
end Go.Proofs.YtoaeficfmcncjaaGreat.Seal
