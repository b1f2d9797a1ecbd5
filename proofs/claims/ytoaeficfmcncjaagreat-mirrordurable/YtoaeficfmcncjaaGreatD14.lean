/-
 Texts of ours, joined: SpanA, SpanB, SpanC, SpanD.
-/
import Derived.Test.YtoaeficfmcncjaaGreatProg
import Derived.Test.YtoaeficfmcncjaaGreatD2
import Derived.WalkKit
import Derived.WalkSpells
import Derived.WalkLawsBesides
import Derived.Laws.BitsAllLaws
import Derived.Laws.ShiftsVarLaws
import Derived.Below
import Derived.LoopTactic
import Derived.WalkSmall
import Derived.Laws.ResultCell
import Derived.Laws.Rows
import Derived.Deep.QuietTactic
import Derived.BigQuiet
import Derived.RegionTactic
import Derived.Maps.AppendAt
import Derived.Deep.RegionWith
import Derived.Deep.CutRange
/-
 The walks of Plain, End and Good, of Row, and of the document's Of and what it stands on: what each call answers, in the plain words of the Math text.
-/
namespace Go.Proofs.YtoaeficfmcncjaaGreat.Span
open Go.RowKit
open Math

theorem below_new (w : World) (o : Obj) : Below w.heap.size w (w.alloc o) := (Below.refl _ _).alloc (Nat.le_refl _) _
def Box (W : World) (n : Nat) (a b : Value) : Prop := W.cell? ⟨n, 0, none⟩ = some a ∧ W.cell? ⟨n, 1, none⟩ = some b
theorem box_new (w : World) (a b : Value) (t : TypeId) : Box (w.alloc (.cells #[a, b] t)) w.heap.size a b := by
 exact ⟨cell_two_new w a b t 0 a rfl, cell_two_new w a b t 1 b rfl⟩
theorem Box.below {W W' : World} {n m : Nat} {a b : Value} (h : Box W n a b) (hB : Below m W W') (hn : n < m) : Box W' n a b :=
 ⟨(hB.cell (p := ⟨n, 0, none⟩) hn).trans h.1, (hB.cell (p := ⟨n, 1, none⟩) hn).trans h.2⟩

set_option maxRecDepth 100000 in
theorem plain_any (o l : Int) (w : World) :
  Calls Tryz.prog 181 #[.agg #[.int .i64 o, .int .i64 l]] w fun e w' => e = .returned (.bool (plain o l)) ∧ Below w.heap.size w w' := by
 by_cases h1 : 0 ≤ o
 ·by_cases h2 : o ≤ 1073741824
  ·by_cases h3 : 0 ≤ l
   ·by_cases h4 : l ≤ 1073741824
    ·rw [plain_of ⟨h1, h2, h3, h4⟩]
     go_enter Tryz.func181, Tryz.ntmps181
     go_wp2
     go_ret
     exact ⟨rfl, below_new _ _⟩
    ·rw [plain_not (by omega)]
     go_enter Tryz.func181, Tryz.ntmps181
     go_wp2
     go_ret
     exact ⟨rfl, below_new _ _⟩
   ·rw [plain_not (by omega)]
    go_enter Tryz.func181, Tryz.ntmps181
    go_wp2
    go_ret
    exact ⟨rfl, below_new _ _⟩
  ·rw [plain_not (by omega)]
   go_enter Tryz.func181, Tryz.ntmps181
   go_wp2
   go_ret
   exact ⟨rfl, below_new _ _⟩
 ·rw [plain_not (by omega)]
  go_enter Tryz.func181, Tryz.ntmps181
  go_wp2
  go_ret
  exact ⟨rfl, below_new _ _⟩

set_option maxRecDepth 100000 in
theorem refPlain_any (o l : Int) (w : World) :
  Calls Tryz.prog 153 #[.agg #[.int .i64 o, .int .i64 l]] w fun e w' => e = .returned (.bool (plain o l)) ∧ Below w.heap.size w w' := by
 by_cases h1 : 0 ≤ o
 ·by_cases h2 : o ≤ 1073741824
  ·by_cases h3 : 0 ≤ l
   ·by_cases h4 : l ≤ 1073741824
    ·rw [plain_of ⟨h1, h2, h3, h4⟩]
     go_enter Tryz.func153, Tryz.ntmps153
     go_wp2
     go_ret
     exact ⟨rfl, below_new _ _⟩
    ·rw [plain_not (by omega)]
     go_enter Tryz.func153, Tryz.ntmps153
     go_wp2
     go_ret
     exact ⟨rfl, below_new _ _⟩
   ·rw [plain_not (by omega)]
    go_enter Tryz.func153, Tryz.ntmps153
    go_wp2
    go_ret
    exact ⟨rfl, below_new _ _⟩
  ·rw [plain_not (by omega)]
   go_enter Tryz.func153, Tryz.ntmps153
   go_wp2
   go_ret
   exact ⟨rfl, below_new _ _⟩
 ·rw [plain_not (by omega)]
  go_enter Tryz.func153, Tryz.ntmps153
  go_wp2
  go_ret
  exact ⟨rfl, below_new _ _⟩

set_option maxRecDepth 100000 in
theorem end_any (o l : Int) (w : World) :
  Calls Tryz.prog 182 #[.agg #[.int .i64 o, .int .i64 l]] w fun e w' => e = .returned (.int .i64 (endN o l)) ∧ Below w.heap.size w w' := by
 have hb := below_new w (.cells #[.int .i64 o, .int .i64 l] 44)
 have hx := box_new w (.int .i64 o) (.int .i64 l) 44
 cases hp : plain o l with
 | false =>
  have he : endN o l = 0 := by unfold endN; rw [hp]; rfl
  rw [he]
  go_enter Tryz.func182, Tryz.ntmps182
  go_wp2_with (go_at_call 181; refine (plain_any _ _ _).mono ?_; rw [hp]; rintro e w1 ⟨rfl, hB⟩)
  go_ret
  exact ⟨rfl, hb.trans (hB.mono hb.size)⟩
 | true =>
  have he : endN o l = o + l := by unfold endN; rw [hp]; rfl
  rw [he]
  have hq := of_plain hp
  go_enter Tryz.func182, Tryz.ntmps182
  go_wp2_with (go_at_call 181; refine (plain_any _ _ _).mono ?_; rw [hp]; rintro e w1 ⟨rfl, hB⟩; obtain ⟨hx0, hx1⟩ := hx.below hB (by simp))
  go_ret
  exact ⟨rfl, hb.trans (hB.mono hb.size)⟩

set_option maxRecDepth 100000 in
theorem good_any (o l n : Int) (w : World) :
  Calls Tryz.prog 124 #[.agg #[.int .i64 o, .int .i64 l], .int .i64 n] w fun e w' => e = .returned (.bool (good o l n)) ∧ Below w.heap.size w w' := by
 have hb := below_new w (.cells #[.int .i64 o, .int .i64 l] 44)
 have hx := box_new w (.int .i64 o) (.int .i64 l) 44
 cases hp : plain o l with
 | false =>
  have hg : good o l n = false := by unfold good; rw [hp]; rfl
  rw [hg]
  go_enter Tryz.func124, Tryz.ntmps124
  go_wp2_with (go_at_call 181; refine (plain_any _ _ _).mono ?_; rw [hp]; rintro e w1 ⟨rfl, hB⟩; obtain ⟨hx0, hx1⟩ := hx.below hB (by simp); replace hb := hb.trans (hB.mono hb.size))
  go_ret
  exact ⟨rfl, hb⟩
 | true =>
  have hq := of_plain hp
  have he : endN o l = o + l := by unfold endN; rw [hp]; rfl
  by_cases h1 : 1 ≤ l
  ·have hg : good o l n = decide (o + l ≤ n) := by unfold good; rw [hp]; simp [h1]
   rw [hg]
   go_enter Tryz.func124, Tryz.ntmps124
   go_wp2_with (first | (go_at_call 181; refine (plain_any _ _ _).mono ?_; rw [hp]; rintro e w1 ⟨rfl, hB⟩; obtain ⟨hx0, hx1⟩ := hx.below hB (by simp); replace hb := hb.trans (hB.mono hb.size)) | (go_at_call 182; refine (end_any _ _ _).mono ?_; rw [he]; rintro e w2 ⟨rfl, hB2⟩; replace hb := hb.trans (hB2.mono hb.size)))
   go_ret
   exact ⟨rfl, hb⟩
  ·have hg : good o l n = false := by unfold good; rw [hp]; simp [h1]
   rw [hg]
   go_enter Tryz.func124, Tryz.ntmps124
   go_wp2_with (go_at_call 181; refine (plain_any _ _ _).mono ?_; rw [hp]; rintro e w1 ⟨rfl, hB⟩; obtain ⟨hx0, hx1⟩ := hx.below hB (by simp); replace hb := hb.trans (hB.mono hb.size))
   go_ret
   exact ⟨rfl, hb⟩


theorem ret_int {k : IntKind} {a b : Int} (h : a = b) : Ending.returned (.int k a) = .returned (.int k b) := by rw [h]

theorem ret_bool {a b : Bool} (h : a = b) : Ending.returned (.bool a) = .returned (.bool b) := by rw [h]


set_option maxRecDepth 100000 in
theorem refOne_any (n : Int) (w : World) :
  Calls Tryz.prog 170 #[.int .i64 n] w fun e w' => e = .returned (.int .u64 (one n)) ∧ w' = w := by
 by_cases ha : n < 0
 ·rw [one_out (.inl ha)]
  go_enter Tryz.func170, Tryz.ntmps170
  go_wp2
  go_ret
  exact ⟨rfl, rfl⟩
 ·by_cases hb : 63 < n
  ·rw [one_out (.inr (by omega))]
   go_enter Tryz.func170, Tryz.ntmps170
   go_wp2
   go_ret
   exact ⟨rfl, rfl⟩
  ·rw [one_in (by omega) (by omega)]
   obtain ⟨m, rfl⟩ : ∃ m : Nat, n = m := ⟨n.toNat, by omega⟩
   go_enter Tryz.func170, Tryz.ntmps170
   go_wp2
   go_loop [3, 4] (fun x i => ∃ k : Nat, k ≤ m ∧ i = .int .i64 k ∧ x = .int .u64 ((2 ^ k : Nat) : Int)) (fun _ i => m - (intOf i).toNat)
   case atStart => exact ⟨0, Nat.zero_le _, rfl, rfl⟩
   case round =>
    obtain ⟨k, hk, rfl, rfl⟩ := hrel
    by_cases hlt : k < m
    ·have hp : 2 ^ (k + 1) = 2 ^ k * 2 := Nat.pow_succ 2 k
     have hq := Nat.pow_lt_pow_right (a := 2) (by omega) (show k + 1 < 64 by omega)
     obtain ⟨P, hP⟩ : ∃ P, 2 ^ k = P := ⟨_, rfl⟩
     have HP : Hid (2 ^ (k + 1) = P * 2) := by rw [← hP]; exact hp
     have hP2 : P < 9223372036854775808 := by rw [hp, hP] at hq; omega
     rw [hP]
     clear hp hq hP
     go_wp2
     go_round
     case rel => exact ⟨k + 1, by omega, by go_num, by rw [HP.out]; first | rfl | go_num⟩
     case measure => simp [intOf]; omega
    ·obtain rfl : k = m := by omega
     go_wp2
     go_ret
     exact ⟨ret_int (by simp), rfl⟩

theorem quo_bit (s p : Nat) (hs : s < 18446744073709551616) (_hp : 0 < p) : ((IntKind.u64.wrap ((s : Int) / (p : Int))).tmod 2 == 1) = decide (s / p % 2 = 1) := by
 have a : s / p ≤ s := Nat.div_le_self s p
 have b : ((s : Int) / (p : Int)) = ((s / p : Nat) : Int) := by simp
 rw [IntKind.wrap_u64, b]
 generalize s / p = q at *
 have c : ((q : Int) % 18446744073709551616) = q := by omega
 rw [c]
 have d : ((q : Int).tmod 2) = ((q % 2 : Nat) : Int) := by rw [Int.tmod_eq_emod_of_nonneg (by omega)]; omega
 rw [d]
 rcases Nat.mod_two_eq_zero_or_one q with h | h <;> simp [h]

set_option maxRecDepth 100000 in
theorem refHas_any (s : Nat) (n : Int) (w : World) (hs : s < 18446744073709551616) :
  Calls Tryz.prog 114 #[.int .u64 s, .int .i64 n] w fun e w' => e = .returned (.bool (has s n)) ∧ w' = w := by
 by_cases ha : n < 0
 ·rw [has_out s (.inl ha)]
  go_enter Tryz.func114, Tryz.ntmps114
  go_wp2
  go_ret
  exact ⟨rfl, rfl⟩
 ·by_cases hb : 63 < n
  ·rw [has_out s (.inr hb)]
   go_enter Tryz.func114, Tryz.ntmps114
   go_wp2
   go_ret
   exact ⟨rfl, rfl⟩
  ·have ho := one_lt n
   have hp : 0 < one n := by rw [one_in (by omega) (by omega)]; exact Nat.two_pow_pos _
   have hh := has_in s (n := n) (by omega) (by omega)
   rw [← one_in (by omega) (by omega)] at hh
   rw [hh]
   clear hh
   go_enter Tryz.func114, Tryz.ntmps114
   go_wp2_with (go_at_call 170; refine (refOne_any _ _).mono ?_; rintro e w' ⟨rfl, rfl⟩)
   go_ret
   exact ⟨ret_bool (quo_bit s (one n) hs hp), rfl⟩

set_option maxRecDepth 100000 in
theorem refWith_any (s : Nat) (n : Int) (w : World) (hs : s < 18446744073709551616) :
  Calls Tryz.prog 115 #[.int .u64 s, .int .i64 n] w fun e w' => e = .returned (.int .u64 (withN s n)) ∧ w' = w := by
 have ho := one_lt n
 have hw := withN_lt s n hs
 cases hh : has s n with
 | true =>
  rw [withN_true hs hh]
  go_enter Tryz.func115, Tryz.ntmps115
  go_wp2_with (first | (go_at_call 114; refine (refHas_any _ _ _ hs).mono ?_; rw [hh]; rintro e w' ⟨rfl, rfl⟩))
  go_ret
  exact ⟨rfl, rfl⟩
 | false =>
  rw [withN_false hs hh] at hw ⊢
  go_enter Tryz.func115, Tryz.ntmps115
  go_wp2_with (first | (go_at_call 114; refine (refHas_any _ _ _ hs).mono ?_; rw [hh]; rintro e w' ⟨rfl, rfl⟩) | (go_at_call 170; refine (refOne_any _ _).mono ?_; rintro e w' ⟨rfl, rfl⟩))
  go_ret
  exact ⟨ret_int (by omega), rfl⟩

set_option maxRecDepth 100000 in
theorem rowOut_any (f n : Int) (w : World) (hf : n < 1 ∨ f < 0 ∨ 63 < f) :
  Calls Tryz.prog 184 #[.int .i64 f, .int .i64 n] w fun e w' => e = .returned (.int .u64 0) ∧ w' = w := by
 by_cases ha : n < 1
 ·go_enter Tryz.func184, Tryz.ntmps184
  go_wp2
  go_ret
  exact ⟨rfl, rfl⟩
 ·by_cases hb : f < 0
  ·go_enter Tryz.func184, Tryz.ntmps184
   go_wp2
   go_ret
   exact ⟨rfl, rfl⟩
  ·have hc : 64 ≤ f := by omega
   go_enter Tryz.func184, Tryz.ntmps184
   go_wp2
   go_ret
   exact ⟨rfl, rfl⟩

theorem row_u64 (f n : Nat) (hn : n ≤ 64) (h : f + n ≤ 64) : IntKind.u64.wrap ((18446744073709551615 : Int) / 2 ^ (64 - n) * 2 ^ f) = ((row f n : Nat) : Int) := by
 have a := full_div n (by omega)
 have b : ((18446744073709551615 : Int) / 2 ^ (64 - n) * 2 ^ f) = ((18446744073709551615 / 2 ^ (64 - n) * 2 ^ f : Nat) : Int) := by
  simp
 have c := row_lt64 h
 rw [b, a, IntKind.wrap_u64]
 show (((row f n : Nat) : Int) % 18446744073709551616) = _
 omega

set_option maxRecDepth 100000 in
theorem rowIn_any (f : Nat) (n : Int) (w : World) (hf : f < 64) (h3 : 1 ≤ n) :
  Calls Tryz.prog 184 #[.int .i64 f, .int .i64 n] w fun e w' => e = .returned (.int .u64 (row f (min n.toNat (64 - f)))) ∧ w' = w := by
 by_cases ha : n ≤ 64 - f
 ·have e := row_u64 f n.toNat (by omega) (by omega)
  have e1 : min n.toNat (64 - f) = n.toNat := by omega
  have e2 : 64 - n.toNat = (64 - n).toNat := by omega
  rw [e2] at e
  rw [e1]
  clear e1 e2
  go_enter Tryz.func184, Tryz.ntmps184
  go_wp2
  go_ret
  exact ⟨rfl, rfl⟩
 ·have e := row_u64 f (64 - f) (by omega) (by omega)
  have e1 : min n.toNat (64 - f) = 64 - f := by omega
  rw [e1]
  clear e1
  go_enter Tryz.func184, Tryz.ntmps184
  go_wp2
  go_ret
  exact ⟨rfl, rfl⟩


def IntsAt (n₀ : Nat) (W : World) (sv : Value) (zs : List Int) : Prop :=
 ∃ a cap, sv = .slice a zs.length cap ∧ (zs = [] ∨ ∃ b off, a = some ⟨b, off, none⟩ ∧ b < n₀ ∧ ∀ j, j < zs.length → W.cell? ⟨b, off + j, none⟩ = some (.int .i64 (zs[j]?.getD 0)))



set_option maxRecDepth 100000 in
theorem refOf_some (b off cap : Nat) (zs : List Int) (w : World) (hlen : zs.length ≤ 9223372036854775807) (hc : ∀ j, j < zs.length → w.cell? ⟨b, off + j, none⟩ = some (.int .i64 (zs[j]?.getD 0))) :
  Calls Tryz.prog 90 #[.slice (some ⟨b, off, none⟩) zs.length cap] w fun e w' => e = .returned (.int .u64 (ofL zs)) ∧ w' = w := by
 obtain ⟨len, hl⟩ : ∃ len, zs.length = len := ⟨_, rfl⟩
 rw [hl] at hlen hc ⊢
 go_enter Tryz.func90, Tryz.ntmps90
 go_wp2
 go_loop [3, 8] (fun x i => ∃ k : Nat, k ≤ len ∧ i = .int .i64 k ∧ x = .int .u64 (ofL (zs.take k))) (fun _ i => len - (intOf i).toNat)
 case atStart => exact ⟨0, Nat.zero_le _, rfl, rfl⟩
 case round =>
  obtain ⟨k, hk, rfl, rfl⟩ := hrel
  have hx := ofL_lt (zs.take k)
  by_cases hlt : k < len
  ·have hcx := hc k hlt
   have HS : Hid (ofL (zs.take (k + 1)) = withN (ofL (zs.take k)) (zs[k]?.getD 0)) := by
    rw [List.take_succ_eq_append_getElem (by omega), ofL_snoc]
    congr 1
    simp [hl, hlt]
   clear hc
   go_wp2_with (go_at_call 115; refine (refWith_any _ _ _ hx).mono ?_; rintro e w' ⟨rfl, rfl⟩)
   go_round
   case rel => exact ⟨k + 1, by omega, by go_num, by rw [HS.out]; simp [hl, hlt]⟩
   case measure => simp [intOf]; omega
  ·obtain rfl : k = len := by omega
   go_wp2
   go_ret
   exact ⟨ret_int (by rw [List.take_of_length_le (by omega)]), rfl⟩

set_option maxRecDepth 100000 in
theorem refOf_none (a : Option Addr) (cap : Nat) (w : World) :
  Calls Tryz.prog 90 #[.slice a 0 cap] w fun e w' => e = .returned (.int .u64 0) ∧ w' = w := by
 go_enter Tryz.func90, Tryz.ntmps90
 go_wp2
 go_loop [3, 8] (fun x i => i = .int .i64 0 ∧ x = .int .u64 0) (fun _ _ => 0)
 case atStart => exact ⟨rfl, rfl⟩
 case round =>
  obtain ⟨rfl, rfl⟩ := hrel
  go_wp2
  go_ret
  exact ⟨rfl, rfl⟩

set_option maxRecDepth 100000 in
theorem refOf_any (sv : Value) (zs : List Int) (w : World) (hlen : zs.length ≤ 9223372036854775807) (hI : IntsAt w.heap.size w sv zs) :
  Calls Tryz.prog 90 #[sv] w fun e w' => e = .returned (.int .u64 (ofL zs)) ∧ w' = w := by
 obtain ⟨a, cap, rfl, rfl | ⟨b, off, rfl, hb, hc⟩⟩ := hI
 ·exact refOf_none a cap w
 ·exact refOf_some b off cap zs w hlen hc

end Go.Proofs.YtoaeficfmcncjaaGreat.Span

/-
 The walks of Meet, Overlap and Holds on both sides, and of the small functions that Meet stands on: what each call answers, in the plain words of the Math text.
-/
namespace Go.Proofs.YtoaeficfmcncjaaGreat.Span
open Go.RowKit
open Math


set_option maxRecDepth 100000 in
theorem first_any (o l : Int) (w : World) :
  Calls Tryz.prog 263 #[.agg #[.int .i64 o, .int .i64 l]] w fun e w' => e = .returned (.int .i64 o) ∧ Below w.heap.size w w' := by
 go_enter Tryz.func263, Tryz.ntmps263
 go_wp2
 go_ret
 exact ⟨rfl, below_new _ _⟩

set_option maxRecDepth 100000 in
theorem rowEnd_any (o l : Int) (w : World) :
  Calls Tryz.prog 265 #[.agg #[.int .i64 o, .int .i64 l]] w fun e w' => e = .returned (.int .i64 (endN o l)) ∧ Below w.heap.size w w' := by
 have hb := below_new w (.cells #[.int .i64 o, .int .i64 l] 337)
 go_enter Tryz.func265, Tryz.ntmps265
 go_wp2_with (go_at_call 182; refine (end_any _ _ _).mono ?_; rintro e w1 ⟨rfl, hB⟩)
 go_ret
 exact ⟨rfl, hb.trans (hB.mono hb.size)⟩

set_option maxRecDepth 100000 in
theorem later_any (o l p m : Int) (w : World) :
  Calls Tryz.prog 262 #[.func (.func 263) #[.agg #[.int .i64 o, .int .i64 l]] #[], .func (.func 263) #[.agg #[.int .i64 p, .int .i64 m]] #[]] w fun e w' => e = .returned (.int .i64 (max o p)) ∧ Below w.heap.size w w' := by
 have hb := Below.refl w.heap.size w
 go_enter Tryz.func262, Tryz.ntmps262
 go_wp2_with (go_at_call 263; refine (first_any _ _ _).mono ?_; rintro e w1 ⟨rfl, hB⟩; replace hb := hb.trans (hB.mono hb.size); clear hB)
 all_goals (go_ret; exact ⟨ret_int (by omega), hb⟩)

set_option maxRecDepth 100000 in
theorem earlier_any (o l p m : Int) (w : World) :
  Calls Tryz.prog 264 #[.func (.func 265) #[.agg #[.int .i64 o, .int .i64 l]] #[], .func (.func 265) #[.agg #[.int .i64 p, .int .i64 m]] #[]] w fun e w' => e = .returned (.int .i64 (min (endN o l) (endN p m))) ∧ Below w.heap.size w w' := by
 have hb := Below.refl w.heap.size w
 go_enter Tryz.func264, Tryz.ntmps264
 go_wp2_with (go_at_call 265; refine (rowEnd_any _ _ _).mono ?_; rintro e w1 ⟨rfl, hB⟩; replace hb := hb.trans (hB.mono hb.size); clear hB)
 all_goals (go_ret; exact ⟨ret_int (by omega), hb⟩)

structure Two (w : World) (o l p m : Int) (W : World) : Prop where
 below : Below w.heap.size w W
 room : w.heap.size + 1 + 1 < W.heap.size
 one : Box W w.heap.size (.int .i64 o) (.int .i64 l)
 two : Box W (w.heap.size + 1) (.int .i64 p) (.int .i64 m)
 made : W.heap[w.heap.size + 1 + 1]? = some (.cells #[.int .i64 0, .int .i64 0] 44 (0, 0))
theorem Two.after {w W W' : World} {o l p m : Int} (h : Two w o l p m W) (hB : Below W.heap.size W W') : Two w o l p m W' :=
 have r := h.room
 have g := hB.size
 ⟨h.below.trans (hB.mono h.below.size), by omega, h.one.below hB (by omega), h.two.below hB (by omega), by rw [hB.block _ (by omega)]; exact h.made⟩
theorem Two.drewN {w W : World} {o l p m : Int} (h : Two w o l p m W) (n : Nat) : Two w o l p m (W.drewN n) := ⟨⟨h.below.os, h.below.tape, h.below.output, h.below.size, h.below.block⟩, h.room, h.one, h.two, h.made⟩
theorem two_new (w : World) (o l p m : Int) : Two w o l p m (((w.alloc (.cells #[.int .i64 o, .int .i64 l] 44)).alloc (.cells #[.int .i64 p, .int .i64 m] 44)).alloc (.cells #[.int .i64 0, .int .i64 0] 44)) := by
 have b1 := below_new w (.cells #[.int .i64 o, .int .i64 l] 44)
 have b2 := below_new (w.alloc (.cells #[.int .i64 o, .int .i64 l] 44)) (.cells #[.int .i64 p, .int .i64 m] 44)
 have b3 := below_new ((w.alloc (.cells #[.int .i64 o, .int .i64 l] 44)).alloc (.cells #[.int .i64 p, .int .i64 m] 44)) (.cells #[.int .i64 0, .int .i64 0] 44)
 have x1 := box_new w (.int .i64 o) (.int .i64 l) 44
 have x2 := box_new (w.alloc (.cells #[.int .i64 o, .int .i64 l] 44)) (.int .i64 p) (.int .i64 m) 44
 have s1 : (w.alloc (.cells #[.int .i64 o, .int .i64 l] 44)).heap.size = w.heap.size + 1 := by simp
 have s2 : ((w.alloc (.cells #[.int .i64 o, .int .i64 l] 44)).alloc (.cells #[.int .i64 p, .int .i64 m] 44)).heap.size = w.heap.size + 1 + 1 := by simp
 have m3 := heap_alloc_new ((w.alloc (.cells #[.int .i64 o, .int .i64 l] 44)).alloc (.cells #[.int .i64 p, .int .i64 m] 44)) (.cells #[.int .i64 0, .int .i64 0] 44)
 rw [s2] at m3
 rw [s1] at x2
 exact ⟨(b1.trans (b2.mono (by omega))).trans (b3.mono (by omega)), by simp, (x1.below b2 (by omega)).below b3 (by omega), x2.below b3 (by omega), m3⟩
theorem Two.cells {w W : World} {o l p m : Int} (h : Two w o l p m W) :
  W.cell? ⟨w.heap.size, 0, none⟩ = some (.int .i64 o) ∧ W.cell? ⟨w.heap.size, 1, none⟩ = some (.int .i64 l) ∧ W.cell? ⟨w.heap.size + 1, 0, none⟩ = some (.int .i64 p) ∧ W.cell? ⟨w.heap.size + 1, 1, none⟩ = some (.int .i64 m) ∧
  W.frozen? ⟨w.heap.size + 1 + 1, 0, none⟩ = false ∧ W.frozen? ⟨w.heap.size + 1 + 1, 1, none⟩ = false ∧ W.cell? ⟨w.heap.size + 1 + 1, 0, none⟩ = some (.int .i64 0) ∧ W.cell? ⟨w.heap.size + 1 + 1, 1, none⟩ = some (.int .i64 0) := by
 refine ⟨h.one.1, h.one.2, h.two.1, h.two.2, ?_, ?_, ?_, ?_⟩ <;> simp [World.frozen?, World.cell?, h.made]


theorem ret_span {a b a' b' : Int} {v : Value} (ha : a = a') (hb : b = b') : Ending.returned (.tuple #[.agg #[.int .i64 a, .int .i64 b], v]) = .returned (.tuple #[.agg #[.int .i64 a', .int .i64 b'], v]) := by rw [ha, hb]
theorem set0 {w : World} {b : Nat} {x y u : Value} {t : TypeId} (h : w.heap[b]? = some (.cells #[x, y] t (0, 0))) : (w.setCell ⟨b, 0, none⟩ u).heap[b]? = some (.cells #[u, y] t (0, 0)) := by
 have hlt := lt_of_block h
 have h' : w.heap[b] = .cells #[x, y] t (0, 0) := by simpa [Array.getElem?_eq_getElem hlt] using h
 show (w.heap.modify b _)[b]? = _
 rw [Array.getElem?_eq_getElem (by simpa using hlt), Array.getElem_modify_self, h']
 rfl
theorem set1 {w : World} {b : Nat} {x y u : Value} {t : TypeId} (h : w.heap[b]? = some (.cells #[x, y] t (0, 0))) : (w.setCell ⟨b, 1, none⟩ u).heap[b]? = some (.cells #[x, u] t (0, 0)) := by
 have hlt := lt_of_block h
 have h' : w.heap[b] = .cells #[x, y] t (0, 0) := by simpa [Array.getElem?_eq_getElem hlt] using h
 show (w.heap.modify b _)[b]? = _
 rw [Array.getElem?_eq_getElem (by simpa using hlt), Array.getElem_modify_self, h']
 rfl
set_option maxRecDepth 100000 in
theorem size23 : (Tryz.prog.info? 44).map (·.size) = some 2 := by kernel_rfl
set_option maxRecDepth 100000 in
theorem results_pair {fn : Func} {p u : Tmp} (h : fn.results = #[.cell p 44, .tmp u]) (tmps : Array Value) (w : World) (g : Nat) (a b : Value)
  (hp : tmps.getD p undef = .pointer (some ⟨g, 0, none⟩)) (hg : w.heap[g]? = some (.cells #[a, b] 44 (0, 0))) :
  (results fn tmps).run Tryz.prog w = .ok (.tuple #[.agg #[a, b], tmps.getD u undef]) w := by
 have hl := run_loadVar_row (P := Tryz.prog) w g 44 44 #[a, b] (0, 0) _ hg Tryz.underlying44 (by rfl) size23
 rw [results_cell_tmp h, hp]
 simp [asAddr, hl, Result.andThen]


set_option maxRecDepth 100000 in
set_option maxHeartbeats 1000000 in
theorem meet_notA (o l p m : Int) (w : World) (hp : plain o l = false) :
  Calls Tryz.prog 224 #[.agg #[.int .i64 o, .int .i64 l], .agg #[.int .i64 p, .int .i64 m]] w fun e w' => e = .returned (.tuple #[.agg #[.int .i64 (mOff o l p m), .int .i64 (mLen o l p m)], .bool (over o l p m)]) ∧ Below w.heap.size w w' := by
 have ho : over o l p m = false := over_false (.inl hp)
 rw [mOff_false ho, mLen_false ho, ho]
 have hT := two_new w o l p m
 have pa := plain_any o l
 rw [hp] at pa
 go_enter Tryz.func224, Tryz.ntmps224
 go_wp2_with (first
  | (go_at_call 181; refine (pa _).mono ?_; rintro e w1 ⟨rfl, hB⟩; replace hT := hT.after hB; obtain ⟨c1, c2, c3, c4, c5, c6, c7, c8⟩ := hT.cells; clear pa hB))
 refine bodyPost_ret (results_pair rfl _ _ (w.heap.size + 1 + 1) _ _ rfl (set1 (set0 hT.made))) rfl ⟨rfl, ?_⟩
 exact (hT.below.setCell (by simp; omega) _).setCell (by simp; omega) _

set_option maxRecDepth 100000 in
set_option maxHeartbeats 1000000 in
theorem meet_notB (o l p m : Int) (w : World) (hp : plain o l = true) (hq : plain p m = false) :
  Calls Tryz.prog 224 #[.agg #[.int .i64 o, .int .i64 l], .agg #[.int .i64 p, .int .i64 m]] w fun e w' => e = .returned (.tuple #[.agg #[.int .i64 (mOff o l p m), .int .i64 (mLen o l p m)], .bool (over o l p m)]) ∧ Below w.heap.size w w' := by
 have ho : over o l p m = false := over_false (.inr (.inl hq))
 rw [mOff_false ho, mLen_false ho, ho]
 have hT := two_new w o l p m
 have pa := plain_any o l
 have pb := plain_any p m
 rw [hp] at pa
 rw [hq] at pb
 go_enter Tryz.func224, Tryz.ntmps224
 go_wp2_with (first
  | (go_at_call 181; refine (pa _).mono ?_; rintro e w1 ⟨rfl, hB⟩; replace hT := hT.after hB; obtain ⟨c1, c2, c3, c4, c5, c6, c7, c8⟩ := hT.cells; clear pa hB)
  | (go_at_call 181; refine (pb _).mono ?_; rintro e w1 ⟨rfl, hB⟩; replace hT := hT.after hB; obtain ⟨c1, c2, c3, c4, c5, c6, c7, c8⟩ := hT.cells; clear pb hB))
 refine bodyPost_ret (results_pair rfl _ _ (w.heap.size + 1 + 1) _ _ rfl (set1 (set0 hT.made))) rfl ⟨rfl, ?_⟩
 exact (hT.below.setCell (by simp; omega) _).setCell (by simp; omega) _

set_option maxRecDepth 100000 in
set_option maxHeartbeats 1000000 in
theorem meet_apart (o l p m : Int) (w : World) (hp : plain o l = true) (hq : plain p m = true) (hm : min (o + l) (p + m) ≤ max o p) :
  Calls Tryz.prog 224 #[.agg #[.int .i64 o, .int .i64 l], .agg #[.int .i64 p, .int .i64 m]] w fun e w' => e = .returned (.tuple #[.agg #[.int .i64 (mOff o l p m), .int .i64 (mLen o l p m)], .bool (over o l p m)]) ∧ Below w.heap.size w w' := by
 have ho : over o l p m = false := over_false (.inr (.inr hm))
 rw [mOff_false ho, mLen_false ho, ho]
 have hT := two_new w o l p m
 have pa := plain_any o l
 have pb := plain_any p m
 rw [hp] at pa
 rw [hq] at pb
 have ec := earlier_any o l p m
 rw [show endN o l = o + l from by unfold endN; rw [hp]; rfl, show endN p m = p + m from by unfold endN; rw [hq]; rfl] at ec
 have hpp := of_plain hp
 have hqq := of_plain hq
 clear hp hq ho
 go_enter Tryz.func224, Tryz.ntmps224
 go_wp2_with (first
  | (go_at_call 181; refine (pa _).mono ?_; rintro e w1 ⟨rfl, hB⟩; replace hT := hT.after hB; obtain ⟨c1, c2, c3, c4, c5, c6, c7, c8⟩ := hT.cells; clear pa hB)
  | (go_at_call 181; refine (pb _).mono ?_; rintro e w1 ⟨rfl, hB⟩; replace hT := hT.after hB; obtain ⟨c1, c2, c3, c4, c5, c6, c7, c8⟩ := hT.cells; clear pb hB)
  | (go_at_call 262; refine (later_any _ _ _ _ _).mono ?_; rintro e w1 ⟨rfl, hB⟩; replace hT := hT.after hB; obtain ⟨c1, c2, c3, c4, c5, c6, c7, c8⟩ := hT.cells; clear hB)
  | (go_at_call 264; refine (ec _).mono ?_; rintro e w1 ⟨rfl, hB⟩; replace hT := hT.after hB; obtain ⟨c1, c2, c3, c4, c5, c6, c7, c8⟩ := hT.cells; clear hB))
 refine bodyPost_ret (results_pair rfl _ _ (w.heap.size + 1 + 1) _ _ rfl (set1 (set0 hT.made))) rfl ⟨rfl, ?_⟩
 exact (hT.below.setCell (by simp; omega) _).setCell (by simp; omega) _
set_option maxRecDepth 100000 in
set_option maxHeartbeats 1000000 in
theorem meet_meet (o l p m : Int) (w : World) (hp : plain o l = true) (hq : plain p m = true) (hm : max o p < min (o + l) (p + m)) :
  Calls Tryz.prog 224 #[.agg #[.int .i64 o, .int .i64 l], .agg #[.int .i64 p, .int .i64 m]] w fun e w' => e = .returned (.tuple #[.agg #[.int .i64 (mOff o l p m), .int .i64 (mLen o l p m)], .bool (over o l p m)]) ∧ Below w.heap.size w w' := by
 have ho : over o l p m = true := over_true hp hq hm
 rw [mOff_true ho, mLen_true ho, ho]
 have hT := two_new w o l p m
 have pa := plain_any o l
 have pb := plain_any p m
 rw [hp] at pa
 rw [hq] at pb
 have ec := earlier_any o l p m
 rw [show endN o l = o + l from by unfold endN; rw [hp]; rfl, show endN p m = p + m from by unfold endN; rw [hq]; rfl] at ec
 have hpp := of_plain hp
 have hqq := of_plain hq
 clear hp hq ho
 go_enter Tryz.func224, Tryz.ntmps224
 go_wp2_with (first
  | (go_at_call 181; refine (pa _).mono ?_; rintro e w1 ⟨rfl, hB⟩; replace hT := hT.after hB; obtain ⟨c1, c2, c3, c4, c5, c6, c7, c8⟩ := hT.cells; clear pa hB)
  | (go_at_call 181; refine (pb _).mono ?_; rintro e w1 ⟨rfl, hB⟩; replace hT := hT.after hB; obtain ⟨c1, c2, c3, c4, c5, c6, c7, c8⟩ := hT.cells; clear pb hB)
  | (go_at_call 262; refine (later_any _ _ _ _ _).mono ?_; rintro e w1 ⟨rfl, hB⟩; replace hT := hT.after hB; obtain ⟨c1, c2, c3, c4, c5, c6, c7, c8⟩ := hT.cells; clear hB)
  | (go_at_call 264; refine (ec _).mono ?_; rintro e w1 ⟨rfl, hB⟩; replace hT := hT.after hB; obtain ⟨c1, c2, c3, c4, c5, c6, c7, c8⟩ := hT.cells; clear hB))
 refine bodyPost_ret (results_pair rfl _ _ (w.heap.size + 1 + 1) _ _ rfl (set1 (set0 hT.made))) rfl ⟨rfl, ?_⟩
 exact (hT.below.setCell (by simp; omega) _).setCell (by simp; omega) _
set_option maxRecDepth 100000 in
theorem meet_any (o l p m : Int) (w : World) :
  Calls Tryz.prog 224 #[.agg #[.int .i64 o, .int .i64 l], .agg #[.int .i64 p, .int .i64 m]] w fun e w' => e = .returned (.tuple #[.agg #[.int .i64 (mOff o l p m), .int .i64 (mLen o l p m)], .bool (over o l p m)]) ∧ Below w.heap.size w w' := by
 cases hp : plain o l with
 | false => exact meet_notA o l p m w hp
 | true =>
  cases hq : plain p m with
  | false => exact meet_notB o l p m w hp hq
  | true =>
   by_cases hm : max o p < min (o + l) (p + m)
   ·exact meet_meet o l p m w hp hq hm
   ·exact meet_apart o l p m w hp hq (by omega)

set_option maxRecDepth 100000 in
set_option maxHeartbeats 1000000 in
theorem refMeet_notA (o l p m : Int) (w : World) (hp : plain o l = false) :
  Calls Tryz.prog 121 #[.agg #[.int .i64 o, .int .i64 l], .agg #[.int .i64 p, .int .i64 m]] w fun e w' => e = .returned (.tuple #[.agg #[.int .i64 (mOff o l p m), .int .i64 (mLen o l p m)], .bool (over o l p m)]) ∧ Below w.heap.size w w' := by
 have ho : over o l p m = false := over_false (.inl hp)
 rw [mOff_false ho, mLen_false ho, ho]
 have hT := two_new w o l p m
 have pa := refPlain_any o l
 rw [hp] at pa
 go_enter Tryz.func121, Tryz.ntmps121
 go_wp2_with (first
  | (go_at_call 153; refine (pa _).mono ?_; rintro e w1 ⟨rfl, hB⟩; replace hT := hT.after hB; obtain ⟨c1, c2, c3, c4, c5, c6, c7, c8⟩ := hT.cells; clear pa hB))
 refine bodyPost_ret (results_pair rfl _ _ (w.heap.size + 1 + 1) _ _ rfl (set1 (set0 hT.made))) rfl ⟨rfl, ?_⟩
 exact (hT.below.setCell (by simp; omega) _).setCell (by simp; omega) _

set_option maxRecDepth 100000 in
set_option maxHeartbeats 1000000 in
theorem refMeet_notB (o l p m : Int) (w : World) (hp : plain o l = true) (hq : plain p m = false) :
  Calls Tryz.prog 121 #[.agg #[.int .i64 o, .int .i64 l], .agg #[.int .i64 p, .int .i64 m]] w fun e w' => e = .returned (.tuple #[.agg #[.int .i64 (mOff o l p m), .int .i64 (mLen o l p m)], .bool (over o l p m)]) ∧ Below w.heap.size w w' := by
 have ho : over o l p m = false := over_false (.inr (.inl hq))
 rw [mOff_false ho, mLen_false ho, ho]
 have hT := two_new w o l p m
 have pa := refPlain_any o l
 have pb := refPlain_any p m
 rw [hp] at pa
 rw [hq] at pb
 go_enter Tryz.func121, Tryz.ntmps121
 go_wp2_with (first
  | (go_at_call 153; refine (pa _).mono ?_; rintro e w1 ⟨rfl, hB⟩; replace hT := hT.after hB; obtain ⟨c1, c2, c3, c4, c5, c6, c7, c8⟩ := hT.cells; clear pa hB)
  | (go_at_call 153; refine (pb _).mono ?_; rintro e w1 ⟨rfl, hB⟩; replace hT := hT.after hB; obtain ⟨c1, c2, c3, c4, c5, c6, c7, c8⟩ := hT.cells; clear pb hB))
 refine bodyPost_ret (results_pair rfl _ _ (w.heap.size + 1 + 1) _ _ rfl (set1 (set0 hT.made))) rfl ⟨rfl, ?_⟩
 exact (hT.below.setCell (by simp; omega) _).setCell (by simp; omega) _

set_option maxRecDepth 100000 in
set_option maxHeartbeats 1000000 in
theorem refMeet_apart (o l p m : Int) (w : World) (hp : plain o l = true) (hq : plain p m = true) (hm : min (o + l) (p + m) ≤ max o p) :
  Calls Tryz.prog 121 #[.agg #[.int .i64 o, .int .i64 l], .agg #[.int .i64 p, .int .i64 m]] w fun e w' => e = .returned (.tuple #[.agg #[.int .i64 (mOff o l p m), .int .i64 (mLen o l p m)], .bool (over o l p m)]) ∧ Below w.heap.size w w' := by
 have ho : over o l p m = false := over_false (.inr (.inr hm))
 rw [mOff_false ho, mLen_false ho, ho]
 have hT := two_new w o l p m
 have pa := refPlain_any o l
 have pb := refPlain_any p m
 rw [hp] at pa
 rw [hq] at pb
 have hpp := of_plain hp
 have hqq := of_plain hq
 clear hp hq ho
 go_enter Tryz.func121, Tryz.ntmps121
 go_wp2_with (first
  | (go_at_call 153; refine (pa _).mono ?_; rintro e w1 ⟨rfl, hB⟩; replace hT := hT.after hB; obtain ⟨c1, c2, c3, c4, c5, c6, c7, c8⟩ := hT.cells; clear pa hB)
  | (go_at_call 153; refine (pb _).mono ?_; rintro e w1 ⟨rfl, hB⟩; replace hT := hT.after hB; obtain ⟨c1, c2, c3, c4, c5, c6, c7, c8⟩ := hT.cells; clear pb hB))
 go_quiet (fail)
 replace hT := hT.drewN nq
 go_wp2
 all_goals
  refine bodyPost_ret (results_pair rfl _ _ (w.heap.size + 1 + 1) _ _ rfl (set1 (set0 hT.made))) rfl ⟨?_, ?_⟩
  ·exact ret_span (by omega) (by omega)
  ·exact (hT.below.setCell (by simp; omega) _).setCell (by simp; omega) _
set_option maxRecDepth 100000 in
set_option maxHeartbeats 1000000 in
theorem refMeet_meet (o l p m : Int) (w : World) (hp : plain o l = true) (hq : plain p m = true) (hm : max o p < min (o + l) (p + m)) :
  Calls Tryz.prog 121 #[.agg #[.int .i64 o, .int .i64 l], .agg #[.int .i64 p, .int .i64 m]] w fun e w' => e = .returned (.tuple #[.agg #[.int .i64 (mOff o l p m), .int .i64 (mLen o l p m)], .bool (over o l p m)]) ∧ Below w.heap.size w w' := by
 have ho : over o l p m = true := over_true hp hq hm
 rw [mOff_true ho, mLen_true ho, ho]
 have hT := two_new w o l p m
 have pa := refPlain_any o l
 have pb := refPlain_any p m
 rw [hp] at pa
 rw [hq] at pb
 have hpp := of_plain hp
 have hqq := of_plain hq
 clear hp hq ho
 go_enter Tryz.func121, Tryz.ntmps121
 go_wp2_with (first
  | (go_at_call 153; refine (pa _).mono ?_; rintro e w1 ⟨rfl, hB⟩; replace hT := hT.after hB; obtain ⟨c1, c2, c3, c4, c5, c6, c7, c8⟩ := hT.cells; clear pa hB)
  | (go_at_call 153; refine (pb _).mono ?_; rintro e w1 ⟨rfl, hB⟩; replace hT := hT.after hB; obtain ⟨c1, c2, c3, c4, c5, c6, c7, c8⟩ := hT.cells; clear pb hB))
 go_quiet (fail)
 replace hT := hT.drewN nq
 go_wp2
 all_goals
  refine bodyPost_ret (results_pair rfl _ _ (w.heap.size + 1 + 1) _ _ rfl (set1 (set0 hT.made))) rfl ⟨?_, ?_⟩
  ·exact ret_span (by omega) (by omega)
  ·exact (hT.below.setCell (by simp; omega) _).setCell (by simp; omega) _
set_option maxRecDepth 100000 in
theorem refMeet_any (o l p m : Int) (w : World) :
  Calls Tryz.prog 121 #[.agg #[.int .i64 o, .int .i64 l], .agg #[.int .i64 p, .int .i64 m]] w fun e w' => e = .returned (.tuple #[.agg #[.int .i64 (mOff o l p m), .int .i64 (mLen o l p m)], .bool (over o l p m)]) ∧ Below w.heap.size w w' := by
 cases hp : plain o l with
 | false => exact refMeet_notA o l p m w hp
 | true =>
  cases hq : plain p m with
  | false => exact refMeet_notB o l p m w hp hq
  | true =>
   by_cases hm : max o p < min (o + l) (p + m)
   ·exact refMeet_meet o l p m w hp hq hm
   ·exact refMeet_apart o l p m w hp hq (by omega)

end Go.Proofs.YtoaeficfmcncjaaGreat.Span

/-
 The walks of Overlap, Holds, Whole and Extents on both sides: what each call answers, in the plain words of the Math text.
-/
namespace Go.Proofs.YtoaeficfmcncjaaGreat.Span
open Go.RowKit
open Math

structure Pair (w : World) (o l p m : Int) (W : World) : Prop where
 below : Below w.heap.size w W
 room : w.heap.size + 1 < W.heap.size
 one : Box W w.heap.size (.int .i64 o) (.int .i64 l)
 two : Box W (w.heap.size + 1) (.int .i64 p) (.int .i64 m)
theorem Pair.after {w W W' : World} {o l p m : Int} (h : Pair w o l p m W) (hB : Below W.heap.size W W') : Pair w o l p m W' :=
 have r := h.room
 have g := hB.size
 ⟨h.below.trans (hB.mono h.below.size), by omega, h.one.below hB (by omega), h.two.below hB (by omega)⟩
theorem pair_new (w : World) (o l p m : Int) : Pair w o l p m ((w.alloc (.cells #[.int .i64 o, .int .i64 l] 44)).alloc (.cells #[.int .i64 p, .int .i64 m] 44)) := by
 have b1 := below_new w (.cells #[.int .i64 o, .int .i64 l] 44)
 have b2 := below_new (w.alloc (.cells #[.int .i64 o, .int .i64 l] 44)) (.cells #[.int .i64 p, .int .i64 m] 44)
 have x1 := box_new w (.int .i64 o) (.int .i64 l) 44
 have x2 := box_new (w.alloc (.cells #[.int .i64 o, .int .i64 l] 44)) (.int .i64 p) (.int .i64 m) 44
 have s1 : (w.alloc (.cells #[.int .i64 o, .int .i64 l] 44)).heap.size = w.heap.size + 1 := by simp
 rw [s1] at x2
 exact ⟨b1.trans (b2.mono (by omega)), by simp, x1.below b2 (by omega), x2⟩
theorem Pair.cells {w W : World} {o l p m : Int} (h : Pair w o l p m W) :
  W.cell? ⟨w.heap.size, 0, none⟩ = some (.int .i64 o) ∧ W.cell? ⟨w.heap.size, 1, none⟩ = some (.int .i64 l) ∧ W.cell? ⟨w.heap.size + 1, 0, none⟩ = some (.int .i64 p) ∧ W.cell? ⟨w.heap.size + 1, 1, none⟩ = some (.int .i64 m) :=
 ⟨h.one.1, h.one.2, h.two.1, h.two.2⟩

set_option maxRecDepth 100000 in
theorem overlap_any (o l p m : Int) (w : World) :
  Calls Tryz.prog 178 #[.agg #[.int .i64 o, .int .i64 l], .agg #[.int .i64 p, .int .i64 m]] w fun e w' => e = .returned (.bool (over o l p m)) ∧ Below w.heap.size w w' := by
 have hP := pair_new w o l p m
 go_enter Tryz.func178, Tryz.ntmps178
 go_wp2_with (go_at_call 224; refine (meet_any _ _ _ _ _).mono ?_; rintro e w1 ⟨rfl, hB⟩; replace hP := hP.after hB; clear hB)
 go_ret
 exact ⟨rfl, hP.below.alloc (by have := hP.room; omega) _⟩

set_option maxRecDepth 100000 in
theorem refOverlap_any (o l p m : Int) (w : World) :
  Calls Tryz.prog 64 #[.agg #[.int .i64 o, .int .i64 l], .agg #[.int .i64 p, .int .i64 m]] w fun e w' => e = .returned (.bool (over o l p m)) ∧ Below w.heap.size w w' := by
 have hP := pair_new w o l p m
 go_enter Tryz.func64, Tryz.ntmps64
 go_wp2_with (go_at_call 121; refine (refMeet_any _ _ _ _ _).mono ?_; rintro e w1 ⟨rfl, hB⟩; replace hP := hP.after hB; clear hB)
 go_ret
 exact ⟨rfl, hP.below.alloc (by have := hP.room; omega) _⟩

set_option maxRecDepth 100000 in
theorem holds_any (o l p m : Int) (w : World) :
  Calls Tryz.prog 250 #[.agg #[.int .i64 o, .int .i64 l], .agg #[.int .i64 p, .int .i64 m]] w fun e w' => e = .returned (.bool (holds o l p m)) ∧ Below w.heap.size w w' := by
 have hP := pair_new w o l p m
 have mc := meet_any o l p m
 cases ho : over o l p m with
 | false =>
  rw [ho] at mc
  have hh : holds o l p m = false := by unfold holds; rw [ho]; rfl
  rw [hh]
  go_enter Tryz.func250, Tryz.ntmps250
  go_wp2_with (go_at_call 224; refine (mc _).mono ?_; rintro e w1 ⟨rfl, hB⟩; replace hP := hP.after hB; obtain ⟨c1, c2, c3, c4⟩ := hP.cells; clear hB)
  go_ret
  exact ⟨rfl, hP.below.alloc (by have := hP.room; omega) _⟩
 | true =>
  rw [ho] at mc
  have hh : holds o l p m = (mOff o l p m == p && mLen o l p m == m) := by unfold holds; rw [ho]; rfl
  rw [hh]
  go_enter Tryz.func250, Tryz.ntmps250
  go_wp2_with (go_at_call 224; refine (mc _).mono ?_; rintro e w1 ⟨rfl, hB⟩; replace hP := hP.after hB; have hr := hP.room; have d3 := fun x => (hP.after (below_new w1 x)).cells.2.2.1; have d4 := fun x => (hP.after (below_new w1 x)).cells.2.2.2; clear hB)
  all_goals (go_ret; refine ⟨ret_bool ?_, hP.below.alloc (by omega) _⟩; clear mc d3 d4; simp [*])


def wOff (e : Int) : Int := if 0 ≤ e ∧ e ≤ 63 then 4 * e else 0
def wLen (e : Int) : Int := if 0 ≤ e ∧ e ≤ 63 then 4 else 0
theorem wOff_in {e : Int} (h : 0 ≤ e) (h' : e ≤ 63) : wOff e = 4 * e := if_pos ⟨h, h'⟩
theorem wLen_in {e : Int} (h : 0 ≤ e) (h' : e ≤ 63) : wLen e = 4 := if_pos ⟨h, h'⟩
theorem wOff_out {e : Int} (h : e < 0 ∨ 63 < e) : wOff e = 0 := if_neg (by omega)
theorem wLen_out {e : Int} (h : e < 0 ∨ 63 < e) : wLen e = 0 := if_neg (by omega)

set_option maxRecDepth 100000 in
theorem refWhole_any (e : Int) (w : World) :
  Calls Tryz.prog 89 #[.int .i64 e] w fun x w' => x = .returned (.agg #[.int .i64 (wOff e), .int .i64 (wLen e)]) ∧ Below w.heap.size w w' := by
 by_cases h1 : e < 0
 ·rw [wOff_out (.inl h1), wLen_out (.inl h1)]
  go_enter Tryz.func89, Tryz.ntmps89
  go_wp2
  refine bodyPost_ret (results_cell_row rfl _ _ w.heap.size 44 #[_, _] (0, 0) _ rfl (heap_alloc_new w _) Tryz.underlying44 rfl size23) rfl ⟨rfl, below_new w _⟩
 ·by_cases h2 : 63 < e
  ·rw [wOff_out (.inr h2), wLen_out (.inr h2)]
   go_enter Tryz.func89, Tryz.ntmps89
   go_wp2
   refine bodyPost_ret (results_cell_row rfl _ _ w.heap.size 44 #[_, _] (0, 0) _ rfl (heap_alloc_new w _) Tryz.underlying44 rfl size23) rfl ⟨rfl, below_new w _⟩
  ·rw [wOff_in (by omega) (by omega), wLen_in (by omega) (by omega)]
   go_enter Tryz.func89, Tryz.ntmps89
   go_wp2
   refine bodyPost_ret (results_cell_row rfl _ _ w.heap.size 44 #[_, _] (0, 0) _ rfl (heap_alloc_new w _) Tryz.underlying44 rfl size23) rfl ⟨rfl, below_new w _⟩

set_option maxRecDepth 100000 in
theorem row_ext {o l : Int} (h : plain o l = true) (hl : 1 ≤ l) (w : World) :
  Calls Tryz.prog 184 #[.int .i64 (o / 4), .int .i64 ((o + l - 1) / 4 - o / 4 + 1)] w fun e w' => e = .returned (.int .u64 (ext o l)) ∧ w' = w := by
 have hp := of_plain h
 by_cases ho : o < 256
 ·have q := rowIn_any (o / 4).toNat ((o + l - 1) / 4 - o / 4 + 1) w (by omega) (by omega)
  rw [show (((o / 4).toNat : Nat) : Int) = o / 4 from by omega, ← ext_row h hl ho] at q
  exact q
 ·have q := rowOut_any (o / 4) ((o + l - 1) / 4 - o / 4 + 1) w (by omega)
  rw [ext_zero (.inr (.inr (by omega)))]
  exact q

set_option maxRecDepth 100000 in
theorem extents_any (o l : Int) (w : World) :
  Calls Tryz.prog 128 #[.agg #[.int .i64 o, .int .i64 l]] w fun e w' => e = .returned (.int .u64 (ext o l)) ∧ Below w.heap.size w w' := by
 have hb := below_new w (.cells #[.int .i64 o, .int .i64 l] 44)
 have hx := box_new w (.int .i64 o) (.int .i64 l) 44
 have pc := plain_any o l
 cases hp : plain o l with
 | false =>
  rw [hp] at pc
  rw [ext_zero (.inl hp)]
  go_enter Tryz.func128, Tryz.ntmps128
  go_wp2_with (go_at_call 181; refine (pc _).mono ?_; rintro e w1 ⟨rfl, hB⟩; replace hb := hb.trans (hB.mono hb.size))
  go_ret
  exact ⟨rfl, hb⟩
 | true =>
  rw [hp] at pc
  have hq := of_plain hp
  by_cases hl : l = 0
  ·subst hl
   have hz : ext o 0 = 0 := ext_zero (.inr (.inl (by omega)))
   rw [hz]
   go_enter Tryz.func128, Tryz.ntmps128
   go_wp2_with (go_at_call 181; refine (pc _).mono ?_; rintro e w1 ⟨rfl, hB⟩; obtain ⟨c1, c2⟩ := hx.below hB (by simp); replace hb := hb.trans (hB.mono hb.size))
   go_ret
   exact ⟨rfl, hb⟩
  ·have rc := fun w' => row_ext hp (by omega) w'
   have ec := end_any o l
   rw [show endN o l = o + l from by unfold endN; rw [hp]; rfl] at ec
   clear hp
   go_enter Tryz.func128, Tryz.ntmps128
   go_wp2_with (first
    | (go_at_call 181; refine (pc _).mono ?_; rintro e w1 ⟨rfl, hB⟩; replace hx := hx.below hB (by simp); obtain ⟨c1, c2⟩ := hx; replace hb := hb.trans (hB.mono hb.size); clear hB)
    | (go_at_call 182; refine (ec _).mono ?_; rintro e w1 ⟨rfl, hB⟩; replace hb := hb.trans (hB.mono hb.size); clear hB)
    | (go_at_call 184; refine (rc _).mono ?_; rintro e w1 ⟨rfl, rfl⟩))
   go_ret
   exact ⟨rfl, hb⟩

end Go.Proofs.YtoaeficfmcncjaaGreat.Span

/-
 The walks of the document's Extents and of the law's own small test: what each call answers, in the plain words of the Math text.
-/
namespace Go.Proofs.YtoaeficfmcncjaaGreat.Span
open Go.RowKit
open Math

def enc (i : Nat) : Value := .int .i64 (i : Int)

set_option maxRecDepth 100000 in
theorem Tryz.info3 : (Tryz.prog.info? 3).map (fun i => (i.zero, i.size, i.bytes)) = some (some (.int .i64 0), 1, 8) := by kernel_rfl

theorem below_append {w W w1 : World} {n₀ : Nat} {e : TypeId} {size k : Nat} {v : Value} {xs : List Value} {tmp : Obj} (hn : n₀ ≤ w.heap.size) (hB : Below n₀ w W) (hrow : W.ownsRow n₀ e size v k xs) (hgrow : (W.alloc tmp).grownBy w1 v.ownBlock) : Below n₀ w w1 := by
 have hsz := hB.size
 refine (hB.alloc (by omega) tmp).grown hgrow (by simp; omega) fun j ej => ?_
 rcases hrow.2 with ⟨rfl, _⟩ | ⟨g, cap, cur, rfl, hb, _, _⟩
 ·simp [Value.ownBlock] at ej
 ·obtain rfl : g = j := by simpa [Value.ownBlock] using ej
  exact hb

theorem intsAt_of_owns {W : World} {base : Nat} {v : Value} {l : List Nat} (h : W.ownsRow base 3 1 v l.length (l.map enc)) : IntsAt W.heap.size W v (l.map Int.ofNat) := by
 obtain ⟨_, ⟨rfl, h0⟩ | ⟨g, cap, cur, rfl, hb, hg, h1, h2, h3, h4⟩⟩ := h
 ·have : l = [] := by simpa using h0
  subst this
  exact ⟨none, 0, rfl, .inl rfl⟩
 ·refine ⟨some ⟨g, 0, none⟩, cap, by simp, .inr ⟨g, 0, rfl, (Array.getElem?_eq_some_iff.1 hg).1, fun j hj => ?_⟩⟩
  have hj' : j < l.length := by simpa using hj
  have e : cur.toList[j]? = some (enc l[j]) := by
   have := congrArg (fun t => t[j]?) h4
   simp [hj'] at this
   simpa using this
  simp [World.cell?, hg]
  rw [Array.getElem?_toList] at e
  rw [e]
  simp [enc, hj']

theorem owns_after {W W' : World} {base : Nat} {e : TypeId} {size : Nat} {v : Value} {n : Nat} {xs : List Value} (h : W.ownsRow base e size v n xs) (hB : Below W.heap.size W W') : W'.ownsRow base e size v n xs := by
 obtain ⟨h0, h | ⟨g, cap, cur, hv, hb, hg, r⟩⟩ := h
 ·exact ⟨h0, .inl h⟩
 ·exact ⟨h0, .inr ⟨g, cap, cur, hv, hb, (hB.block g (lt_of_block hg)).trans hg, r⟩⟩

set_option maxRecDepth 100000 in
set_option maxHeartbeats 1000000 in
theorem refExtents_any (o l : Int) (w : World) :
  Calls Tryz.prog 39 #[.agg #[.int .i64 o, .int .i64 l]] w fun e w' => e = .returned (.int .u64 (ext o l)) ∧ Below w.heap.size w w' := by
 have hb := below_new w (.cells #[.int .i64 o, .int .i64 l] 44)
 have hx := box_new w (.int .i64 o) (.int .i64 l) 44
 obtain ⟨i0, hi, hz0, hz1, hz2⟩ := info_parts Tryz.info3
 go_enter Tryz.func39, Tryz.ntmps39
 go_wp2
 go_loopw [3, 4] (fun v i wr => ∃ k : Nat, k ≤ 64 ∧ i = .int .i64 k ∧ wr.ownsRow (w.heap.size + 1) 3 1 v (hits o l k).length ((hits o l k).map enc) ∧ Below (w.heap.size + 1) (w.alloc (.cells #[.int .i64 o, .int .i64 l] 44)) wr) (fun _ i _ => 64 - (intOf i).toNat)
 case atStart => exact ⟨0, by omega, rfl, World.ownsRow_nil _ _ _ _, Below.refl _ _⟩
 case round =>
  obtain ⟨k, hk, rfl, hown, hB⟩ := hrel
  have hll := hits_len o l k
  by_cases hlt : k < 64
  ·have wc := refWhole_any (k : Int)
   rw [wOff_in (by omega) (by omega), wLen_in (by omega) (by omega)] at wc
   have oc := refOverlap_any o l (4 * (k : Int)) 4
   have hsn := hits_succ o l k
   obtain ⟨d1, d2⟩ := hx.below hB (by simp)
   cases hh : hit o l k with
   | true =>
    rw [show over o l (4 * (k : Int)) 4 = true from hh] at oc
    rw [hh] at hsn
    have hsn' : hits o l (k + 1) = hits o l k ++ [k] := by simpa using hsn
    have HS : Hid (hits o l (k + 1) = hits o l k ++ [k]) := hsn'
    clear hsn' hsn hh
    go_upto_region 5 with fail
    go_cut [12] from 5 to 16 (fun r W => r = .bool true ∧ W.ownsRow (w.heap.size + 1) 3 1 u3 (hits o l k).length ((hits o l k).map enc) ∧ Below (w.heap.size + 1) (w.alloc (.cells #[.int .i64 o, .int .i64 l] 44)) W)
    case first =>
     have hR := Below.refl wr.heap.size wr
     go_region_with (first
      | (go_at_call 89; refine (wc _).mono ?_; rintro e w1 ⟨rfl, hC⟩; have hR' : Below wr.heap.size wr w1 := (by first | exact hR.trans (hC.mono hR.size) | exact hR.drew.trans (hC.mono hR.size)); replace hR := hR'; clear hR' hC; obtain ⟨c1, c2⟩ := (hx.below hB (by simp)).below hR (by have := hB.size; simp at this ⊢; omega))
      | (go_at_call 64; refine (oc _).mono ?_; rintro e w1 ⟨rfl, hC⟩; have hR' : Below wr.heap.size wr w1 := (by first | exact hR.trans (hC.mono hR.size) | exact hR.drew.trans (hC.mono hR.size)); replace hR := hR'; clear hR' hC; obtain ⟨c1, c2⟩ := (hx.below hB (by simp)).below hR (by have := hB.size; simp at this ⊢; omega)))
     all_goals (try go_wp2_with fail)
     all_goals go_meet
     all_goals exact ⟨rfl, owns_after hown hR, hB.trans (hR.mono (by have := hB.size; simp at this; omega))⟩
    case rest =>
     obtain ⟨rfl, hown', hB'⟩ := hcut
     go_wp2_with (first
      | (at_builtin; refine wpList_append_own _ rfl _ _ 85 rfl (w.heap.size + 1) 3 i0 (.int .i64 0) 1 8 Tryz.underlying85 hi hz0 hz1 hz2 rfl (by decide) _ _ _ rfl (hown'.alloc _) ⟨World.heap _ |>.size, 0, none⟩ 1 1 [.int .i64 k] rfl rfl ?c1 ?c2 ?c3 ?c4 ?c5 ?_)
      | go_in)
     case c1 => exact cell_one_new _ _ _
     case c2 => intro u hu; simp at hu; subst hu; rfl
     case c3 => unfold maxLen; omega
     case c4 => omega
     case c5 => have := hB'.size; simp at this ⊢; omega
     intro v' w1 hown1 hgrow _
     have hB1 := below_append (by simp) hB' hown' hgrow
     have hr1 : w1.ownsRow (w.heap.size + 1) 3 1 v' (hits o l (k + 1)).length ((hits o l (k + 1)).map enc) := by
      rw [HS.out, List.length_append, List.map_append]; exact hown1
     clear hown1 hgrow hown' HS
     go_wp2
     go_roundw
     case rel => exact ⟨k + 1, by omega, by go_num, hr1, hB1⟩
     case measure => simp [intOf]; omega
   | false =>
    rw [show over o l (4 * (k : Int)) 4 = false from hh] at oc
    rw [hh] at hsn
    have hsn' : hits o l (k + 1) = hits o l k := by simpa using hsn
    have HS : Hid (hits o l (k + 1) = hits o l k) := hsn'
    clear hsn' hsn hh
    go_upto_region 5 with fail
    go_cut [12] from 5 to 16 (fun r W => r = .bool false ∧ W.ownsRow (w.heap.size + 1) 3 1 u3 (hits o l k).length ((hits o l k).map enc) ∧ Below (w.heap.size + 1) (w.alloc (.cells #[.int .i64 o, .int .i64 l] 44)) W)
    case first =>
     have hR := Below.refl wr.heap.size wr
     go_region_with (first
      | (go_at_call 89; refine (wc _).mono ?_; rintro e w1 ⟨rfl, hC⟩; have hR' : Below wr.heap.size wr w1 := (by first | exact hR.trans (hC.mono hR.size) | exact hR.drew.trans (hC.mono hR.size)); replace hR := hR'; clear hR' hC; obtain ⟨c1, c2⟩ := (hx.below hB (by simp)).below hR (by have := hB.size; simp at this ⊢; omega))
      | (go_at_call 64; refine (oc _).mono ?_; rintro e w1 ⟨rfl, hC⟩; have hR' : Below wr.heap.size wr w1 := (by first | exact hR.trans (hC.mono hR.size) | exact hR.drew.trans (hC.mono hR.size)); replace hR := hR'; clear hR' hC; obtain ⟨c1, c2⟩ := (hx.below hB (by simp)).below hR (by have := hB.size; simp at this ⊢; omega)))
     all_goals (try go_wp2_with fail)
     all_goals go_meet
     all_goals exact ⟨rfl, owns_after hown hR, hB.trans (hR.mono (by have := hB.size; simp at this; omega))⟩
    case rest =>
     obtain ⟨rfl, hown', hB'⟩ := hcut
     go_wp2
     go_roundw
     case rel => exact ⟨k + 1, by omega, by go_num, by rw [HS.out]; exact hown', hB'⟩
     case measure => simp [intOf]; omega
  ·obtain rfl : k = 64 := by omega
   have hI := intsAt_of_owns hown
   have fc := refOf_any u3 _ wr (by simp; omega) hI
   go_wp2_with (go_at_call 90; refine fc.mono ?_; rintro e w1 ⟨rfl, rfl⟩)
   go_ret
   exact ⟨rfl, hb.trans (hB.mono (Nat.le_succ _))⟩

end Go.Proofs.YtoaeficfmcncjaaGreat.Span

