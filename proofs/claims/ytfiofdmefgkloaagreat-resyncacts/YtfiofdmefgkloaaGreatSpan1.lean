/-
  Texts of ours, joined: SpanA, SpanB, SpanC, SpanD.
-/
import Derived.Test.YtfiofdmefgkloaaGreatProg
import Derived.Test.YtfiofdmefgkloaaGreatSpanMath
import Derived.WalkKit
import Derived.WalkSpells
import Derived.WalkLawsBesides
import Derived.Laws.BitsAllLaws
import Derived.Laws.ShiftsVarLaws
import Derived.Below
import Derived.LoopTactic
import Derived.WalkSmall
import Derived.Laws.ResultCell
import Derived.Laws.Rows
import Derived.Deep.QuietTactic
import Derived.BigQuiet
import Derived.RegionTactic
import Derived.Maps.AppendAt
import Derived.Deep.RegionWith
import Derived.Deep.CutRange
/-
  The walks of Plain, End and Good, of Row, and of the document's Of and what it stands on: what each call answers, in the plain words of the Math text.
-/
namespace Go.Proofs.YtfiofdmefgkloaaGreat.Span
open Go.RowKit
open Math

theorem below_new (w : World) (o : Obj) : Below w.heap.size w (w.alloc o) := (Below.refl _ _).alloc (Nat.le_refl _) _
/-- A struct of two fields lies at block n, below the fence. -/
def Box (W : World) (n : Nat) (a b : Value) : Prop := W.cell? ⟨n, 0, none⟩ = some a ∧ W.cell? ⟨n, 1, none⟩ = some b
theorem box_new (w : World) (a b : Value) (t : TypeId) : Box (w.alloc (.cells #[a, b] t)) w.heap.size a b := by
  exact ⟨cell_two_new w a b t 0 a rfl, cell_two_new w a b t 1 b rfl⟩
theorem Box.below {W W' : World} {n m : Nat} {a b : Value} (h : Box W n a b) (hB : Below m W W') (hn : n < m) : Box W' n a b :=
  ⟨(hB.cell (p := ⟨n, 0, none⟩) hn).trans h.1, (hB.cell (p := ⟨n, 1, none⟩) hn).trans h.2⟩

set_option maxRecDepth 100000 in
/-- span.Plain -/
theorem plain_any (o l : Int) (w : World) :
    Calls Tryz.prog 173 #[.agg #[.int .i64 o, .int .i64 l]] w fun e w' => e = .returned (.bool (plain o l)) ∧ Below w.heap.size w w' := by
  by_cases h1 : 0 ≤ o
  · by_cases h2 : o ≤ 1073741824
    · by_cases h3 : 0 ≤ l
      · by_cases h4 : l ≤ 1073741824
        · rw [plain_of ⟨h1, h2, h3, h4⟩]
          go_enter Tryz.func173, Tryz.ntmps173
          go_wp2
          go_ret
          exact ⟨rfl, below_new _ _⟩
        · rw [plain_not (by omega)]
          go_enter Tryz.func173, Tryz.ntmps173
          go_wp2
          go_ret
          exact ⟨rfl, below_new _ _⟩
      · rw [plain_not (by omega)]
        go_enter Tryz.func173, Tryz.ntmps173
        go_wp2
        go_ret
        exact ⟨rfl, below_new _ _⟩
    · rw [plain_not (by omega)]
      go_enter Tryz.func173, Tryz.ntmps173
      go_wp2
      go_ret
      exact ⟨rfl, below_new _ _⟩
  · rw [plain_not (by omega)]
    go_enter Tryz.func173, Tryz.ntmps173
    go_wp2
    go_ret
    exact ⟨rfl, below_new _ _⟩

set_option maxRecDepth 100000 in
/-- twainref04.Plain -/
theorem refPlain_any (o l : Int) (w : World) :
    Calls Tryz.prog 149 #[.agg #[.int .i64 o, .int .i64 l]] w fun e w' => e = .returned (.bool (plain o l)) ∧ Below w.heap.size w w' := by
  by_cases h1 : 0 ≤ o
  · by_cases h2 : o ≤ 1073741824
    · by_cases h3 : 0 ≤ l
      · by_cases h4 : l ≤ 1073741824
        · rw [plain_of ⟨h1, h2, h3, h4⟩]
          go_enter Tryz.func149, Tryz.ntmps149
          go_wp2
          go_ret
          exact ⟨rfl, below_new _ _⟩
        · rw [plain_not (by omega)]
          go_enter Tryz.func149, Tryz.ntmps149
          go_wp2
          go_ret
          exact ⟨rfl, below_new _ _⟩
      · rw [plain_not (by omega)]
        go_enter Tryz.func149, Tryz.ntmps149
        go_wp2
        go_ret
        exact ⟨rfl, below_new _ _⟩
    · rw [plain_not (by omega)]
      go_enter Tryz.func149, Tryz.ntmps149
      go_wp2
      go_ret
      exact ⟨rfl, below_new _ _⟩
  · rw [plain_not (by omega)]
    go_enter Tryz.func149, Tryz.ntmps149
    go_wp2
    go_ret
    exact ⟨rfl, below_new _ _⟩

set_option maxRecDepth 100000 in
/-- span.End -/
theorem end_any (o l : Int) (w : World) :
    Calls Tryz.prog 174 #[.agg #[.int .i64 o, .int .i64 l]] w fun e w' => e = .returned (.int .i64 (endN o l)) ∧ Below w.heap.size w w' := by
  have hb := below_new w (.cells #[.int .i64 o, .int .i64 l] 127)
  have hx := box_new w (.int .i64 o) (.int .i64 l) 127
  cases hp : plain o l with
  | false =>
    have he : endN o l = 0 := by unfold endN; rw [hp]; rfl
    rw [he]
    go_enter Tryz.func174, Tryz.ntmps174
    go_wp2_with (go_at_call 173; refine (plain_any _ _ _).mono ?_; rw [hp]; rintro e w1 ⟨rfl, hB⟩)
    go_ret
    exact ⟨rfl, hb.trans (hB.mono hb.size)⟩
  | true =>
    have he : endN o l = o + l := by unfold endN; rw [hp]; rfl
    rw [he]
    have hq := of_plain hp
    go_enter Tryz.func174, Tryz.ntmps174
    go_wp2_with (go_at_call 173; refine (plain_any _ _ _).mono ?_; rw [hp]; rintro e w1 ⟨rfl, hB⟩; obtain ⟨hx0, hx1⟩ := hx.below hB (by simp))
    go_ret
    exact ⟨rfl, hb.trans (hB.mono hb.size)⟩

set_option maxRecDepth 100000 in
/-- span.Good -/
theorem good_any (o l n : Int) (w : World) :
    Calls Tryz.prog 146 #[.agg #[.int .i64 o, .int .i64 l], .int .i64 n] w fun e w' => e = .returned (.bool (good o l n)) ∧ Below w.heap.size w w' := by
  have hb := below_new w (.cells #[.int .i64 o, .int .i64 l] 127)
  have hx := box_new w (.int .i64 o) (.int .i64 l) 127
  cases hp : plain o l with
  | false =>
    have hg : good o l n = false := by unfold good; rw [hp]; rfl
    rw [hg]
    go_enter Tryz.func146, Tryz.ntmps146
    go_wp2_with (go_at_call 173; refine (plain_any _ _ _).mono ?_; rw [hp]; rintro e w1 ⟨rfl, hB⟩; obtain ⟨hx0, hx1⟩ := hx.below hB (by simp); replace hb := hb.trans (hB.mono hb.size))
    go_ret
    exact ⟨rfl, hb⟩
  | true =>
    have hq := of_plain hp
    have he : endN o l = o + l := by unfold endN; rw [hp]; rfl
    by_cases h1 : 1 ≤ l
    · have hg : good o l n = decide (o + l ≤ n) := by unfold good; rw [hp]; simp [h1]
      rw [hg]
      go_enter Tryz.func146, Tryz.ntmps146
      go_wp2_with (first | (go_at_call 173; refine (plain_any _ _ _).mono ?_; rw [hp]; rintro e w1 ⟨rfl, hB⟩; obtain ⟨hx0, hx1⟩ := hx.below hB (by simp); replace hb := hb.trans (hB.mono hb.size)) | (go_at_call 174; refine (end_any _ _ _).mono ?_; rw [he]; rintro e w2 ⟨rfl, hB2⟩; replace hb := hb.trans (hB2.mono hb.size)))
      go_ret
      exact ⟨rfl, hb⟩
    · have hg : good o l n = false := by unfold good; rw [hp]; simp [h1]
      rw [hg]
      go_enter Tryz.func146, Tryz.ntmps146
      go_wp2_with (go_at_call 173; refine (plain_any _ _ _).mono ?_; rw [hp]; rintro e w1 ⟨rfl, hB⟩; obtain ⟨hx0, hx1⟩ := hx.below hB (by simp); replace hb := hb.trans (hB.mono hb.size))
      go_ret
      exact ⟨rfl, hb⟩

set_option maxRecDepth 100000 in
/-- twainref04.Good -/
theorem refGood_any (o l n : Int) (w : World) :
    Calls Tryz.prog 109 #[.agg #[.int .i64 o, .int .i64 l], .int .i64 n] w fun e w' => e = .returned (.bool (good o l n)) ∧ Below w.heap.size w w' := by
  have hb := below_new w (.cells #[.int .i64 o, .int .i64 l] 127)
  have hx := box_new w (.int .i64 o) (.int .i64 l) 127
  cases hp : plain o l with
  | false =>
    have hg : good o l n = false := by unfold good; rw [hp]; rfl
    rw [hg]
    go_enter Tryz.func109, Tryz.ntmps109
    go_wp2_with (go_at_call 149; refine (refPlain_any _ _ _).mono ?_; rw [hp]; rintro e w1 ⟨rfl, hB⟩; obtain ⟨hx0, hx1⟩ := hx.below hB (by simp); replace hb := hb.trans (hB.mono hb.size))
    go_ret
    exact ⟨rfl, hb⟩
  | true =>
    have hq := of_plain hp
    have he : endN o l = o + l := by unfold endN; rw [hp]; rfl
    by_cases h1 : 1 ≤ l
    · have hg : good o l n = decide (o + l ≤ n) := by unfold good; rw [hp]; simp [h1]
      rw [hg]
      go_enter Tryz.func109, Tryz.ntmps109
      go_wp2_with (go_at_call 149; refine (refPlain_any _ _ _).mono ?_; rw [hp]; rintro e w1 ⟨rfl, hB⟩; obtain ⟨hx0, hx1⟩ := hx.below hB (by simp); replace hb := hb.trans (hB.mono hb.size))
      go_ret
      exact ⟨rfl, hb⟩
    · have hg : good o l n = false := by unfold good; rw [hp]; simp [h1]
      rw [hg]
      go_enter Tryz.func109, Tryz.ntmps109
      go_wp2_with (go_at_call 149; refine (refPlain_any _ _ _).mono ?_; rw [hp]; rintro e w1 ⟨rfl, hB⟩; obtain ⟨hx0, hx1⟩ := hx.below hB (by simp); replace hb := hb.trans (hB.mono hb.size))
      go_ret
      exact ⟨rfl, hb⟩

theorem ret_int {k : IntKind} {a b : Int} (h : a = b) : Ending.returned (.int k a) = .returned (.int k b) := by rw [h]

theorem ret_bool {a b : Bool} (h : a = b) : Ending.returned (.bool a) = .returned (.bool b) := by rw [h]

theorem wrap_pow {k : Nat} (h : k < 64) : IntKind.u64.wrap ((2 : Int) ^ k) = ((2 ^ k : Nat) : Int) := by
  have a := Nat.pow_lt_pow_right (a := 2) (by omega) h
  have b : ((2 : Int) ^ k) = ((2 ^ k : Nat) : Int) := by simp
  rw [IntKind.wrap_u64, b]
  generalize 2 ^ k = P at *
  have : P < 18446744073709551616 := a
  omega

set_option maxRecDepth 100000 in
/-- twainref01.One -/
theorem refOne_any (n : Int) (w : World) :
    Calls Tryz.prog 91 #[.int .i64 n] w fun e w' => e = .returned (.int .u64 (one n)) ∧ w' = w := by
  by_cases ha : n < 0
  · rw [one_out (.inl ha)]
    go_enter Tryz.func91, Tryz.ntmps91
    go_wp2
    go_ret
    exact ⟨rfl, rfl⟩
  · by_cases hb : 63 < n
    · rw [one_out (.inr (by omega))]
      go_enter Tryz.func91, Tryz.ntmps91
      go_wp2
      go_ret
      exact ⟨rfl, rfl⟩
    · rw [one_in (by omega) (by omega)]
      obtain ⟨m, rfl⟩ : ∃ m : Nat, n = m := ⟨n.toNat, by omega⟩
      go_enter Tryz.func91, Tryz.ntmps91
      go_wp2
      go_loop [3, 4] (fun x i => ∃ k : Nat, k ≤ m ∧ i = .int .i64 k ∧ x = .int .u64 ((2 ^ k : Nat) : Int)) (fun _ i => m - (intOf i).toNat)
      case atStart => exact ⟨0, Nat.zero_le _, rfl, rfl⟩
      case round =>
        obtain ⟨k, hk, rfl, rfl⟩ := hrel
        by_cases hlt : k < m
        · have hp : 2 ^ (k + 1) = 2 ^ k * 2 := Nat.pow_succ 2 k
          have hq := Nat.pow_lt_pow_right (a := 2) (by omega) (show k + 1 < 64 by omega)
          obtain ⟨P, hP⟩ : ∃ P, 2 ^ k = P := ⟨_, rfl⟩
          have HP : Hid (2 ^ (k + 1) = P * 2) := by rw [← hP]; exact hp
          have hP2 : P < 9223372036854775808 := by rw [hp, hP] at hq; omega
          rw [hP]
          clear hp hq hP
          go_wp2
          go_round
          case rel => exact ⟨k + 1, by omega, by go_num, by rw [HP.out]; first | rfl | go_num⟩
          case measure => simp [intOf]; omega
        · obtain rfl : k = m := by omega
          go_wp2
          go_ret
          exact ⟨ret_int (by simp), rfl⟩

theorem quo_bit (s p : Nat) (hs : s < 18446744073709551616) (_hp : 0 < p) : ((IntKind.u64.wrap ((s : Int) / (p : Int))).tmod 2 == 1) = decide (s / p % 2 = 1) := by
  have a : s / p ≤ s := Nat.div_le_self s p
  have b : ((s : Int) / (p : Int)) = ((s / p : Nat) : Int) := by simp
  rw [IntKind.wrap_u64, b]
  generalize s / p = q at *
  have c : ((q : Int) % 18446744073709551616) = q := by omega
  rw [c]
  have d : ((q : Int).tmod 2) = ((q % 2 : Nat) : Int) := by rw [Int.tmod_eq_emod_of_nonneg (by omega)]; omega
  rw [d]
  rcases Nat.mod_two_eq_zero_or_one q with h | h <;> simp [h]

set_option maxRecDepth 100000 in
/-- twainref01.Has -/
theorem refHas_any (s : Nat) (n : Int) (w : World) (hs : s < 18446744073709551616) :
    Calls Tryz.prog 48 #[.int .u64 s, .int .i64 n] w fun e w' => e = .returned (.bool (has s n)) ∧ w' = w := by
  by_cases ha : n < 0
  · rw [has_out s (.inl ha)]
    go_enter Tryz.func48, Tryz.ntmps48
    go_wp2
    go_ret
    exact ⟨rfl, rfl⟩
  · by_cases hb : 63 < n
    · rw [has_out s (.inr hb)]
      go_enter Tryz.func48, Tryz.ntmps48
      go_wp2
      go_ret
      exact ⟨rfl, rfl⟩
    · have ho := one_lt n
      have hp : 0 < one n := by rw [one_in (by omega) (by omega)]; exact Nat.two_pow_pos _
      have hh := has_in s (n := n) (by omega) (by omega)
      rw [← one_in (by omega) (by omega)] at hh
      rw [hh]
      clear hh
      go_enter Tryz.func48, Tryz.ntmps48
      go_wp2_with (go_at_call 91; refine (refOne_any _ _).mono ?_; rintro e w' ⟨rfl, rfl⟩)
      go_ret
      exact ⟨ret_bool (quo_bit s (one n) hs hp), rfl⟩

set_option maxRecDepth 100000 in
/-- twainref01.With -/
theorem refWith_any (s : Nat) (n : Int) (w : World) (hs : s < 18446744073709551616) :
    Calls Tryz.prog 82 #[.int .u64 s, .int .i64 n] w fun e w' => e = .returned (.int .u64 (withN s n)) ∧ w' = w := by
  have ho := one_lt n
  have hw := withN_lt s n hs
  cases hh : has s n with
  | true =>
    rw [withN_true hs hh]
    go_enter Tryz.func82, Tryz.ntmps82
    go_wp2_with (first | (go_at_call 48; refine (refHas_any _ _ _ hs).mono ?_; rw [hh]; rintro e w' ⟨rfl, rfl⟩))
    go_ret
    exact ⟨rfl, rfl⟩
  | false =>
    rw [withN_false hs hh] at hw ⊢
    go_enter Tryz.func82, Tryz.ntmps82
    go_wp2_with (first | (go_at_call 48; refine (refHas_any _ _ _ hs).mono ?_; rw [hh]; rintro e w' ⟨rfl, rfl⟩) | (go_at_call 91; refine (refOne_any _ _).mono ?_; rintro e w' ⟨rfl, rfl⟩))
    go_ret
    exact ⟨ret_int (by omega), rfl⟩

set_option maxRecDepth 100000 in
/-- bits.Row -/
theorem rowOut_any (f n : Int) (w : World) (hf : n < 1 ∨ f < 0 ∨ 63 < f) :
    Calls Tryz.prog 70 #[.int .i64 f, .int .i64 n] w fun e w' => e = .returned (.int .u64 0) ∧ w' = w := by
  by_cases ha : n < 1
  · go_enter Tryz.func70, Tryz.ntmps70
    go_wp2
    go_ret
    exact ⟨rfl, rfl⟩
  · by_cases hb : f < 0
    · go_enter Tryz.func70, Tryz.ntmps70
      go_wp2
      go_ret
      exact ⟨rfl, rfl⟩
    · have hc : 64 ≤ f := by omega
      go_enter Tryz.func70, Tryz.ntmps70
      go_wp2
      go_ret
      exact ⟨rfl, rfl⟩

theorem row_u64 (f n : Nat) (hn : n ≤ 64) (h : f + n ≤ 64) : IntKind.u64.wrap ((18446744073709551615 : Int) / 2 ^ (64 - n) * 2 ^ f) = ((row f n : Nat) : Int) := by
  have a := full_div n (by omega)
  have b : ((18446744073709551615 : Int) / 2 ^ (64 - n) * 2 ^ f) = ((18446744073709551615 / 2 ^ (64 - n) * 2 ^ f : Nat) : Int) := by
    simp
  have c := row_lt64 h
  rw [b, a, IntKind.wrap_u64]
  show (((row f n : Nat) : Int) % 18446744073709551616) = _
  omega

set_option maxRecDepth 100000 in
theorem rowIn_any (f : Nat) (n : Int) (w : World) (hf : f < 64) (h3 : 1 ≤ n) :
    Calls Tryz.prog 70 #[.int .i64 f, .int .i64 n] w fun e w' => e = .returned (.int .u64 (row f (min n.toNat (64 - f)))) ∧ w' = w := by
  by_cases ha : n ≤ 64 - f
  · have e := row_u64 f n.toNat (by omega) (by omega)
    have e1 : min n.toNat (64 - f) = n.toNat := by omega
    have e2 : 64 - n.toNat = (64 - n).toNat := by omega
    rw [e2] at e
    rw [e1]
    clear e1 e2
    go_enter Tryz.func70, Tryz.ntmps70
    go_wp2
    go_ret
    exact ⟨rfl, rfl⟩
  · have e := row_u64 f (64 - f) (by omega) (by omega)
    have e1 : min n.toNat (64 - f) = 64 - f := by omega
    rw [e1]
    clear e1
    go_enter Tryz.func70, Tryz.ntmps70
    go_wp2
    go_ret
    exact ⟨rfl, rfl⟩


/-- The slice value sv holds the ints zs, in a block below n₀ where there is one. -/
def IntsAt (n₀ : Nat) (W : World) (sv : Value) (zs : List Int) : Prop :=
  ∃ a cap, sv = .slice a zs.length cap ∧ (zs = [] ∨ ∃ b off, a = some ⟨b, off, none⟩ ∧ b < n₀ ∧ ∀ j, j < zs.length → W.cell? ⟨b, off + j, none⟩ = some (.int .i64 (zs[j]?.getD 0)))

theorem IntsAt.below {n₀ : Nat} {A B : World} (h : Below n₀ A B) {sv : Value} {zs : List Int} : IntsAt n₀ A sv zs → IntsAt n₀ B sv zs
  | ⟨a, cap, e, .inl r⟩ => ⟨a, cap, e, .inl r⟩
  | ⟨a, cap, e, .inr ⟨b, off, e2, hb, hc⟩⟩ => ⟨a, cap, e, .inr ⟨b, off, e2, hb, fun j hj => (h.cell (p := ⟨b, off + j, none⟩) hb).trans (hc j hj)⟩⟩

theorem IntsAt.mono {n m : Nat} {A : World} {sv : Value} {zs : List Int} (hn : n ≤ m) : IntsAt n A sv zs → IntsAt m A sv zs
  | ⟨a, cap, e, .inl r⟩ => ⟨a, cap, e, .inl r⟩
  | ⟨a, cap, e, .inr ⟨b, off, e2, hb, hc⟩⟩ => ⟨a, cap, e, .inr ⟨b, off, e2, by omega, hc⟩⟩

end Go.Proofs.YtfiofdmefgkloaaGreat.Span

/-
  The walks of Meet, Overlap and Holds on both sides, and of the small functions that Meet stands on: what each call answers, in the plain words of the Math text.
-/
namespace Go.Proofs.YtfiofdmefgkloaaGreat.Span
open Go.RowKit
open Math

/-- A span as a value. -/
abbrev sp (o l : Int) : Value := .agg #[.int .i64 o, .int .i64 l]

/-- Behind a call's head: its two spans and a span of its own lie in three new blocks. -/
structure Two (w : World) (o l p m : Int) (W : World) : Prop where
  below : Below w.heap.size w W
  room : w.heap.size + 1 + 1 < W.heap.size
  one : Box W w.heap.size (.int .i64 o) (.int .i64 l)
  two : Box W (w.heap.size + 1) (.int .i64 p) (.int .i64 m)
  made : W.heap[w.heap.size + 1 + 1]? = some (.cells #[.int .i64 0, .int .i64 0] 127 (0, 0))
theorem Two.after {w W W' : World} {o l p m : Int} (h : Two w o l p m W) (hB : Below W.heap.size W W') : Two w o l p m W' :=
  have r := h.room
  have g := hB.size
  ⟨h.below.trans (hB.mono h.below.size), by omega, h.one.below hB (by omega), h.two.below hB (by omega), by rw [hB.block _ (by omega)]; exact h.made⟩
theorem Two.drewN {w W : World} {o l p m : Int} (h : Two w o l p m W) (n : Nat) : Two w o l p m (W.drewN n) := ⟨⟨h.below.os, h.below.tape, h.below.output, h.below.size, h.below.block⟩, h.room, h.one, h.two, h.made⟩
theorem two_new (w : World) (o l p m : Int) : Two w o l p m (((w.alloc (.cells #[.int .i64 o, .int .i64 l] 127)).alloc (.cells #[.int .i64 p, .int .i64 m] 127)).alloc (.cells #[.int .i64 0, .int .i64 0] 127)) := by
  have b1 := below_new w (.cells #[.int .i64 o, .int .i64 l] 127)
  have b2 := below_new (w.alloc (.cells #[.int .i64 o, .int .i64 l] 127)) (.cells #[.int .i64 p, .int .i64 m] 127)
  have b3 := below_new ((w.alloc (.cells #[.int .i64 o, .int .i64 l] 127)).alloc (.cells #[.int .i64 p, .int .i64 m] 127)) (.cells #[.int .i64 0, .int .i64 0] 127)
  have x1 := box_new w (.int .i64 o) (.int .i64 l) 127
  have x2 := box_new (w.alloc (.cells #[.int .i64 o, .int .i64 l] 127)) (.int .i64 p) (.int .i64 m) 127
  have s1 : (w.alloc (.cells #[.int .i64 o, .int .i64 l] 127)).heap.size = w.heap.size + 1 := by simp
  have s2 : ((w.alloc (.cells #[.int .i64 o, .int .i64 l] 127)).alloc (.cells #[.int .i64 p, .int .i64 m] 127)).heap.size = w.heap.size + 1 + 1 := by simp
  have m3 := heap_alloc_new ((w.alloc (.cells #[.int .i64 o, .int .i64 l] 127)).alloc (.cells #[.int .i64 p, .int .i64 m] 127)) (.cells #[.int .i64 0, .int .i64 0] 127)
  rw [s2] at m3
  rw [s1] at x2
  exact ⟨(b1.trans (b2.mono (by omega))).trans (b3.mono (by omega)), by simp, (x1.below b2 (by omega)).below b3 (by omega), x2.below b3 (by omega), m3⟩
theorem Two.cells {w W : World} {o l p m : Int} (h : Two w o l p m W) :
    W.cell? ⟨w.heap.size, 0, none⟩ = some (.int .i64 o) ∧ W.cell? ⟨w.heap.size, 1, none⟩ = some (.int .i64 l) ∧ W.cell? ⟨w.heap.size + 1, 0, none⟩ = some (.int .i64 p) ∧ W.cell? ⟨w.heap.size + 1, 1, none⟩ = some (.int .i64 m) ∧
    W.frozen? ⟨w.heap.size + 1 + 1, 0, none⟩ = false ∧ W.frozen? ⟨w.heap.size + 1 + 1, 1, none⟩ = false ∧ W.cell? ⟨w.heap.size + 1 + 1, 0, none⟩ = some (.int .i64 0) ∧ W.cell? ⟨w.heap.size + 1 + 1, 1, none⟩ = some (.int .i64 0) := by
  refine ⟨h.one.1, h.one.2, h.two.1, h.two.2, ?_, ?_, ?_, ?_⟩ <;> simp [World.frozen?, World.cell?, h.made]


theorem ret_span {a b a' b' : Int} {v : Value} (ha : a = a') (hb : b = b') : Ending.returned (.tuple #[.agg #[.int .i64 a, .int .i64 b], v]) = .returned (.tuple #[.agg #[.int .i64 a', .int .i64 b'], v]) := by rw [ha, hb]
theorem set0 {w : World} {b : Nat} {x y u : Value} {t : TypeId} (h : w.heap[b]? = some (.cells #[x, y] t (0, 0))) : (w.setCell ⟨b, 0, none⟩ u).heap[b]? = some (.cells #[u, y] t (0, 0)) := by
  have hlt := lt_of_block h
  have h' : w.heap[b] = .cells #[x, y] t (0, 0) := by simpa [Array.getElem?_eq_getElem hlt] using h
  show (w.heap.modify b _)[b]? = _
  rw [Array.getElem?_eq_getElem (by simpa using hlt), Array.getElem_modify_self, h']
  rfl
theorem set1 {w : World} {b : Nat} {x y u : Value} {t : TypeId} (h : w.heap[b]? = some (.cells #[x, y] t (0, 0))) : (w.setCell ⟨b, 1, none⟩ u).heap[b]? = some (.cells #[x, u] t (0, 0)) := by
  have hlt := lt_of_block h
  have h' : w.heap[b] = .cells #[x, y] t (0, 0) := by simpa [Array.getElem?_eq_getElem hlt] using h
  show (w.heap.modify b _)[b]? = _
  rw [Array.getElem?_eq_getElem (by simpa using hlt), Array.getElem_modify_self, h']
  rfl
set_option maxRecDepth 100000 in
theorem size23 : (Tryz.prog.info? 127).map (·.size) = some 2 := by kernel_rfl
set_option maxRecDepth 100000 in
/-- What a call hands back: the span that it laid, and a second result. -/
theorem results_pair {fn : Func} {p u : Tmp} (h : fn.results = #[.cell p 127, .tmp u]) (tmps : Array Value) (w : World) (g : Nat) (a b : Value)
    (hp : tmps.getD p undef = .pointer (some ⟨g, 0, none⟩)) (hg : w.heap[g]? = some (.cells #[a, b] 127 (0, 0))) :
    (results fn tmps).run Tryz.prog w = .ok (.tuple #[.agg #[a, b], tmps.getD u undef]) w := by
  have hl := run_loadVar_row (P := Tryz.prog) w g 127 127 #[a, b] (0, 0) _ hg Tryz.underlying127 (by rfl) size23
  rw [results_cell_tmp h, hp]
  simp [asAddr, hl, Result.andThen]


end Go.Proofs.YtfiofdmefgkloaaGreat.Span

/-
  The walks of Overlap, Holds, Whole and Extents on both sides: what each call answers, in the plain words of the Math text.
-/
namespace Go.Proofs.YtfiofdmefgkloaaGreat.Span
open Go.RowKit
open Math

/-- Behind the head of a call with two spans: they lie in two new blocks. -/
structure Pair (w : World) (o l p m : Int) (W : World) : Prop where
  below : Below w.heap.size w W
  room : w.heap.size + 1 < W.heap.size
  one : Box W w.heap.size (.int .i64 o) (.int .i64 l)
  two : Box W (w.heap.size + 1) (.int .i64 p) (.int .i64 m)
theorem Pair.after {w W W' : World} {o l p m : Int} (h : Pair w o l p m W) (hB : Below W.heap.size W W') : Pair w o l p m W' :=
  have r := h.room
  have g := hB.size
  ⟨h.below.trans (hB.mono h.below.size), by omega, h.one.below hB (by omega), h.two.below hB (by omega)⟩
theorem Pair.drewN {w W : World} {o l p m : Int} (h : Pair w o l p m W) (n : Nat) : Pair w o l p m (W.drewN n) := ⟨⟨h.below.os, h.below.tape, h.below.output, h.below.size, h.below.block⟩, h.room, h.one, h.two⟩
theorem pair_new (w : World) (o l p m : Int) : Pair w o l p m ((w.alloc (.cells #[.int .i64 o, .int .i64 l] 127)).alloc (.cells #[.int .i64 p, .int .i64 m] 127)) := by
  have b1 := below_new w (.cells #[.int .i64 o, .int .i64 l] 127)
  have b2 := below_new (w.alloc (.cells #[.int .i64 o, .int .i64 l] 127)) (.cells #[.int .i64 p, .int .i64 m] 127)
  have x1 := box_new w (.int .i64 o) (.int .i64 l) 127
  have x2 := box_new (w.alloc (.cells #[.int .i64 o, .int .i64 l] 127)) (.int .i64 p) (.int .i64 m) 127
  have s1 : (w.alloc (.cells #[.int .i64 o, .int .i64 l] 127)).heap.size = w.heap.size + 1 := by simp
  rw [s1] at x2
  exact ⟨b1.trans (b2.mono (by omega)), by simp, x1.below b2 (by omega), x2⟩
theorem Pair.cells {w W : World} {o l p m : Int} (h : Pair w o l p m W) :
    W.cell? ⟨w.heap.size, 0, none⟩ = some (.int .i64 o) ∧ W.cell? ⟨w.heap.size, 1, none⟩ = some (.int .i64 l) ∧ W.cell? ⟨w.heap.size + 1, 0, none⟩ = some (.int .i64 p) ∧ W.cell? ⟨w.heap.size + 1, 1, none⟩ = some (.int .i64 m) :=
  ⟨h.one.1, h.one.2, h.two.1, h.two.2⟩

/-- The sectors of extent e. -/
def wOff (e : Int) : Int := if 0 ≤ e ∧ e ≤ 63 then 4 * e else 0
def wLen (e : Int) : Int := if 0 ≤ e ∧ e ≤ 63 then 4 else 0
theorem wOff_in {e : Int} (h : 0 ≤ e) (h' : e ≤ 63) : wOff e = 4 * e := if_pos ⟨h, h'⟩
theorem wLen_in {e : Int} (h : 0 ≤ e) (h' : e ≤ 63) : wLen e = 4 := if_pos ⟨h, h'⟩
theorem wOff_out {e : Int} (h : e < 0 ∨ 63 < e) : wOff e = 0 := if_neg (by omega)
theorem wLen_out {e : Int} (h : e < 0 ∨ 63 < e) : wLen e = 0 := if_neg (by omega)

set_option maxRecDepth 100000 in
/-- span.Whole -/
theorem whole_any (e : Int) (w : World) :
    Calls Tryz.prog 115 #[.int .i64 e] w fun x w' => x = .returned (.agg #[.int .i64 (wOff e), .int .i64 (wLen e)]) ∧ Below w.heap.size w w' := by
  by_cases h1 : e < 0
  · rw [wOff_out (.inl h1), wLen_out (.inl h1)]
    go_enter Tryz.func115, Tryz.ntmps115
    go_wp2
    refine bodyPost_ret (results_cell_row rfl _ _ w.heap.size 127 #[_, _] (0, 0) _ rfl (heap_alloc_new w _) Tryz.underlying127 rfl size23) rfl ⟨rfl, below_new w _⟩
  · by_cases h2 : 63 < e
    · rw [wOff_out (.inr h2), wLen_out (.inr h2)]
      go_enter Tryz.func115, Tryz.ntmps115
      go_wp2
      refine bodyPost_ret (results_cell_row rfl _ _ w.heap.size 127 #[_, _] (0, 0) _ rfl (heap_alloc_new w _) Tryz.underlying127 rfl size23) rfl ⟨rfl, below_new w _⟩
    · rw [wOff_in (by omega) (by omega), wLen_in (by omega) (by omega)]
      go_enter Tryz.func115, Tryz.ntmps115
      go_wp2
      refine bodyPost_ret (results_cell_row rfl _ _ w.heap.size 127 #[_, _] (0, 0) _ rfl (heap_alloc_new w _) Tryz.underlying127 rfl size23) rfl ⟨rfl, below_new w _⟩

set_option maxRecDepth 100000 in
/-- twainref04.Whole -/
theorem refWhole_any (e : Int) (w : World) :
    Calls Tryz.prog 130 #[.int .i64 e] w fun x w' => x = .returned (.agg #[.int .i64 (wOff e), .int .i64 (wLen e)]) ∧ Below w.heap.size w w' := by
  by_cases h1 : e < 0
  · rw [wOff_out (.inl h1), wLen_out (.inl h1)]
    go_enter Tryz.func130, Tryz.ntmps130
    go_wp2
    refine bodyPost_ret (results_cell_row rfl _ _ w.heap.size 127 #[_, _] (0, 0) _ rfl (heap_alloc_new w _) Tryz.underlying127 rfl size23) rfl ⟨rfl, below_new w _⟩
  · by_cases h2 : 63 < e
    · rw [wOff_out (.inr h2), wLen_out (.inr h2)]
      go_enter Tryz.func130, Tryz.ntmps130
      go_wp2
      refine bodyPost_ret (results_cell_row rfl _ _ w.heap.size 127 #[_, _] (0, 0) _ rfl (heap_alloc_new w _) Tryz.underlying127 rfl size23) rfl ⟨rfl, below_new w _⟩
    · rw [wOff_in (by omega) (by omega), wLen_in (by omega) (by omega)]
      go_enter Tryz.func130, Tryz.ntmps130
      go_wp2
      refine bodyPost_ret (results_cell_row rfl _ _ w.heap.size 127 #[_, _] (0, 0) _ rfl (heap_alloc_new w _) Tryz.underlying127 rfl size23) rfl ⟨rfl, below_new w _⟩

set_option maxRecDepth 100000 in
/-- Row, as Extents asks it. -/
theorem row_ext {o l : Int} (h : plain o l = true) (hl : 1 ≤ l) (w : World) :
    Calls Tryz.prog 70 #[.int .i64 (o / 4), .int .i64 ((o + l - 1) / 4 - o / 4 + 1)] w fun e w' => e = .returned (.int .u64 (ext o l)) ∧ w' = w := by
  have hp := of_plain h
  by_cases ho : o < 256
  · have q := rowIn_any (o / 4).toNat ((o + l - 1) / 4 - o / 4 + 1) w (by omega) (by omega)
    rw [show (((o / 4).toNat : Nat) : Int) = o / 4 from by omega, ← ext_row h hl ho] at q
    exact q
  · have q := rowOut_any (o / 4) ((o + l - 1) / 4 - o / 4 + 1) w (by omega)
    rw [ext_zero (.inr (.inr (by omega)))]
    exact q

end Go.Proofs.YtfiofdmefgkloaaGreat.Span

/-
  The walks of the document's Extents and of the law's own small test: what each call answers, in the plain words of the Math text.
-/
namespace Go.Proofs.YtfiofdmefgkloaaGreat.Span
open Go.RowKit
open Math

def enc (i : Nat) : Value := .int .i64 (i : Int)

set_option maxRecDepth 100000 in
theorem Tryz.info3 : (Tryz.prog.info? 3).map (fun i => (i.zero, i.size, i.bytes)) = some (some (.int .i64 0), 1, 8) := by kernel_rfl

theorem below_append {w W w1 : World} {n₀ : Nat} {e : TypeId} {size k : Nat} {v : Value} {xs : List Value} {tmp : Obj} (hn : n₀ ≤ w.heap.size) (hB : Below n₀ w W) (hrow : W.ownsRow n₀ e size v k xs) (hgrow : (W.alloc tmp).grownBy w1 v.ownBlock) : Below n₀ w w1 := by
  have hsz := hB.size
  refine (hB.alloc (by omega) tmp).grown hgrow (by simp; omega) fun j ej => ?_
  rcases hrow.2 with ⟨rfl, _⟩ | ⟨g, cap, cur, rfl, hb, _, _⟩
  · simp [Value.ownBlock] at ej
  · obtain rfl : g = j := by simpa [Value.ownBlock] using ej
    exact hb

/-- What a call's own row holds, as numbers. -/
theorem intsAt_of_owns {W : World} {base : Nat} {v : Value} {l : List Nat} (h : W.ownsRow base 3 1 v l.length (l.map enc)) : IntsAt W.heap.size W v (l.map Int.ofNat) := by
  obtain ⟨_, ⟨rfl, h0⟩ | ⟨g, cap, cur, rfl, hb, hg, h1, h2, h3, h4⟩⟩ := h
  · have : l = [] := by simpa using h0
    subst this
    exact ⟨none, 0, rfl, .inl rfl⟩
  · refine ⟨some ⟨g, 0, none⟩, cap, by simp, .inr ⟨g, 0, rfl, (Array.getElem?_eq_some_iff.1 hg).1, fun j hj => ?_⟩⟩
    have hj' : j < l.length := by simpa using hj
    have e : cur.toList[j]? = some (enc l[j]) := by
      have := congrArg (fun t => t[j]?) h4
      simp [hj'] at this
      simpa using this
    simp [World.cell?, hg]
    rw [Array.getElem?_toList] at e
    rw [e]
    simp [enc, hj']

theorem owns_after {W W' : World} {base : Nat} {e : TypeId} {size : Nat} {v : Value} {n : Nat} {xs : List Value} (h : W.ownsRow base e size v n xs) (hB : Below W.heap.size W W') : W'.ownsRow base e size v n xs := by
  obtain ⟨h0, h | ⟨g, cap, cur, hv, hb, hg, r⟩⟩ := h
  · exact ⟨h0, .inl h⟩
  · exact ⟨h0, .inr ⟨g, cap, cur, hv, hb, (hB.block g (lt_of_block hg)).trans hg, r⟩⟩

end Go.Proofs.YtfiofdmefgkloaaGreat.Span

