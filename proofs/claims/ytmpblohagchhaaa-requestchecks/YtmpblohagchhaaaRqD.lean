/-
  A kind's word, the program's and the document's; fits, mayBe and Check, the program's and the document's.
-/
import Derived.Test.YtmpblohagchhaaaRqC
namespace Go.Proofs.Ytmpblohagchhaaa.Request
open Go.RowKit
open Span (ret_bool ret_int)

set_option maxRecDepth 100000 in
/-- Name -/
theorem name_any (n : Int) (w : World) : Calls Try.prog 12 #[.int .i64 n] w fun e w' => e = .returned (.string (wordOf n)) ∧ Kept [] w w' := by
  by_cases h : 0 ≤ n ∧ n ≤ 2
  · have hk : n = 0 ∨ n = 1 ∨ n = 2 := by omega
    clear h
    rcases hk with rfl | rfl | rfl
    all_goals
      go_enter Try.func12, Try.ntmps12
      go_wp2_with fail
      go_ret
      exact ⟨rfl, Kept.refl _ _⟩
  · have e : Hid (wordOf n = _) := word_none (by omega)
    generalize wordOf n = nm at *
    have b0 : (n == 0) = false := by simp; omega
    have b1 : (n == 1) = false := by simp; omega
    have b2 : (n == 2) = false := by simp; omega
    go_enter Try.func12, Try.ntmps12
    go_wp2_with fail
    go_ret
    exact ⟨by rw [e.out]; rfl, Kept.refl _ _⟩
set_option maxRecDepth 100000 in
/-- the document's Name -/
theorem rname_any (n : Int) (w : World) : Calls Try.prog 13 #[.int .i64 n] w fun e w' => e = .returned (.string (wordOf n)) ∧ Kept [] w w' := by
  by_cases h : 0 ≤ n ∧ n ≤ 2
  · have hk : n = 0 ∨ n = 1 ∨ n = 2 := by omega
    clear h
    rcases hk with rfl | rfl | rfl
    all_goals
      go_enter Try.func13, Try.ntmps13
      go_wp2_with fail
      go_ret
      exact ⟨rfl, kept_alloc [] _ _⟩
  · have e : Hid (wordOf n = _) := word_none (by omega)
    generalize wordOf n = nm at *
    by_cases h1 : n < 0
    · go_enter Try.func13, Try.ntmps13
      go_wp2_with fail
      go_ret
      exact ⟨by rw [e.out]; rfl, kept_alloc [] _ _⟩
    · have h8 : 2 < n := by omega
      go_enter Try.func13, Try.ntmps13
      go_wp2_with fail
      go_ret
      exact ⟨by rw [e.out]; rfl, kept_alloc [] _ _⟩
set_option maxRecDepth 100000 in
/-- Two spans, compared. -/
theorem eql_span (o l p m : Int) (w : World) : (binOp .eql 25 (.agg #[.int .i64 o, .int .i64 l]) (.agg #[.int .i64 p, .int .i64 m])).run Try.prog w = .ok (.bool (decide (o = p) && decide (l = m))) w := by
  have h1 : Try.prog.underlying 25 = some (.struct (Try.prog.fieldsOf 25)) := by kernel_rfl
  have h2 : Try.prog.stoodInHeld 25 = false := by kernel_rfl
  rw [run_eql_struct, run_equalIn_agg w 9999 25 _ _ h1 h2]
  simp [Program.fieldsOf, Try.underlying25, go_sem]
  by_cases a1 : o = p <;> by_cases a2 : l = m <;> simp [a1, a2]
set_option maxRecDepth 100000 in
/-- fits -/
theorem fits_any (o l n : Int) (w : World) : Calls Try.prog 25 #[.agg #[.int .i64 o, .int .i64 l], .int .i64 n] w fun e w' => e = .returned (.bool (fits o l n)) ∧ Kept [] w w' := by
  have q := fun w => Span.good_any o l n w
  have hk := kept_alloc [] w (.cells #[.int .i64 o, .int .i64 l] 25)
  have hb := blk_new w 25 #[.int .i64 o, .int .i64 l]
  have hf : Hid (fits o l n = (Span.Math.good o l n && decide (l ≤ 8))) := rfl
  generalize fits o l n = F at *
  generalize Span.Math.good o l n = g at *
  cases g with
  | true =>
    go_enter Try.func25, Try.ntmps25
    go_wp2_with (go_at_call 30; refine (q _).mono ?_; rintro e w1 ⟨rfl, hB⟩; have hk1 := Kept.of_below hB []; have hb1 := hb.kept hk1 (by simp); have c0 := (hb1.cell 0).trans rfl; have c1 := (hb1.cell 1).trans rfl)
    go_ret
    exact ⟨ret_bool (by rw [hf.out]; simp), hk.trans hk1⟩
  | false =>
    go_enter Try.func25, Try.ntmps25
    go_wp2_with (go_at_call 30; refine (q _).mono ?_; rintro e w1 ⟨rfl, hB⟩; have hk1 := Kept.of_below hB []; have hb1 := hb.kept hk1 (by simp); have c0 := (hb1.cell 0).trans rfl; have c1 := (hb1.cell 1).trans rfl)
    go_ret
    exact ⟨ret_bool (by rw [hf.out]; simp), hk.trans hk1⟩
end Go.Proofs.Ytmpblohagchhaaa.Request
