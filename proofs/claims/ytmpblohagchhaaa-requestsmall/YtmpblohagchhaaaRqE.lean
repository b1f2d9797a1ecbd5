/-
  mayBe and Check, the program's and the document's.
-/
import Derived.Test.YtmpblohagchhaaaRqD
namespace Go.Proofs.Ytmpblohagchhaaa.Request
open Go.RowKit
open Span (ret_bool ret_int)

/-- A request in its block. -/
theorem req_cells4 {W : World} {g : Nat} {k o l : Int} {v : Value} (h : Blk W g 28 #[.int .i64 k, .int .i64 o, .int .i64 l, v]) : W.cell? ⟨g, 0, none⟩ = some (.int .i64 k) ∧ W.cell? ⟨g, 1, none⟩ = some (.int .i64 o) ∧ W.cell? ⟨g, 2, none⟩ = some (.int .i64 l) ∧ W.cell? ⟨g, 3, none⟩ = some v :=
  ⟨(h.cell 0).trans rfl, (h.cell 1).trans rfl, (h.cell 2).trans rfl, (h.cell 3).trans rfl⟩
set_option maxRecDepth 100000 in
set_option maxHeartbeats 1000000 in
/-- mayBe -/
theorem mayBe_any (k o l n : Int) (sa : Option Addr) (len cap : Nat) (w : World) :
    Calls Try.prog 18 #[.agg #[.int .i64 k, .int .i64 o, .int .i64 l, .slice sa len cap], .int .i64 n] w fun e w' => e = .returned (.bool (may k o l len n)) ∧ Kept [] w w' := by
  have q := fun w => fits_any o l n w
  have hk := kept_alloc [] w (.cells #[.int .i64 k, .int .i64 o, .int .i64 l, .slice sa len cap] 28)
  have hb := blk_new w 28 #[.int .i64 k, .int .i64 o, .int .i64 l, .slice sa len cap]
  have es := fun w => eql_span o l 0 0 w
  by_cases k0 : k = 0
  · subst k0
    have hm : Hid (may 0 o l len n = (fits o l n && decide (len = 0))) := rfl
    generalize may 0 o l len n = M at *
    generalize fits o l n = F at *
    cases F with
    | true =>
      go_enter Try.func18, Try.ntmps18
      go_wp2_with (go_at_call 25; refine (q _).mono ?_; rintro e w1 ⟨rfl, hk1⟩; obtain ⟨c0, c1, c2, c3⟩ := req_cells4 (hb.kept hk1 (by simp)))
      go_ret
      exact ⟨ret_bool (by rw [hm.out, Bool.true_and, Bool.eq_iff_iff]; simp), hk.trans hk1⟩
    | false =>
      go_enter Try.func18, Try.ntmps18
      go_wp2_with (go_at_call 25; refine (q _).mono ?_; rintro e w1 ⟨rfl, hk1⟩; obtain ⟨c0, c1, c2, c3⟩ := req_cells4 (hb.kept hk1 (by simp)))
      go_ret
      exact ⟨ret_bool (by rw [hm.out]; rfl), hk.trans hk1⟩
  by_cases k1 : k = 1
  · subst k1
    have hm : Hid (may 1 o l len n = (fits o l n && decide ((len : Int) = 16 * l))) := rfl
    generalize may 1 o l len n = M at *
    cases hF : fits o l n with
    | true =>
      obtain ⟨-, l1, l8, -, -⟩ := fits_in hF
      rw [hF] at q
      replace hF : Hid (fits o l n = true) := hF
      go_enter Try.func18, Try.ntmps18
      go_wp2_with (go_at_call 25; refine (q _).mono ?_; rintro e w1 ⟨rfl, hk1⟩; obtain ⟨c0, c1, c2, c3⟩ := req_cells4 (hb.kept hk1 (by simp)))
      go_ret
      exact ⟨ret_bool (by rw [hm.out, hF.out, Bool.true_and, Bool.eq_iff_iff]; simp; omega), hk.trans hk1⟩
    | false =>
      rw [hF] at q
      replace hF : Hid (fits o l n = false) := hF
      go_enter Try.func18, Try.ntmps18
      go_wp2_with (go_at_call 25; refine (q _).mono ?_; rintro e w1 ⟨rfl, hk1⟩; obtain ⟨c0, c1, c2, c3⟩ := req_cells4 (hb.kept hk1 (by simp)))
      go_ret
      exact ⟨ret_bool (by rw [hm.out, hF.out]; rfl), hk.trans hk1⟩
  by_cases k2 : k = 2
  · subst k2
    have hm : Hid (may 2 o l len n = (decide (o = 0) && (decide (l = 0) && decide (len = 0)))) := rfl
    generalize may 2 o l len n = M at *
    generalize hE : (decide (o = 0) && decide (l = 0)) = E at *
    replace hE : Hid ((decide (o = 0) && decide (l = 0)) = E) := hE
    obtain ⟨c0, c1, c2, c3⟩ := req_cells4 hb
    cases E with
    | true =>
      go_enter Try.func18, Try.ntmps18
      go_wp2_with fail
      go_ret
      exact ⟨ret_bool (by rw [hm.out, ← Bool.and_assoc, hE.out, Bool.true_and, Bool.eq_iff_iff]; simp), hk⟩
    | false =>
      go_enter Try.func18, Try.ntmps18
      go_wp2_with fail
      go_ret
      exact ⟨ret_bool (by rw [hm.out, ← Bool.and_assoc, hE.out]; rfl), hk⟩
  · have hm : Hid (may k o l len n = false) := may_none (by omega)
    generalize may k o l len n = M at *
    have b0 : (k == 0) = false := by simp; omega
    have b1 : (k == 1) = false := by simp; omega
    have b2 : (k == 2) = false := by simp; omega
    go_enter Try.func18, Try.ntmps18
    go_wp2_with fail
    go_ret
    exact ⟨ret_bool hm.out.symm, hk⟩
theorem err_true : errN true = 0 := rfl
theorem err_false : errN false = 5 := rfl
set_option maxRecDepth 100000 in
set_option maxHeartbeats 1000000 in
/-- Check -/
theorem check_any (z h t n p k o l : Int) (sa : Option Addr) (len cap : Nat) (w : World) :
    Calls Try.prog 8 #[.agg #[.int .i64 z, .int .i64 h, .int .i64 t, .int .i64 n, .int .i64 p], .agg #[.int .i64 k, .int .i64 o, .int .i64 l, .slice sa len cap]] w fun e w' => e = .returned (.int .i64 (errN (may k o l len z))) ∧ Kept [] w w' := by
  have q := fun w => mayBe_any k o l z sa len cap w
  have hk1 := kept_alloc [] w (.cells #[.int .i64 z, .int .i64 h, .int .i64 t, .int .i64 n, .int .i64 p] 23)
  have hb1 := blk_new w 23 #[.int .i64 z, .int .i64 h, .int .i64 t, .int .i64 n, .int .i64 p]
  have hk2 := kept_alloc [] (w.alloc (.cells #[.int .i64 z, .int .i64 h, .int .i64 t, .int .i64 n, .int .i64 p] 23)) (.cells #[.int .i64 k, .int .i64 o, .int .i64 l, .slice sa len cap] 28)
  have hb2 := blk_new (w.alloc (.cells #[.int .i64 z, .int .i64 h, .int .i64 t, .int .i64 n, .int .i64 p] 23)) 28 #[.int .i64 k, .int .i64 o, .int .i64 l, .slice sa len cap]
  rw [show (w.alloc (.cells #[.int .i64 z, .int .i64 h, .int .i64 t, .int .i64 n, .int .i64 p] 23)).heap.size = w.heap.size + 1 by simp] at hb2
  have hb12 := hb1.kept hk2 (by simp)
  have hk := hk1.trans hk2
  clear hb1 hk1 hk2
  generalize may k o l len z = M at *
  cases M <;>
  · go_enter Try.func8, Try.ntmps8
    go_wp2_with (go_at_call 18; refine (q _).mono ?_; rintro e w1 ⟨rfl, hk1⟩)
    go_ret
    exact ⟨rfl, hk.trans hk1⟩
theorem may_read {o l n : Int} {m : Nat} : may 0 o l m n = ((Span.Math.good o l n && decide (l ≤ 8)) && decide (m = 0)) := rfl
theorem may_write {o l n : Int} {m : Nat} : may 1 o l m n = ((Span.Math.good o l n && decide (l ≤ 8)) && decide ((m : Int) = 16 * l)) := rfl
theorem good_l {o l n : Int} (h : Span.Math.good o l n = true) : 1 ≤ l := by
  unfold Span.Math.good at h
  rw [Bool.and_eq_true] at h
  exact (of_decide_eq_true h.2).1
set_option maxRecDepth 100000 in
set_option maxHeartbeats 1000000 in
/-- the document's Check -/
theorem rcheck_any (z h t n p k o l : Int) (sa : Option Addr) (len cap : Nat) (w : World) :
    Calls Try.prog 9 #[.agg #[.int .i64 z, .int .i64 h, .int .i64 t, .int .i64 n, .int .i64 p], .agg #[.int .i64 k, .int .i64 o, .int .i64 l, .slice sa len cap]] w fun e w' => e = .returned (.int .i64 (errN (may k o l len z))) ∧ Kept [] w w' := by
  have q := fun w => Span.refGood_any o l z w
  have es := fun w => eql_span o l 0 0 w
  have hk1 := kept_alloc [] w (.cells #[.int .i64 z, .int .i64 h, .int .i64 t, .int .i64 n, .int .i64 p] 23)
  have hb1 := blk_new w 23 #[.int .i64 z, .int .i64 h, .int .i64 t, .int .i64 n, .int .i64 p]
  have hk2 := kept_alloc [] (w.alloc (.cells #[.int .i64 z, .int .i64 h, .int .i64 t, .int .i64 n, .int .i64 p] 23)) (.cells #[.int .i64 k, .int .i64 o, .int .i64 l, .slice sa len cap] 28)
  have hb2 := blk_new (w.alloc (.cells #[.int .i64 z, .int .i64 h, .int .i64 t, .int .i64 n, .int .i64 p] 23)) 28 #[.int .i64 k, .int .i64 o, .int .i64 l, .slice sa len cap]
  rw [show (w.alloc (.cells #[.int .i64 z, .int .i64 h, .int .i64 t, .int .i64 n, .int .i64 p] 23)).heap.size = w.heap.size + 1 by simp] at hb2
  have hb12 := hb1.kept hk2 (by simp)
  have hk := hk1.trans hk2
  clear hb1 hk1 hk2
  obtain ⟨M, hM⟩ : ∃ M, may k o l len z = M := ⟨_, rfl⟩
  rw [hM]
  by_cases k0 : k = 0
  · subst k0
    rw [may_read] at hM
    cases hg : Span.Math.good o l z with
    | true =>
      have l1 := good_l hg
      rw [hg] at hM q
      clear hg
      by_cases l8 : l ≤ 8
      · rw [decide_eq_true l8] at hM
        by_cases lm : len = 0
        · rw [decide_eq_true lm] at hM
          subst hM
          subst lm
          go_enter Try.func9, Try.ntmps9
          go_wp2_with (go_at_call 19; refine (q _).mono ?_; rintro e w1 ⟨rfl, hB⟩; have kB := Kept.of_below hB []; obtain ⟨c0, c1, c2, c3⟩ := req_cells4 (hb2.kept kB (by simp)))
          go_ret
          exact ⟨rfl, hk.trans kB⟩
        · rw [decide_eq_false lm] at hM
          subst hM
          have lb : ((len : Int) == 0) = false := by simp; omega
          go_enter Try.func9, Try.ntmps9
          go_wp2_with (go_at_call 19; refine (q _).mono ?_; rintro e w1 ⟨rfl, hB⟩; have kB := Kept.of_below hB []; obtain ⟨c0, c1, c2, c3⟩ := req_cells4 (hb2.kept kB (by simp)))
          go_ret
          exact ⟨rfl, hk.trans kB⟩
      · rw [decide_eq_false l8] at hM
        subst hM
        go_enter Try.func9, Try.ntmps9
        go_wp2_with (go_at_call 19; refine (q _).mono ?_; rintro e w1 ⟨rfl, hB⟩; have kB := Kept.of_below hB []; obtain ⟨c0, c1, c2, c3⟩ := req_cells4 (hb2.kept kB (by simp)))
        go_ret
        exact ⟨rfl, hk.trans kB⟩
    | false =>
      rw [hg] at hM q
      clear hg
      subst hM
      go_enter Try.func9, Try.ntmps9
      go_wp2_with (go_at_call 19; refine (q _).mono ?_; rintro e w1 ⟨rfl, hB⟩; have kB := Kept.of_below hB []; obtain ⟨c0, c1, c2, c3⟩ := req_cells4 (hb2.kept kB (by simp)))
      go_ret
      exact ⟨rfl, hk.trans kB⟩
  by_cases k1 : k = 1
  · subst k1
    rw [may_write] at hM
    cases hg : Span.Math.good o l z with
    | true =>
      have l1 := good_l hg
      rw [hg] at hM q
      clear hg
      by_cases l8 : l ≤ 8
      · rw [decide_eq_true l8] at hM
        by_cases lm : (len : Int) = 16 * l
        · rw [decide_eq_true lm] at hM
          subst hM
          go_enter Try.func9, Try.ntmps9
          go_wp2_with (go_at_call 19; refine (q _).mono ?_; rintro e w1 ⟨rfl, hB⟩; have kB := Kept.of_below hB []; obtain ⟨c0, c1, c2, c3⟩ := req_cells4 (hb2.kept kB (by simp)))
          go_ret
          exact ⟨rfl, hk.trans kB⟩
        · rw [decide_eq_false lm] at hM
          subst hM
          have lb : ((len : Int) == 16 * l) = false := by simp; omega
          go_enter Try.func9, Try.ntmps9
          go_wp2_with (go_at_call 19; refine (q _).mono ?_; rintro e w1 ⟨rfl, hB⟩; have kB := Kept.of_below hB []; obtain ⟨c0, c1, c2, c3⟩ := req_cells4 (hb2.kept kB (by simp)))
          go_ret
          exact ⟨rfl, hk.trans kB⟩
      · rw [decide_eq_false l8] at hM
        subst hM
        go_enter Try.func9, Try.ntmps9
        go_wp2_with (go_at_call 19; refine (q _).mono ?_; rintro e w1 ⟨rfl, hB⟩; have kB := Kept.of_below hB []; obtain ⟨c0, c1, c2, c3⟩ := req_cells4 (hb2.kept kB (by simp)))
        go_ret
        exact ⟨rfl, hk.trans kB⟩
    | false =>
      rw [hg] at hM q
      clear hg
      subst hM
      go_enter Try.func9, Try.ntmps9
      go_wp2_with (go_at_call 19; refine (q _).mono ?_; rintro e w1 ⟨rfl, hB⟩; have kB := Kept.of_below hB []; obtain ⟨c0, c1, c2, c3⟩ := req_cells4 (hb2.kept kB (by simp)))
      go_ret
      exact ⟨rfl, hk.trans kB⟩
  by_cases k2 : k = 2
  · subst k2
    have hm : may 2 o l len z = ((decide (o = 0) && decide (l = 0)) && decide (len = 0)) := by rw [Bool.and_assoc]; rfl
    rw [hm] at hM
    clear hm
    generalize (decide (o = 0) && decide (l = 0)) = E at *
    obtain ⟨c0, c1, c2, c3⟩ := req_cells4 hb2
    cases E with
    | true =>
      by_cases lm : len = 0
      · rw [decide_eq_true lm] at hM
        subst hM
        subst lm
        go_enter Try.func9, Try.ntmps9
        go_wp2_with fail
        go_ret
        exact ⟨rfl, hk⟩
      · rw [decide_eq_false lm] at hM
        subst hM
        have lb : ((len : Int) == 0) = false := by simp; omega
        go_enter Try.func9, Try.ntmps9
        go_wp2_with fail
        go_ret
        exact ⟨rfl, hk⟩
    | false =>
      subst hM
      go_enter Try.func9, Try.ntmps9
      go_wp2_with fail
      go_ret
      exact ⟨rfl, hk⟩
  · rw [may_none (by omega)] at hM
    subst hM
    have b0 : (k == 0) = false := by simp; omega
    have b1 : (k == 1) = false := by simp; omega
    have b2 : (k == 2) = false := by simp; omega
    go_enter Try.func9, Try.ntmps9
    go_wp2_with fail
    go_ret
    exact ⟨rfl, hk⟩
end Go.Proofs.Ytmpblohagchhaaa.Request
