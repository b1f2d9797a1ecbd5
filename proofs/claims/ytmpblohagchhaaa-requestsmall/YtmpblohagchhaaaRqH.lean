/-
  The walk of RequestSmall.
-/
import Derived.Test.YtmpblohagchhaaaRqG
import Derived.Test.YtmpblohagchhaaaBits1
namespace Go.Proofs.Ytmpblohagchhaaa.Request
open Go.RowKit
open Span (ret_bool ret_int)

/-- What a settings' block and a request's have. -/
def Both (w : World) (z h t n p k o l : Int) (sa : Option Addr) (len cap : Nat) (A : World) : Prop := A.cell? ⟨w.heap.size, 0, none⟩ = some (.int .i64 z) ∧ A.cell? ⟨w.heap.size, 1, none⟩ = some (.int .i64 h) ∧ A.cell? ⟨w.heap.size, 2, none⟩ = some (.int .i64 t) ∧ A.cell? ⟨w.heap.size, 3, none⟩ = some (.int .i64 n) ∧ A.cell? ⟨w.heap.size, 4, none⟩ = some (.int .i64 p) ∧ A.cell? ⟨w.heap.size + 1, 0, none⟩ = some (.int .i64 k) ∧ A.cell? ⟨w.heap.size + 1, 1, none⟩ = some (.int .i64 o) ∧ A.cell? ⟨w.heap.size + 1, 2, none⟩ = some (.int .i64 l) ∧ A.cell? ⟨w.heap.size + 1, 3, none⟩ = some (.slice sa len cap)
theorem both_new (w : World) (z h t n p k o l : Int) (sa : Option Addr) (len cap : Nat) : Kept [] w ((w.alloc (.cells #[.int .i64 z, .int .i64 h, .int .i64 t, .int .i64 n, .int .i64 p] 23)).alloc (.cells #[.int .i64 k, .int .i64 o, .int .i64 l, .slice sa len cap] 28)) ∧ ∀ A, Kept [] ((w.alloc (.cells #[.int .i64 z, .int .i64 h, .int .i64 t, .int .i64 n, .int .i64 p] 23)).alloc (.cells #[.int .i64 k, .int .i64 o, .int .i64 l, .slice sa len cap] 28)) A → Both w z h t n p k o l sa len cap A := by
  have k1 := kept_alloc [] w (.cells #[.int .i64 z, .int .i64 h, .int .i64 t, .int .i64 n, .int .i64 p] 23)
  have b1 := blk_new w 23 #[.int .i64 z, .int .i64 h, .int .i64 t, .int .i64 n, .int .i64 p]
  have k2 := kept_alloc [] (w.alloc (.cells #[.int .i64 z, .int .i64 h, .int .i64 t, .int .i64 n, .int .i64 p] 23)) (.cells #[.int .i64 k, .int .i64 o, .int .i64 l, .slice sa len cap] 28)
  have b2 := blk_new (w.alloc (.cells #[.int .i64 z, .int .i64 h, .int .i64 t, .int .i64 n, .int .i64 p] 23)) 28 #[.int .i64 k, .int .i64 o, .int .i64 l, .slice sa len cap]
  rw [show (w.alloc (.cells #[.int .i64 z, .int .i64 h, .int .i64 t, .int .i64 n, .int .i64 p] 23)).heap.size = w.heap.size + 1 by simp] at b2
  have b1' := b1.kept k2 (by simp)
  refine ⟨k1.trans k2, fun A h => ?_⟩
  have a1 := b1'.kept h (by simp)
  have a2 := b2.kept h (by simp)
  exact ⟨(a1.cell 0).trans rfl, (a1.cell 1).trans rfl, (a1.cell 2).trans rfl, (a1.cell 3).trans rfl, (a1.cell 4).trans rfl, (a2.cell 0).trans rfl, (a2.cell 1).trans rfl, (a2.cell 2).trans rfl, (a2.cell 3).trans rfl⟩
set_option maxRecDepth 100000 in
set_option maxHeartbeats 1000000 in
theorem small_bad (z h t n p k o l : Int) (sa : Option Addr) (len cap : Nat) (hg : cgood z h t n p = false) (h0 : -9223372036854775808 ≤ z) (h1 : z ≤ 9223372036854775807) (w : World) :
    Calls Try.prog 4 #[.agg #[.int .i64 z, .int .i64 h, .int .i64 t, .int .i64 n, .int .i64 p], .agg #[.int .i64 k, .int .i64 o, .int .i64 l, .slice sa len cap]] w fun e w' => e = .returned (.bool true) ∧ Kept [] w w' := by
  have qg := fun w => good_any z h t n p h0 h1 w
  have qc := fun w => check_any z h t n p k o l sa len cap w
  have qv := lives_any
  obtain ⟨d0, S0⟩ := both_new w z h t n p k o l sa len cap
  clear h0 h1
  rw [hg] at qg
  clear hg
  obtain ⟨W, hW⟩ : ∃ W, (w.alloc (.cells #[.int .i64 z, .int .i64 h, .int .i64 t, .int .i64 n, .int .i64 p] 23)).alloc (.cells #[.int .i64 k, .int .i64 o, .int .i64 l, .slice sa len cap] 28) = W := ⟨_, rfl⟩
  rw [hW] at d0 S0
  obtain ⟨x0, x1, x2, x3, x4, x5, x6, x7, x8⟩ := S0 _ (Kept.refl _ _)
  go_enter Try.func4, Try.ntmps4
  go_wp2_with (first
    | (go_at_call 6; refine (qg _).mono ?_; rintro e w1 ⟨rfl, hk1⟩; clear x0 x1 x2 x3 x4 x5 x6 x7 x8; obtain ⟨x0, x1, x2, x3, x4, x5, x6, x7, x8⟩ := S0 _ hk1)
    | (go_at_call 5; refine (qv _).mono ?_; rintro e w5 ⟨rfl, hk5⟩))
  go_ret
  exact ⟨rfl, (d0.trans hk1).trans hk5⟩
set_option maxRecDepth 100000 in
set_option maxHeartbeats 1000000 in
theorem small_not (z h t n p k o l : Int) (sa : Option Addr) (len cap : Nat) (hg : cgood z h t n p = true) (hm : may k o l len z = false) (h0 : -9223372036854775808 ≤ z) (h1 : z ≤ 9223372036854775807) (w : World) :
    Calls Try.prog 4 #[.agg #[.int .i64 z, .int .i64 h, .int .i64 t, .int .i64 n, .int .i64 p], .agg #[.int .i64 k, .int .i64 o, .int .i64 l, .slice sa len cap]] w fun e w' => e = .returned (.bool true) ∧ Kept [] w w' := by
  have qg := fun w => good_any z h t n p h0 h1 w
  have qc := fun w => check_any z h t n p k o l sa len cap w
  have qv := lives_any
  obtain ⟨d0, S0⟩ := both_new w z h t n p k o l sa len cap
  clear h0 h1
  rw [hg] at qg
  rw [hm, err_false] at qc
  clear hg hm
  obtain ⟨W, hW⟩ : ∃ W, (w.alloc (.cells #[.int .i64 z, .int .i64 h, .int .i64 t, .int .i64 n, .int .i64 p] 23)).alloc (.cells #[.int .i64 k, .int .i64 o, .int .i64 l, .slice sa len cap] 28) = W := ⟨_, rfl⟩
  rw [hW] at d0 S0
  obtain ⟨x0, x1, x2, x3, x4, x5, x6, x7, x8⟩ := S0 _ (Kept.refl _ _)
  go_enter Try.func4, Try.ntmps4
  go_wp2_with (first
    | (go_at_call 6; refine (qg _).mono ?_; rintro e w1 ⟨rfl, hk1⟩; clear x0 x1 x2 x3 x4 x5 x6 x7 x8; obtain ⟨x0, x1, x2, x3, x4, x5, x6, x7, x8⟩ := S0 _ hk1)
    | (go_at_call 8; refine (qc _).mono ?_; rintro e w2 ⟨rfl, hk2⟩; clear x0 x1 x2 x3 x4 x5 x6 x7 x8; obtain ⟨x0, x1, x2, x3, x4, x5, x6, x7, x8⟩ := S0 _ (hk1.trans hk2))
    | (go_at_call 5; refine (qv _).mono ?_; rintro e w5 ⟨rfl, hk5⟩))
  go_ret
  exact ⟨rfl, ((d0.trans hk1).trans hk2).trans hk5⟩
set_option maxRecDepth 100000 in
set_option maxHeartbeats 1000000 in
theorem small_flush (z h t n p o l : Int) (sa : Option Addr) (len cap : Nat) (hg : cgood z h t n p = true) (hm : may 2 o l len z = true) (h0 : -9223372036854775808 ≤ z) (h1 : z ≤ 9223372036854775807) (w : World) :
    Calls Try.prog 4 #[.agg #[.int .i64 z, .int .i64 h, .int .i64 t, .int .i64 n, .int .i64 p], .agg #[.int .i64 2, .int .i64 o, .int .i64 l, .slice sa len cap]] w fun e w' => e = .returned (.bool true) ∧ Kept [] w w' := by
  have qg := fun w => good_any z h t n p h0 h1 w
  have qc := fun w => check_any z h t n p 2 o l sa len cap w
  have qv := lives_any
  obtain ⟨d0, S0⟩ := both_new w z h t n p 2 o l sa len cap
  clear h0 h1
  rw [hg] at qg
  rw [hm, err_true] at qc
  obtain ⟨rfl, rfl, rfl⟩ := may_flush hm
  have es : ∀ w, (binOp .eql 25 (.agg #[.int .i64 0, .int .i64 0]) (.agg #[.int .i64 0, .int .i64 0])).run Try.prog w = .ok (.bool true) w := fun w => eql_span 0 0 0 0 w
  clear hg hm
  obtain ⟨W, hW⟩ : ∃ W, (w.alloc (.cells #[.int .i64 z, .int .i64 h, .int .i64 t, .int .i64 n, .int .i64 p] 23)).alloc (.cells #[.int .i64 2, .int .i64 0, .int .i64 0, .slice sa 0 cap] 28) = W := ⟨_, rfl⟩
  rw [hW] at d0 S0
  obtain ⟨x0, x1, x2, x3, x4, x5, x6, x7, x8⟩ := S0 _ (Kept.refl _ _)
  go_enter Try.func4, Try.ntmps4
  go_wp2_with (first
    | (go_at_call 6; refine (qg _).mono ?_; rintro e w1 ⟨rfl, hk1⟩; clear x0 x1 x2 x3 x4 x5 x6 x7 x8; obtain ⟨x0, x1, x2, x3, x4, x5, x6, x7, x8⟩ := S0 _ hk1)
    | (go_at_call 8; refine (qc _).mono ?_; rintro e w2 ⟨rfl, hk2⟩; clear x0 x1 x2 x3 x4 x5 x6 x7 x8; obtain ⟨x0, x1, x2, x3, x4, x5, x6, x7, x8⟩ := S0 _ (hk1.trans hk2))
    | (go_at_call 5; refine (qv _).mono ?_; rintro e w5 ⟨rfl, hk5⟩))
  go_ret
  exact ⟨rfl, ((d0.trans hk1).trans hk2).trans hk5⟩
set_option maxRecDepth 100000 in
set_option maxHeartbeats 1000000 in
theorem small_some (z h t n p k o l : Int) (sa : Option Addr) (len cap : Nat) (hg : cgood z h t n p = true) (hm : may k o l len z = true) (h2 : k ≠ 2) (h0 : -9223372036854775808 ≤ z) (h1 : z ≤ 9223372036854775807) (w : World) :
    Calls Try.prog 4 #[.agg #[.int .i64 z, .int .i64 h, .int .i64 t, .int .i64 n, .int .i64 p], .agg #[.int .i64 k, .int .i64 o, .int .i64 l, .slice sa len cap]] w fun e w' => e = .returned (.bool true) ∧ Kept [] w w' := by
  have qg := fun w => good_any z h t n p h0 h1 w
  have qc := fun w => check_any z h t n p k o l sa len cap w
  have qv := lives_any
  obtain ⟨d0, S0⟩ := both_new w z h t n p k o l sa len cap
  clear h0 h1
  rw [hg] at qg
  rw [hm, err_true] at qc
  have hf := may_fits hm h2
  obtain ⟨f1, f2, f3, f4, f5⟩ := fits_in hf
  have f6 := cgood_z hg
  obtain ⟨n1, n3⟩ := three hf f6
  have qe := fun w => Span.refExtents_any o l w
  have ql := fun w => Bits.refList_any (Span.Math.ext o l) w (Span.Math.ext_lt o l)
  have b2 : (k == 2) = false := by simp; omega
  generalize Span.Math.ext o l = X at *
  generalize Bits.Math.elems X = L at *
  have i1 : (1 : Int) ≤ (L.length : Int) := by omega
  have i3 : (L.length : Int) ≤ 3 := by omega
  clear hg hm h2 hf f5 n1 n3
  obtain ⟨W, hW⟩ : ∃ W, (w.alloc (.cells #[.int .i64 z, .int .i64 h, .int .i64 t, .int .i64 n, .int .i64 p] 23)).alloc (.cells #[.int .i64 k, .int .i64 o, .int .i64 l, .slice sa len cap] 28) = W := ⟨_, rfl⟩
  rw [hW] at d0 S0
  obtain ⟨x0, x1, x2, x3, x4, x5, x6, x7, x8⟩ := S0 _ (Kept.refl _ _)
  go_enter Try.func4, Try.ntmps4
  go_wp2_with (first
    | (go_at_call 6; refine (qg _).mono ?_; rintro e w1 ⟨rfl, hk1⟩; clear x0 x1 x2 x3 x4 x5 x6 x7 x8; obtain ⟨x0, x1, x2, x3, x4, x5, x6, x7, x8⟩ := S0 _ hk1)
    | (go_at_call 8; refine (qc _).mono ?_; rintro e w2 ⟨rfl, hk2⟩; clear x0 x1 x2 x3 x4 x5 x6 x7 x8; obtain ⟨x0, x1, x2, x3, x4, x5, x6, x7, x8⟩ := S0 _ (hk1.trans hk2))
    | (go_at_call 15; refine (qe _).mono ?_; rintro e w3 ⟨rfl, hB3⟩; have hk3 := Kept.of_below hB3 []; clear x0 x1 x2 x3 x4 x5 x6 x7 x8; obtain ⟨x0, x1, x2, x3, x4, x5, x6, x7, x8⟩ := S0 _ ((hk1.trans hk2).trans hk3))
    | (go_at_call 14; refine (ql _).mono ?_; rintro e w4 ⟨v, rfl, hrow, hB4⟩; have hk4 := Kept.of_below hB4 []; obtain ⟨la, cap4, rfl, -⟩ := Bits.intsAt_of_owns hrow; clear x0 x1 x2 x3 x4 x5 x6 x7 x8; obtain ⟨x0, x1, x2, x3, x4, x5, x6, x7, x8⟩ := S0 _ (((hk1.trans hk2).trans hk3).trans hk4))
    | (go_at_call 5; refine (qv _).mono ?_; rintro e w5 ⟨rfl, hk5⟩))
  go_ret
  exact ⟨rfl, ((((d0.trans hk1).trans hk2).trans hk3).trans hk4).trans hk5⟩
set_option maxRecDepth 100000 in
/-- RequestSmall -/
theorem small_walk (z h t n p k o l : Int) (sa : Option Addr) (len cap : Nat) (h0 : -9223372036854775808 ≤ z) (h1 : z ≤ 9223372036854775807) (w : World) :
    Calls Try.prog 4 #[.agg #[.int .i64 z, .int .i64 h, .int .i64 t, .int .i64 n, .int .i64 p], .agg #[.int .i64 k, .int .i64 o, .int .i64 l, .slice sa len cap]] w fun e w' => e = .returned (.bool true) ∧ Below w.heap.size w w' := by
  have h : Calls Try.prog 4 #[.agg #[.int .i64 z, .int .i64 h, .int .i64 t, .int .i64 n, .int .i64 p], .agg #[.int .i64 k, .int .i64 o, .int .i64 l, .slice sa len cap]] w fun e w' => e = .returned (.bool true) ∧ Kept [] w w' := by
    cases hg : cgood z h t n p with
    | false => exact small_bad z h t n p k o l sa len cap hg h0 h1 w
    | true =>
      cases hm : may k o l len z with
      | false => exact small_not z h t n p k o l sa len cap hg hm h0 h1 w
      | true =>
        by_cases h2 : k = 2
        · subst h2
          exact small_flush z h t n p o l sa len cap hg hm h0 h1 w
        · exact small_some z h t n p k o l sa len cap hg hm h2 h0 h1 w
  exact h.mono fun _ _ ⟨e, hk⟩ => ⟨e, kept_below hk⟩
end Go.Proofs.Ytmpblohagchhaaa.Request
