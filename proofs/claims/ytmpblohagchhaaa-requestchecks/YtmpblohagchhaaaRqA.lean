/-
  Good, Name, fits, mayBe and Check, the program's and the document's.
-/
import Derived.Test.YtmpblohagchhaaaBase
import Derived.Test.YtmpblohagchhaaaSpan1
import Derived.Test.YtmpblohagchhaaaRqM
import Derived.Laws.ResultCell
import Derived.Laws.Rows
namespace Go.Proofs.Ytmpblohagchhaaa.Request
open Go.RowKit
open Span (ret_bool ret_int)

theorem kept_below {w w' : World} (h : Kept [] w w') : Below w.heap.size w w' := h.below (Nat.le_refl _) (by simp)
set_option maxRecDepth 100000 in
/-- kept, of a limit with steps of four -/
theorem kept4 (x a b : Int) (h0 : -9223372036854775808 ≤ x) (h1 : x ≤ 9223372036854775807) (ha : 0 ≤ a) (w : World) : Calls Try.prog 17 #[.agg #[.int .i64 x, .int .i64 a, .int .i64 b, .int .i64 4]] w fun e w' => e = .returned (.bool (lim x a b 4)) ∧ Kept [] w w' := by
  have hk := kept_alloc [] w (.cells #[.int .i64 x, .int .i64 a, .int .i64 b, .int .i64 4] 43)
  have hl : Hid (lim x a b 4 = (decide (a ≤ x) && (decide (x ≤ b) && decide (x % 4 = 0)))) := rfl
  generalize lim x a b 4 = G at *
  by_cases c0 : a ≤ x
  · by_cases c1 : x ≤ b
    · go_enter Try.func17, Try.ntmps17
      go_wp2_with fail
      go_ret
      exact ⟨ret_bool (by rw [hl.out, decide_eq_true c0, decide_eq_true c1, Bool.true_and, Bool.true_and, Bool.eq_iff_iff]; simp), hk⟩
    · go_enter Try.func17, Try.ntmps17
      go_wp2_with fail
      go_ret
      exact ⟨ret_bool (by rw [hl.out, decide_eq_false (by omega : ¬ x ≤ b)]; simp), hk⟩
  · go_enter Try.func17, Try.ntmps17
    go_wp2_with fail
    go_ret
    exact ⟨ret_bool (by rw [hl.out, decide_eq_false (by omega : ¬ a ≤ x)]; simp), hk⟩
set_option maxRecDepth 100000 in
/-- kept, of a limit with steps of one -/
theorem kept1 (x a b : Int) (w : World) : Calls Try.prog 17 #[.agg #[.int .i64 x, .int .i64 a, .int .i64 b, .int .i64 1]] w fun e w' => e = .returned (.bool (lim x a b 1)) ∧ Kept [] w w' := by
  have hk := kept_alloc [] w (.cells #[.int .i64 x, .int .i64 a, .int .i64 b, .int .i64 1] 43)
  have hl : Hid (lim x a b 1 = (decide (a ≤ x) && (decide (x ≤ b) && decide (x % 1 = 0)))) := rfl
  generalize lim x a b 1 = G at *
  by_cases c0 : a ≤ x
  · by_cases c1 : x ≤ b
    · go_enter Try.func17, Try.ntmps17
      go_wp2_with fail
      go_ret
      exact ⟨ret_bool (by rw [hl.out, decide_eq_true c0, decide_eq_true c1, Bool.true_and, Bool.true_and, Bool.eq_iff_iff]; simp), hk⟩
    · go_enter Try.func17, Try.ntmps17
      go_wp2_with fail
      go_ret
      exact ⟨ret_bool (by rw [hl.out, decide_eq_false (by omega : ¬ x ≤ b)]; simp), hk⟩
  · go_enter Try.func17, Try.ntmps17
    go_wp2_with fail
    go_ret
    exact ⟨ret_bool (by rw [hl.out, decide_eq_false (by omega : ¬ a ≤ x)]; simp), hk⟩
set_option maxRecDepth 100000 in
theorem Try.sizeL : (Try.prog.info? 43).map (·.size) = some 4 := by kernel_rfl
set_option maxRecDepth 100000 in
theorem Try.sizeLs : (Try.prog.info? 44).map (·.size) = some 20 := by kernel_rfl
set_option maxRecDepth 100000 in
/-- limits -/
theorem limits_any (z h t n p : Int) (w : World) : Calls Try.prog 16 #[.agg #[.int .i64 z, .int .i64 h, .int .i64 t, .int .i64 n, .int .i64 p]] w fun e w' => e = .returned (.agg #[.int .i64 z, .int .i64 4, .int .i64 256, .int .i64 4, .int .i64 h, .int .i64 3, .int .i64 16, .int .i64 1, .int .i64 t, .int .i64 1, .int .i64 16, .int .i64 1, .int .i64 n, .int .i64 1, .int .i64 64, .int .i64 1, .int .i64 p, .int .i64 2, .int .i64 100, .int .i64 1]) ∧ Kept [] w w' := by
  obtain ⟨w1, hw1⟩ : ∃ w1, w.alloc (.cells #[.int .i64 z, .int .i64 h, .int .i64 t, .int .i64 n, .int .i64 p] 23) = w1 := ⟨_, rfl⟩
  have hb1 : Blk w1 w.heap.size 23 #[.int .i64 z, .int .i64 h, .int .i64 t, .int .i64 n, .int .i64 p] := by rw [← hw1]; exact blk_new w 23 _
  have hk1 : Kept [] w w1 := by rw [← hw1]; exact kept_alloc [] w _
  have hs1 : w1.heap.size = w.heap.size + 1 := by rw [← hw1]; simp
  have hb2 := blk_new w1 44 #[.int .i64 0, .int .i64 0, .int .i64 0, .int .i64 0, .int .i64 0, .int .i64 0, .int .i64 0, .int .i64 0, .int .i64 0, .int .i64 0, .int .i64 0, .int .i64 0, .int .i64 0, .int .i64 0, .int .i64 0, .int .i64 0, .int .i64 0, .int .i64 0, .int .i64 0, .int .i64 0]
  have hk2 := kept_alloc [] w1 (.cells #[.int .i64 0, .int .i64 0, .int .i64 0, .int .i64 0, .int .i64 0, .int .i64 0, .int .i64 0, .int .i64 0, .int .i64 0, .int .i64 0, .int .i64 0, .int .i64 0, .int .i64 0, .int .i64 0, .int .i64 0, .int .i64 0, .int .i64 0, .int .i64 0, .int .i64 0, .int .i64 0] 44)
  go_enter Try.func16, Try.ntmps16
  go_upto_region 1 with fail

  rw [hs1] at hb2
  obtain ⟨w2, hw2⟩ : ∃ w2, w1.alloc (.cells #[.int .i64 0, .int .i64 0, .int .i64 0, .int .i64 0, .int .i64 0, .int .i64 0, .int .i64 0, .int .i64 0, .int .i64 0, .int .i64 0, .int .i64 0, .int .i64 0, .int .i64 0, .int .i64 0, .int .i64 0, .int .i64 0, .int .i64 0, .int .i64 0, .int .i64 0, .int .i64 0] 44) = w2 := ⟨_, rfl⟩
  rw [hw2] at hb2 hk2 ⊢
  have hb12 := hb1.kept hk2 (by simp)
  have c0 := (hb12.cell 0).trans rfl
  have c1 := (hb12.cell 1).trans rfl
  have c2 := (hb12.cell 2).trans rfl
  have c3 := (hb12.cell 3).trans rfl
  have c4 := (hb12.cell 4).trans rfl
  clear hw1 hw2 hb1 hs1 hb12
  go_wp2_with (refine wpList_store_blk rfl 44 _ _ rfl (w.heap.size + 1) 44 _ [.int .i64 z, .int .i64 4, .int .i64 256, .int .i64 4, .int .i64 h, .int .i64 3, .int .i64 16, .int .i64 1, .int .i64 t, .int .i64 1, .int .i64 16, .int .i64 1, .int .i64 n, .int .i64 1, .int .i64 64, .int .i64 1, .int .i64 p, .int .i64 2, .int .i64 100, .int .i64 1] rfl rfl hb2 rfl Try.sizeLs (by simp [Value.oneCell']) ?_; intro w3 hb3 hk3 hz3)
  refine bodyPost_ret (results_cell_row rfl _ _ (w.heap.size + 1) 44 _ (0, 0) _ rfl hb3 Try.underlying44 rfl Try.sizeLs) rfl ⟨rfl, ?_⟩
  exact (hk1.trans hk2).young hk3 (by omega)
end Go.Proofs.Ytmpblohagchhaaa.Request
