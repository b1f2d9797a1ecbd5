/-
  Flights that no call made: their calls; the walk of FlightNone.
-/
import Derived.Test.YtollfckgjhklcaaFlP
namespace Go.Proofs.Ytollfckgjhklcaa.Flight
open Go.RowKit Go.Maps Go.Sort

/-- Flights that no call made: none, or zero ones. -/
def NoFl (W : World) (q : Option Addr) : Prop := q = none ∨ ∃ f, q = some ⟨f, 0, none⟩ ∧ Blk W f 45 #[.pointer none, .map none]
theorem NoFl.kept {A B : World} {q : Option Addr} (h : NoFl A q) (hk : Kept [] A B) : NoFl B q := by
  rcases h with h | ⟨f, h1, h2⟩
  · exact .inl h
  · exact .inr ⟨f, h1, h2.kept hk (by simp)⟩
set_option maxRecDepth 100000 in
theorem made_none (q : Option Addr) (w : World) (h : NoFl w q) : Calls Try.prog 19 #[.pointer q] w fun e w' => e = .returned (.bool false) ∧ w' = w := by
  have qn : ∀ (w : World) (r : Option Nat), (binOp .neq 41 (.map r) (.map none)).run Try.prog w = .ok (.bool (!r.isNone)) w := fun w r => run_neq_map_nil w _ _ _ r Try.underlying41
  rcases h with rfl | ⟨f, rfl, hb⟩
  · go_enter Try.func19, Try.ntmps19
    go_wp2
    go_ret
    exact ⟨rfl, rfl⟩
  · have c1 := (hb.cell 1).trans (show _ = some (Value.map none) from rfl)
    go_enter Try.func19, Try.ntmps19
    go_wp2
    go_ret
    exact ⟨rfl, rfl⟩
set_option maxRecDepth 100000 in
theorem len_none (q : Option Addr) (w : World) (h : NoFl w q) : Calls Try.prog 14 #[.pointer q] w fun e w' => e = .returned (.int .i64 0) ∧ w' = w := by
  have qm := made_none q w h
  go_enter Try.func14, Try.ntmps14
  go_wp2_with (go_at_call 19; refine qm.mono ?_; rintro e w ⟨rfl, rfl⟩)
  go_ret
  exact ⟨rfl, rfl⟩
set_option maxRecDepth 100000 in
theorem extents_none (q : Option Addr) (w : World) (h : NoFl w q) : Calls Try.prog 15 #[.pointer q] w fun e w' => e = .returned (.int .u64 0) ∧ w' = w := by
  have qm := made_none q w h
  go_enter Try.func15, Try.ntmps15
  go_wp2_with (go_at_call 19; refine qm.mono ?_; rintro e w ⟨rfl, rfl⟩)
  go_ret
  exact ⟨rfl, rfl⟩
set_option maxRecDepth 100000 in
theorem rising_none (q : Option Addr) (w : World) (h : NoFl w q) : Calls Try.prog 23 #[.pointer q] w fun e w' => e = .returned (.slice none 0 0) ∧ w' = w := by
  have qm := made_none q w h
  go_enter Try.func23, Try.ntmps23
  go_wp2_with (go_at_call 19; refine qm.mono ?_; rintro e w ⟨rfl, rfl⟩)
  go_ret
  exact ⟨rfl, rfl⟩
set_option maxRecDepth 100000 in
theorem list_none (q : Option Addr) (w : World) (h : NoFl w q) : Calls Try.prog 9 #[.pointer q] w fun e w' => e = .returned (.slice none 0 0) ∧ w' = w := by
  have qm := rising_none q w h
  go_enter Try.func9, Try.ntmps9
  go_wp2_with (go_at_call 23; refine qm.mono ?_; rintro e w ⟨rfl, rfl⟩)
  refine wp_loop_rounds 1 ?_
  rw [rounds_succ]
  go_wp2
  go_ret
  exact ⟨rfl, rfl⟩
set_option maxRecDepth 100000 in
theorem own_none (q : Option Addr) (w : World) (h : NoFl w q) : Calls Try.prog 13 #[.pointer q] w fun e w' => e = .returned (.slice none 0 0) ∧ w' = w := by
  have qm := rising_none q w h
  go_enter Try.func13, Try.ntmps13
  go_wp2_with (go_at_call 23; refine qm.mono ?_; rintro e w ⟨rfl, rfl⟩)
  refine wp_loop_rounds 1 ?_
  rw [rounds_succ]
  go_wp2
  go_ret
  exact ⟨rfl, rfl⟩
set_option maxRecDepth 100000 in
set_option maxHeartbeats 1000000 in
theorem find_none (q : Option Addr) (k : Int) (w : World) (h : NoFl w q) : Calls Try.prog 17 #[.pointer q, .int .i64 k] w fun e w' => e = .returned (.tuple #[.agg #[.int .i64 0, .int .i64 0, .int .i64 0, .slice none 0 0, .int .i64 0], .bool false]) ∧ Kept [] w w' := by
  have ka := kept_alloc [] w (.cells #[.int .i64 0, .int .i64 0, .int .i64 0, .slice none 0 0, .int .i64 0] 36)
  have hb0 := blk_new w 36 #[.int .i64 0, .int .i64 0, .int .i64 0, .slice none 0 0, .int .i64 0]
  have qm := made_none q _ (h.kept ka)
  go_enter Try.func17, Try.ntmps17
  go_wp2_with (first
    | (go_at_call 19; refine qm.mono ?_; rintro e w1 ⟨rfl, rfl⟩)
    | (refine wpList_store_blk rfl 36 _ _ rfl w.heap.size 36 _ [.int .i64 0, .int .i64 0, .int .i64 0, .slice none 0 0, .int .i64 0] rfl rfl hb0 rfl Try.sizeW (by simp [Value.oneCell']) ?_; intro w2 hb2 hk2 hz2))
  exact bodyPost_ret (results_write rfl _ _ w.heap.size _ rfl hb2 rfl) rfl ⟨rfl, ka.young hk2 (Nat.le_refl _)⟩
set_option maxRecDepth 100000 in
set_option maxHeartbeats 1000000 in
theorem has_none (q : Option Addr) (k : Int) (w : World) (h : NoFl w q) : Calls Try.prog 20 #[.pointer q, .int .i64 k] w fun e w' => e = .returned (.bool false) ∧ Kept [] w w' := by
  have qf := find_none q k w h
  go_enter Try.func20, Try.ntmps20
  go_wp2_with (first
    | (go_at_call 17; refine qf.mono ?_; rintro e w1 ⟨rfl, hk1⟩))
  go_ret
  exact ⟨rfl, hk1.trans (kept_alloc [] _ _)⟩
set_option maxRecDepth 100000 in
set_option maxHeartbeats 1000000 in
theorem get_none (q : Option Addr) (k : Int) (w : World) (h : NoFl w q) : Calls Try.prog 10 #[.pointer q, .int .i64 k] w fun e w' => ∃ y : Fv, e = .returned (.tuple #[y.val, .bool false]) ∧ Kept [] w w' := by
  have ka := kept_alloc [] w (.cells #[.int .i64 0, .int .i64 0, .int .i64 0, .slice none 0 0, .int .i64 0] 36)
  have hb0 := blk_new w 36 #[.int .i64 0, .int .i64 0, .int .i64 0, .slice none 0 0, .int .i64 0]
  have qf := find_none q k _ (h.kept ka)
  have qa := fun W => apart_any fv0 0 W (fv0_at 0 0 W).in (Nat.zero_le _) (by simp [fv0])
  unfold fv0 Fv.val at qa
  go_enter Try.func10, Try.ntmps10
  go_wp2_with (first
    | (go_at_call 17; refine qf.mono ?_; rintro e w1 ⟨rfl, hk1⟩; have hb1 := hb0.kept hk1 (by simp); have kb := kept_alloc [] w1 (.cells #[.int .i64 0, .int .i64 0, .int .i64 0, .slice none 0 0, .int .i64 0] 36); have hb2 := hb1.kept kb (by simp))
    | (go_at_call 22; refine (qa _).mono ?_; rintro e w3 ⟨y, rfl, -, -, -, hk3⟩; have hb3 := hb2.kept hk3 (by simp))
    | (refine wpList_store_blk rfl 36 _ _ rfl w.heap.size 36 _ [.int .i64 y.t, .int .i64 y.o, .int .i64 y.l, .slice y.sa y.len y.cap, .int .i64 y.st] rfl rfl hb3 rfl Try.sizeW (by simp [Value.oneCell']) ?_; intro w4 hb4 hk4 hz4))
  exact bodyPost_ret (results_write rfl _ _ w.heap.size _ rfl hb4 rfl) rfl ⟨y, rfl, (((ka.trans hk1).trans kb).trans hk3).young hk4 (Nat.le_refl _)⟩
set_option maxRecDepth 100000 in
set_option maxHeartbeats 1000000 in
theorem turn_none (q : Option Addr) (k s : Int) (w : World) (h : NoFl w q) : Calls Try.prog 11 #[.pointer q, .int .i64 k, .int .i64 s] w fun e w' => e = .returned (.bool false) ∧ Kept [] w w' := by
  have qf := find_none q k w h
  go_enter Try.func11, Try.ntmps11
  go_wp2_with (first
    | (go_at_call 17; refine qf.mono ?_; rintro e w1 ⟨rfl, hk1⟩))
  go_ret
  exact ⟨rfl, hk1.trans (kept_alloc [] _ _)⟩
set_option maxRecDepth 100000 in
set_option maxHeartbeats 1000000 in
theorem end_none (q : Option Addr) (k : Int) (w : World) (h : NoFl w q) : Calls Try.prog 7 #[.pointer q, .int .i64 k] w fun e w' => e = .returned (.bool false) ∧ Kept [] w w' := by
  have qf := find_none q k w h
  go_enter Try.func7, Try.ntmps7
  go_wp2_with (first
    | (go_at_call 17; refine qf.mono ?_; rintro e w1 ⟨rfl, hk1⟩))
  go_ret
  exact ⟨rfl, hk1.trans (kept_alloc [] _ _)⟩
set_option maxRecDepth 100000 in
set_option maxHeartbeats 1000000 in
theorem add_none (q : Option Addr) (k o l : Int) (sa : Option Addr) (len cap : Nat) (w : World) (h : NoFl w q) : Calls Try.prog 8 #[.pointer q, .int .i64 k, .agg #[.int .i64 o, .int .i64 l], .slice sa len cap] w fun e w' => e = .returned (.bool false) ∧ Kept [] w w' := by
  have ka := kept_alloc [] w (.cells #[.int .i64 o, .int .i64 l] 28)
  have qm := made_none q _ (h.kept ka)
  go_enter Try.func8, Try.ntmps8
  go_wp2_with (first
    | (go_at_call 19; refine qm.mono ?_; rintro e w1 ⟨rfl, rfl⟩))
  go_ret
  exact ⟨rfl, ka⟩
set_option maxRecDepth 100000 in
set_option maxHeartbeats 1000000 in
theorem busy_none (q : Option Addr) (o l : Int) (w : World) (h : NoFl w q) : Calls Try.prog 12 #[.pointer q, .agg #[.int .i64 o, .int .i64 l]] w fun e w' => e = .returned (.bool false) ∧ Kept [] w w' := by
  have ka := kept_alloc [] w (.cells #[.int .i64 o, .int .i64 l] 28)
  obtain ⟨W0, hW0⟩ : ∃ W0, w.alloc (.cells #[.int .i64 o, .int .i64 l] 28) = W0 := ⟨_, rfl⟩
  rw [hW0] at ka
  have qm := fun n => made_none q _ ((h.kept ka).kept (kept_drewN [] W0 n))
  go_enter Try.func12, Try.ntmps12
  go_wp2_with fail
  go_quiet (first | (go_at_call_of 19 (#[.pointer q] : Array Value); exact Calls.quiet_of_same (qm _)))
  go_wp2_with fail
  go_ret
  exact ⟨rfl, ka.trans (kept_drewN [] _ _)⟩
end Go.Proofs.Ytollfckgjhklcaa.Flight
