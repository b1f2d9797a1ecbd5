/-
  The flights in memory: the walks of New, made, find, has, Len, isState, Get, Busy.
-/
import Derived.Test.YtollfckgjhklcaaGreatFlB
namespace Go.Proofs.YtollfckgjhklcaaGreat.Flight
open Go.RowKit Go.Maps Go.Sort
open Table (Rising ins del tks)

set_option maxRecDepth 100000 in
/-- New -/
theorem new_any (w : World) : Calls Tryz.prog 5 #[] w fun e w' => ∃ f b p F, e = .returned (.pointer (some ⟨f, 0, none⟩)) ∧ FlAt w' w.heap.size w'.heap.size f b p F [] ∧ Kept [] w w' := by
  have hmm := @run_makeMap Tryz.prog
  have q := Itree.inew_any w
  go_enter Tryz.func5, Tryz.ntmps5
  go_wp2_with (go_at_call 27; refine q.mono ?_; rintro e w1 ⟨p, F, rfl, hT, hF, hk1⟩)
  go_ret
  have ka := kept_alloc [] w1 (.map #[] 0)
  have kb := kept_alloc [] (w1.alloc (.map #[] 0)) (.cells #[.pointer (some ⟨p, 0, none⟩), .map (some w1.heap.size)] 67)
  have hlt := hT.lt
  have hs := hk1.size
  have hb := blk_new (w1.alloc (.map #[] 0)) 67 #[.pointer (some ⟨p, 0, none⟩), .map (some w1.heap.size)]
  rw [World.size_alloc] at hb
  refine ⟨w1.heap.size + 1, w1.heap.size, p, F, by simp, ⟨hb, (holds_made _ _ w1).kept kb (by simp) (by simp), ⟨[], (hT.kept ka (by simp)).kept kb (by simp), tree_nil, rfl⟩, good_nil, fit_nil, fun hm => ?_, fun hm => ?_, ⟨by omega, by omega, hF⟩, Nat.le_refl _⟩, (hk1.trans ka).trans kb⟩
  · have := hlt _ hm
    omega
  · have := hlt _ hm
    omega
set_option maxRecDepth 100000 in
/-- made -/
theorem made_any {lo hi f b p : Nat} {F : List Nat} {L : List (Int × Fw)} (w : World) (h : FlAt w lo hi f b p F L) :
    Calls Tryz.prog 28 #[.pointer (some ⟨f, 0, none⟩)] w fun e w' => e = .returned (.bool true) ∧ w' = w := by
  have c1 := h.two.2
  have qn : ∀ (w : World) (r : Option Nat), (binOp .neq 63 (.map r) (.map none)).run Tryz.prog w = .ok (.bool (!r.isNone)) w := fun w r => run_neq_map_nil w _ _ _ r Tryz.underlying63
  go_enter Tryz.func28, Tryz.ntmps28
  go_wp2
  go_ret
  exact ⟨rfl, rfl⟩
set_option maxRecDepth 100000 in
/-- Len -/
theorem len_any {lo hi f b p : Nat} {F : List Nat} {L : List (Int × Fw)} (w : World) (h : FlAt w lo hi f b p F L) :
    Calls Tryz.prog 20 #[.pointer (some ⟨f, 0, none⟩)] w fun e w' => e = .returned (.int .i64 (L.length : Int)) ∧ w' = w := by
  have c1 := h.two.2
  have q := made_any w h
  have ql := h.map.len h.good.rising h.fit
  go_enter Tryz.func20, Tryz.ntmps20
  go_wp2_with (go_at_call 28; refine q.mono ?_; rintro e w ⟨rfl, rfl⟩)
  go_ret
  exact ⟨rfl, rfl⟩
set_option maxRecDepth 100000 in
/-- isState -/
theorem isState_any (s : Int) (w : World) : Calls Tryz.prog 36 #[.int .i64 s] w fun e w' => e = .returned (.bool (decide (0 ≤ s ∧ s ≤ 2))) ∧ w' = w := by
  go_enter Tryz.func36, Tryz.ntmps36
  go_wp2
  all_goals (go_ret; refine ⟨congrArg (fun b => Ending.returned (.bool b)) (Bool.eq_iff_iff.2 ?_), rfl⟩; simp; omega)
set_option maxRecDepth 100000 in
theorem results_write {fn : Func} {p u : Tmp} (h : fn.results = #[.cell p 39, .tmp u]) (tmps : Array Value) (w : World) (g : Nat) (cs : List Value) (hp : tmps.getD p undef = .pointer (some ⟨g, 0, none⟩)) (hg : Blk w g 39 cs.toArray) (hl : cs.length = 5) :
    (results fn tmps).run Tryz.prog w = .ok (.tuple #[.agg cs.toArray, tmps.getD u undef]) w := by
  have hl := run_loadVar_row (P := Tryz.prog) w g 39 39 cs.toArray (0, 0) _ hg Tryz.underlying39 (by rfl) (by rw [List.size_toArray, hl]; exact Tryz.sizeW)
  rw [results_cell_tmp h, hp]
  simp [asAddr, hl, Result.andThen]
/-- What stands under a ticket, or the write of nothing. -/
def Found (L : List (Int × Fw)) (k : Int) (x : Fv) : Prop := x.t = (if (Table.look L k).isSome then k else 0) ∧ x.fw = (Table.look L k).getD fw0
set_option maxRecDepth 100000 in
set_option maxHeartbeats 1000000 in
/-- find -/
theorem find_any {lo hi f b p : Nat} {F : List Nat} {L : List (Int × Fw)} (k : Int) (h0 : -9223372036854775808 ≤ k) (h1 : k ≤ 9223372036854775807) (w : World) (h : FlAt w lo hi f b p F L) :
    Calls Tryz.prog 35 #[.pointer (some ⟨f, 0, none⟩), .int .i64 k] w fun e w' => ∃ x : Fv, e = .returned (.tuple #[x.val, .bool (Table.look L k).isSome]) ∧ Found L k x ∧ x.At lo hi w' ∧ Kept [] w w' := by
  have ka := kept_alloc [] w (.cells #[.int .i64 0, .int .i64 0, .int .i64 0, .slice none 0 0, .int .i64 0] 39)
  have hb0 := blk_new w 39 #[.int .i64 0, .int .i64 0, .int .i64 0, .slice none 0 0, .int .i64 0]
  have hT := h.kept0 ka
  have q := made_any _ hT
  have c1 := hT.two.2
  obtain ⟨x, hxt, hx, hxA, hl⟩ := hT.map.seek h0 h1
  have hfd : Found L k x := ⟨hxt, hx⟩
  clear hxt hx
  obtain ⟨ok, hok⟩ : ∃ ok, (Table.look L k).isSome = ok := ⟨_, rfl⟩
  rw [hok] at hl ⊢
  clear hok
  unfold Fv.val at hl
  have kb := kept_alloc [] (w.alloc (.cells #[.int .i64 0, .int .i64 0, .int .i64 0, .slice none 0 0, .int .i64 0] 39)) (.cells #[.int .i64 0, .int .i64 0, .int .i64 0, .slice none 0 0, .int .i64 0] 39)
  have hb1 := blk_new (w.alloc (.cells #[.int .i64 0, .int .i64 0, .int .i64 0, .slice none 0 0, .int .i64 0] 39)) 39 #[.int .i64 0, .int .i64 0, .int .i64 0, .slice none 0 0, .int .i64 0]
  rw [show (w.alloc (.cells #[.int .i64 0, .int .i64 0, .int .i64 0, .slice none 0 0, .int .i64 0] 39)).heap.size = w.heap.size + 1 by simp] at hb1
  have hb01 := hb0.kept kb (by simp)
  go_enter Tryz.func35, Tryz.ntmps35
  go_wp2_with (first
    | (go_at_call 28; refine q.mono ?_; rintro e w1 ⟨rfl, rfl⟩)
    | (refine wpList_store_blk rfl 39 _ _ rfl (w.heap.size + 1) 39 _ [.int .i64 x.t, .int .i64 x.o, .int .i64 x.l, .slice x.sa x.len x.cap, .int .i64 x.st] rfl rfl hb1 rfl Tryz.sizeW (by simp [Value.oneCell']) ?_; intro w2 hb2 hk2 hz2; have hb1' := hb1; clear hb1; have hb02 := hb01.kept hk2 (by simp); have d0 : w2.cell? ⟨w.heap.size + 1, 0, none⟩ = some (.int .i64 x.t) := (hb2.cell 0).trans rfl; have d1 : w2.cell? ⟨w.heap.size + 1, 1, none⟩ = some (.int .i64 x.o) := (hb2.cell 1).trans rfl; have d2 : w2.cell? ⟨w.heap.size + 1, 2, none⟩ = some (.int .i64 x.l) := (hb2.cell 2).trans rfl; have d3 : w2.cell? ⟨w.heap.size + 1, 3, none⟩ = some (.slice x.sa x.len x.cap) := (hb2.cell 3).trans rfl; have d4 : w2.cell? ⟨w.heap.size + 1, 4, none⟩ = some (.int .i64 x.st) := (hb2.cell 4).trans rfl)
    | (refine wpList_store_blk rfl 39 _ _ rfl w.heap.size 39 _ [.int .i64 x.t, .int .i64 x.o, .int .i64 x.l, .slice x.sa x.len x.cap, .int .i64 x.st] rfl rfl hb02 rfl Tryz.sizeW (by simp [Value.oneCell']) ?_; intro w3 hb3 hk3 hz3))
  refine bodyPost_ret (results_write rfl _ _ w.heap.size _ rfl hb3 rfl) rfl ⟨x, rfl, hfd, ((hxA.kept0 kb).kept hk2 (by simp; exact off_blk hb1' (by decide))).kept hk3 (by simp; exact off_blk hb02 (by decide)), ?_⟩
  exact (((ka.trans kb).young hk2 (by omega)).young hk3 (Nat.le_refl _))
end Go.Proofs.YtollfckgjhklcaaGreat.Flight
