/-
  The document's flights in memory: a write copied; rows of writes, cut and joined; the walk of place.
-/
import Derived.Test.YtollfckgjhklcaaGreatFlO
import Derived.Lib.AppendZeros
import Derived.Maps.AppendAt
namespace Go.Proofs.YtollfckgjhklcaaGreat.Flight
open Go.RowKit Go.Maps Go.Sort
open Table (Rising ins del tks)

set_option maxRecDepth 100000 in
theorem Tryz.sizeRW : (Tryz.prog.info? 42).map (·.size) = some 5 := by kernel_rfl
set_option maxRecDepth 100000 in
set_option maxHeartbeats 2000000 in
/-- copied -/
theorem rcopied_any (x : Fv) (hi : Nat) (w : World) (h : x.In hi w) (hh : hi ≤ w.heap.size) (hlen : x.bs.length ≤ 140737488351232) :
    Calls Tryz.prog 34 #[x.val] w fun e w' => ∃ y : Fv, e = .returned y.val ∧ y.t = x.t ∧ y.fw = x.fw ∧ y.At w.heap.size w'.heap.size w' ∧ Kept [] w w' := by
  have hk1 := kept_alloc [] w (.cells #[.int .i64 x.t, .int .i64 x.o, .int .i64 x.l, .slice x.sa x.len x.cap, .int .i64 x.st] 42)
  have hb1 := blk_new w 42 #[.int .i64 x.t, .int .i64 x.o, .int .i64 x.l, .slice x.sa x.len x.cap, .int .i64 x.st]
  have hk2 := kept_alloc [] (w.alloc (.cells #[.int .i64 x.t, .int .i64 x.o, .int .i64 x.l, .slice x.sa x.len x.cap, .int .i64 x.st] 42)) (.cells #[.int .i64 0, .int .i64 0, .int .i64 0, .slice none 0 0, .int .i64 0] 42)
  have hb2 := blk_new (w.alloc (.cells #[.int .i64 x.t, .int .i64 x.o, .int .i64 x.l, .slice x.sa x.len x.cap, .int .i64 x.st] 42)) 42 #[.int .i64 0, .int .i64 0, .int .i64 0, .slice none 0 0, .int .i64 0]
  have hb1' := hb1.kept hk2 (by simp)
  have e2 : ((w.alloc (.cells #[.int .i64 x.t, .int .i64 x.o, .int .i64 x.l, .slice x.sa x.len x.cap, .int .i64 x.st] 42)).alloc (.cells #[.int .i64 0, .int .i64 0, .int .i64 0, .slice none 0 0, .int .i64 0] 42)).heap.size = w.heap.size + 2 := by simp
  rw [show (w.alloc (.cells #[.int .i64 x.t, .int .i64 x.o, .int .i64 x.l, .slice x.sa x.len x.cap, .int .i64 x.st] 42)).heap.size = w.heap.size + 1 by simp] at hb2
  have hx2 := ByteRow.kept h hh (hk1.trans hk2) (by simp)
  unfold Fv.val
  obtain ⟨W, hW⟩ : ∃ W, (w.alloc (.cells #[.int .i64 x.t, .int .i64 x.o, .int .i64 x.l, .slice x.sa x.len x.cap, .int .i64 x.st] 42)).alloc (.cells #[.int .i64 0, .int .i64 0, .int .i64 0, .slice none 0 0, .int .i64 0] 42) = W := ⟨_, rfl⟩
  rw [hW] at hb1' hb2 hx2 hk2 e2
  have ka := (kept_alloc [] W (.cells #[] 5)).trans (kept_drew [] _)
  have r0 : (W.alloc (.cells #[] 5)).drew.ownsRow W.heap.size 5 1 (.slice (some ⟨W.heap.size, 0, none⟩) 0 0) 0 [] := World.ownsRow_made (e := 5) (size := 1) W #[] 0 (Nat.le_refl _) (by unfold maxLen; omega) rfl
  rw [e2] at r0
  have hx3 := hx2.kept (Nat.le_trans hh (by omega)) ka (by simp)
  have S0 : ∀ A, Kept [w.heap.size + 1] W A → A.cell? ⟨w.heap.size, 0, none⟩ = some (.int .i64 x.t) ∧ A.cell? ⟨w.heap.size, 1, none⟩ = some (.int .i64 x.o) ∧ A.cell? ⟨w.heap.size, 2, none⟩ = some (.int .i64 x.l) ∧ A.cell? ⟨w.heap.size, 3, none⟩ = some (.slice x.sa x.len x.cap) ∧ A.cell? ⟨w.heap.size, 4, none⟩ = some (.int .i64 x.st) := fun A hA => ⟨((hb1'.kept hA (by simp)).cell 0).trans rfl, ((hb1'.kept hA (by simp)).cell 1).trans rfl, ((hb1'.kept hA (by simp)).cell 2).trans rfl, ((hb1'.kept hA (by simp)).cell 3).trans rfl, ((hb1'.kept hA (by simp)).cell 4).trans rfl⟩
  have hlen3 : Hid (x.bs.length ≤ 140737488351232) := hlen
  have r0' : Hid ((W.alloc (.cells #[] 5)).drew.ownsRow (w.heap.size + 2) 5 1 (.slice (some ⟨w.heap.size + 2, 0, none⟩) 0 0) 0 []) := r0
  have hx3' : Hid (ByteRow hi (W.alloc (.cells #[] 5)).drew (.slice x.sa x.len x.cap) x.bs) := hx3
  have hbig : Hid (w.heap.size + 2 ≤ (W.alloc (.cells #[] 5)).drew.heap.size) := by show _ ≤ (W.alloc (.cells #[] 5)).heap.size; simp [e2]
  have hfin : Hid (∀ w', (W.alloc (.cells #[] 5)).drew.grownBy w' (Value.slice (some ⟨w.heap.size + 2, 0, none⟩) 0 0).ownBlock → Kept [] W w') := fun w' hg => kept_grown r0 hg W ka (by omega)
  clear r0 hx3 hlen
  have hkd := kept_drew [w.heap.size + 1] W
  have ka' := ka.mono (L' := [w.heap.size + 1]) (by simp)
  go_enter Tryz.func34, Tryz.ntmps34
  go_wp2_with fail
  go_region_held3 (fun A => A.cell? ⟨w.heap.size, 0, none⟩ = some (.int .i64 x.t) ∧ A.cell? ⟨w.heap.size, 1, none⟩ = some (.int .i64 x.o) ∧ A.cell? ⟨w.heap.size, 2, none⟩ = some (.int .i64 x.l) ∧ A.cell? ⟨w.heap.size, 3, none⟩ = some (.slice x.sa x.len x.cap) ∧ A.cell? ⟨w.heap.size, 4, none⟩ = some (.int .i64 x.st)) (first
    | exact S0 _ hkd
    | exact S0 _ ka'
    | exact S0 _ hk3'
    | exact S0 _ (((((hk3'.trans (kept_set (by simp) _ _ _)).trans (kept_set (by simp) _ _ _)).trans (kept_set (by simp) _ _ _)).trans (kept_set (by simp) _ _ _)).trans (kept_set (by simp) _ _ _))) (first
    | (refine step_append_bytes rfl (.tmp 7) (.tmp 9) rfl (w.heap.size + 2) (.slice (some ⟨w.heap.size + 2, 0, none⟩) 0 0) (.slice x.sa x.len x.cap) hi x.bs (by simp [Act.eval]) r0'.out (by simp [Act.eval]) hx3'.out hlen3.out hbig.out ?_; intro sa len cap w' hb3 hg3; have hk3 : Kept [] W w' := hfin.out w' hg3; have hk3' : Kept [w.heap.size + 1] W w' := hk3.mono (by simp); have hq2 := hb2.kept hk3 (by simp); have c0 := hq2.cell 0; have c1 := hq2.cell 1; have c2 := hq2.cell 2; have c3 := hq2.cell 3; have c4 := hq2.cell 4; have f0 := hq2.frozen 0; have f1 := hq2.frozen 1; have f2 := hq2.frozen 2; have f3 := hq2.frozen 3; have f4 := hq2.frozen 4))
  have hb6 := ((((hq2.set 0 (.int .i64 x.t)).set 1 (.int .i64 x.o)).set 2 (.int .i64 x.l)).set 3 (.slice sa len cap)).set 4 (.int .i64 x.st)
  have hk6 : Kept [w.heap.size + 1] w' (((((w'.setCell ⟨w.heap.size + 1, 0, none⟩ (.int .i64 x.t)).setCell ⟨w.heap.size + 1, 1, none⟩ (.int .i64 x.o)).setCell ⟨w.heap.size + 1, 2, none⟩ (.int .i64 x.l)).setCell ⟨w.heap.size + 1, 3, none⟩ (.slice sa len cap)).setCell ⟨w.heap.size + 1, 4, none⟩ (.int .i64 x.st)) := ((((kept_set (by simp) _ _ _).trans (kept_set (by simp) _ _ _)).trans (kept_set (by simp) _ _ _)).trans (kept_set (by simp) _ _ _)).trans (kept_set (by simp) _ _ _)
  obtain ⟨w6, hw6⟩ : ∃ w6, ((((w'.setCell ⟨w.heap.size + 1, 0, none⟩ (.int .i64 x.t)).setCell ⟨w.heap.size + 1, 1, none⟩ (.int .i64 x.o)).setCell ⟨w.heap.size + 1, 2, none⟩ (.int .i64 x.l)).setCell ⟨w.heap.size + 1, 3, none⟩ (.slice sa len cap)).setCell ⟨w.heap.size + 1, 4, none⟩ (.int .i64 x.st) = w6 := ⟨_, rfl⟩
  rw [hw6] at hb6 hk6 ⊢
  clear hw6 c0 c1 c2 c3 c4 f0 f1 f2 f3 f4
  go_wp2_with fail
  have hb7 : w6.heap[w.heap.size + 1]? = some (.cells #[.int .i64 x.t, .int .i64 x.o, .int .i64 x.l, .slice sa len cap, .int .i64 x.st] 42 (0, 0)) := hb6
  refine bodyPost_ret (v := .agg #[.int .i64 x.t, .int .i64 x.o, .int .i64 x.l, .slice sa len cap, .int .i64 x.st]) (results_cell_row rfl _ _ (w.heap.size + 1) 42 _ (0, 0) _ rfl hb7 Tryz.underlying42 rfl Tryz.sizeRW) rfl ?_
  have s3 := hk3.size
  have hr6 := hb3.kept hk6 (by simp; exact .inl (by omega))
  refine ⟨x.with sa len cap, rfl, rfl, rfl, Byt.mono hr6 (by omega) hk6.size, ?_⟩
  have hkW : Kept [] w W := by rw [← hW]; exact hk1.trans (kept_alloc [] _ _)
  exact (hkW.trans hk3).young hk6 (by omega)
end Go.Proofs.YtollfckgjhklcaaGreat.Flight
