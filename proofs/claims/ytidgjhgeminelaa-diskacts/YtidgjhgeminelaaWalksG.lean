/-
  The walks of Flush, Crash and Copy of package disk.
-/
import Derived.Test.YtidgjhgeminelaaWalksF
namespace Go.Proofs.Ytidgjhgeminelaa
open Go.RowKit Go.Maps Go.Shelf
open Math

/-- Flush -/
theorem flush_any (d b1 b2 : Nat) (s : Dk) (hops : s.ops ≤ 1000000) (w : World) (h : DiskAt w d b1 b2 s) :
    Calls Try.prog 15 #[.pointer (some ⟨d, 0, none⟩)] w fun e w' => e = .returned (.int .i64 (flushE s : Nat)) ∧ DiskAt w' d b1 b2 (flushS s) ∧ Kept [d, b1, b2] w w' := by
  have q1 := made_any d b1 b2 s w h
  have q2 := operate_any d b1 b2 s w hops h
  unfold flushE flushS
  by_cases hn : worn s = true
  · rw [if_pos hn, if_pos hn]
    rw [hn, if_pos rfl] at q2
    go_enter Try.func15, Try.ntmps15
    go_wp2_with (first
      | (go_at_call 10; refine q1.mono ?_; rintro e w' ⟨rfl, rfl⟩)
      | (go_at_call 31; refine q2.mono ?_; rintro e w1 ⟨rfl, hD, hk, hs1⟩; replace hs1 : Hid _ := hs1))
    go_ret
    exact ⟨rfl, hD, hk.mono (by simp)⟩
  · rw [if_neg hn, if_neg hn]
    replace hn : worn s = false := by simpa using hn
    rw [hn] at q2
    simp only [Bool.false_eq_true, if_false] at q2
    go_enter Try.func15, Try.ntmps15
    go_wp2_with (first
      | (go_at_call 10; refine q1.mono ?_; rintro e w' ⟨rfl, rfl⟩)
      | (go_at_call 31; refine q2.mono ?_; rintro e w1 ⟨rfl, hD, hk, hs1⟩; replace hs1 : Hid _ := hs1)
      | (go_at_call 35; refine (empty_any d b1 b2 (done s) full (by decide) w1 hD).mono ?_; rintro e w2 ⟨rfl, hD2, hk2⟩))
    go_ret
    exact ⟨rfl, hD2, (hk.mono (by simp)).trans hk2⟩
/-- Crash -/
theorem crash_any (d b1 b2 : Nat) (s : Dk) (mask : Nat) (hm : mask < 18446744073709551616) (w : World) (h : DiskAt w d b1 b2 s) :
    Calls Try.prog 17 #[.pointer (some ⟨d, 0, none⟩), .int .u64 (mask : Int)] w fun e w' => e = .returned (.tuple #[]) ∧ DiskAt w' d b1 b2 (crashed s mask) ∧ Kept [d, b1, b2] w w' := by
  have q1 := made_any d b1 b2 s w h
  have q2 := empty_any d b1 b2 s mask hm w h
  go_enter Try.func17, Try.ntmps17
  go_wp2_with (first
    | (go_at_call 10; refine q1.mono ?_; rintro e w' ⟨rfl, rfl⟩)
    | (go_at_call 35; refine q2.mono ?_; rintro e w2 ⟨rfl, hD2, hk2⟩; obtain ⟨-, -, -, c3, c4, -⟩ := hD2.six; have f3 := hD2.frozen 3; have f4 := hD2.frozen 4))
  go_end0
  exact ⟨rfl, (hD2.setBroken false).setFuse (by omega) (by omega), (hk2.trans (kept_set (by simp) _ _ _)).trans (kept_set (by simp) _ _ _)⟩

/-- A block of cells. -/
def Blk (W : World) (g : Nat) (t : TypeId) (cs : Array Value) : Prop := W.heap[g]? = some (.cells cs t (0, 0))
theorem Blk.lt {W : World} {g : Nat} {t : TypeId} {cs : Array Value} (h : Blk W g t cs) : g < W.heap.size := (Array.getElem?_eq_some_iff.1 h).1
theorem Blk.cell {W : World} {g : Nat} {t : TypeId} {cs : Array Value} (h : Blk W g t cs) (j : Nat) : W.cell? ⟨g, j, none⟩ = cs[j]? := cell_of_row W g j _ t (0, 0) h
theorem Blk.frozen {W : World} {g : Nat} {t : TypeId} {cs : Array Value} (h : Blk W g t cs) (j : Nat) : W.frozen? ⟨g, j, none⟩ = false := by
  unfold Blk at h
  simp [World.frozen?, h]
theorem Blk.kept {L : List Nat} {A B : World} {g : Nat} {t : TypeId} {cs : Array Value} (h : Blk A g t cs) (hK : Kept L A B) (hg : g ∉ L) : Blk B g t cs := (hK.block g h.lt hg).trans h
theorem Blk.set {W : World} {g : Nat} {t : TypeId} {cs : Array Value} (h : Blk W g t cs) (j : Nat) (u : Value) : Blk (W.setCell ⟨g, j, none⟩ u) g t (cs.setIfInBounds j u) := by
  unfold Blk at *
  rw [setCell_eq_setRow W g j _ t (0, 0) _ h, setRow_heap W g _ _ t _ h]
theorem blk_new (w : World) (t : TypeId) (cs : Array Value) : Blk (w.alloc (.cells cs t)) w.heap.size t cs := heap_alloc_last w _

set_option maxHeartbeats 400000 in
/-- Copy -/
theorem copy_any (d b1 b2 : Nat) (s : Dk) (w : World) (h : DiskAt w d b1 b2 s) :
    Calls Try.prog 12 #[.pointer (some ⟨d, 0, none⟩)] w fun e w' => ∃ g c1 c2, e = .returned (.pointer (some ⟨g, 0, none⟩)) ∧ DiskAt w' g c1 c2 s ∧ w.heap.size ≤ g ∧ w.heap.size ≤ c1 ∧ w.heap.size ≤ c2 ∧ Kept [] w w' := by
  have q1 := made_any d b1 b2 s w h
  obtain ⟨a0, a1, a2, a3, a4, a5⟩ := h.six
  have hlt := h.lt
  have hA := h.alloc (.cells (dcells s b1 b2) 56)
  have hG := blk_new w 56 (dcells s b1 b2)
  have hk0 := kept_alloc [] w (.cells (dcells s b1 b2) 56)
  have hval := h.valid
  obtain ⟨m, hm, hv⟩ := hA.safe
  have q2 := clone_any b1 m _ hm
  unfold dcells at q2
  go_enter Try.func12, Try.ntmps12
  go_wp2_with (first
    | (go_at_call 10; refine q1.mono ?_; rintro e w ⟨rfl, rfl⟩)
    | (go_at_call 29; refine q2.mono ?_; rintro e w1 ⟨rfl, hh1, hk1⟩; clear q2; have hG1 := hG.kept hk1 (by simp); have g1 : w1.cell? ⟨w.heap.size, 1, none⟩ = some (.map (some b1)) := hG1.cell 1; have gf := hG1.frozen 1; have hA1 := hA.kept hk1 (by simp) (by simp) (by simp); have hS1 : w.heap.size + 1 ≤ w1.heap.size := (by have := hk1.size; simpa using this); have a2' := hA1.six.2.2.1; have hG2 := hG1.set 1 (.map (some (w.heap.size + 1))); have hh1' : Holds (w1.setCell ⟨w.heap.size, 1, none⟩ (.map (some (w.heap.size + 1)))) (w.heap.size + 1) m := by rw [World.size_alloc] at hh1; exact hh1.kept (kept_set (L := [w.heap.size]) (g := w.heap.size) (by simp) w1 1 _) (by simp))
    | (go_at_call 29; refine (clone_any b2 s.fresh _ ((hA1.fresh).kept (kept_set (L := [w.heap.size]) (g := w.heap.size) (by simp) w1 1 (.map (some (w.heap.size + 1)))) (by simp; omega))).mono ?_; rintro e w2 ⟨rfl, hh2, hk2⟩; have hG3 := hG2.kept hk2 (by simp); have g2 : w2.cell? ⟨w.heap.size, 2, none⟩ = some (.map (some b2)) := hG3.cell 2; have gf2 := hG3.frozen 2))
  go_ret
  have hsz : (w1.setCell ⟨w.heap.size, 1, none⟩ (.map (some (w.heap.size + 1)))).heap.size = w1.heap.size := by simp [World.setCell]
  have hkA : Kept [] w w1 := hk0.trans hk1
  have hkB : Kept [] w (w1.setCell ⟨w.heap.size, 1, none⟩ (.map (some (w.heap.size + 1)))) := hkA.young (kept_set (by simp) _ _ _) (Nat.le_refl _)
  have hkC : Kept [] w w2 := hkB.trans hk2
  rw [hsz] at hh2
  have hlt1 := hh1'.lt
  rw [hsz] at hlt1
  refine ⟨w.heap.size, w.heap.size + 1, w1.heap.size, rfl, ⟨?_, ⟨m, ?_, hv⟩, ?_, by omega, hval⟩, Nat.le_refl _, by omega, by omega, ?_⟩
  · exact hG3.set 2 (.map (some w1.heap.size))
  · exact (hh1'.kept hk2 (by simp)).kept (kept_set (L := [w.heap.size]) (g := w.heap.size) (by simp) _ _ _) (by simp)
  · exact hh2.kept (kept_set (L := [w.heap.size]) (g := w.heap.size) (by simp) _ _ _) (by simp; omega)
  · exact hkC.young (kept_set (by simp) _ _ _) (Nat.le_refl _)
end Go.Proofs.Ytidgjhgeminelaa
