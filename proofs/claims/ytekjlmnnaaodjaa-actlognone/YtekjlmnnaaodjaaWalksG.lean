/-
  The walks of Flush, Crash and Copy of package disk.
-/
import Derived.Test.YtekjlmnnaaodjaaWalksF
namespace Go.Proofs.Ytekjlmnnaaodjaa
open Go.RowKit Go.Maps Go.Shelf
open Math

set_option maxRecDepth 100000 in
/-- Flush -/
theorem flush_any (d b1 b2 : Nat) (s : Dk) (hops : s.ops ≤ 1000000) (w : World) (h : DiskAt w d b1 b2 s) :
    Calls Try.prog 27 #[.pointer (some ⟨d, 0, none⟩)] w fun e w' => e = .returned (.int .i64 (flushE s : Nat)) ∧ DiskAt w' d b1 b2 (flushS s) ∧ Kept [d, b1, b2] w w' := by
  have q1 := made_any d b1 b2 s w h
  have q2 := operate_any d b1 b2 s w hops h
  unfold flushE flushS
  by_cases hn : worn s = true
  · rw [if_pos hn, if_pos hn]
    rw [hn, if_pos rfl] at q2
    go_enter Try.func27, Try.ntmps27
    go_wp2_with (first
      | (go_at_call 13; refine q1.mono ?_; rintro e w' ⟨rfl, rfl⟩)
      | (go_at_call 35; refine q2.mono ?_; rintro e w1 ⟨rfl, hD, hk, hs1⟩; replace hs1 : Hid _ := hs1))
    go_ret
    exact ⟨rfl, hD, hk.mono (by simp)⟩
  · rw [if_neg hn, if_neg hn]
    replace hn : worn s = false := by simpa using hn
    rw [hn] at q2
    simp only [Bool.false_eq_true, if_false] at q2
    go_enter Try.func27, Try.ntmps27
    go_wp2_with (first
      | (go_at_call 13; refine q1.mono ?_; rintro e w' ⟨rfl, rfl⟩)
      | (go_at_call 35; refine q2.mono ?_; rintro e w1 ⟨rfl, hD, hk, hs1⟩; replace hs1 : Hid _ := hs1)
      | (go_at_call 17; refine (empty_any d b1 b2 (done s) full (by decide) w1 hD).mono ?_; rintro e w2 ⟨rfl, hD2, hk2⟩))
    go_ret
    exact ⟨rfl, hD2, (hk.mono (by simp)).trans hk2⟩
set_option maxRecDepth 100000 in
/-- Crash -/
theorem crash_any (d b1 b2 : Nat) (s : Dk) (mask : Nat) (hm : mask < 18446744073709551616) (w : World) (h : DiskAt w d b1 b2 s) :
    Calls Try.prog 10 #[.pointer (some ⟨d, 0, none⟩), .int .u64 (mask : Int)] w fun e w' => e = .returned (.tuple #[]) ∧ DiskAt w' d b1 b2 (crashed s mask) ∧ Kept [d, b1, b2] w w' := by
  have q1 := made_any d b1 b2 s w h
  have q2 := empty_any d b1 b2 s mask hm w h
  go_enter Try.func10, Try.ntmps10
  go_wp2_with (first
    | (go_at_call 13; refine q1.mono ?_; rintro e w' ⟨rfl, rfl⟩)
    | (go_at_call 17; refine q2.mono ?_; rintro e w2 ⟨rfl, hD2, hk2⟩; obtain ⟨-, -, -, c3, c4, -⟩ := hD2.six; have f3 := hD2.frozen 3; have f4 := hD2.frozen 4))
  go_end0
  exact ⟨rfl, (hD2.setBroken false).setFuse (by omega) (by omega), (hk2.trans (kept_set (by simp) _ _ _)).trans (kept_set (by simp) _ _ _)⟩

/-- A block of cells. -/
def Blk (W : World) (g : Nat) (t : TypeId) (cs : Array Value) : Prop := W.heap[g]? = some (.cells cs t (0, 0))
theorem Blk.lt {W : World} {g : Nat} {t : TypeId} {cs : Array Value} (h : Blk W g t cs) : g < W.heap.size := (Array.getElem?_eq_some_iff.1 h).1
theorem Blk.cell {W : World} {g : Nat} {t : TypeId} {cs : Array Value} (h : Blk W g t cs) (j : Nat) : W.cell? ⟨g, j, none⟩ = cs[j]? := cell_of_row W g j _ t (0, 0) h
theorem Blk.frozen {W : World} {g : Nat} {t : TypeId} {cs : Array Value} (h : Blk W g t cs) (j : Nat) : W.frozen? ⟨g, j, none⟩ = false := by
  unfold Blk at h
  simp [World.frozen?, h]
theorem Blk.kept {L : List Nat} {A B : World} {g : Nat} {t : TypeId} {cs : Array Value} (h : Blk A g t cs) (hK : Kept L A B) (hg : g ∉ L) : Blk B g t cs := (hK.block g h.lt hg).trans h
theorem Blk.set {W : World} {g : Nat} {t : TypeId} {cs : Array Value} (h : Blk W g t cs) (j : Nat) (u : Value) : Blk (W.setCell ⟨g, j, none⟩ u) g t (cs.setIfInBounds j u) := by
  unfold Blk at *
  rw [setCell_eq_setRow W g j _ t (0, 0) _ h, setRow_heap W g _ _ t _ h]
theorem blk_new (w : World) (t : TypeId) (cs : Array Value) : Blk (w.alloc (.cells cs t)) w.heap.size t cs := heap_alloc_last w _

end Go.Proofs.Ytekjlmnnaaodjaa
