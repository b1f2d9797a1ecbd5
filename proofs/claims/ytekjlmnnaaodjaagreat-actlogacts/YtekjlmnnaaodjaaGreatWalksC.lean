/-
  maps.Keys, slices.Sorted and maps.Clone at a map of sectors; the walks of the disk's small functions.
-/
import Derived.Test.YtekjlmnnaaodjaaGreatLaid
import Derived.Test.YtekjlmnnaaodjaaGreatWalksB
namespace Go.Proofs.YtekjlmnnaaodjaaGreat
open Go.RowKit Go.Maps Go.Sort Go.Shelf
open Math

set_option maxRecDepth 100000 in
/-- slices.Sort's two contracts at this program. -/
theorem Tryz.sortsL (m : Nat) : AnyZI.SortsIn Tryz.prog Tryz.sortedL_ren Fence.wide m :=
  ⟨fun blk off cap ss W hH hblk hsz => callsIn_wide.2 (AnyM.slices_Sort_int Tryz.sortL blk off cap ss W hH hblk hsz),
   fun p cap W => callsIn_wide.2 (AnyM.slices_Sort_int_none Tryz.sortL p cap W)⟩
set_option maxRecDepth 100000 in
/-- maps.Keys -/
theorem keys_any (mb : Option Nat) (W : World) : Calls Tryz.prog 60 #[.map mb] W fun e w' => e = .returned (.func (.func 73) #[] #[.pointer (some ⟨W.heap.size, 0, none⟩)]) ∧ w' = W.alloc (.cells #[.map mb] 48) :=
  (callsIn_wide (n := 5)).1 (AnyZI.keys_in Tryz.keysL Fence.wide 5 trivial rfl mb W)
set_option maxRecDepth 100000 in
set_option maxHeartbeats 1000000 in
/-- slices.Sorted of what maps.Keys told -/
theorem sorted_any (b : Nat) (m : Int → Option (List Nat)) (N : Nat) (w : World) (hm : Holds w b m) (hN : ∀ k, m k ≠ none → 0 ≤ k ∧ k < N) :
    Calls Tryz.prog 59 #[.func (.func 73) #[] #[.pointer (some ⟨w.heap.size, 0, none⟩)]] (w.alloc (.cells #[.map (some b)] 48)) fun e w' => ∃ v : Value, e = .returned v ∧
      w'.ownsRow w.heap.size 3 1 v (below m N).length ((below m N).map fun i : Nat => Value.int .i64 (i : Int)) ∧ Below (w.heap.size + 1) (w.alloc (.cells #[.map (some b)] 48)) w' := by
  obtain ⟨h0, nn, D0, hown, hD⟩ := hm
  obtain ⟨hs, hown⟩ := Holds.few h0 hown (fun k => (hD k).1)
  have hbl := hown.lt
  have hseq : SeqGives Fence.wide 2 Tryz.prog 73 #[.pointer (some ⟨w.heap.size, 0, none⟩)] encZ (fun ss => ss.Perm (intKeys D0)) (Maps.size D0) (w.alloc (.cells #[.map (some b)] 48)) :=
    AnyZI.keys_gives (ρ := Tryz.keysL_ren) { Tryz.keysL with } Fence.wide _ trivial rfl (by omega) w.heap.size b _ D0 _ (by simp) (by simp) (by
      obtain ⟨es, clock, hb, Ft, hs, hD⟩ := hown
      exact ⟨es, clock, (Below.heap_alloc _ _ b hbl).trans hb, Ft, hs, hD⟩)
  have cS := AnyZI.sorted_in Tryz.sortedL Fence.wide 5 trivial trivial trivial trivial rfl (by omega) (Tryz.sortsL _) (enters_of Tryz.func72 (by kernel_rfl) rfl) 73 #[.pointer (some ⟨w.heap.size, 0, none⟩)] trivial (enters_of Tryz.func73 (by kernel_rfl) rfl) _ _ (by unfold maxLen; omega) (by omega) _ hseq
  change CallsIn _ _ Tryz.prog 59 _ _ _ at cS
  refine ((callsIn_wide (n := 5)).1 cS).mono ?_
  rintro e w' ⟨v, ss, rfl, hS, hrow, hnil, hB⟩
  have es := Holds.sorted N hN hown (fun k => (hD k).1) ss hS
  have el : ss.length = (below m N).length := by
    have := congrArg List.length es
    simpa using this
  rw [es, el, List.map_map] at hrow
  refine ⟨v, rfl, ?_, by simpa using hB⟩
  exact ownsRow_base_a hrow (by simp)
/-- The six fields. -/
theorem DiskAt.six {W : World} {d b1 b2 : Nat} {s : Dk} (h : DiskAt W d b1 b2 s) : W.cell? ⟨d, 0, none⟩ = some (.int .i64 (s.size : Int)) ∧ W.cell? ⟨d, 1, none⟩ = some (.map (some b1)) ∧ W.cell? ⟨d, 2, none⟩ = some (.map (some b2)) ∧
    W.cell? ⟨d, 3, none⟩ = some (.int .i64 s.fuse) ∧ W.cell? ⟨d, 4, none⟩ = some (.bool s.broken) ∧ W.cell? ⟨d, 5, none⟩ = some (.int .i64 (s.ops : Int)) := ⟨h.cell 0, h.cell 1, h.cell 2, h.cell 3, h.cell 4, h.cell 5⟩

set_option maxRecDepth 100000 in
/-- Made, of a disk -/
theorem made_any (d b1 b2 : Nat) (s : Dk) (w : World) (h : DiskAt w d b1 b2 s) :
    Calls Tryz.prog 18 #[.pointer (some ⟨d, 0, none⟩)] w fun e w' => e = .returned (.bool true) ∧ w' = w := by
  have c0 := h.six.1
  have hp := h.valid.pos
  go_enter Tryz.func18, Tryz.ntmps18
  go_wp2
  go_ret
  exact ⟨by simp; omega, rfl⟩
set_option maxRecDepth 100000 in
/-- Size -/
theorem size_any (d b1 b2 : Nat) (s : Dk) (w : World) (h : DiskAt w d b1 b2 s) :
    Calls Tryz.prog 46 #[.pointer (some ⟨d, 0, none⟩)] w fun e w' => e = .returned (.int .i64 (s.size : Int)) ∧ w' = w := by
  have c0 := h.six.1
  have q := made_any d b1 b2 s w h
  go_enter Tryz.func46, Tryz.ntmps46
  go_wp2_with (go_at_call 18; refine q.mono ?_; rintro e w ⟨rfl, rfl⟩)
  go_ret
  exact ⟨rfl, rfl⟩
set_option maxRecDepth 100000 in
/-- Ops -/
theorem ops_any (d b1 b2 : Nat) (s : Dk) (w : World) (h : DiskAt w d b1 b2 s) :
    Calls Tryz.prog 17 #[.pointer (some ⟨d, 0, none⟩)] w fun e w' => e = .returned (.int .i64 (s.ops : Int)) ∧ w' = w := by
  have c0 := h.six.2.2.2.2.2
  have q := made_any d b1 b2 s w h
  go_enter Tryz.func17, Tryz.ntmps17
  go_wp2_with (go_at_call 18; refine q.mono ?_; rintro e w ⟨rfl, rfl⟩)
  go_ret
  exact ⟨rfl, rfl⟩
set_option maxRecDepth 100000 in
/-- Broken -/
theorem broken_any (d b1 b2 : Nat) (s : Dk) (w : World) (h : DiskAt w d b1 b2 s) :
    Calls Tryz.prog 19 #[.pointer (some ⟨d, 0, none⟩)] w fun e w' => e = .returned (.bool s.broken) ∧ w' = w := by
  have c0 := h.six.2.2.2.2.1
  have q := made_any d b1 b2 s w h
  go_enter Tryz.func19, Tryz.ntmps19
  go_wp2_with (go_at_call 18; refine q.mono ?_; rintro e w ⟨rfl, rfl⟩)
  go_ret
  exact ⟨rfl, rfl⟩
set_option maxRecDepth 100000 in
/-- find -/
theorem find_any (d b1 b2 : Nat) (s : Dk) (k : Int) (w : World) (h : DiskAt w d b1 b2 s) :
    Calls Tryz.prog 49 #[.pointer (some ⟨d, 0, none⟩), .int .i64 k] w fun e w' => e = .returned (.int .i64 (if inside s k then 0 else 13)) ∧ w' = w := by
  have c0 := h.six.1
  have q := made_any d b1 b2 s w h
  by_cases h0 : k < 0
  · have hi : inside s k = false := by simp [inside]; omega
    rw [hi]
    go_enter Tryz.func49, Tryz.ntmps49
    go_wp2_with (go_at_call 18; refine q.mono ?_; rintro e w ⟨rfl, rfl⟩)
    all_goals first | omega | (go_ret; exact ⟨rfl, rfl⟩)
  · by_cases h1 : k < s.size
    · have hi : inside s k = true := by simp [inside]; omega
      rw [hi]
      have h2 : ¬ ((s.size : Int) ≤ k) := by omega
      go_enter Tryz.func49, Tryz.ntmps49
      go_wp2_with (go_at_call 18; refine q.mono ?_; rintro e w ⟨rfl, rfl⟩)
      all_goals first | omega | (go_ret; exact ⟨rfl, rfl⟩)
    · have hi : inside s k = false := by simp [inside]; omega
      rw [hi]
      have h2 : (s.size : Int) ≤ k := by omega
      go_enter Tryz.func49, Tryz.ntmps49
      go_wp2_with (go_at_call 18; refine q.mono ?_; rintro e w ⟨rfl, rfl⟩)
      all_goals first | omega | (go_ret; exact ⟨rfl, rfl⟩)
set_option maxRecDepth 100000 in
/-- Fuse -/
theorem fuse_any (d b1 b2 : Nat) (s : Dk) (k : Int) (h0 : -9223372036854775808 ≤ k) (h1 : k ≤ 9223372036854775807) (w : World) (h : DiskAt w d b1 b2 s) :
    Calls Tryz.prog 11 #[.pointer (some ⟨d, 0, none⟩), .int .i64 k] w fun e w' => e = .returned (.tuple #[]) ∧ DiskAt w' d b1 b2 (fused s k) ∧ Kept [d] w w' ∧ w'.heap.size = w.heap.size := by
  have c0 := h.six.2.2.2.1
  have f0 := h.frozen 3
  have q := made_any d b1 b2 s w h
  go_enter Tryz.func11, Tryz.ntmps11
  go_wp2_with (go_at_call 18; refine q.mono ?_; rintro e w ⟨rfl, rfl⟩)
  go_end0
  exact ⟨rfl, h.setFuse h0 h1, kept_set (by simp) _ _ _, by simp [World.setCell]⟩
set_option maxRecDepth 100000 in
set_option maxHeartbeats 400000 in
/-- operate -/
theorem operate_any (d b1 b2 : Nat) (s : Dk) (w : World) (hops : s.ops ≤ 1000000) (h : DiskAt w d b1 b2 s) :
    Calls Tryz.prog 50 #[.pointer (some ⟨d, 0, none⟩)] w fun e w' => e = .returned (.bool (!worn s)) ∧ DiskAt w' d b1 b2 (if worn s then burnt s else done s) ∧ Kept [d] w w' ∧ w'.heap.size = w.heap.size := by
  obtain ⟨-, -, -, c3, c4, c5⟩ := h.six
  have f3 := h.frozen 3
  have f4 := h.frozen 4
  have f5 := h.frozen 5
  have hlo := h.valid.low
  have hhi := h.valid.high
  by_cases hb : s.broken = true
  · have hw : worn s = true := by simp [worn, hb]
    rw [hw]
    rw [hb] at c4
    have hD : DiskAt (w.setCell ⟨d, 4, none⟩ (.bool true)) d b1 b2 (burnt s) := h.setBroken true
    go_enter Tryz.func50, Tryz.ntmps50
    go_wp2
    go_ret
    exact ⟨rfl, hD, kept_set (by simp) _ _ _, by simp [World.setCell]⟩
  · replace hb : s.broken = false := by simpa using hb
    rw [hb] at c4
    by_cases hz : s.fuse = 0
    · have hw : worn s = true := by simp [worn, hz]
      rw [hw]
      rw [hz] at c3
      have hD : DiskAt (w.setCell ⟨d, 4, none⟩ (.bool true)) d b1 b2 (burnt s) := h.setBroken true
      go_enter Tryz.func50, Tryz.ntmps50
      go_wp2
      go_ret
      exact ⟨rfl, hD, kept_set (by simp) _ _ _, by simp [World.setCell]⟩
    · have hw : worn s = false := by simp [worn, hz, hb]
      rw [hw]
      have hD : DiskAt (w.setCell ⟨d, 4, none⟩ (.bool false)) d b1 b2 { s with broken := false } := h.setBroken false
      have hz2 : (s.fuse == 0) = false := by simpa using hz
      by_cases hp : 0 < s.fuse
      · have hdn : done s = { s with broken := false, fuse := s.fuse - 1, ops := s.ops + 1 } := by simp [done, hp, hb]
        have hD2 := (hD.setFuse (k := s.fuse - 1) (by omega) (by omega)).setOps (s.ops + 1)
        rw [hdn]
        go_enter Tryz.func50, Tryz.ntmps50
        go_wp2
        all_goals first | omega | skip
        go_ret
        refine ⟨rfl, ?_, ?_, ?_⟩
        · simpa using hD2
        · exact ((kept_set (by simp) _ _ _).trans (kept_set (by simp) _ _ _)).trans (kept_set (by simp) _ _ _)
        · simp [World.setCell]
      · have hdn : done s = { s with broken := false, ops := s.ops + 1 } := by simp [done, hp, hb]
        have hD2 := hD.setOps (s.ops + 1)
        rw [hdn]
        go_enter Tryz.func50, Tryz.ntmps50
        go_wp2
        all_goals first | omega | skip
        go_ret
        refine ⟨rfl, ?_, ?_, ?_⟩
        · simpa using hD2
        · exact (kept_set (by simp) _ _ _).trans (kept_set (by simp) _ _ _)
        · simp [World.setCell]
end Go.Proofs.YtekjlmnnaaodjaaGreat
