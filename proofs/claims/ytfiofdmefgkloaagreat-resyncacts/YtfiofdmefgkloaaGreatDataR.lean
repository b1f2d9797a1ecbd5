import Derived.Test.YtfiofdmefgkloaaGreatDataN
import Derived.Test.YtfiofdmefgkloaaGreatDisk3
/-
  The walks of the document's data area.
-/
namespace Go.Proofs.YtfiofdmefgkloaaGreat
open Go.RowKit Go.Maps Go.Shelf
open Math

set_option maxRecDepth 100000 in
/-- Sectors -/
theorem rSectors_any (r g cap : Nat) (s : Dk) (w : World) (h : RefAt w r g cap s) :
    Calls Tryz.prog 61 #[.pointer (some ⟨r, 0, none⟩)] w fun e w' => e = .returned (.int .i64 (dataN s : Nat)) ∧ w' = w := by
  have c0 := h.1.four.1
  have htop := h.2.top
  unfold dataN
  by_cases h8 : s.size < 8
  · have k1 : (s.size : Int) < 8 := by omega
    rw [show s.size - 8 = 0 by omega]
    go_enter Tryz.func61, Tryz.ntmps61
    go_wp2
    go_ret
    exact ⟨rfl, rfl⟩
  · have k1 : ¬ ((s.size : Int) < 8) := by omega
    rw [show ((s.size - 8 : Nat) : Int) = (s.size : Int) - 8 by omega]
    go_enter Tryz.func61, Tryz.ntmps61
    go_wp2
    go_ret
    exact ⟨rfl, rfl⟩
theorem Arr.set {W : World} {g : Nat} {t : TypeId} {l : List Nat} (h : Arr W g t l) (j v : Nat) : Arr (W.setCell ⟨g, j, none⟩ (.int .u8 (v : Int))) g t (l.set j v) := by
  unfold Arr at *
  rw [setCell_eq_setRow W g j _ t (0, 0) _ h, setRow_heap W g _ _ t _ h]
  simp [List.map_set, enc]
/-- The first j bytes of x, noughts in the place of the others. -/
def half (x : List Nat) (j : Nat) : List Nat := x.take j ++ List.replicate (16 - j) 0
theorem half_start (x : List Nat) : half x 0 = nought := rfl
theorem half_end {x : List Nat} (h : x.length = 16) : half x 16 = x := by
  unfold half
  rw [List.take_of_length_le (by omega)]
  simp
theorem half_length {x : List Nat} {j : Nat} (h : x.length = 16) (hj : j ≤ 16) : (half x j).length = 16 := by simp [half]; omega
theorem half_step {x : List Nat} {j : Nat} (h : x.length = 16) (hj : j < 16) : (half x j).set j (x[j]?.getD 0) = half x (j + 1) := by
  unfold half
  have e : (x.take j).length = j := by simp; omega
  rw [List.set_append_right _ _ (by omega), e, Nat.sub_self, show 16 - j = (16 - (j + 1)) + 1 by omega, List.replicate_succ, List.set_cons_zero, List.take_add_one, List.append_assoc]
  congr 1
  simp [show j < x.length by omega]

set_option maxRecDepth 100000 in
set_option maxHeartbeats 1000000 in
/-- Write, of a span that the area has not -/
theorem rWrite_range (r g cap : Nat) (s : Dk) (o l : Int) (a : Option Addr) (len c0 : Nat) (w : World) (h : RefAt w r g cap s) (hg : Span.Math.good o l (dataN s : Nat) = false) :
    Calls Tryz.prog 135 #[.pointer (some ⟨r, 0, none⟩), .agg #[.int .i64 o, .int .i64 l], .slice a len c0] w fun e w' => e = .returned (.int .i64 13) ∧ Kept [] w w' := by
  have hk := kept_alloc [] w (.cells #[.int .i64 o, .int .i64 l] 127)
  have h1 := (h.alloc (.cells #[.int .i64 o, .int .i64 l] 127)).drew
  have q1 := rSectors_any r g cap s _ h1
  have q2 := fun W => Span.refGood_any o l (dataN s : Nat) W
  rw [hg] at q2
  generalize dataN s = N at *
  go_enter Tryz.func135, Tryz.ntmps135
  go_wp2_with fail
  go_region_with (first | (go_at_call 61; refine q1.mono ?_; rintro e w' ⟨rfl, rfl⟩) | (go_at_call 109; refine (q2 _).mono ?_; rintro e w2 ⟨rfl, hB⟩))
  all_goals
    go_wp2
    go_ret
    exact ⟨rfl, (hk.trans (kept_drew [] _)).trans (Kept.of_below hB [])⟩
set_option maxRecDepth 100000 in
set_option maxHeartbeats 1000000 in
/-- Write, of too few bytes, or too many -/
theorem rWrite_arg (r g cap : Nat) (s : Dk) (o l : Int) (a : Option Addr) (len c0 : Nat) (w : World) (h : RefAt w r g cap s) (hg : Span.Math.good o l (dataN s : Nat) = true) (hn : (len : Int) ≠ 16 * l) :
    Calls Tryz.prog 135 #[.pointer (some ⟨r, 0, none⟩), .agg #[.int .i64 o, .int .i64 l], .slice a len c0] w fun e w' => e = .returned (.int .i64 2) ∧ Kept [] w w' := by
  have hk := kept_alloc [] w (.cells #[.int .i64 o, .int .i64 l] 127)
  have hb := (blk_new w 127 #[.int .i64 o, .int .i64 l]).drew
  have h1 := (h.alloc (.cells #[.int .i64 o, .int .i64 l] 127)).drew
  have q1 := rSectors_any r g cap s _ h1
  have q2 := fun W => Span.refGood_any o l (dataN s : Nat) W
  rw [hg] at q2
  have hgo := good_of hg
  have hne : ((len : Int) != 16 * l) = true := by simp; omega
  generalize dataN s = N at *
  go_enter Tryz.func135, Tryz.ntmps135
  go_wp2_with fail
  go_region_with (first | (go_at_call 61; refine q1.mono ?_; rintro e w' ⟨rfl, rfl⟩) | (go_at_call 109; refine (q2 _).mono ?_; rintro e w2 ⟨rfl, hB⟩; have c1 : w2.cell? ⟨w.heap.size, 1, none⟩ = some (.int .i64 l) := ((hb.kept (Kept.of_below hB []) (by simp)).cell 1)))
  all_goals
    go_wp2
    go_ret
    exact ⟨rfl, (hk.trans (kept_drew [] _)).trans (Kept.of_below hB [])⟩
end Go.Proofs.YtfiofdmefgkloaaGreat

