/-
  The walk of the law SpanMeets.
-/
import Derived.Test.YtakljofmnpagpaaWalksE
import Derived.Deep.RegionHeld3
import Derived.Deep.CutRange
namespace Go.Proofs.Ytakljofmnpagpaa
open Go.RowKit
open Math
namespace spanMeets

/-- Both spans lie where the call put them by, and so do the two meetings. -/
structure Four (w : World) (o l p m : Int) (n k : Nat) (A B : Int) (W : World) : Prop where
  pair : Pair w o l p m W
  one : Box W n (.int .i64 A) (.int .i64 B)
  two : Box W k (.int .i64 A) (.int .i64 B)
  room : n < W.heap.size ∧ k < W.heap.size
theorem Four.after {w W W' : World} {o l p m : Int} {n k : Nat} {A B : Int} (h : Four w o l p m n k A B W) (hB : Below W.heap.size W W') : Four w o l p m n k A B W' :=
  ⟨h.pair.after hB, h.one.below hB h.room.1, h.two.below hB h.room.2, Nat.lt_of_lt_of_le h.room.1 hB.size, Nat.lt_of_lt_of_le h.room.2 hB.size⟩
theorem Four.drew {w W : World} {o l p m : Int} {n k : Nat} {A B : Int} (h : Four w o l p m n k A B W) : Four w o l p m n k A B W.drew :=
  ⟨⟨h.pair.below.drew, h.pair.room, h.pair.one, h.pair.two⟩, h.one, h.two, h.room⟩
theorem Four.cells {w W : World} {o l p m : Int} {n k : Nat} {A B : Int} (h : Four w o l p m n k A B W) :
    W.cell? ⟨w.heap.size, 0, none⟩ = some (.int .i64 o) ∧ W.cell? ⟨w.heap.size, 1, none⟩ = some (.int .i64 l) ∧ W.cell? ⟨w.heap.size + 1, 0, none⟩ = some (.int .i64 p) ∧ W.cell? ⟨w.heap.size + 1, 1, none⟩ = some (.int .i64 m) ∧
    W.cell? ⟨n, 0, none⟩ = some (.int .i64 A) ∧ W.cell? ⟨n, 1, none⟩ = some (.int .i64 B) ∧ W.cell? ⟨k, 0, none⟩ = some (.int .i64 A) ∧ W.cell? ⟨k, 1, none⟩ = some (.int .i64 B) :=
  ⟨h.pair.one.1, h.pair.one.2, h.pair.two.1, h.pair.two.2, h.one.1, h.one.2, h.two.1, h.two.2⟩

set_option maxHeartbeats 1000000 in
theorem walk0 (o l p m : Int) (w : World) :
    Calls Try.prog 4 #[.agg #[.int .i64 o, .int .i64 l], .agg #[.int .i64 p, .int .i64 m]] w fun e w' => e = .returned (.bool true) ∧ Below w.heap.size w w' := by
  have hP := pair_new w o l p m
  have mc := meet_any o l p m
  have rc := refMeet_any o l p m
  have oc := overlap_any o l p m
  have hc := holds_any o l p m
  have gc := refHolds_any o l p m
  generalize mOff o l p m = A at mc rc
  generalize mLen o l p m = B at mc rc
  generalize over o l p m = ov at mc rc oc
  generalize holds o l p m = hv at hc gc
  go_enter Try.func4, Try.ntmps4
  go_upto_region 3 with (first
    | (go_at_call 17; refine (mc _).mono ?_; rintro e w1 ⟨rfl, hB⟩; replace hP := hP.after hB; have f1 := fun x => (hP.after (below_new w1 x)).cells.1; have f2 := fun x => (hP.after (below_new w1 x)).cells.2.1; have f3 := fun x => (hP.after (below_new w1 x)).cells.2.2.1; have f4 := fun x => (hP.after (below_new w1 x)).cells.2.2.2; clear hB mc)
    | (go_at_call 18; refine (rc _).mono ?_; rintro e w2 ⟨rfl, hB⟩; have hx := (box_new w1 (.int .i64 A) (.int .i64 B) 23).below hB (by simp); have hl : w1.heap.size < w2.heap.size := (by have := hB.size; simp at this; omega); replace hP := (hP.after (below_new _ _)).after hB; clear hB rc f1 f2 f3 f4))
  have hS : Four w o l p m w1.heap.size w2.heap.size A B (w2.alloc (.cells #[.int .i64 A, .int .i64 B] 23)) :=
    ⟨hP.after (below_new _ _), hx.below (below_new _ _) hl, box_new _ _ _ _, by simp; omega⟩
  replace hS := hS.drew
  clear hx hl hP
  go_region_held3 (fun W => W.cell? ⟨w.heap.size, 0, none⟩ = some (.int .i64 o) ∧ W.cell? ⟨w.heap.size, 1, none⟩ = some (.int .i64 l) ∧ W.cell? ⟨w.heap.size + 1, 0, none⟩ = some (.int .i64 p) ∧ W.cell? ⟨w.heap.size + 1, 1, none⟩ = some (.int .i64 m) ∧ W.cell? ⟨w1.heap.size, 0, none⟩ = some (.int .i64 A) ∧ W.cell? ⟨w1.heap.size, 1, none⟩ = some (.int .i64 B) ∧ W.cell? ⟨w2.heap.size, 0, none⟩ = some (.int .i64 A) ∧ W.cell? ⟨w2.heap.size, 1, none⟩ = some (.int .i64 B)) (exact hS.cells)
    (first
    | (go_at_call 19; refine (oc _).mono ?_; rintro e w3 ⟨rfl, hB⟩; replace hS := hS.after hB; clear hB)
    | (go_at_call 20; refine (hc _).mono ?_; rintro e w3 ⟨rfl, hB⟩; replace hS := hS.after hB; clear hB)
    | (go_at_call 21; refine (gc _).mono ?_; rintro e w3 ⟨rfl, hB⟩; replace hS := hS.after hB; clear hB)
    | (go_at_call 16; refine (lives_any _).mono ?_; rintro e w3 ⟨rfl, hB⟩; replace hS := hS.after hB; clear hB))
  go_wp2_with fail
  go_ret
  exact ⟨rfl, hS.pair.below⟩
end spanMeets
end Go.Proofs.Ytakljofmnpagpaa
