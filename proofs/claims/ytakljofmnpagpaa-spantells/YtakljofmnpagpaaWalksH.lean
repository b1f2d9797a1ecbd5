/-
  The walk of the law SpanTells.
-/
import Derived.Test.YtakljofmnpagpaaWalksE
import Derived.Deep.RegionHeld3
import Derived.Deep.CutRange
namespace Go.Proofs.Ytakljofmnpagpaa
open Go.RowKit
open Math
namespace spanTells

/-- The span lies where the call put it by. -/
structure Lone (w : World) (o l : Int) (W : World) : Prop where
  below : Below w.heap.size w W
  room : w.heap.size < W.heap.size
  one : Box W w.heap.size (.int .i64 o) (.int .i64 l)
theorem Lone.after {w W W' : World} {o l : Int} (h : Lone w o l W) (hB : Below W.heap.size W W') : Lone w o l W' :=
  ⟨h.below.trans (hB.mono h.below.size), Nat.lt_of_lt_of_le h.room hB.size, h.one.below hB h.room⟩
theorem Lone.drew {w W : World} {o l : Int} (h : Lone w o l W) : Lone w o l W.drew := ⟨h.below.drew, h.room, h.one⟩

set_option maxHeartbeats 2000000 in
theorem walk0 (o l n x : Int) (w : World) :
    Calls Try.prog 3 #[.agg #[.int .i64 o, .int .i64 l], .int .i64 n, .int .i64 x] w fun e w' => e = .returned (.bool true) ∧ Below w.heap.size w w' := by
  have hS : Lone w o l (w.alloc (.cells #[.int .i64 o, .int .i64 l] 23)) := ⟨below_new _ _, by simp, box_new _ _ _ _⟩
  have c6 := plain_any o l
  have c7 := refPlain_any o l
  have c8 := end_any o l
  have c9 := refEnd_any o l
  have c10 := good_any o l n
  have c11 := refGood_any o l n
  have c12 := extents_any o l
  have c13 := refExtents_any o l
  have c14 := whole_any x
  have c15 := refWhole_any x
  generalize plain o l = P at c6 c7
  generalize endN o l = E at c8 c9
  generalize good o l n = G at c10 c11
  generalize ext o l = X at c12 c13
  generalize wOff x = A at c14 c15
  generalize wLen x = B at c14 c15
  go_enter Try.func3, Try.ntmps3
  go_upto_region 1 with fail
  replace hS := hS.drew
  go_region_held3 (fun W => W.cell? ⟨w.heap.size, 0, none⟩ = some (.int .i64 o) ∧ W.cell? ⟨w.heap.size, 1, none⟩ = some (.int .i64 l)) (exact hS.one)
    (first
    | (go_at_call 6; refine (c6 _).mono ?_; rintro e w3 ⟨rfl, hB⟩; replace hS := hS.after hB; clear hB)
    | (go_at_call 7; refine (c7 _).mono ?_; rintro e w3 ⟨rfl, hB⟩; replace hS := hS.after hB; clear hB)
    | (go_at_call 8; refine (c8 _).mono ?_; rintro e w3 ⟨rfl, hB⟩; replace hS := hS.after hB; clear hB)
    | (go_at_call 9; refine (c9 _).mono ?_; rintro e w3 ⟨rfl, hB⟩; replace hS := hS.after hB; clear hB)
    | (go_at_call 10; refine (c10 _).mono ?_; rintro e w3 ⟨rfl, hB⟩; replace hS := hS.after hB; clear hB)
    | (go_at_call 11; refine (c11 _).mono ?_; rintro e w3 ⟨rfl, hB⟩; replace hS := hS.after hB; clear hB)
    | (go_at_call 12; refine (c12 _).mono ?_; rintro e w3 ⟨rfl, hB⟩; replace hS := hS.after hB; clear hB)
    | (go_at_call 13; refine (c13 _).mono ?_; rintro e w3 ⟨rfl, hB⟩; replace hS := hS.after hB; clear hB)
    | (go_at_call 14; refine (c14 _).mono ?_; rintro e w3 ⟨rfl, hB⟩; replace hS := hS.after hB; clear hB)
    | (go_at_call 15; refine (c15 _).mono ?_; rintro e w3 ⟨rfl, hB⟩; replace hS := hS.after hB; clear hB)
    | (go_at_call 16; refine (lives_any _).mono ?_; rintro e w3 ⟨rfl, hB⟩; replace hS := hS.after hB; clear hB))
  go_wp2_with fail
  go_ret
  exact ⟨rfl, hS.below⟩
end spanTells
end Go.Proofs.Ytakljofmnpagpaa
