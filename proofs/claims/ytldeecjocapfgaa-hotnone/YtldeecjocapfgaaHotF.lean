/-
  The walk of lives: a call that takes nothing, and answers true.
-/
import Derived.Test.YtldeecjocapfgaaHotD
import Derived.Test.YtldeecjocapfgaaHotE
namespace Go.Proofs.Ytldeecjocapfgaa.Hot
open Go.RowKit
open Bits Bits.Math

theorem live1 : fits 2 2 0 [] = true ∧ used 2 2 0 [] = [1] := by decide +kernel
theorem live2 : fits 2 4 0 [1] = true ∧ used 2 4 0 [1] = [1, 2] := by decide +kernel
theorem live3 : fits 2 8 2 [1, 2] = true ∧ used 2 8 2 [1, 2] = [1, 3] ∧ mask [1, 2] = 6 ∧ mask [1, 3] = 10 := by decide +kernel

/-- A new set. -/
theorem set_new (w : World) (most : Nat) (h1 : 1 ≤ most) (h2 : most ≤ 16) : SetAt (w.alloc (.cells #[.int .i64 (most : Int), .slice none 0 0] 50)) w.heap.size (w.heap.size + 1) most (.slice none 0 0) [] :=
  ⟨blk_new w 50 _, by omega, by simp, Nums.nil _ _, Good.nil, h1, h2⟩

set_option maxRecDepth 100000 in
set_option maxHeartbeats 1000000 in
/-- lives -/
theorem lives_any (w : World) : Calls Try.prog 6 #[] w fun e w' => e = .returned (.bool true) ∧ Below w.heap.size w w' := by
  have q0 := new_ok 2 w (by omega) (by omega)
  have hS := set_new w 2 (by omega) (by omega)
  have hK : Kept [w.heap.size] w (w.alloc (.cells #[.int .i64 ((2 : Nat) : Int), .slice none 0 0] 50)) := kept_alloc _ _ _
  have u1 := fun (W : World) v h => use_ok w.heap.size (w.heap.size + 1) 2 v [] 2 0 (by omega) (by omega) W h live1.1
  have u2 := fun (W : World) v h => use_ok w.heap.size (w.heap.size + 1) 2 v [1] 4 0 (by omega) (by omega) W h live2.1
  have u3 := fun (W : World) v h => use_ok w.heap.size (w.heap.size + 1) 2 v [1, 2] 8 2 (by omega) (by omega) W h live3.1
  simp only [live1.2] at u1
  simp only [live2.2] at u2
  simp only [live3.2.1, live3.2.2.1, live3.2.2.2] at u3
  have q4 := fun (W : World) v h => mask_any w.heap.size (w.heap.size + 1) 2 v [1, 3] W h
  simp only [live3.2.2.2] at q4
  go_enter Try.func6, Try.ntmps6
  go_wp2_with (first
    | (go_at_call 7; refine q0.mono ?_; rintro e w1 ⟨rfl, rfl⟩)
    | (go_at_call 13; refine (u1 _ _ hS).mono ?_; clear u1; rintro e w2 ⟨rfl, ⟨v2, hS2⟩, hK2⟩; clear hS; have hS := hS2; replace hK := hK.trans hK2; clear hS2 hK2)
    | (go_at_call 13; refine (u2 _ _ hS).mono ?_; clear u2; rintro e w3 ⟨rfl, ⟨v3, hS3⟩, hK3⟩; clear hS; have hS := hS3; replace hK := hK.trans hK3; clear hS3 hK3)
    | (go_at_call 13; refine (u3 _ _ hS).mono ?_; clear u3; rintro e w4 ⟨rfl, ⟨v4, hS4⟩, hK4⟩; clear hS; have hS := hS4; replace hK := hK.trans hK4; clear hS4 hK4)
    | (go_at_call 15; refine (q4 _ _ hS).mono ?_; rintro e w5 ⟨rfl, hB5⟩; replace hK := hK.trans (Kept.of_below hB5 _)))
  go_ret
  exact ⟨rfl, hK.below (Nat.le_refl _) (by simp)⟩

end Go.Proofs.Ytldeecjocapfgaa.Hot
