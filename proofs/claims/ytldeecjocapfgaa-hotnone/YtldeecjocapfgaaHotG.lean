/-
  The walk of HotNone.
-/
import Derived.Test.YtldeecjocapfgaaHotF
namespace Go.Proofs.Ytldeecjocapfgaa.Hot
open Go.RowKit
open Bits Bits.Math

/-- The act, the zero set and the two pointers. -/
structure Bars (k n b : Int) (w W : World) : Prop where
  act : Blk W w.heap.size 33 #[.int .i64 k, .int .u64 n, .int .u64 b]
  zero : Blk W (w.heap.size + 1) 50 #[.int .i64 0, .slice none 0 0]
  list : Blk W (w.heap.size + 2) 24 #[.pointer none, .pointer (some ⟨w.heap.size + 1, 0, none⟩)]
  below : Below w.heap.size w W
theorem Bars.after {k n b : Int} {w W W' : World} (h : Bars k n b w W) (hB : Below W.heap.size W W') : Bars k n b w W' :=
  ⟨h.act.kept (Kept.of_below hB []) (by simp), h.zero.kept (Kept.of_below hB []) (by simp), h.list.kept (Kept.of_below hB []) (by simp), h.below.trans (hB.mono h.below.size)⟩
theorem Bars.two {k n b : Int} {w W : World} (h : Bars k n b w W) : W.cell? ⟨w.heap.size, 1, none⟩ = some (.int .u64 n) ∧ W.cell? ⟨w.heap.size, 2, none⟩ = some (.int .u64 b) := ⟨h.act.cell 1, h.act.cell 2⟩
theorem Bars.bare {k n b : Int} {w W : World} (h : Bars k n b w W) : Bare W (.pointer (some ⟨w.heap.size + 1, 0, none⟩)) := .inr ⟨_, rfl, h.zero.lt, h.zero.cell 0⟩
theorem Bare.nil (W : World) : Bare W (.pointer none) := .inl rfl

set_option maxRecDepth 100000 in
set_option maxHeartbeats 2000000 in
theorem none_walk (k n b : Int) (w : World) :
    Calls Try.prog 5 #[.agg #[.int .i64 k, .int .u64 n, .int .u64 b]] w fun e w' => e = .returned (.bool true) ∧ Below w.heap.size w w' := by
  have hP0 : Bars k n b w (((w.alloc (.cells #[.int .i64 k, .int .u64 n, .int .u64 b] 33)).alloc (.cells #[.int .i64 0, .slice none 0 0] 50)).alloc (.cells #[.pointer none, .pointer (some ⟨w.heap.size + 1, 0, none⟩)] 24)) :=
    ⟨((blk_new w 33 _).kept (kept_alloc [] _ _) (by simp)).kept (kept_alloc [] _ _) (by simp),
     (show Blk _ _ _ _ by have := (blk_new (w.alloc (.cells #[.int .i64 k, .int .u64 n, .int .u64 b] 33)) 50 #[.int .i64 0, .slice none 0 0]).kept (kept_alloc [] _ (.cells #[.pointer none, .pointer (some ⟨w.heap.size + 1, 0, none⟩)] 24)) (by simp); simpa using this),
     (show Blk _ _ _ _ by have := blk_new ((w.alloc (.cells #[.int .i64 k, .int .u64 n, .int .u64 b] 33)).alloc (.cells #[.int .i64 0, .slice none 0 0] 50)) 24 #[.pointer none, .pointer (some ⟨w.heap.size + 1, 0, none⟩)]; simpa using this),
     (((Below.refl _ w).alloc (Nat.le_refl _) _).alloc (by simp) _).alloc (by simp; omega) _⟩
  go_enter Try.func5, Try.ntmps5
  go_wp2_with fail
  go_loopw [13] (fun i wr => ∃ j : Nat, (j = 0 ∨ j = 1 ∨ j = 2) ∧ i = .int .i64 j ∧ Bars k n b w wr) (fun i _ => 2 - (intOf i).toNat)
  case atStart => exact ⟨0, .inl rfl, rfl, hP0⟩
  case round =>
    clear hP0
    obtain ⟨j, hj, rfl, hP⟩ := hrel
    have l0 := hP.list.cell 0
    have l1 := hP.list.cell 1
    obtain ⟨d1, d2⟩ := hP.two
    rcases hj with rfl | rfl | rfl
    · go_wp2_with (first
        | (go_at_call 11; refine (load_bare _ _ _ (Bare.nil _)).mono ?_; rintro e w' ⟨rfl, rfl⟩)
        | (go_at_call 13; refine (use_bare _ n b _ (Bare.nil _)).mono ?_; rintro e w1 ⟨rfl, hB1⟩; replace hP := hP.after hB1; obtain ⟨d3, d4⟩ := hP.two)
        | (go_at_call 9; refine (fits_bare _ _ _ _ (Bare.nil _)).mono ?_; rintro e w2 ⟨rfl, hB2⟩; replace hP := hP.after hB2)
        | (go_at_call 15; refine (mask_bare _ _ (Bare.nil _)).mono ?_; rintro e w' ⟨rfl, rfl⟩)
        | (go_at_call 18; refine (order_bare _ _ (Bare.nil _)).mono ?_; rintro e w' ⟨rfl, rfl⟩))
      go_roundw
      case rel => exact ⟨1, .inr (.inl rfl), rfl, hP⟩
      case measure => simp [intOf]
    · go_wp2_with (first
        | (go_at_call 11; refine (load_bare _ _ _ hP.bare).mono ?_; rintro e w' ⟨rfl, rfl⟩)
        | (go_at_call 13; refine (use_bare _ n b _ hP.bare).mono ?_; rintro e w1 ⟨rfl, hB1⟩; replace hP := hP.after hB1; obtain ⟨d3, d4⟩ := hP.two)
        | (go_at_call 9; refine (fits_bare _ _ _ _ hP.bare).mono ?_; rintro e w2 ⟨rfl, hB2⟩; replace hP := hP.after hB2)
        | (go_at_call 15; refine (mask_bare _ _ hP.bare).mono ?_; rintro e w' ⟨rfl, rfl⟩)
        | (go_at_call 18; refine (order_bare _ _ hP.bare).mono ?_; rintro e w' ⟨rfl, rfl⟩))
      go_roundw
      case rel => exact ⟨2, .inr (.inr rfl), rfl, hP⟩
      case measure => simp [intOf]
    · go_wp2_with (first
        | (go_at_call 6; refine (lives_any _).mono ?_; rintro e w3 ⟨rfl, hB3⟩; replace hP := hP.after hB3))
      go_ret
      exact ⟨rfl, hP.below⟩

end Go.Proofs.Ytldeecjocapfgaa.Hot
