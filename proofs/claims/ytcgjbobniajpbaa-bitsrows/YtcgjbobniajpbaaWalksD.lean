/-
  The walk of lives: a call that takes nothing, and answers true.
-/
import Derived.Test.YtcgjbobniajpbaaWalksC
namespace Go.Proofs.Ytcgjbobniajpbaa
open Go.RowKit
open Math

theorem pop_below10 : pop (below 10) = 1 := by decide +kernel
theorem ofL_lives : ofL [3, 1, 64] = 10 := by decide +kernel
theorem elems10 : elems 10 = [1, 3] := by decide +kernel
theorem row_lives : row 62 2 = 13835058055282163712 := by decide +kernel

theorem of_lit (w : World) : Calls Try.prog 21 #[.slice (some ⟨w.heap.size, 0, none⟩) 3 3] (w.alloc (.cells #[.int .i64 3, .int .i64 1, .int .i64 64] 3)) fun e w' =>
    e = .returned (.int .u64 10) ∧ Below w.heap.size w w' := by
  refine (of_any _ [3, 1, 64] _ (by simp) ⟨_, 3, rfl, .inr ⟨w.heap.size, 0, rfl, by simp, ?_⟩⟩).mono ?_
  · intro j hj
    match j, hj with
    | 0, _ => rw [World.cell?_alloc_at _ _ _ _ rfl]; rfl
    | 1, _ => rw [World.cell?_alloc_at _ _ _ _ rfl]; rfl
    | 2, _ => rw [World.cell?_alloc_at _ _ _ _ rfl]; rfl
    | _ + 3, h => simp at h; omega
  · rintro e w' ⟨rfl, hB⟩
    rw [ofL_lives]
    exact ⟨rfl, ((Below.refl _ _).alloc (Nat.le_refl _) _).trans (hB.mono (by simp))⟩

theorem list_lit (w : World) : Calls Try.prog 20 #[.int .u64 10] w fun e w' => ∃ v, e = .returned v ∧ IntsAt w'.heap.size w' v [1, 3] ∧ Below w.heap.size w w' := by
  refine (list_any 10 w (by omega)).mono ?_
  rintro e w' ⟨v, rfl, hr, hB⟩
  have h := intsAt_of_owns hr
  rw [elems10] at h
  exact ⟨v, rfl, h, hB⟩

theorem ints_lit (w : World) (v : Value) (h : IntsAt w.heap.size w v [1, 3]) : Calls Try.prog 19 #[v, .slice (some ⟨w.heap.size, 0, none⟩) 2 2] (w.alloc (.cells #[.int .i64 1, .int .i64 3] 3)) fun e w' =>
    e = .returned (.bool true) ∧ Below w.heap.size w w' := by
  have hB : Below w.heap.size w (w.alloc (.cells #[.int .i64 1, .int .i64 3] 3)) := (Below.refl _ _).alloc (Nat.le_refl _) _
  refine (ints_any _ _ [1, 3] _ (by simp) ((h.below hB).mono (by simp)) ⟨_, 2, rfl, .inr ⟨w.heap.size, 0, rfl, by simp, ?_⟩⟩).mono ?_
  · intro j hj
    match j, hj with
    | 0, _ => rw [World.cell?_alloc_at _ _ _ _ rfl]; rfl
    | 1, _ => rw [World.cell?_alloc_at _ _ _ _ rfl]; rfl
    | _ + 2, h => simp at h; omega
  · rintro e w' ⟨rfl, n, rfl⟩
    exact ⟨rfl, below_drewN hB n⟩

set_option maxHeartbeats 800000 in
theorem lives_any (w : World) : Calls Try.prog 15 #[] w fun e w' => e = .returned (.bool true) ∧ Below w.heap.size w w' := by
  have l1 := fun w => lowest_any 10 w (by omega) (by omega)
  rw [pop_below10] at l1
  have l5 := fun w => rowIn_any 62 5 w (by omega) (by omega)
  have e5 : row 62 (min (5 : Int).toNat (64 - 62)) = 13835058055282163712 := row_lives
  rw [e5] at l5
  go_enter Try.func15, Try.ntmps15
  go_wp2_with (first
    | (go_at_call 17; refine (l1 _).mono ?_; clear l1; rintro e w1 ⟨rfl, hB1⟩)
    | (go_at_call 21; refine (of_lit _).mono ?_; rintro e w2 ⟨rfl, hB2⟩)
    | (go_at_call 20; refine (list_lit _).mono ?_; rintro e w3 ⟨v, rfl, hI, hB3⟩)
    | (go_at_call 19; refine (ints_lit _ _ hI).mono ?_; rintro e w4 ⟨rfl, hB4⟩)
    | (go_at_call 23; refine (l5 _).mono ?_; clear l5; rintro e w5 ⟨rfl, rfl⟩))
  go_ret
  exact ⟨rfl, ((hB1.trans (hB2.mono hB1.size)).trans (hB3.mono (Nat.le_trans hB1.size hB2.size))).trans (hB4.mono (Nat.le_trans (Nat.le_trans hB1.size hB2.size) hB3.size))⟩

end Go.Proofs.Ytcgjbobniajpbaa
