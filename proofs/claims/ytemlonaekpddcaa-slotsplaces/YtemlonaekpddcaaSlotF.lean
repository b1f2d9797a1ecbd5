/-
  The walks of lives and of SlotsPlaces.
-/
import Derived.Test.YtemlonaekpddcaaSlotE
import Derived.Test.YtemlonaekpddcaaRing2
namespace Go.Proofs.Ytemlonaekpddcaa
open Go.RowKit Go.Maps Go.Shelf
open Math

set_option maxRecDepth 100000 in
set_option maxHeartbeats 1000000 in
/-- lives -/
theorem lives_any (w : World) : Calls Try.prog 7 #[] w fun e w' => e = .returned (.bool true) ∧ Kept [] w w' := by
  have q1 := new_any 4 (by decide) (by decide) w
  obtain ⟨a1, a2, a3, a4, a5⟩ := (still_made 4 1 2 (by decide) (by decide) (by decide) (by decide) (by decide)).put_ok rfl (by decide) 7 (by decide) (.inl (by decide))
  have q2 := fun W (h : DiskAt W (w.heap.size + 2) w.heap.size (w.heap.size + 1) (made 4)) => put_any _ _ _ (made 4) 1 2 7 (by decide) (by decide) W h
  have c1 : putE (made 4) 1 2 7 = 0 := a1
  rw [c1] at q2
  have o1 : (putS (made 4) 1 2 7).ops = 2 := a5
  have f1 : (putS (made 4) 1 2 7).fuse = -1 := a4
  have t1 : Still (putS (made 4) 1 2 7) 1 2 1 7 := a2
  have b1 : (putS (made 4) 1 2 7).broken = false := a3
  clear a1 a2 a3 a4 a5 c1
  generalize putS (made 4) 1 2 7 = s1 at *
  obtain ⟨a1, a2, a3, a4, a5⟩ := t1.put_ok b1 (by decide) 9 (by decide) (.inl (by rw [f1]; decide))
  have q3 := fun W (h : DiskAt W (w.heap.size + 2) w.heap.size (w.heap.size + 1) s1) => put_any _ _ _ s1 1 2 9 (by decide) (by omega) W h
  have c1 : putE s1 1 2 9 = 0 := a1
  rw [c1] at q3
  have t2 : Still (putS s1 1 2 9) 1 2 2 9 := a2
  have b2 : (putS s1 1 2 9).broken = false := a3
  clear a1 a2 a3 a4 a5 c1 t1 b1 o1 f1
  generalize putS s1 1 2 9 = s2 at *
  have n1 : latestN s2 1 2 = 2 := t2.latestN b2
  have n2 : latestY s2 1 2 = 9 := t2.latestY b2
  have q4 := fun W (h : DiskAt W (w.heap.size + 2) w.heap.size (w.heap.size + 1) s2) => latest_any _ _ _ s2 1 2 W h
  rw [n1, n2] at q4
  have q5 := fun W => place_any 2 (by decide) 1 2 W
  rw [show placeOf 2 1 2 = 1 from rfl] at q5
  clear n1 n2 t2 b2
  go_enter Try.func7, Try.ntmps7
  go_wp2_with (first
    | (go_at_call 8; refine q1.mono ?_; rintro e w1 ⟨rfl, hD1, hk1⟩)
    | (go_at_call 10; refine (q2 _ hD1).mono ?_; rintro e w2 ⟨rfl, hD2, hk2⟩; clear q2)
    | (go_at_call 10; refine (q3 _ hD2).mono ?_; rintro e w3 ⟨rfl, hD3, hk3⟩)
    | (go_at_call 18; refine (q4 _ hD3).mono ?_; rintro e w4 ⟨rfl, hk4⟩)
    | (go_at_call 21; refine (q5 _).mono ?_; rintro e w4 ⟨rfl, rfl⟩))
  go_ret
  exact ⟨rfl, ((hk1.young3 hk2 (by omega) (by omega) (by omega)).young3 hk3 (by omega) (by omega) (by omega)).trans hk4⟩

set_option maxRecDepth 100000 in
set_option maxHeartbeats 1000000 in
/-- SlotsPlaces -/
theorem places_walk (n : Nat) (hn : n < 4294967296) (base r : Int) (w : World) :
    Calls Try.prog 4 #[.int .u32 (n : Int), .int .i64 base, .int .i64 r] w fun e w' => e = .returned (.bool true) ∧ Kept [] w w' := by
  have q1 := fun W => place_any n hn base r W
  have q2 := fun W => refPlace_any n hn base r W
  generalize placeOf n base r = p at *
  have q3 := lives_any
  go_enter Try.func4, Try.ntmps4
  go_wp2_with (first
    | (go_at_call 21; refine (q1 _).mono ?_; rintro e w ⟨rfl, rfl⟩)
    | (go_at_call 22; refine (q2 _).mono ?_; rintro e w ⟨rfl, rfl⟩)
    | (go_at_call 7; refine (q3 _).mono ?_; rintro e w3 ⟨rfl, hk3⟩))
  go_ret
  exact ⟨rfl, hk3⟩
end Go.Proofs.Ytemlonaekpddcaa
