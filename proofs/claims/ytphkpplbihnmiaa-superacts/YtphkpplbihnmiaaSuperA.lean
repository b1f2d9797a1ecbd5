/-
  The walks of super.Boot, super.Next, and of the document's.
-/
import Derived.Test.YtphkpplbihnmiaaSlotE
import Derived.Test.YtphkpplbihnmiaaRing2
namespace Go.Proofs.Ytphkpplbihnmiaa
open Go.RowKit Go.Maps Go.Shelf
open Math

/-- The boot's number; a new start: its number, its error, the disk behind it. -/
def boot (s : Dk) : Nat := latestY s 0 2 % 4294967296
def nextE (s : Dk) : Nat := if boot s = 4294967295 then 13 else putE s 0 2 (boot s + 1)
def nextN (s : Dk) : Nat := if nextE s = 0 then boot s + 1 else 0
def nextS (s : Dk) : Dk := if boot s = 4294967295 then s else putS s 0 2 (boot s + 1)
theorem boot_lt (s : Dk) : boot s < 4294967296 := Nat.mod_lt _ (by decide)

set_option maxRecDepth 100000 in
theorem number_any (n y : Nat) (w : World) : Calls Try.prog 28 #[.int .u32 n, .int .u64 y] w fun e w' => e = .returned (.int .u32 ((y % 4294967296 : Nat) : Int)) ∧ w' = w := by
  go_enter Try.func28, Try.ntmps28
  go_wp2
  go_ret
  exact ⟨by simp, rfl⟩

set_option maxRecDepth 100000 in
/-- Boot -/
theorem boot_any (d b1 b2 : Nat) (s : Dk) (w : World) (h : DiskAt w d b1 b2 s) :
    Calls Try.prog 17 #[.pointer (some ⟨d, 0, none⟩)] w fun e w' => e = .returned (.int .u32 (boot s : Nat)) ∧ Kept [] w w' := by
  have q1 := latest_any d b1 b2 s 0 2 w h
  unfold boot
  generalize latestN s 0 2 = n at *
  generalize latestY s 0 2 = y at *
  have q2 := fun W => number_any n y W
  go_enter Try.func17, Try.ntmps17
  go_wp2_with (first
    | (go_at_call 29; refine q1.mono ?_; rintro e w1 ⟨rfl, hk1⟩)
    | (go_at_call 28; refine (q2 _).mono ?_; rintro e w1 ⟨rfl, rfl⟩))
  go_ret
  exact ⟨rfl, hk1⟩

set_option maxRecDepth 100000 in
set_option maxHeartbeats 1000000 in
/-- Next -/
theorem next_any (d b1 b2 : Nat) (s : Dk) (hops : s.ops ≤ 999998) (w : World) (h : DiskAt w d b1 b2 s) :
    Calls Try.prog 9 #[.pointer (some ⟨d, 0, none⟩)] w fun e w' => e = .returned (.tuple #[.int .u32 (nextN s : Nat), .int .i64 (nextE s : Nat)]) ∧ DiskAt w' d b1 b2 (nextS s) ∧ Kept [d, b1, b2] w w' := by
  have q1 := boot_any d b1 b2 s w h
  have hb := boot_lt s
  unfold nextN nextE nextS
  by_cases hm : boot s = 4294967295
  · rw [if_pos hm, if_pos hm, if_neg (by decide)]
    rw [hm] at q1
    clear hm hb
    go_enter Try.func9, Try.ntmps9
    go_wp2_with (first
      | (go_at_call 17; refine q1.mono ?_; rintro e w1 ⟨rfl, hk1⟩))
    go_ret2
    exact ⟨rfl, h.kept hk1 (by simp) (by simp) (by simp), hk1.mono (by simp)⟩
  · rw [if_neg hm, if_neg hm]
    have q2 := fun W (h : DiskAt W d b1 b2 s) => put_any d b1 b2 s 0 2 (boot s + 1) (by omega) hops W h
    generalize putS s 0 2 (boot s + 1) = s' at *
    generalize putE s 0 2 (boot s + 1) = ee at *
    generalize boot s = n at *
    have e1 : ((n : Int) == 4294967295) = false := by simp; omega
    have e2 : (n : Int) + 1 < 4294967296 := by omega
    simp only [Int.natCast_succ] at q2
    clear hm
    by_cases he : ee = 0
    · subst he
      rw [if_pos rfl]
      simp only [Int.natCast_succ]
      go_enter Try.func9, Try.ntmps9
      go_wp2_with (first
        | (go_at_call 17; refine q1.mono ?_; rintro e w1 ⟨rfl, hk1⟩; have hD1 := h.kept hk1 (by simp) (by simp) (by simp))
        | (go_at_call 19; refine (q2 _ hD1).mono ?_; rintro e w2 ⟨rfl, hD2, hk2⟩))
      go_ret2
      exact ⟨rfl, hD2, (hk1.mono (by simp)).trans hk2⟩
    · rw [if_neg he]
      have he' : ((ee : Int) != 0) = true := by simp; omega
      go_enter Try.func9, Try.ntmps9
      go_wp2_with (first
        | (go_at_call 17; refine q1.mono ?_; rintro e w1 ⟨rfl, hk1⟩; have hD1 := h.kept hk1 (by simp) (by simp) (by simp))
        | (go_at_call 19; refine (q2 _ hD1).mono ?_; rintro e w2 ⟨rfl, hD2, hk2⟩))
      go_ret2
      exact ⟨rfl, hD2, (hk1.mono (by simp)).trans hk2⟩

set_option maxRecDepth 100000 in
/-- the document's Boot -/
theorem refBoot_any (r g cap : Nat) (s : Dk) (w : World) (h : RefAt w r g cap s) :
    Calls Try.prog 18 #[.pointer (some ⟨r, 0, none⟩)] w fun e w' => e = .returned (.int .u32 (boot s : Nat)) ∧ Kept [] w w' := by
  have q1 := refLatest_any r g cap s 0 2 w h
  unfold boot
  generalize latestN s 0 2 = n at *
  generalize latestY s 0 2 = y at *
  go_enter Try.func18, Try.ntmps18
  go_wp2_with (first
    | (go_at_call 30; refine q1.mono ?_; rintro e w1 ⟨rfl, hk1⟩))
  go_ret
  exact ⟨by simp, hk1⟩

set_option maxRecDepth 100000 in
set_option maxHeartbeats 1000000 in
/-- the document's Next -/
theorem refNext_any (r g cap : Nat) (s : Dk) (hops : s.ops ≤ 999998) (w : World) (h : RefAt w r g cap s) :
    Calls Try.prog 10 #[.pointer (some ⟨r, 0, none⟩)] w fun e w' => e = .returned (.tuple #[.int .u32 (nextN s : Nat), .int .i64 (nextE s : Nat)]) ∧ RefAt w' r g cap (nextS s) ∧ Kept [r, g] w w' := by
  have q1 := refBoot_any r g cap s w h
  have hb := boot_lt s
  unfold nextN nextE nextS
  by_cases hm : boot s = 4294967295
  · rw [if_pos hm, if_pos hm, if_neg (by decide)]
    rw [hm] at q1
    clear hm hb
    go_enter Try.func10, Try.ntmps10
    go_wp2_with (first
      | (go_at_call 18; refine q1.mono ?_; rintro e w1 ⟨rfl, hk1⟩))
    go_ret2
    exact ⟨rfl, h.kept hk1 (by simp) (by simp), hk1.mono (by simp)⟩
  · rw [if_neg hm, if_neg hm]
    have q2 := fun W (h : RefAt W r g cap s) => refPut_any r g cap s 0 2 (boot s + 1) (by omega) hops W h
    generalize putS s 0 2 (boot s + 1) = s' at *
    generalize putE s 0 2 (boot s + 1) = ee at *
    generalize boot s = n at *
    have e1 : ((n : Int) == 4294967295) = false := by simp; omega
    have e2 : (n : Int) + 1 < 4294967296 := by omega
    simp only [Int.natCast_succ] at q2
    clear hm
    by_cases he : ee = 0
    · subst he
      rw [if_pos rfl]
      simp only [Int.natCast_succ]
      go_enter Try.func10, Try.ntmps10
      go_wp2_with (first
        | (go_at_call 18; refine q1.mono ?_; rintro e w1 ⟨rfl, hk1⟩; have hD1 := h.kept hk1 (by simp) (by simp))
        | (go_at_call 20; refine (q2 _ hD1).mono ?_; rintro e w2 ⟨rfl, hD2, hk2⟩))
      go_ret2
      exact ⟨rfl, hD2, (hk1.mono (by simp)).trans hk2⟩
    · rw [if_neg he]
      have he' : ((ee : Int) != 0) = true := by simp; omega
      go_enter Try.func10, Try.ntmps10
      go_wp2_with (first
        | (go_at_call 18; refine q1.mono ?_; rintro e w1 ⟨rfl, hk1⟩; have hD1 := h.kept hk1 (by simp) (by simp))
        | (go_at_call 20; refine (q2 _ hD1).mono ?_; rintro e w2 ⟨rfl, hD2, hk2⟩))
      go_ret2
      exact ⟨rfl, hD2, (hk1.mono (by simp)).trans hk2⟩
end Go.Proofs.Ytphkpplbihnmiaa
