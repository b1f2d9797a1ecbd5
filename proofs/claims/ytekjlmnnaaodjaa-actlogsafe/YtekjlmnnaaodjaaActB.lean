/-
  Plain facts on the log; the walks of lives, and of a disk that no call made.
-/
import Derived.Test.YtekjlmnnaaodjaaActA
import Derived.Test.YtekjlmnnaaodjaaSuperB
namespace Go.Proofs.Ytekjlmnnaaodjaa
open Go.RowKit Go.Maps Go.Shelf
open Math

/-- The same set again is no write. -/
theorem Still.log_same {s : Dk} {n y : Nat} (h : Still s 2 4 n y) (hb : s.broken = false) : logE s y = 0 ∧ logS s y = s := by
  have e : Ytekjlmnnaaodjaa.latestY s 2 4 = y := h.latestY hb
  unfold logE logS
  rw [hb, e]
  simp
theorem Still.log_other {s : Dk} {n y m : Nat} (h : Still s 2 4 n y) (hb : s.broken = false) (hm : y ≠ m) : logE s m = putE s 2 4 m ∧ logS s m = putS s 2 4 m := by
  have e : Ytekjlmnnaaodjaa.latestY s 2 4 = y := h.latestY hb
  unfold logE logS
  rw [hb, e, if_neg hm, if_neg hm]
  exact ⟨rfl, rfl⟩
/-- A Put that ends well. -/
theorem Still.log_ok {s : Dk} {n y : Nat} (h : Still s 2 4 n y) (hb : s.broken = false) (hn : n + 1 < 4294967296) (m : Nat) (hm : m < 18446744073709551616) (hf : s.fuse < 0 ∨ 2 ≤ s.fuse) :
    logE s m = 0 ∧ Still (logS s m) 2 4 (if y = m then n else n + 1) m ∧ (logS s m).broken = false ∧ (s.fuse < 0 → (logS s m).fuse = s.fuse) ∧ (logS s m).ops ≤ s.ops + 2 := by
  by_cases e : y = m
  · subst e
    obtain ⟨e1, e2⟩ := h.log_same hb
    rw [e1, e2, if_pos rfl]
    exact ⟨rfl, h, hb, fun _ => rfl, by omega⟩
  · obtain ⟨e1, e2⟩ := h.log_other hb e
    obtain ⟨a1, a2, a3, a4, a5⟩ := h.put_ok hb hn m hm hf
    rw [e1, e2, if_neg e]
    exact ⟨a1, a2, a3, fun g => a4.trans (if_pos g), Nat.le_of_eq a5⟩

set_option maxRecDepth 100000 in
set_option maxHeartbeats 1000000 in
/-- lives -/
theorem logLives_any (w : World) : Calls Try.prog 6 #[] w fun e w' => e = .returned (.bool true) ∧ Kept [] w w' := by
  have q1 := new_any 12 (by decide) (by decide) w
  obtain ⟨a1, a2, a3, a4, a5⟩ := (still_made 12 2 4 (by decide) (by decide) (by decide) (by decide) (by decide)).log_ok rfl (by decide) 5 (by decide) (.inl (by decide))
  have q2 := fun W (h : DiskAt W (w.heap.size + 2) w.heap.size (w.heap.size + 1) (made 12)) => logPut_any _ _ _ (made 12) 5 (by decide) (by decide) W h
  rw [a1] at q2
  rw [if_neg (by decide)] at a2
  have o1 : (logS (made 12) 5).ops ≤ 2 := a5
  clear a1 a4 a5
  generalize logS (made 12) 5 = s1 at *
  obtain ⟨b1, b2⟩ := a2.log_same a3
  have q3 := fun W (h : DiskAt W (w.heap.size + 2) w.heap.size (w.heap.size + 1) s1) => logPut_any _ _ _ s1 5 (by decide) (by omega) W h
  rw [b1, b2] at q3
  have q4 := fun W (h : DiskAt W (w.heap.size + 2) w.heap.size (w.heap.size + 1) s1) => get_any _ _ _ s1 W h
  have q5 := fun W (h : DiskAt W (w.heap.size + 2) w.heap.size (w.heap.size + 1) s1) => writes_any _ _ _ s1 W h
  have e4 : latestY s1 2 4 = 5 := a2.latestY a3
  have e5 : latestN s1 2 4 = 1 := a2.latestN a3
  rw [e4] at q4
  rw [e5] at q5
  clear b1 b2 a2 a3 o1 e4 e5
  go_enter Try.func6, Try.ntmps6
  go_wp2_with (first
    | (go_at_call 5; refine q1.mono ?_; rintro e w1 ⟨rfl, hD1, hk1⟩)
    | (go_at_call 7; refine (q2 _ hD1).mono ?_; rintro e w2 ⟨rfl, hD2, hk2⟩; clear q2)
    | (go_at_call 7; refine (q3 _ hD2).mono ?_; rintro e w3 ⟨rfl, hD3, hk3⟩)
    | (go_at_call 11; refine (q4 _ hD3).mono ?_; rintro e w4 ⟨rfl, hk4⟩)
    | (go_at_call 12; refine (q5 _ (hD3.kept hk4 (by simp) (by simp) (by simp))).mono ?_; rintro e w5 ⟨rfl, hk5⟩))
  go_ret
  exact ⟨rfl, (((hk1.young3 hk2 (by omega) (by omega) (by omega)).young3 hk3 (by omega) (by omega) (by omega)).trans hk4).trans hk5⟩

set_option maxRecDepth 100000 in
/-- Get and Writes of a disk that no call made -/
theorem get_none (p : Option Addr) (w : World) (h : NoDisk w p) :
    Calls Try.prog 11 #[.pointer p] w fun e w' => e = .returned (.int .u64 0) ∧ Kept [] w w' :=
  get_of p 0 0 w fun W hk => (latest_none p 2 4 W (h.kept hk)).mono fun e w' ⟨he, hw⟩ => ⟨he, by rw [hw]; exact Kept.refl _ _⟩
set_option maxRecDepth 100000 in
theorem writes_none (p : Option Addr) (w : World) (h : NoDisk w p) :
    Calls Try.prog 12 #[.pointer p] w fun e w' => e = .returned (.int .u32 0) ∧ Kept [] w w' :=
  writes_of p 0 0 w fun W hk => (latest_none p 2 4 W (h.kept hk)).mono fun e w' ⟨he, hw⟩ => ⟨he, by rw [hw]; exact Kept.refl _ _⟩

set_option maxRecDepth 100000 in
theorem logPut_none (p : Option Addr) (m : Nat) (w : World) (h : NoDisk w p) :
    Calls Try.prog 7 #[.pointer p, .int .u64 (m : Int)] w fun e w' => e = .returned (.int .i64 1) ∧ w' = w := by
  have q1 := made_none p w h
  go_enter Try.func7, Try.ntmps7
  go_wp2_with (first
    | (go_at_call 13; refine q1.mono ?_; rintro e w ⟨rfl, rfl⟩))
  go_ret
  exact ⟨rfl, rfl⟩
end Go.Proofs.Ytekjlmnnaaodjaa
