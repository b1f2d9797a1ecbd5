/-
  Plain facts on boots; the walks of lives, of a disk that no call made, and of SuperNone.
-/
import Derived.Test.YtphkpplbihnmiaaSuperA
namespace Go.Proofs.Ytphkpplbihnmiaa
open Go.RowKit Go.Maps Go.Shelf
open Math

theorem Still.boot {s : Dk} {n y : Nat} (h : Still s 0 2 n y) (hb : s.broken = false) (hy : y < 4294967296) : boot s = y := by
  have e : Ytphkpplbihnmiaa.latestY s 0 2 = y := h.latestY hb
  unfold Ytphkpplbihnmiaa.boot
  rw [e]
  exact Nat.mod_eq_of_lt hy
/-- A start that ends well. -/
theorem Still.next_ok {s : Dk} {n y : Nat} (h : Still s 0 2 n y) (hb : s.broken = false) (hn : n + 1 < 4294967296) (hy : y + 1 < 4294967296) (hf : s.fuse < 0 ∨ 2 ≤ s.fuse) :
    nextE s = 0 ∧ nextN s = y + 1 ∧ Still (nextS s) 0 2 (n + 1) (y + 1) ∧ (nextS s).broken = false ∧ (nextS s).fuse = (if s.fuse < 0 then s.fuse else s.fuse - 2) ∧ (nextS s).ops = s.ops + 2 := by
  have e := h.boot hb (by omega)
  obtain ⟨a1, a2, a3, a4, a5⟩ := h.put_ok hb hn (y + 1) (by omega) hf
  have a1' : putE s 0 2 (y + 1) = 0 := a1
  have e1 : nextE s = 0 := by
    unfold nextE
    rw [e, if_neg (by omega)]
    exact a1'
  have e2 : nextS s = putS s 0 2 (y + 1) := by
    unfold nextS
    rw [e, if_neg (by omega)]
  refine ⟨e1, ?_, ?_⟩
  · unfold nextN
    rw [if_pos e1, e]
  · rw [e2]
    exact ⟨a2, a3, a4, a5⟩
/-- None that broke is started. -/
theorem next_broken {s : Dk} (hs : 2 ≤ s.size) (hb : s.broken = true) : nextE s = 3 ∧ nextN s = 0 ∧ nextS s = s ∧ Ytphkpplbihnmiaa.boot s = 0 := by
  have hh : hasRing s 0 2 = true := by simp [hasRing]; omega
  have hr : ∀ i, ringOf s 0 i = nought := fun i => by
    unfold ringOf readL
    simp [hb]
  have hl : ∀ i, search (ringOf s 0) 2 i = (0, 0) := fun i => by
    induction i with
    | zero => rfl
    | succ i ih => rw [search, ih, better, hr, num_nought, if_neg (by simp)]
  have e : latestY s 0 2 = 0 := by
    unfold latestY
    rw [if_pos hh]
    exact congrArg Prod.snd (hl 2)
  have e0 : Ytphkpplbihnmiaa.boot s = 0 := by
    unfold Ytphkpplbihnmiaa.boot
    rw [e]
  have e1 : nextE s = 3 := by
    unfold nextE putE
    rw [e0, if_neg (by decide), if_pos hh, if_pos hb]
  refine ⟨e1, ?_, ?_, e0⟩
  · unfold nextN
    rw [if_neg (by rw [e1]; decide)]
  · unfold nextS putS
    rw [e0, if_neg (by decide), if_pos hh, if_pos hb]

set_option maxRecDepth 100000 in
set_option maxHeartbeats 1000000 in
/-- lives -/
theorem lives_any (w : World) : Calls Try.prog 6 #[] w fun e w' => e = .returned (.bool true) ∧ Kept [] w w' := by
  have q1 := new_any 8 (by decide) (by decide) w
  obtain ⟨a1, a6, a2, a3, a4, a5⟩ := (still_made 8 0 2 (by decide) (by decide) (by decide) (by decide) (by decide)).next_ok rfl (by decide) (by decide) (.inl (by decide))
  have q2 := fun W (h : DiskAt W (w.heap.size + 2) w.heap.size (w.heap.size + 1) (made 8)) => next_any _ _ _ (made 8) (by decide) W h
  rw [a1, a6] at q2
  have o1 : (nextS (made 8)).ops = 2 := a5
  have f1 : (nextS (made 8)).fuse = -1 := a4
  clear a1 a4 a5 a6
  generalize nextS (made 8) = s1 at *
  obtain ⟨b1, b6, b2, b3, b4, b5⟩ := a2.next_ok a3 (by decide) (by decide) (.inl (by rw [f1]; decide))
  have q3 := fun W (h : DiskAt W (w.heap.size + 2) w.heap.size (w.heap.size + 1) s1) => next_any _ _ _ s1 (by omega) W h
  rw [b1, b6] at q3
  clear b1 b4 b5 b6 a2 a3 o1 f1
  generalize nextS s1 = s2 at *
  have q4 := fun W (h : DiskAt W (w.heap.size + 2) w.heap.size (w.heap.size + 1) s2) => boot_any _ _ _ s2 W h
  rw [b2.boot b3 (by decide)] at q4
  clear b2 b3
  go_enter Try.func6, Try.ntmps6
  go_wp2_with (first
    | (go_at_call 7; refine q1.mono ?_; rintro e w1 ⟨rfl, hD1, hk1⟩)
    | (go_at_call 9; refine (q2 _ hD1).mono ?_; rintro e w2 ⟨rfl, hD2, hk2⟩; clear q2)
    | (go_at_call 9; refine (q3 _ hD2).mono ?_; rintro e w3 ⟨rfl, hD3, hk3⟩)
    | (go_at_call 17; refine (q4 _ hD3).mono ?_; rintro e w4 ⟨rfl, hk4⟩))
  go_ret
  exact ⟨rfl, ((hk1.young3 hk2 (by omega) (by omega) (by omega)).young3 hk3 (by omega) (by omega) (by omega)).trans hk4⟩

set_option maxRecDepth 100000 in
theorem holds_none (p : Option Addr) (base r : Int) (w : World) (h : NoDisk w p) :
    Calls Try.prog 31 #[.pointer p, .int .i64 base, .int .i64 r] w fun e w' => e = .returned (.bool false) ∧ w' = w := by
  have q := isRing_any r w
  have q2 := size_none p w h
  by_cases h12 : 2 ≤ r ∧ r ≤ 8
  · obtain ⟨h1, h2⟩ := h12
    rw [decide_eq_true h1, decide_eq_true h2] at q
    by_cases h3 : 0 ≤ base
    · have h4 : ¬ (base ≤ -r) := by omega
      clear h
      go_enter Try.func31, Try.ntmps31
      go_wp2_with (first
        | (go_at_call 46; refine q.mono ?_; rintro e w ⟨rfl, rfl⟩)
        | (go_at_call 47; refine q2.mono ?_; rintro e w ⟨rfl, rfl⟩))
      go_ret
      exact ⟨by simp; omega, rfl⟩
    · clear h
      go_enter Try.func31, Try.ntmps31
      go_wp2_with (first
        | (go_at_call 46; refine q.mono ?_; rintro e w ⟨rfl, rfl⟩)
        | (go_at_call 47; refine q2.mono ?_; rintro e w ⟨rfl, rfl⟩))
      go_ret
      exact ⟨rfl, rfl⟩
  · have e1 : (decide (2 ≤ r) && decide (r ≤ 8)) = false := by simp; omega
    rw [e1] at q
    clear e1 h
    go_enter Try.func31, Try.ntmps31
    go_wp2_with (first
      | (go_at_call 46; refine q.mono ?_; rintro e w ⟨rfl, rfl⟩))
    go_ret
    exact ⟨rfl, rfl⟩

set_option maxRecDepth 100000 in
theorem latest_none (p : Option Addr) (base r : Int) (w : World) (h : NoDisk w p) :
    Calls Try.prog 29 #[.pointer p, .int .i64 base, .int .i64 r] w fun e w' => e = .returned (.tuple #[.int .u32 0, .int .u64 0]) ∧ w' = w := by
  have q1 := holds_none p base r w h
  go_enter Try.func29, Try.ntmps29
  go_wp2_with (first
    | (go_at_call 31; refine q1.mono ?_; rintro e w ⟨rfl, rfl⟩))
  go_ret2
  exact ⟨rfl, rfl⟩

set_option maxRecDepth 100000 in
theorem put_none (p : Option Addr) (base r : Int) (y : Nat) (w : World) (h : NoDisk w p) :
    Calls Try.prog 19 #[.pointer p, .int .i64 base, .int .i64 r, .int .u64 (y : Int)] w fun e w' => e = .returned (.int .i64 1) ∧ w' = w := by
  have q1 := made_none p w h
  go_enter Try.func19, Try.ntmps19
  go_wp2_with (first
    | (go_at_call 21; refine q1.mono ?_; rintro e w ⟨rfl, rfl⟩))
  go_ret
  exact ⟨rfl, rfl⟩

set_option maxRecDepth 100000 in
theorem boot_none (p : Option Addr) (w : World) (h : NoDisk w p) :
    Calls Try.prog 17 #[.pointer p] w fun e w' => e = .returned (.int .u32 0) ∧ w' = w := by
  have q1 := latest_none p 0 2 w h
  have q2 := fun W => number_any 0 0 W
  go_enter Try.func17, Try.ntmps17
  go_wp2_with (first
    | (go_at_call 29; refine q1.mono ?_; rintro e w ⟨rfl, rfl⟩)
    | (go_at_call 28; refine (q2 _).mono ?_; rintro e w ⟨rfl, rfl⟩))
  go_ret
  exact ⟨rfl, rfl⟩

set_option maxRecDepth 100000 in
theorem next_none (p : Option Addr) (w : World) (h : NoDisk w p) :
    Calls Try.prog 9 #[.pointer p] w fun e w' => e = .returned (.tuple #[.int .u32 0, .int .i64 1]) ∧ w' = w := by
  have q1 := boot_none p w h
  have q2 := put_none p 0 2 1 w h
  go_enter Try.func9, Try.ntmps9
  go_wp2_with (first
    | (go_at_call 17; refine q1.mono ?_; rintro e w ⟨rfl, rfl⟩)
    | (go_at_call 19; refine q2.mono ?_; rintro e w ⟨rfl, rfl⟩))
  go_ret2
  exact ⟨rfl, rfl⟩

theorem burnt_size (s : Dk) : (burnt s).size = s.size := rfl
set_option maxRecDepth 100000 in
set_option maxHeartbeats 1000000 in
/-- SuperNone -/
theorem none_walk (k : Int) (w : World) :
    Calls Try.prog 5 #[.int .i64 k] w fun e w' => e = .returned (.bool true) ∧ Kept [] w w' := by
  have q1 := next_none none w (.inl rfl)
  have q2 := new_any 8 (by decide) (by decide) w
  have t0 := (still_made 8 0 2 (by decide) (by decide) (by decide) (by decide) (by decide)).fused 0 (by decide) (by decide)
  have eb : boot (fused (made 8) 0) = 0 := t0.boot rfl (by decide)
  obtain ⟨e1, e2⟩ := t0.put_burnt rfl (by decide) 1 rfl
  have e1' : putE (fused (made 8) 0) 0 2 1 = 3 := e1
  have e2' : putS (fused (made 8) 0) 0 2 1 = burnt (fused (made 8) 0) := e2
  have eE : nextE (fused (made 8) 0) = 3 := by
    unfold nextE
    rw [eb, if_neg (by decide)]
    exact e1'
  have eN : nextN (fused (made 8) 0) = 0 := by
    unfold nextN
    rw [eE, if_neg (by decide)]
  have eS : nextS (fused (made 8) 0) = burnt (fused (made 8) 0) := by
    unfold nextS
    rw [eb, if_neg (by decide)]
    exact e2'
  have q3 := fun W (h : DiskAt W (w.heap.size + 2) w.heap.size (w.heap.size + 1) (made 8)) => fuse_any _ _ _ (made 8) 0 (by decide) (by decide) W h
  have q4 := fun W (h : DiskAt W (w.heap.size + 2) w.heap.size (w.heap.size + 1) (fused (made 8) 0)) => next_any _ _ _ (fused (made 8) 0) (by decide) W h
  rw [eE, eN, eS] at q4
  have q5 := fun W (h : DiskAt W (w.heap.size + 2) w.heap.size (w.heap.size + 1) (burnt (fused (made 8) 0))) => boot_any _ _ _ (burnt (fused (made 8) 0)) W h
  rw [(next_broken (s := burnt (fused (made 8) 0)) (by decide) rfl).2.2.2] at q5
  generalize burnt (fused (made 8) 0) = s2 at *
  generalize fused (made 8) 0 = s1 at *
  clear t0 eb e1 e2 e1' e2' eE eN eS
  have q6 := fun W => boot_none none W (.inl rfl)
  have q7 := lives_any
  go_enter Try.func5, Try.ntmps5
  go_wp2_with (first
    | (go_at_call 9; refine q1.mono ?_; rintro e w ⟨rfl, rfl⟩; clear q1)
    | (go_at_call 7; refine q2.mono ?_; rintro e w1 ⟨rfl, hD1, hk1⟩)
    | (go_at_call 13; refine (q3 _ hD1).mono ?_; rintro e w2 ⟨rfl, hD2, hk2, hz2⟩; replace hz2 : Hid _ := hz2)
    | (go_at_call 9; refine (q4 _ hD2).mono ?_; rintro e w3 ⟨rfl, hD3, hk3⟩)
    | (go_at_call 17; refine (q6 _).mono ?_; rintro e w3 ⟨rfl, rfl⟩; clear q6)
    | (go_at_call 17; refine (q5 _ hD3).mono ?_; rintro e w4 ⟨rfl, hk4⟩)
    | (go_at_call 6; refine (q7 _).mono ?_; rintro e w5 ⟨rfl, hk5⟩))
  go_ret
  exact ⟨rfl, (((hk1.young hk2 (by omega)).young3 hk3 (by omega) (by omega) (by omega)).trans hk4).trans hk5⟩
end Go.Proofs.Ytphkpplbihnmiaa
