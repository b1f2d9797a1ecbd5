/-
  The walks of a disk that no call made, and of SlotsNone.
-/
import Derived.Test.YtemlonaekpddcaaSlotF
namespace Go.Proofs.Ytemlonaekpddcaa
open Go.RowKit Go.Maps Go.Shelf
open Math

set_option maxRecDepth 100000 in
theorem holds_none (p : Option Addr) (base r : Int) (w : World) (h : NoDisk w p) :
    Calls Try.prog 24 #[.pointer p, .int .i64 base, .int .i64 r] w fun e w' => e = .returned (.bool false) ∧ w' = w := by
  have q := isRing_any r w
  have q2 := size_none p w h
  by_cases h12 : 2 ≤ r ∧ r ≤ 8
  · obtain ⟨h1, h2⟩ := h12
    rw [decide_eq_true h1, decide_eq_true h2] at q
    by_cases h3 : 0 ≤ base
    · have h4 : ¬ (base ≤ -r) := by omega
      clear h
      go_enter Try.func24, Try.ntmps24
      go_wp2_with (first
        | (go_at_call 41; refine q.mono ?_; rintro e w ⟨rfl, rfl⟩)
        | (go_at_call 42; refine q2.mono ?_; rintro e w ⟨rfl, rfl⟩))
      go_ret
      exact ⟨by simp; omega, rfl⟩
    · clear h
      go_enter Try.func24, Try.ntmps24
      go_wp2_with (first
        | (go_at_call 41; refine q.mono ?_; rintro e w ⟨rfl, rfl⟩)
        | (go_at_call 42; refine q2.mono ?_; rintro e w ⟨rfl, rfl⟩))
      go_ret
      exact ⟨rfl, rfl⟩
  · have e1 : (decide (2 ≤ r) && decide (r ≤ 8)) = false := by simp; omega
    rw [e1] at q
    clear e1 h
    go_enter Try.func24, Try.ntmps24
    go_wp2_with (first
      | (go_at_call 41; refine q.mono ?_; rintro e w ⟨rfl, rfl⟩))
    go_ret
    exact ⟨rfl, rfl⟩

set_option maxRecDepth 100000 in
theorem latest_none (p : Option Addr) (base r : Int) (w : World) (h : NoDisk w p) :
    Calls Try.prog 18 #[.pointer p, .int .i64 base, .int .i64 r] w fun e w' => e = .returned (.tuple #[.int .u32 0, .int .u64 0]) ∧ w' = w := by
  have q1 := holds_none p base r w h
  go_enter Try.func18, Try.ntmps18
  go_wp2_with (first
    | (go_at_call 24; refine q1.mono ?_; rintro e w ⟨rfl, rfl⟩))
  go_ret2
  exact ⟨rfl, rfl⟩

set_option maxRecDepth 100000 in
theorem put_none (p : Option Addr) (base r : Int) (y : Nat) (w : World) (h : NoDisk w p) :
    Calls Try.prog 10 #[.pointer p, .int .i64 base, .int .i64 r, .int .u64 (y : Int)] w fun e w' => e = .returned (.int .i64 1) ∧ w' = w := by
  have q1 := made_none p w h
  go_enter Try.func10, Try.ntmps10
  go_wp2_with (first
    | (go_at_call 23; refine q1.mono ?_; rintro e w ⟨rfl, rfl⟩))
  go_ret
  exact ⟨rfl, rfl⟩

set_option maxRecDepth 100000 in
set_option maxHeartbeats 1000000 in
/-- SlotsNone, of a length that is none -/
theorem none_out (y : Nat) (n base r : Int) (hn : n < 1 ∨ 40 < n) (w : World) :
    Calls Try.prog 6 #[.int .u64 (y : Int), .agg #[.int .i64 n, .int .i64 base, .int .i64 r]] w fun e w' => e = .returned (.bool true) ∧ Kept [] w w' := by
  have q1 := fun W => latest_none none base r W (.inl rfl)
  have q2 := fun W => put_none none base r y W (.inl rfl)
  have q3 := lives_any
  have hk0 := kept_alloc [] w (.cells #[.int .i64 n, .int .i64 base, .int .i64 r] 59)
  rcases (show n < 1 ∨ (¬ (n < 1) ∧ 40 < n) by omega) with k1 | ⟨k1, k2⟩
  · go_enter Try.func6, Try.ntmps6
    go_wp2_with fail
    go_quiet (fail)
    go_wp2_with (first
      | (go_at_call 18; refine (q1 _).mono ?_; rintro e w1 ⟨rfl, rfl⟩)
      | (go_at_call 10; refine (q2 _).mono ?_; rintro e w2 ⟨rfl, rfl⟩)
      | (go_at_call 7; refine (q3 _).mono ?_; rintro e w3 ⟨rfl, hk3⟩))
    go_ret
    exact ⟨rfl, (hk0.trans (kept_drewN [] _ _)).trans hk3⟩
  · go_enter Try.func6, Try.ntmps6
    go_wp2_with fail
    go_quiet (fail)
    go_wp2_with (first
      | (go_at_call 18; refine (q1 _).mono ?_; rintro e w1 ⟨rfl, rfl⟩)
      | (go_at_call 10; refine (q2 _).mono ?_; rintro e w2 ⟨rfl, rfl⟩)
      | (go_at_call 7; refine (q3 _).mono ?_; rintro e w3 ⟨rfl, hk3⟩))
    go_ret
    exact ⟨rfl, (hk0.trans (kept_drewN [] _ _)).trans hk3⟩

set_option maxRecDepth 100000 in
set_option maxHeartbeats 1000000 in
/-- SlotsNone, of a disk -/
theorem none_in (y : Nat) (hy : y < 18446744073709551616) (N : Nat) (h1 : 1 ≤ N) (h2 : N ≤ 40) (base r : Int) (w : World) :
    Calls Try.prog 6 #[.int .u64 (y : Int), .agg #[.int .i64 (N : Int), .int .i64 base, .int .i64 r]] w fun e w' => e = .returned (.bool true) ∧ Kept [] w w' := by
  have q1 := fun W => new_any N h1 (by omega) W
  have q2 := fun d b1 b2 W (h : DiskAt W d b1 b2 (made N)) => put_any d b1 b2 (made N) base r y hy (Nat.zero_le _) W h
  have q3 := lives_any
  have hk0 := kept_alloc [] w (.cells #[.int .i64 (N : Int), .int .i64 base, .int .i64 r] 59)
  have k1 : ¬ ((N : Int) < 1) := by omega
  have k2 : ¬ (40 < (N : Int)) := by omega
  by_cases hh : hasRing (made N) base r = true
  · simp only [hasRing, Bool.and_eq_true, decide_eq_true_eq] at hh
    obtain ⟨⟨⟨g1, g2⟩, g3⟩, g4⟩ := hh
    have g5 : base + r ≤ (N : Int) := g4
    obtain ⟨B, rfl⟩ := Int.eq_ofNat_of_zero_le g3
    obtain ⟨R, rfl⟩ := Int.eq_ofNat_of_zero_le (show 0 ≤ r by omega)
    obtain ⟨a1, a2, a3, a4, a5⟩ := (still_made N B R h1 (by omega) (by omega) (by omega) (by omega)).put_ok rfl (by decide) y hy (.inl (by show (-1 : Int) < 0; decide))
    rw [a1] at q2
    clear a1 a2 a3 a4 a5 g4
    have g6 : (B : Int) ≤ (N : Int) - (R : Int) := by omega
    clear g5
    generalize putS (made N) B R y = s1 at *
    go_enter Try.func6, Try.ntmps6
    go_wp2_with fail
    go_quiet (fail)
    replace hk0 := hk0.trans (kept_drewN [] _ nq)
    generalize (w.alloc (.cells #[.int .i64 (N : Int), .int .i64 (B : Int), .int .i64 (R : Int)] 59)).drewN nq = W0 at *
    go_wp2_with (first
      | (go_at_call 8; refine (q1 _).mono ?_; rintro e w1 ⟨rfl, hD1, hk1⟩)
      | (go_at_call 10; refine (q2 _ _ _ _ hD1).mono ?_; rintro e w2 ⟨rfl, hD2, hk2⟩)
      | (go_at_call 20; refine (ops_any _ _ _ _ _ hD2).mono ?_; rintro e w2 ⟨rfl, rfl⟩)
      | (go_at_call 7; refine (q3 _).mono ?_; rintro e w3 ⟨rfl, hk3⟩))
    go_ret
    have hz := hk0.size
    exact ⟨rfl, ((hk0.trans hk1).young3 hk2 (by omega) (by omega) (by omega)).trans hk3⟩
  · have eE : putE (made N) base r y = 2 := by rw [putE, if_neg hh]
    have eS : putS (made N) base r y = made N := by rw [putS, if_neg hh]
    rw [eE, eS] at q2
    have hs : (made N).size = N := rfl
    simp only [hasRing, Bool.and_eq_true, decide_eq_true_eq, hs] at hh
    have eo : ((made N).ops : Int) = 0 := rfl
    clear eE eS hs
    generalize made N = s1 at *
    rcases (show ¬ (2 ≤ r) ∨ (2 ≤ r ∧ ¬ (r ≤ 8)) ∨ (2 ≤ r ∧ r ≤ 8 ∧ ¬ (0 ≤ base)) ∨ (2 ≤ r ∧ r ≤ 8 ∧ 0 ≤ base ∧ ¬ (base ≤ (N : Int) - r)) by omega) with g1 | ⟨g1, g2⟩ | ⟨g1, g2, g3⟩ | ⟨g1, g2, g3, g4⟩
    · clear hh
      go_enter Try.func6, Try.ntmps6
      go_wp2_with fail
      go_quiet (fail)
      replace hk0 := hk0.trans (kept_drewN [] _ nq)
      generalize (w.alloc (.cells #[.int .i64 (N : Int), .int .i64 base, .int .i64 r] 59)).drewN nq = W0 at *
      go_wp2_with (first
        | (go_at_call 8; refine (q1 _).mono ?_; rintro e w1 ⟨rfl, hD1, hk1⟩)
        | (go_at_call 10; refine (q2 _ _ _ _ hD1).mono ?_; rintro e w2 ⟨rfl, hD2, hk2⟩)
        | (go_at_call 20; refine (ops_any _ _ _ _ _ hD2).mono ?_; rintro e w2 ⟨rfl, rfl⟩)
        | (go_at_call 7; refine (q3 _).mono ?_; rintro e w3 ⟨rfl, hk3⟩))
      go_ret
      have hz := hk0.size
      exact ⟨rfl, ((hk0.trans hk1).young3 hk2 (by omega) (by omega) (by omega)).trans hk3⟩
    · clear hh
      go_enter Try.func6, Try.ntmps6
      go_wp2_with fail
      go_quiet (fail)
      replace hk0 := hk0.trans (kept_drewN [] _ nq)
      generalize (w.alloc (.cells #[.int .i64 (N : Int), .int .i64 base, .int .i64 r] 59)).drewN nq = W0 at *
      go_wp2_with (first
        | (go_at_call 8; refine (q1 _).mono ?_; rintro e w1 ⟨rfl, hD1, hk1⟩)
        | (go_at_call 10; refine (q2 _ _ _ _ hD1).mono ?_; rintro e w2 ⟨rfl, hD2, hk2⟩)
        | (go_at_call 20; refine (ops_any _ _ _ _ _ hD2).mono ?_; rintro e w2 ⟨rfl, rfl⟩)
        | (go_at_call 7; refine (q3 _).mono ?_; rintro e w3 ⟨rfl, hk3⟩))
      go_ret
      have hz := hk0.size
      exact ⟨rfl, ((hk0.trans hk1).young3 hk2 (by omega) (by omega) (by omega)).trans hk3⟩
    · clear hh
      go_enter Try.func6, Try.ntmps6
      go_wp2_with fail
      go_quiet (fail)
      replace hk0 := hk0.trans (kept_drewN [] _ nq)
      generalize (w.alloc (.cells #[.int .i64 (N : Int), .int .i64 base, .int .i64 r] 59)).drewN nq = W0 at *
      go_wp2_with (first
        | (go_at_call 8; refine (q1 _).mono ?_; rintro e w1 ⟨rfl, hD1, hk1⟩)
        | (go_at_call 10; refine (q2 _ _ _ _ hD1).mono ?_; rintro e w2 ⟨rfl, hD2, hk2⟩)
        | (go_at_call 20; refine (ops_any _ _ _ _ _ hD2).mono ?_; rintro e w2 ⟨rfl, rfl⟩)
        | (go_at_call 7; refine (q3 _).mono ?_; rintro e w3 ⟨rfl, hk3⟩))
      go_ret
      have hz := hk0.size
      exact ⟨rfl, ((hk0.trans hk1).young3 hk2 (by omega) (by omega) (by omega)).trans hk3⟩
    · clear hh
      go_enter Try.func6, Try.ntmps6
      go_wp2_with fail
      go_quiet (fail)
      replace hk0 := hk0.trans (kept_drewN [] _ nq)
      generalize (w.alloc (.cells #[.int .i64 (N : Int), .int .i64 base, .int .i64 r] 59)).drewN nq = W0 at *
      go_wp2_with (first
        | (go_at_call 8; refine (q1 _).mono ?_; rintro e w1 ⟨rfl, hD1, hk1⟩)
        | (go_at_call 10; refine (q2 _ _ _ _ hD1).mono ?_; rintro e w2 ⟨rfl, hD2, hk2⟩)
        | (go_at_call 20; refine (ops_any _ _ _ _ _ hD2).mono ?_; rintro e w2 ⟨rfl, rfl⟩)
        | (go_at_call 7; refine (q3 _).mono ?_; rintro e w3 ⟨rfl, hk3⟩))
      go_ret
      have hz := hk0.size
      exact ⟨rfl, ((hk0.trans hk1).young3 hk2 (by omega) (by omega) (by omega)).trans hk3⟩
end Go.Proofs.Ytemlonaekpddcaa
