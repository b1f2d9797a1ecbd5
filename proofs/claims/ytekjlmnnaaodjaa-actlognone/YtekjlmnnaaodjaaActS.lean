/-
  The walks of ActlogNone and ActlogSafe.
-/
import Derived.Test.YtekjlmnnaaodjaaActB
namespace Go.Proofs.Ytekjlmnnaaodjaa
open Go.RowKit Go.Maps Go.Shelf
open Math

set_option maxRecDepth 100000 in
/-- ActlogNone -/
theorem none_walk10 (m : Nat) (w : World) :
    Calls Try.prog 4 #[.int .u64 (m : Int)] w fun e w' => e = .returned (.bool true) ∧ Kept [] w w' := by
  have q1 := logPut_none none m w (.inl rfl)
  have q2 := fun W => get_none none W (.inl rfl)
  have q3 := fun W => writes_none none W (.inl rfl)
  have q4 := logLives_any
  go_enter Try.func4, Try.ntmps4
  go_wp2_with (first
    | (go_at_call 7; refine q1.mono ?_; rintro e w ⟨rfl, rfl⟩)
    | (go_at_call 11; refine (q2 _).mono ?_; rintro e w1 ⟨rfl, hk1⟩)
    | (go_at_call 12; refine (q3 _).mono ?_; rintro e w2 ⟨rfl, hk2⟩)
    | (go_at_call 6; refine (q4 _).mono ?_; rintro e w3 ⟨rfl, hk3⟩))
  go_ret
  exact ⟨rfl, (hk1.trans hk2).trans hk3⟩

/-- What a crash within a Put leaves: the old set, or the new one. -/
theorem Still.log_crash {s : Dk} {n a : Nat} (h : Still s 2 4 n a) (hb : s.broken = false) (hn : n + 1 < 4294967296) (b : Nat) (hbb : b < 18446744073709551616) (hf : 0 ≤ s.fuse) (mask : Nat) :
    ∃ G now : Nat, logE s b = G ∧ Ytekjlmnnaaodjaa.latestY (Math.crashed (logS s b) mask) 2 4 = now ∧ ((G = 0 ∧ now = b) ∨ (G = 3 ∧ s.fuse < 2 ∧ (now = a ∨ now = b))) := by
  by_cases e : a = b
  · subst e
    obtain ⟨e1, e2⟩ := h.log_same hb
    rw [e1, e2]
    exact ⟨0, a, rfl, (h.crashed mask).latestY rfl, .inl ⟨rfl, rfl⟩⟩
  · obtain ⟨e1, e2⟩ := h.log_other hb e
    rw [e1, e2]
    by_cases f2 : 2 ≤ s.fuse
    · obtain ⟨a1, a2, _⟩ := h.put_ok hb hn b hbb (.inr f2)
      exact ⟨0, b, a1, (a2.crashed mask).latestY rfl, .inl ⟨rfl, rfl⟩⟩
    · by_cases f0 : s.fuse = 0
      · obtain ⟨a1, a2⟩ := h.put_burnt hb hn b f0
        have a2' : putS s 2 4 b = Math.burnt s := a2
        refine ⟨3, a, a1, ?_, .inr ⟨rfl, by omega, .inl rfl⟩⟩
        rw [a2']
        exact (h.burnt.crashed mask).latestY rfl
      · obtain ⟨a1, a2, _⟩ := h.put_torn hb hn b hbb (by omega) mask
        rcases a2 with a2 | a2
        · exact ⟨3, a, a1, a2.latestY rfl, .inr ⟨rfl, by omega, .inl rfl⟩⟩
        · exact ⟨3, b, a1, a2.latestY rfl, .inr ⟨rfl, by omega, .inr rfl⟩⟩

set_option maxRecDepth 100000 in
set_option maxHeartbeats 1000000 in
/-- ActlogSafe, of what is let go -/
theorem safe_early (a b mask : Nat) (k : Int) (hno : k < 0 ∨ 3 < k) (w : World) :
    Calls Try.prog 3 #[.int .u64 (a : Int), .int .u64 (b : Int), .agg #[.int .i64 k, .int .u64 (mask : Int)]] w fun e w' => e = .returned (.bool true) ∧ Kept [] w w' := by
  have q7 := logLives_any
  have q8 := fun W => new_any 12 (by decide) (by decide) W
  have hk0 := kept_alloc [] w (.cells #[.int .i64 k, .int .u64 (mask : Int)] 24)
  rcases (show k < 0 ∨ (¬ (k < 0) ∧ 3 < k) by omega) with g1 | ⟨g1, g2⟩
  all_goals clear hno
  all_goals
    go_enter Try.func3, Try.ntmps3
    go_wp2_with fail
    go_quiet (fail)
    replace hk0 := hk0.trans (kept_drewN [] _ nq)
    generalize (w.alloc (.cells #[.int .i64 k, .int .u64 (mask : Int)] 24)).drewN nq = W0 at *
    go_wp2_with (first
      | (go_at_call 5; refine (q8 _).mono ?_; rintro e w1 ⟨rfl, hD1, hk1⟩)
      | (go_at_call 6; refine (q7 _).mono ?_; rintro e w2 ⟨rfl, hk2⟩))
    go_ret
    exact ⟨rfl, (hk0.trans hk1).trans hk2⟩

set_option maxRecDepth 100000 in
set_option maxHeartbeats 4000000 in
/-- ActlogSafe, of a play -/
theorem safe_play10 (a b mask : Nat) (ha : a < 18446744073709551616) (hb : b < 18446744073709551616) (hmask : mask < 18446744073709551616) (k : Int) (h0 : 0 ≤ k) (h3 : k ≤ 3) (w : World) :
    Calls Try.prog 3 #[.int .u64 (a : Int), .int .u64 (b : Int), .agg #[.int .i64 k, .int .u64 (mask : Int)]] w fun e w' => e = .returned (.bool true) ∧ Kept [] w w' := by
  have q7 := logLives_any
  have hk0 := kept_alloc [] w (.cells #[.int .i64 k, .int .u64 (mask : Int)] 24)
  have q8 := fun W => new_any 12 (by decide) (by decide) W
  have g1 : ¬ (k < 0) := by omega
  have g2 : ¬ (3 < k) := by omega
  go_enter Try.func3, Try.ntmps3
  go_wp2_with fail
  go_quiet (fail)
  replace hk0 := hk0.trans (kept_drewN [] _ nq)
  generalize (w.alloc (.cells #[.int .i64 k, .int .u64 (mask : Int)] 24)).drewN nq = W0 at *
  obtain ⟨a1, a2', a3, a4, a5⟩ := (still_made 12 2 4 (by decide) (by decide) (by decide) (by decide) (by decide)).log_ok rfl (by decide) a ha (.inl (by decide))
  have q10 := fun W d b1 b2 (h : DiskAt W d b1 b2 (made 12)) => logPut_any d b1 b2 (made 12) a ha (by decide) W h
  rw [a1] at q10
  have o1 : (logS (made 12) a).ops ≤ 2 := a5
  obtain ⟨n, hn, a2⟩ : ∃ n, n ≤ 1 ∧ Still (logS (made 12) a) 2 4 n a := ⟨_, by split <;> omega, a2'⟩
  generalize logS (made 12) a = s1 at *
  clear a1 a2' a4 a5
  obtain ⟨c1, c2⟩ := a2.log_same a3
  have q11 := fun W d b1 b2 (h : DiskAt W d b1 b2 s1) => logPut_any d b1 b2 s1 a ha (by omega) W h
  rw [c1, c2] at q11
  have q12 := fun W d b1 b2 (h : DiskAt W d b1 b2 s1) => ops_any d b1 b2 s1 W h
  have q13 := fun W d b1 b2 (h : DiskAt W d b1 b2 s1) => fuse_any d b1 b2 s1 k (by omega) (by omega) W h
  obtain ⟨G, now, e1, e2, e3⟩ := (a2.fused k (by omega) (by omega)).log_crash a3 (by omega) b hb h0 mask
  have e3' : (G = 0 ∧ now = b) ∨ (G = 3 ∧ k < 2 ∧ (now = a ∨ now = b)) := e3
  have q14 := fun W d b1 b2 (h : DiskAt W d b1 b2 (fused s1 k)) => logPut_any d b1 b2 (fused s1 k) b hb (show s1.ops ≤ 999998 by omega) W h
  rw [e1] at q14
  have q15 := fun W d b1 b2 (h : DiskAt W d b1 b2 (logS (fused s1 k) b)) => crash_any d b1 b2 (logS (fused s1 k) b) mask hmask W h
  have q16 := fun W d b1 b2 (h : DiskAt W d b1 b2 (crashed (logS (fused s1 k) b) mask)) => get_any d b1 b2 (crashed (logS (fused s1 k) b) mask) W h
  rw [e2] at q16
  generalize crashed (logS (fused s1 k) b) mask = s4 at *
  generalize logS (fused s1 k) b = s3 at *
  generalize fused s1 k = s2 at *
  generalize made 12 = s0 at *
  generalize s1.ops = op at *
  clear c1 c2 a2 a3 o1 e1 e2 e3 hn n
  rcases (show (G = 0 ∧ now = b ∧ a = b) ∨ (G = 0 ∧ now = b ∧ a ≠ b) ∨ (G = 3 ∧ k < 2 ∧ now = a) ∨ (G = 3 ∧ k < 2 ∧ now = b ∧ a ≠ b) by omega) with ⟨rfl, rfl, rfl⟩ | ⟨rfl, rfl, hne⟩ | ⟨rfl, hk2, rfl⟩ | ⟨rfl, hk2, rfl, hne⟩
  all_goals clear e3'
  all_goals try (have hne' : ((now : Int) == (a : Int)) = false := by simp; omega)
  all_goals try clear hne
  all_goals
    go_wp2_with (first
      | (go_at_call 5; refine (q8 _).mono ?_; rintro e w1 ⟨rfl, hD1, hk1⟩)
      | (go_at_call 7; refine (q10 _ _ _ _ hD1).mono ?_; rintro e w2 ⟨rfl, hD2, hk2⟩; clear q10)
      | (go_at_call 7; refine (q11 _ _ _ _ hD2).mono ?_; rintro e w3 ⟨rfl, hD3, hk3⟩; clear q11)
      | (go_at_call 8; refine (q12 _ _ _ _ hD3).mono ?_; rintro e w ⟨rfl, rfl⟩)
      | (go_at_call 8; refine (q12 _ _ _ _ hD2).mono ?_; rintro e w ⟨rfl, rfl⟩)
      | (go_at_call 9; refine (q13 _ _ _ _ hD3).mono ?_; rintro e w4 ⟨rfl, hD4, hk4, hz4⟩; replace hz4 : Hid _ := hz4)
      | (go_at_call 7; refine (q14 _ _ _ _ hD4).mono ?_; rintro e w5 ⟨rfl, hD5, hk5⟩)
      | (go_at_call 10; refine (q15 _ _ _ _ hD5).mono ?_; rintro e w6 ⟨rfl, hD6, hk6⟩)
      | (go_at_call 11; refine (q16 _ _ _ _ hD6).mono ?_; rintro e w7 ⟨rfl, hk7⟩)
      | (go_at_call 6; refine (q7 _).mono ?_; rintro e w8 ⟨rfl, hk8⟩))
    all_goals go_ret
    all_goals have hs0 := hk0.size
    all_goals exact ⟨rfl, (((((((hk0.trans hk1).young3 hk2 (by omega) (by omega) (by omega)).young3 hk3 (by omega) (by omega) (by omega)).young hk4 (by omega)).young3 hk5 (by omega) (by omega) (by omega)).young3 hk6 (by omega) (by omega) (by omega)).trans hk7).trans hk8⟩
end Go.Proofs.Ytekjlmnnaaodjaa
