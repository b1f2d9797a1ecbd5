/-
  The walks of MetaNone and MetaRetires.
-/
import Derived.Test.YtpimfhchimafiaaMetaB
namespace Go.Proofs.Ytpimfhchimafiaa
open Go.RowKit Go.Maps Go.Shelf
open Math

set_option maxRecDepth 100000 in
set_option maxHeartbeats 1000000 in
/-- MetaNone -/
theorem none_walk13 (m : Nat) (w : World) :
    Calls Try.prog 4 #[.int .u64 (m : Int)] w fun e w' => e = .returned (.bool true) ∧ Kept [] w w' := by
  have q1 := start_none none w (.inl rfl)
  have q2 := fun W => look_none none W (.inl rfl)
  have q3 := fun W => retire_none none m W (.inl rfl)
  have q4 := metaLives_any
  have q6 := fun W => same_meta 0 0 0 W
  go_enter Try.func4, Try.ntmps4
  go_wp2_with (first
    | (go_at_call 7; refine q1.mono ?_; rintro e w1 ⟨rfl, hk1⟩; have hka := kept_alloc [] w1 (.cells #[.int .u32 0, .int .u64 0, .int .u64 0] 32))
    | (go_at_call 13; refine (q2 _).mono ?_; rintro e w2 ⟨rfl, hk2⟩)
    | (go_at_call 11; refine (q3 _).mono ?_; rintro e w3 ⟨rfl, hk3⟩)
    | (go_at_call 5; refine (q4 _).mono ?_; rintro e w4 ⟨rfl, hk4⟩))
  go_ret
  exact ⟨rfl, (((hk1.trans hka).trans hk2).trans hk3).trans hk4⟩

set_option maxRecDepth 100000 in
set_option maxHeartbeats 1000000 in
/-- MetaRetires, of what is let go -/
theorem retires_early (hot was more spare : Nat) (k : Int) (hno : k < 0 ∨ 5 < k) (w : World) :
    Calls Try.prog 3 #[.agg #[.int .u64 (hot : Int), .int .u64 (was : Int), .int .u64 (more : Int), .int .i64 k, .int .u64 (spare : Int)]] w fun e w' => e = .returned (.bool true) ∧ Kept [] w w' := by
  have q7 := metaLives_any
  have hk0 := kept_alloc [] w (.cells #[.int .u64 (hot : Int), .int .u64 (was : Int), .int .u64 (more : Int), .int .i64 k, .int .u64 (spare : Int)] 24)
  rcases (show k < 0 ∨ (¬ (k < 0) ∧ 5 < k) by omega) with g1 | ⟨g1, g2⟩
  all_goals clear hno
  all_goals
    go_enter Try.func3, Try.ntmps3
    go_wp2_with fail
    go_quiet (fail)
    replace hk0 := hk0.trans (kept_drewN [] _ nq)
    generalize (w.alloc (.cells #[.int .u64 (hot : Int), .int .u64 (was : Int), .int .u64 (more : Int), .int .i64 k, .int .u64 (spare : Int)] 24)).drewN nq = W0 at *
    go_wp2_with (first
      | (go_at_call 5; refine (q7 _).mono ?_; rintro e w2 ⟨rfl, hk2⟩))
    go_ret
    exact ⟨rfl, hk0.trans hk2⟩

/-- What is known behind a crash within a Retire: plain. -/
theorem retires_plain (hot was more spare : Nat) (hh : hot < 18446744073709551616) (hw : was < 18446744073709551616) (hm : more < 18446744073709551616) (s : Dk) (ht : Three s 3 1 hot was) (hb : s.broken = false) (k : Int) (hk0 : 0 ≤ k) (hk5 : k ≤ 5) :
    ∃ l' m' : Nat, Ytpimfhchimafiaa.boot (crashed (retS (fused s k) (hot ||| was ||| more)) spare) = 1 ∧ latestY (crashed (retS (fused s k) (hot ||| was ||| more)) spare) 2 4 = l' ∧ latestY (crashed (retS (fused s k) (hot ||| was ||| more)) spare) 6 2 = m'
      ∧ l' < 18446744073709551616 ∧ m' < 18446744073709551616 ∧ (l' ||| m') &&& (hot ||| was) = hot ||| was ∧ (l' ||| m') &&& (18446744073709551615 - (hot ||| was ||| more)) = 0
      ∧ (retE (fused s k) (hot ||| was ||| more) = 0 → l' = 0 ∧ m' = (hot ||| was ||| more)) ∧ (4 ≤ k → retE (fused s k) (hot ||| was ||| more) = 0) := by
  have hz : hot ||| was ||| more < 18446744073709551616 := or_lt64 (or_lt64 hh hw) hm
  obtain ⟨l', m', h1, h2, h3, h4⟩ := (ht.fused k (by omega) (by omega)).retire_crash hb (by decide) (hot ||| was ||| more) hz hk0 spare
  have hin : ∀ j, (hot ||| was).testBit j = true → (hot ||| was ||| more).testBit j = true := fun j hj => by
    rw [Nat.testBit_or, hj]
    rfl
  obtain ⟨p1, p2⟩ := retire_keeps h2 hin
  have hl : l' < 18446744073709551616 := by rcases h2 with ⟨rfl, _⟩ | ⟨rfl, _⟩ <;> omega
  have hm' : m' < 18446744073709551616 := by rcases h2 with ⟨_, rfl | rfl⟩ | ⟨_, rfl⟩ <;> omega
  refine ⟨l', m', h1.told rfl (by decide), (h1.tells rfl).2.1, (h1.tells rfl).2.2, hl, hm', and_of_in p1, andNot_of_in (or_lt64 hl hm') hz fun j hj => ?_, h3, h4⟩
  rcases p2 j hj with h | h
  · exact hin j h
  · exact h

set_option maxRecDepth 100000 in
set_option maxHeartbeats 4000000 in
/-- MetaRetires, of a play -/
theorem retires_play (hot was more spare : Nat) (hh : hot < 18446744073709551616) (hw : was < 18446744073709551616) (hm : more < 18446744073709551616) (hs : spare < 18446744073709551616) (k : Int) (h0 : 0 ≤ k) (h5 : k ≤ 5) (w : World) :
    Calls Try.prog 3 #[.agg #[.int .u64 (hot : Int), .int .u64 (was : Int), .int .u64 (more : Int), .int .i64 k, .int .u64 (spare : Int)]] w fun e w' => e = .returned (.bool true) ∧ Kept [] w w' := by
  have q7 := metaLives_any
  have hk0 := kept_alloc [] w (.cells #[.int .u64 (hot : Int), .int .u64 (was : Int), .int .u64 (more : Int), .int .i64 k, .int .u64 (spare : Int)] 24)
  have q8 := fun W => new_any 12 (by decide) (by decide) W
  have g1 : ¬ (k < 0) := by omega
  have g2 : ¬ (5 < k) := by omega
  go_enter Try.func3, Try.ntmps3
  go_wp2_with fail
  go_quiet (fail)
  replace hk0 := hk0.trans (kept_drewN [] _ nq)
  generalize (w.alloc (.cells #[.int .u64 (hot : Int), .int .u64 (was : Int), .int .u64 (more : Int), .int .i64 k, .int .u64 (spare : Int)] 24)).drewN nq = W0 at *
  obtain ⟨a1, a2, a3, a4, a5, a6, a7⟩ := (three_made 12 (by decide) (by decide)).started rfl (by decide) (by decide) (by decide)
  have q9 := fun W d b1 b2 (h : DiskAt W d b1 b2 (made 12)) => start_any d b1 b2 (made 12) (by decide) W h
  rw [a1, a5, a6, a7] at q9
  have o1 : (nextS (made 12)).ops ≤ 2 := next_ops (made 12)
  have f1 : (nextS (made 12)).fuse = -1 := a4
  clear a1 a4 a5 a6 a7
  generalize nextS (made 12) = s1 at *
  obtain ⟨b1, b2, b3, b4, _⟩ := a2.logged a3 (by decide) hot hh (.inl (by rw [f1]; decide))
  have q10 := fun W d b1 b2 (h : DiskAt W d b1 b2 s1) => logPut_any d b1 b2 s1 hot hh (by omega) W h
  rw [b1] at q10
  have o2 := log_ops s1 hot
  have f2 := (b4 (by rw [f1]; decide)).trans f1
  clear b1 b4 a2 a3
  generalize logS s1 hot = s2 at *
  obtain ⟨c1, c2, c3, c4, _⟩ := b2.mapped b3 (by decide) was hw (.inl (by rw [f2]; decide))
  have q11 := fun W d b1 b2 (h : DiskAt W d b1 b2 s2) => mapPut_any d b1 b2 s2 was hw (by omega) W h
  rw [c1] at q11
  have o3 := map_ops s2 was
  clear c1 c4 b2 b3 f1 f2
  generalize mapS s2 was = s3 at *
  obtain ⟨l', m', p1, p2, p3, p4, p5, p6, p7, p8, p9⟩ := retires_plain hot was more spare hh hw hm s3 c2 c3 k h0 h5
  have hz : hot ||| was ||| more < 18446744073709551616 := or_lt64 (or_lt64 hh hw) hm
  have q12 := fun W d b1 b2 (h : DiskAt W d b1 b2 s3) => fuse_any d b1 b2 s3 k (by omega) (by omega) W h
  have q13 := fun W d b1 b2 (h : DiskAt W d b1 b2 (fused s3 k)) => retire_any d b1 b2 (fused s3 k) (hot ||| was ||| more) hz (show s3.ops ≤ 999996 by omega) W h
  have q14 := fun W d b1 b2 (h : DiskAt W d b1 b2 (retS (fused s3 k) (hot ||| was ||| more))) => crash_any d b1 b2 (retS (fused s3 k) (hot ||| was ||| more)) spare hs W h
  have q15 := fun W d b1 b2 (h : DiskAt W d b1 b2 (crashed (retS (fused s3 k) (hot ||| was ||| more)) spare)) => look_any d b1 b2 (crashed (retS (fused s3 k) (hot ||| was ||| more)) spare) W h
  rw [p1, p2, p3] at q15
  have q16 := fun W => mine_any 1 l' m' p4 p5 W
  have q17 := q16
  have x1 := u64_or_nat hot was hh hw
  have x2 := u64_or_nat (hot ||| was) more (or_lt64 hh hw) hm
  have x3 := u64_and_nat (l' ||| m') (hot ||| was) (or_lt64 p4 p5) (or_lt64 hh hw)
  have x4 := u64_andNot_nat (l' ||| m') (hot ||| was ||| more) (or_lt64 p4 p5) hz
  rw [p6] at x3
  rw [p7] at x4
  have mI : Hid (retE (fused s3 k) (hot ||| was ||| more) = 0 → l' = 0 ∧ m' = (hot ||| was ||| more)) := p8
  clear p1 p2 p3 p4 p5 p6 p7 p8 c2 c3 o1 o2 o3 hh hw hm hz
  generalize crashed (retS (fused s3 k) (hot ||| was ||| more)) spare = s6 at *
  generalize retS (fused s3 k) (hot ||| was ||| more) = s5 at *
  generalize retE (fused s3 k) (hot ||| was ||| more) = er at *
  generalize fused s3 k = s4 at *
  generalize made 12 = s0 at *
  generalize hot ||| was ||| more = mask at *
  generalize hot ||| was = hw at *
  generalize l' ||| m' = mine at *
  rcases (show (er = 0 ∧ k < 4) ∨ (er = 0 ∧ ¬ (k < 4)) ∨ (er ≠ 0 ∧ k < 4) by omega) with ⟨rfl, g3⟩ | ⟨rfl, g3⟩ | ⟨g4, g3⟩
  · obtain ⟨y1, y2⟩ := mI.out rfl
    have y3 : ((l' : Int) == 0) = true := by simp; omega
    have y4 : ((m' : Int) == (mask : Int)) = true := by simp; omega
    clear y1 y2 p9 mI h0 h5
    go_wp2_with (first
      | (go_at_call 6; refine (q8 _).mono ?_; rintro e w1 ⟨rfl, hD1, hk1⟩; have hlt := hD1.lt)
      | (go_at_call 7; refine (q9 _ _ _ _ hD1).mono ?_; rintro e w2 ⟨rfl, hD2, hk2⟩; have hka := kept_alloc [] w2 (.cells #[.int .u32 1, .int .u64 0, .int .u64 0] 32); have hb2 := blk_new w2 32 #[.int .u32 1, .int .u64 0, .int .u64 0]; have hsz := hk2.size)
      | (go_at_call 8; refine (q10 _ _ _ _ (hD2.kept hka (by simp) (by simp) (by simp))).mono ?_; rintro e w3 ⟨rfl, hD3, hk3⟩; have hb3 := hb2.kept hk3 (by simp; omega))
      | (go_at_call 9; refine (q11 _ _ _ _ hD3).mono ?_; rintro e w4 ⟨rfl, hD4, hk4⟩; have hb4 := hb3.kept hk4 (by simp; omega))
      | (go_at_call 10; refine (q12 _ _ _ _ hD4).mono ?_; rintro e w5 ⟨rfl, hD5, hk5, hz5⟩; replace hz5 : Hid _ := hz5; have hb5 := hb4.kept hk5 (by simp; omega))
      | (go_at_call 11; refine (q13 _ _ _ _ hD5).mono ?_; rintro e w6 ⟨rfl, hD6, hk6⟩; have hb6 := hb5.kept hk6 (by simp; omega))
      | (go_at_call 12; refine (q14 _ _ _ _ hD6).mono ?_; rintro e w7 ⟨rfl, hD7, hk7⟩; have hb7 := hb6.kept hk7 (by simp; omega))
      | (go_at_call 13; refine (q15 _ _ _ _ hD7).mono ?_; rintro e w8 ⟨rfl, hk8⟩; have hx8 := blk_new w8 32 #[.int .u32 1, .int .u64 (l' : Int), .int .u64 (m' : Int)]; have hkx := kept_alloc [] w8 (.cells #[.int .u32 1, .int .u64 (l' : Int), .int .u64 (m' : Int)] 32); have hb8 := (hb7.kept hk8 (by simp)).kept hkx (by simp))
      | (go_at_call 14; refine (q16 _).mono ?_; rintro e w9 ⟨rfl, hk9⟩; clear q16; have hx9 := hx8.kept hk9 (by simp); have d0 := hx9.cell 0; have d1 := hx9.cell 1; have d2 := hx9.cell 2; simp at d0 d1 d2)
      | (go_at_call 14; refine (q17 _).mono ?_; rintro e w10 ⟨rfl, hk10⟩; have hx10 := hx9.kept hk10 (by simp); have i0 := hx10.cell 0; have i1 := hx10.cell 1; have i2 := hx10.cell 2; have hb10 := (hb8.kept hk9 (by simp)).kept hk10 (by simp); have j0 := hb10.cell 0; simp at i0 i1 i2 j0)
      | (go_at_call 5; refine (q7 _).mono ?_; rintro e w11 ⟨rfl, hk11⟩))
    go_ret
    have hs0 := hk0.size
    exact ⟨rfl, (((((((((((hk0.trans hk1).young3 hk2 (by omega) (by omega) (by omega)).trans hka).young3 hk3 (by omega) (by omega) (by omega)).young3 hk4 (by omega) (by omega) (by omega)).young hk5 (by omega)).young3 hk6 (by omega) (by omega) (by omega)).young3 hk7 (by omega) (by omega) (by omega)).trans hk8).trans hkx).trans hk9).trans (hk10.trans hk11)⟩
  · obtain ⟨y1, y2⟩ := mI.out rfl
    have y3 : ((l' : Int) == 0) = true := by simp; omega
    have y4 : ((m' : Int) == (mask : Int)) = true := by simp; omega
    clear y1 y2 p9 mI h0 h5
    go_wp2_with (first
      | (go_at_call 6; refine (q8 _).mono ?_; rintro e w1 ⟨rfl, hD1, hk1⟩; have hlt := hD1.lt)
      | (go_at_call 7; refine (q9 _ _ _ _ hD1).mono ?_; rintro e w2 ⟨rfl, hD2, hk2⟩; have hka := kept_alloc [] w2 (.cells #[.int .u32 1, .int .u64 0, .int .u64 0] 32); have hb2 := blk_new w2 32 #[.int .u32 1, .int .u64 0, .int .u64 0]; have hsz := hk2.size)
      | (go_at_call 8; refine (q10 _ _ _ _ (hD2.kept hka (by simp) (by simp) (by simp))).mono ?_; rintro e w3 ⟨rfl, hD3, hk3⟩; have hb3 := hb2.kept hk3 (by simp; omega))
      | (go_at_call 9; refine (q11 _ _ _ _ hD3).mono ?_; rintro e w4 ⟨rfl, hD4, hk4⟩; have hb4 := hb3.kept hk4 (by simp; omega))
      | (go_at_call 10; refine (q12 _ _ _ _ hD4).mono ?_; rintro e w5 ⟨rfl, hD5, hk5, hz5⟩; replace hz5 : Hid _ := hz5; have hb5 := hb4.kept hk5 (by simp; omega))
      | (go_at_call 11; refine (q13 _ _ _ _ hD5).mono ?_; rintro e w6 ⟨rfl, hD6, hk6⟩; have hb6 := hb5.kept hk6 (by simp; omega))
      | (go_at_call 12; refine (q14 _ _ _ _ hD6).mono ?_; rintro e w7 ⟨rfl, hD7, hk7⟩; have hb7 := hb6.kept hk7 (by simp; omega))
      | (go_at_call 13; refine (q15 _ _ _ _ hD7).mono ?_; rintro e w8 ⟨rfl, hk8⟩; have hx8 := blk_new w8 32 #[.int .u32 1, .int .u64 (l' : Int), .int .u64 (m' : Int)]; have hkx := kept_alloc [] w8 (.cells #[.int .u32 1, .int .u64 (l' : Int), .int .u64 (m' : Int)] 32); have hb8 := (hb7.kept hk8 (by simp)).kept hkx (by simp))
      | (go_at_call 14; refine (q16 _).mono ?_; rintro e w9 ⟨rfl, hk9⟩; clear q16; have hx9 := hx8.kept hk9 (by simp); have d0 := hx9.cell 0; have d1 := hx9.cell 1; have d2 := hx9.cell 2; simp at d0 d1 d2)
      | (go_at_call 14; refine (q17 _).mono ?_; rintro e w10 ⟨rfl, hk10⟩; have hx10 := hx9.kept hk10 (by simp); have i0 := hx10.cell 0; have i1 := hx10.cell 1; have i2 := hx10.cell 2; have hb10 := (hb8.kept hk9 (by simp)).kept hk10 (by simp); have j0 := hb10.cell 0; simp at i0 i1 i2 j0)
      | (go_at_call 5; refine (q7 _).mono ?_; rintro e w11 ⟨rfl, hk11⟩))
    go_ret
    have hs0 := hk0.size
    exact ⟨rfl, (((((((((((hk0.trans hk1).young3 hk2 (by omega) (by omega) (by omega)).trans hka).young3 hk3 (by omega) (by omega) (by omega)).young3 hk4 (by omega) (by omega) (by omega)).young hk5 (by omega)).young3 hk6 (by omega) (by omega) (by omega)).young3 hk7 (by omega) (by omega) (by omega)).trans hk8).trans hkx).trans hk9).trans (hk10.trans hk11)⟩
  · have g5 : ((er : Int) != 0) = true := by simp; omega
    clear g4 p9 mI h0 h5
    go_wp2_with (first
      | (go_at_call 6; refine (q8 _).mono ?_; rintro e w1 ⟨rfl, hD1, hk1⟩; have hlt := hD1.lt)
      | (go_at_call 7; refine (q9 _ _ _ _ hD1).mono ?_; rintro e w2 ⟨rfl, hD2, hk2⟩; have hka := kept_alloc [] w2 (.cells #[.int .u32 1, .int .u64 0, .int .u64 0] 32); have hb2 := blk_new w2 32 #[.int .u32 1, .int .u64 0, .int .u64 0]; have hsz := hk2.size)
      | (go_at_call 8; refine (q10 _ _ _ _ (hD2.kept hka (by simp) (by simp) (by simp))).mono ?_; rintro e w3 ⟨rfl, hD3, hk3⟩; have hb3 := hb2.kept hk3 (by simp; omega))
      | (go_at_call 9; refine (q11 _ _ _ _ hD3).mono ?_; rintro e w4 ⟨rfl, hD4, hk4⟩; have hb4 := hb3.kept hk4 (by simp; omega))
      | (go_at_call 10; refine (q12 _ _ _ _ hD4).mono ?_; rintro e w5 ⟨rfl, hD5, hk5, hz5⟩; replace hz5 : Hid _ := hz5; have hb5 := hb4.kept hk5 (by simp; omega))
      | (go_at_call 11; refine (q13 _ _ _ _ hD5).mono ?_; rintro e w6 ⟨rfl, hD6, hk6⟩; have hb6 := hb5.kept hk6 (by simp; omega))
      | (go_at_call 12; refine (q14 _ _ _ _ hD6).mono ?_; rintro e w7 ⟨rfl, hD7, hk7⟩; have hb7 := hb6.kept hk7 (by simp; omega))
      | (go_at_call 13; refine (q15 _ _ _ _ hD7).mono ?_; rintro e w8 ⟨rfl, hk8⟩; have hx8 := blk_new w8 32 #[.int .u32 1, .int .u64 (l' : Int), .int .u64 (m' : Int)]; have hkx := kept_alloc [] w8 (.cells #[.int .u32 1, .int .u64 (l' : Int), .int .u64 (m' : Int)] 32); have hb8 := (hb7.kept hk8 (by simp)).kept hkx (by simp))
      | (go_at_call 14; refine (q16 _).mono ?_; rintro e w9 ⟨rfl, hk9⟩; clear q16; have hx9 := hx8.kept hk9 (by simp); have d0 := hx9.cell 0; have d1 := hx9.cell 1; have d2 := hx9.cell 2; simp at d0 d1 d2)
      | (go_at_call 14; refine (q17 _).mono ?_; rintro e w10 ⟨rfl, hk10⟩; have hx10 := hx9.kept hk10 (by simp); have i0 := hx10.cell 0; have i1 := hx10.cell 1; have i2 := hx10.cell 2; have hb10 := (hb8.kept hk9 (by simp)).kept hk10 (by simp); have j0 := hb10.cell 0; simp at i0 i1 i2 j0)
      | (go_at_call 5; refine (q7 _).mono ?_; rintro e w11 ⟨rfl, hk11⟩))
    go_ret
    have hs0 := hk0.size
    exact ⟨rfl, (((((((((((hk0.trans hk1).young3 hk2 (by omega) (by omega) (by omega)).trans hka).young3 hk3 (by omega) (by omega) (by omega)).young3 hk4 (by omega) (by omega) (by omega)).young hk5 (by omega)).young3 hk6 (by omega) (by omega) (by omega)).young3 hk7 (by omega) (by omega) (by omega)).trans hk8).trans hkx).trans hk9).trans (hk10.trans hk11)⟩
end Go.Proofs.Ytpimfhchimafiaa
