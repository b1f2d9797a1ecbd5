/-
  The walks of DataNone and DataKeeps.
-/
import Derived.Test.YtgddpfcnngglaaaDataN
import Derived.Test.YtgddpfcnngglaaaDisk3
namespace Go.Proofs.Ytgddpfcnngglaaa
open Go.RowKit Go.Maps Go.Shelf
open Math

/-- An act's cells, and what lies at each of them. -/
def actCells (k t : Int) (m : Nat) (o l : Int) (v : Value) : Array Value := #[.int .i64 k, .int .i64 t, .int .u64 (m : Int), .int .i64 o, .int .i64 l, v]
theorem act_six {W : World} {g : Nat} {k t : Int} {m : Nat} {o l : Int} {v : Value} (h : Blk W g 36 (actCells k t m o l v)) :
    W.cell? ⟨g, 0, none⟩ = some (.int .i64 k) ∧ W.cell? ⟨g, 1, none⟩ = some (.int .i64 t) ∧ W.cell? ⟨g, 2, none⟩ = some (.int .u64 (m : Int)) ∧ W.cell? ⟨g, 3, none⟩ = some (.int .i64 o) ∧ W.cell? ⟨g, 4, none⟩ = some (.int .i64 l) ∧ W.cell? ⟨g, 5, none⟩ = some v :=
  ⟨h.cell 0, h.cell 1, h.cell 2, h.cell 3, h.cell 4, h.cell 5⟩
set_option maxRecDepth 100000 in
set_option maxHeartbeats 2000000 in
/-- DataNone -/
theorem none_walk12 (k t : Int) (m : Nat) (o l : Int) (sa : Option Addr) (len cap : Nat) (w : World) :
    Calls Try.prog 5 #[.agg (actCells k t m o l (.slice sa len cap))] w fun e w' => e = .returned (.bool true) ∧ Kept [] w w' := by
  have hn : ∀ W : World, NoDisk W none := fun W => .inl rfl
  have q1 := fun W => dRead_none none o l W (hn W)
  have q2 := fun W => dExtent_none none t W (hn W)
  have q3 := fun W => dWrite_none none o l sa len cap W (hn W)
  have q4 := fun W => dSetExtent_none none t sa len cap W (hn W)
  have q5 := fun W => dSectors_none none W (hn W)
  have q6 := fun W => dImage_none none W (hn W)
  have q7 := lives_any
  have hb := blk_new w 36 (actCells k t m o l (.slice sa len cap))
  have hk := kept_alloc [] w (.cells (actCells k t m o l (.slice sa len cap)) 36)
  unfold actCells at *
  go_enter Try.func5, Try.ntmps5
  go_wp2_with (first
    | (go_at_call 11; refine (q1 _).mono ?_; rintro e w1 ⟨rfl, hk1⟩; have hb1 := hb.kept hk1 (by simp); obtain ⟨-, c1, -, -, -, -⟩ := act_six hb1)
    | (go_at_call 13; refine (q2 _).mono ?_; rintro e w2 ⟨rfl, hk2⟩; have hb2 := hb1.kept hk2 (by simp); obtain ⟨-, g1, -, g3, g4, g5⟩ := act_six hb2)
    | (go_at_call 9; refine (q3 _).mono ?_; rintro e w3 ⟨rfl, hk3⟩; have hb3 := hb2.kept hk3 (by simp); obtain ⟨-, i1, -, i3, i4, i5⟩ := act_six hb3)
    | (go_at_call 15; refine (q4 _).mono ?_; rintro e w4 ⟨rfl, hk4⟩)
    | (go_at_call 23; refine (q5 _).mono ?_; rintro e w5 ⟨rfl, rfl⟩)
    | (go_at_call 25; refine (q6 _).mono ?_; rintro e w6 ⟨rfl, hk6⟩)
    | (go_at_call 6; refine (q7 _).mono ?_; rintro e w7 ⟨rfl, hk7⟩))
  go_ret
  exact ⟨rfl, (((((hk.trans hk1).trans hk2).trans hk3).trans hk4).trans hk6).trans hk7⟩

/-- What was made since is not of before. -/
theorem Kept.old {a b : World} {d b1 b2 m : Nat} (h : Kept [d, b1, b2] a b) (hd : a.heap.size + m ≤ d ∧ a.heap.size + m ≤ b1 ∧ a.heap.size + m ≤ b2) : Kept [] a b := (Kept.refl [] a).youngs h (by simp; omega)
set_option maxRecDepth 100000 in
/-- New, its blocks named -/
theorem new_ex (n : Nat) (h1 : 1 ≤ n) (h2 : n ≤ 1024) (w : World) :
    Calls Try.prog 7 #[.int .i64 (n : Int)] w fun e w' => ∃ d b1 b2, e = .returned (.tuple #[.pointer (some ⟨d, 0, none⟩), .int .i64 0]) ∧ DiskAt w' d b1 b2 (made n) ∧ (w.heap.size ≤ d ∧ w.heap.size ≤ b1 ∧ w.heap.size ≤ b2) ∧ Kept [] w w' :=
  (new_any n h1 h2 w).mono fun e w' ⟨he, hd, hk⟩ => ⟨_, _, _, he, hd, ⟨by omega, by omega, by omega⟩, hk⟩
/-- Parts of a row of bytes. -/
theorem ByteRow.open {lo hi : Nat} {W : World} {a : Option Addr} {len cap : Nat} {bs : List Nat} (h : ByteRow lo hi W (.slice a len cap) bs) (h0 : 1 ≤ len) : ∃ g off, a = some ⟨g, off, none⟩ ∧ len ≤ cap ∧ bs.length = len := by
  obtain ⟨_, a', cap', e, _, h⟩ := h
  injection e with e1 e2 e3
  subst e1 e3
  rcases h with rfl | ⟨g, off, rfl, hc, _⟩
  · simp at e2
    omega
  · exact ⟨g, off, rfl, by omega, e2.symm⟩
theorem ByteRow.len {lo hi : Nat} {W : World} {a : Option Addr} {len cap : Nat} {bs : List Nat} (h : ByteRow lo hi W (.slice a len cap) bs) : len = bs.length := by
  obtain ⟨_, _, _, e, _⟩ := h
  injection e
theorem ByteRow.cut {lo hi : Nat} {W : World} {g off len cap : Nat} {bs : List Nat} (h : ByteRow lo hi W (.slice (some ⟨g, off, none⟩) len cap) bs) (i j : Nat) (hij : i ≤ j) (hj : j ≤ len) (hc : len ≤ cap) : ByteRow lo hi W (.slice (some ⟨g, off + i, none⟩) (j - i) (cap - i)) ((bs.drop i).take (j - i)) := by
  obtain ⟨hb, a', cap', e, _, h⟩ := h
  injection e with e1 e2 e3
  subst e1 e3
  have hl : ((bs.drop i).take (j - i)).length = j - i := by simp; omega
  refine ⟨fun b hm => hb b (List.mem_of_mem_drop (List.mem_of_mem_take hm)), some ⟨g, off + i, none⟩, cap - i, by rw [hl], fun e => (by cases e), ?_⟩
  rcases h with rfl | ⟨g', off', e, hc', h1, h2, hcell⟩
  · left
    simp
  · obtain ⟨rfl, rfl⟩ : g = g' ∧ off = off' := by simpa using e
    right
    refine ⟨g, off + i, rfl, by omega, h1, h2, fun k hk => ?_⟩
    rw [hl] at hk
    rw [Nat.add_assoc, hcell (i + k) (by omega), List.getElem?_take_of_lt hk, List.getElem?_drop]
theorem over_mid {L l : List Nat} {p : Nat} (h : p ≤ L.length) : ((over L p l).drop p).take l.length = l := by
  have e : (L.take p).length = p := by simp; omega
  unfold over
  rw [List.append_assoc, List.drop_append, e, Nat.sub_self, List.drop_zero, List.drop_eq_nil_of_le (by omega), List.nil_append, List.take_append_of_le_length (Nat.le_refl _), List.take_length]
theorem over_front {L l : List Nat} {p : Nat} (h : p ≤ L.length) : (over L p l).take p = L.take p := by
  have e : (L.take p).length = p := by simp; omega
  unfold over
  rw [List.append_assoc, List.take_append_of_le_length (by omega), List.take_of_length_le (by omega)]
theorem over_back {L l : List Nat} {p : Nat} (h : p ≤ L.length) : (over L p l).drop (p + l.length) = L.drop (p + l.length) := by
  have e : (L.take p ++ l).length = p + l.length := by simp; omega
  unfold over
  rw [List.drop_append, e, Nat.sub_self, List.drop_zero, List.drop_eq_nil_of_le (by omega), List.nil_append]
theorem ByteRow.front {lo hi : Nat} {W : World} {g off len cap : Nat} {bs : List Nat} (h : ByteRow lo hi W (.slice (some ⟨g, off, none⟩) len cap) bs) (j : Nat) (hj : j ≤ len) (hc : len ≤ cap) : ByteRow lo hi W (.slice (some ⟨g, off, none⟩) j cap) (bs.take j) := by
  have := h.cut 0 j (Nat.zero_le _) hj hc
  simpa only [Nat.add_zero, Nat.sub_zero, List.drop_zero] using this
theorem ByteRow.nothing {lo hi : Nat} {W : World} (a : Addr) (cap : Nat) : ByteRow lo hi W (.slice (some a) 0 cap) [] := ⟨by simp, some a, cap, rfl, fun e => (by cases e), .inl rfl⟩
set_option maxRecDepth 100000 in
set_option maxHeartbeats 1000000 in
/-- DataKeeps, of what is let go -/
theorem keeps_early (k1 t1 : Int) (m1 : Nat) (o1 l1 : Int) (sa1 : Option Addr) (len1 cap1 : Nat) (k2 t2 : Int) (m2 : Nat) (o2 l2 : Int) (sa2 : Option Addr) (len2 cap2 : Nat) (w : World) (h1 : len1 ≤ 9223372036854775807) (h2 : len2 ≤ 9223372036854775807) (hno : 400 < len1 ∨ 400 < len2) :
    Calls Try.prog 4 #[.agg (actCells k1 t1 m1 o1 l1 (.slice sa1 len1 cap1)), .agg (actCells k2 t2 m2 o2 l2 (.slice sa2 len2 cap2))] w fun e w' => e = .returned (.bool true) ∧ Kept [] w w' := by
  have q7 := lives_any
  have hk := (kept_alloc [] w (.cells (actCells k1 t1 m1 o1 l1 (.slice sa1 len1 cap1)) 36)).trans (kept_alloc [] _ (.cells (actCells k2 t2 m2 o2 l2 (.slice sa2 len2 cap2)) 36))
  unfold actCells at *
  rcases (show (400 : Int) < (len1 : Int) ∨ (¬ ((400 : Int) < (len1 : Int)) ∧ (400 : Int) < (len2 : Int)) by omega) with g1 | ⟨g1, g2⟩
  all_goals clear hno
  all_goals
    go_enter Try.func4, Try.ntmps4
    go_wp2_with (first
      | (go_at_call 6; refine (q7 _).mono ?_; rintro e w3 ⟨rfl, hk3⟩))
    go_ret
    exact ⟨rfl, hk.trans hk3⟩
set_option maxRecDepth 100000 in
set_option maxHeartbeats 4000000 in
/-- DataKeeps, of two writes -/
theorem keeps_play (k1 t1 : Int) (m1 : Nat) (o1 l1 : Int) (sa1 : Option Addr) (len1 cap1 : Nat) (bs1 : List Nat) (k2 t2 : Int) (m2 : Nat) (o2 l2 : Int) (sa2 : Option Addr) (len2 cap2 : Nat) (bs2 : List Nat) (w : World)
    (hr1 : ByteRow 0 w.heap.size w (.slice sa1 len1 cap1) bs1) (hr2 : ByteRow 0 w.heap.size w (.slice sa2 len2 cap2) bs2) (h1 : len1 ≤ 400) (h2 : len2 ≤ 400) :
    Calls Try.prog 4 #[.agg (actCells k1 t1 m1 o1 l1 (.slice sa1 len1 cap1)), .agg (actCells k2 t2 m2 o2 l2 (.slice sa2 len2 cap2))] w fun e w' => e = .returned (.bool true) ∧ Kept [] w w' := by
  have q7 := lives_any
  have hb1 := (blk_new w 36 (actCells k1 t1 m1 o1 l1 (.slice sa1 len1 cap1))).alloc (.cells (actCells k2 t2 m2 o2 l2 (.slice sa2 len2 cap2)) 36)
  have hb2 := blk_new (w.alloc (.cells (actCells k1 t1 m1 o1 l1 (.slice sa1 len1 cap1)) 36)) 36 (actCells k2 t2 m2 o2 l2 (.slice sa2 len2 cap2))
  rw [World.size_alloc] at hb2
  have hk := (kept_alloc [] w (.cells (actCells k1 t1 m1 o1 l1 (.slice sa1 len1 cap1)) 36)).trans (kept_alloc [] _ (.cells (actCells k2 t2 m2 o2 l2 (.slice sa2 len2 cap2)) 36))
  have g1 : ¬ ((400 : Int) < (len1 : Int)) := by omega
  have g2 : ¬ ((400 : Int) < (len2 : Int)) := by omega
  have hl2 : bs2.length = len2 := by obtain ⟨a, cap, e⟩ := hr2.slice; injection e with _ e2 _; exact e2.symm
  -- the plain side
  have hc0 := calm_made 20
  have hv0 := valid_made 20 (by omega) (by omega)
  have hc1 := hc0.put o1 l1 bs1
  have hv1 : Valid (putS (made 20) o1 l1 bs1) := valid_putS hv0 o1 l1 hr1.1
  have hd1 : dataN (putS (made 20) o1 l1 bs1) = 12 := by unfold dataN; rw [putS_size]; rfl
  have hop1 : (putS (made 20) o1 l1 bs1).ops ≤ 900000 := Nat.le_trans (putS_ops _ (by simp [made]) _ _ _) (by simp [made])
  have q2 := fun W d b1 b2 (h : DiskAt W d b1 b2 (made 20)) => dWrite_any d b1 b2 (made 20) o1 l1 (.slice sa1 len1 cap1) bs1 0 w.heap.size W h (by simp [made])
  generalize putS (made 20) o1 l1 bs1 = s1 at *
  generalize putE (made 20) o1 l1 bs1 = E1 at *
  have hi1 : (imgL s1).length = 192 := by rw [img_length hv1 hc1 (by rw [hd1]; decide), hd1]
  have hv2 : Valid (putS s1 o2 l2 bs2) := valid_putS hv1 o2 l2 hr2.1
  have hd2 : dataN (putS s1 o2 l2 bs2) = 12 := by unfold dataN at *; rw [putS_size]; exact hd1
  have hi2 : (imgL (putS s1 o2 l2 bs2)).length = 192 := by rw [img_length hv2 (hc1.put o2 l2 bs2) (by rw [hd2]; decide), hd2]
  have hno := fun he => put_refused hc1 (o := o2) (l := l2) (bs := bs2) he
  have hyes := fun he => put_done (s := s1) (o := o2) (l := l2) (bs := bs2) he
  have himg := fun hg hl => img_put hv1 hc1 (by rw [hd1]; decide) (o := o2) (l := l2) (bs := bs2) hg hl hr2.1
  rw [hd1] at hyes himg
  have q3 := fun W d b1 b2 (h : DiskAt W d b1 b2 s1) => dImage_tight d b1 b2 s1 W h
  have q4 := fun W d b1 b2 (h : DiskAt W d b1 b2 s1) => dWrite_any d b1 b2 s1 o2 l2 (.slice sa2 len2 cap2) bs2 0 w.heap.size W h hop1
  generalize putS s1 o2 l2 bs2 = s2 at *
  generalize putE s1 o2 l2 bs2 = E2 at *
  have q5 := fun W d b1 b2 (h : DiskAt W d b1 b2 s2) => dImage_tight d b1 b2 s2 W h
  replace hno : Hid (E2 ≠ 0 → imgL s2 = imgL s1) := fun he => by rw [hno he]
  generalize imgL s1 = i1 at *
  generalize imgL s2 = i2 at *
  have hi1' : Hid (i1.length = 192) := hi1
  have hi2' : Hid (i2.length = 192) := hi2
  have q1 := fun W => new_ex 20 (by omega) (by omega) W
  clear hc0 hv0 hv1 hd1 hv2 hd2 hop1 hc1 hi1 hi2
  have hcA := act_six hb1
  have hcB := act_six hb2
  unfold actCells at *
  by_cases hE : E2 = 0
  · subst hE
    obtain ⟨hg, hl⟩ := hyes rfl
    have hov := himg hg hl
    have hgo := good_of hg
    obtain ⟨p, rfl⟩ : ∃ p : Nat, o2 = p := ⟨o2.toNat, by omega⟩
    obtain ⟨n, rfl⟩ : ∃ n : Nat, l2 = n := ⟨l2.toNat, by omega⟩
    rw [Int.toNat_natCast] at hov
    obtain ⟨F, hF⟩ : ∃ F : Nat, 16 * p = F := ⟨_, rfl⟩
    obtain ⟨T, hT⟩ : ∃ T : Nat, 16 * p + 16 * n = T := ⟨_, rfl⟩
    have f1 : 16 * (p : Int) = (F : Int) := by omega
    have f2 : (F : Int) + 16 * (n : Int) = (T : Int) := by omega
    have f3 : ¬ ((F : Int) < 0) := by omega
    have f4 : ¬ ((192 : Int) < (T : Int)) := by omega
    have f5 : ¬ ((T : Int) < (F : Int)) := by omega
    rw [hF] at hov
    replace hF : Hid _ := hF
    replace hT : Hid _ := hT
    replace hl : Hid _ := hl
    replace hov : Hid _ := hov
    have hn1 : 1 ≤ n := by omega
    clear hyes himg hno hg hgo
    go_enter Try.func4, Try.ntmps4
    go_wp2_with (first
      | (go_at_call 7; refine (q1 _).mono ?_; rintro e w1 ⟨d, b1, b2, rfl, hD1, hdl, hk1⟩; replace hdl : w.heap.size + 2 ≤ d ∧ w.heap.size + 2 ≤ b1 ∧ w.heap.size + 2 ≤ b2 := (by simpa using hdl); have hK1 : Kept [] w w1 := hk.trans hk1; have hA1 := hb1.kept hk1 (by simp); have hB1 := hb2.kept hk1 (by simp); obtain ⟨-, -, -, a3, a4, a5⟩ := act_six hA1; have hap : ∀ k ∈ [d, b1, b2], k < 0 ∨ w.heap.size ≤ k := (by simp; omega))
      | (go_at_call 9; refine (q2 _ _ _ _ hD1 (hr1.kept (Nat.le_refl _) hK1 (by simp)) hK1.size hap).mono ?_; clear q2; rintro e w2 ⟨rfl, hD2, hk2⟩; have hK2 : Kept [d, b1, b2] w w2 := (hK1.mono (by simp)).trans hk2; have hB2 := hB1.kept hk2 (by simp; omega))
      | (go_at_call 25; refine (q3 _ _ _ _ hD2).mono ?_; clear q3; rintro e w3 ⟨v3, rfl, hR3, hk3, s3, p3, rfl⟩; have hK3 := hK2.trans (hk3.mono (by simp)); have hB3 := hB2.kept hk3 (by simp); have hD3 := hD2.kept hk3 (by simp) (by simp) (by simp); obtain ⟨-, -, -, e3, e4, e5⟩ := act_six hB3)
      | (go_at_call 9; refine (q4 _ _ _ _ hD3 (hr2.kept (Nat.le_refl _) hK3 hap) hK3.size hap).mono ?_; clear q4; rintro e w4 ⟨rfl, hD4, hk4⟩; have hK4 := hK3.trans hk4; have hB4 := hB3.kept hk4 (by simp; omega); have hR4 := hR3.kept (Nat.le_refl _) hk4 (by have := hD2.lt; simp; omega))
      | (go_at_call 25; refine (q5 _ _ _ _ hD4).mono ?_; clear q5; rintro e w5 ⟨v5, rfl, hR5, hk5, s5, p5, rfl⟩; have hK5 := hK4.trans (hk5.mono (by simp)); have hB5 := hB4.kept hk5 (by simp); have hR45 := hR4.kept hk4.size hk5 (by simp); obtain ⟨-, -, -, c3, c4, c5⟩ := act_six hB5; have hcv3 := conv_txt hR45; have hcv5 := conv_txt hR5; obtain rfl : p3 = 192 := hR45.len.trans hi1'.out; obtain rfl : p5 = 192 := hR5.len.trans hi2'.out)
      | (go_at_call 6; refine (q7 _).mono ?_; rintro e w6 ⟨rfl, hk6⟩))
    go_quiet (fail)
    have hk6 := kept_drewN [] w5 nq
    have hR6 := hR5.kept (Nat.le_refl _) hk6 (by simp)
    have hR36 := hR45.kept (Nat.le_trans hk4.size hk5.size) hk6 (by simp)
    have hK6 := hK5.trans (hk6.mono (by simp))
    have hr6 := hr2.kept (Nat.le_refl _) hK6 hap
    have hB6 := hB5.kept hk6 (by simp)
    clear c3 c4 c5 hcv3 hcv5 e3 e4 e5 a3 a4 a5
    generalize w5.drewN nq = w6 at *
    obtain ⟨y3, z3, rfl, -, -⟩ := hR36.open (by omega)
    obtain ⟨y5, z5, rfl, -, -⟩ := hR6.open (by omega)
    obtain ⟨-, -, -, -, -, c5⟩ := act_six hB6
    have j2 : (F : Int) ≤ (T : Int) := by omega
    have j3 : ¬ (192 = F) := by have := hF.out; have := hT.out; omega
    have j4 : (T : Int) ≤ 192 := by omega
    have j5 : (F : Int) ≤ 192 := by omega
    have u1 : (i2.drop F).take (T - F) = bs2 := by
      rw [hov.out, show T - F = bs2.length by have := hF.out; have := hT.out; have := hl.out; omega]
      exact over_mid (by rw [hi1'.out]; omega)
    have u2 : i2.take F = i1.take F := by rw [hov.out]; exact over_front (by rw [hi1'.out]; omega)
    have u3 : i2.drop T = i1.drop T := by
      rw [hov.out, show T = F + bs2.length by have := hF.out; have := hT.out; have := hl.out; omega]
      exact over_back (by rw [hi1'.out]; omega)
    have r2 := hr6
    have r3 := hR6.front F (by omega) (Nat.le_refl _)
    rw [u2] at r3
    have r4 := hR36.front F (by omega) (Nat.le_refl _)
    have hl5 : w5.heap.size ≤ w6.heap.size := hk6.size
    have hl3 : w3.heap.size ≤ w6.heap.size := Nat.le_trans (Nat.le_trans hk4.size hk5.size) hk6.size
    have hl2' : w.heap.size ≤ w6.heap.size := hK6.size
    have r1 := hR6.cut F T (by omega) (by omega) (Nat.le_refl _)
    rw [u1] at r1
    have r7 := hR6.cut T 192 (by omega) (by omega) (Nat.le_refl _)
    rw [u3] at r7
    have r8 := hR36.cut T 192 (by omega) (by omega) (Nat.le_refl _)
    clear hov hl hr6 hR5 hR45 hR4 hR3 hD1 hD2 hD3 hD4 hA1 hB1 hB2 hB3 hB4 hB5 u1 u2 u3
    by_cases v5 : T = 192
    · subst v5
      obtain ⟨R3, hR3⟩ : ∃ R3 : List Nat, [] = R3 := ⟨_, rfl⟩
      clear r7 r8
      have r5 : ByteRow 0 0 w6 (.slice (some ⟨y5, z5, none⟩) 0 0) R3 := hR3 ▸ ByteRow.nothing _ _
      have r6 : ByteRow 0 0 w6 (.slice (some ⟨y3, z3, none⟩) 0 0) R3 := hR3 ▸ ByteRow.nothing _ _
      have H : Hid (∀ W, Kept [] w6 W → W.cell? ⟨w.heap.size + 1, 5, none⟩ = some (.slice sa2 len2 cap2) ∧ (convert 34 9 (.slice (some ⟨y5, z5 + F, none⟩) (192 - F) (192 - F))).run Try.prog W = .ok (.string (txt bs2)) W ∧ (convert 34 9 (.slice sa2 len2 cap2)).run Try.prog W = .ok (.string (txt bs2)) W ∧ (convert 34 9 (.slice (some ⟨y5, z5, none⟩) F 192)).run Try.prog W = .ok (.string (txt (i1.take F))) W ∧ (convert 34 9 (.slice (some ⟨y3, z3, none⟩) F 192)).run Try.prog W = .ok (.string (txt (i1.take F))) W ∧ (convert 34 9 (.slice (some ⟨y5, z5, none⟩) 0 0)).run Try.prog W = .ok (.string (txt R3)) W ∧ (convert 34 9 (.slice (some ⟨y3, z3, none⟩) 0 0)).run Try.prog W = .ok (.string (txt R3)) W) :=
        fun W hk => ⟨(act_six (hB6.kept hk (by simp))).2.2.2.2.2, conv_txt (r1.kept hl5 hk (by simp)), conv_txt (r2.kept hl2' hk (by simp)), conv_txt (r3.kept hl5 hk (by simp)), conv_txt (r4.kept hl3 hk (by simp)), conv_txt (r5.kept (Nat.zero_le _) hk (by simp)), conv_txt (r6.kept (Nat.zero_le _) hk (by simp))⟩
      generalize txt bs2 = X1 at *
      generalize txt (i1.take F) = X2 at *
      generalize txt R3 = X3 at *
      clear r1 r2 r3 r4 r5 r6
      have hkS := kept_drew [] w6
      go_wp2_with fail
      go_region_held3 (fun W => W.cell? ⟨w.heap.size + 1, 5, none⟩ = some (.slice sa2 len2 cap2) ∧ (convert 34 9 (.slice (some ⟨y5, z5 + F, none⟩) (192 - F) (192 - F))).run Try.prog W = .ok (.string X1) W ∧ (convert 34 9 (.slice sa2 len2 cap2)).run Try.prog W = .ok (.string X1) W ∧ (convert 34 9 (.slice (some ⟨y5, z5, none⟩) F 192)).run Try.prog W = .ok (.string X2) W ∧ (convert 34 9 (.slice (some ⟨y3, z3, none⟩) F 192)).run Try.prog W = .ok (.string X2) W ∧ (convert 34 9 (.slice (some ⟨y5, z5, none⟩) 0 0)).run Try.prog W = .ok (.string X3) W ∧ (convert 34 9 (.slice (some ⟨y3, z3, none⟩) 0 0)).run Try.prog W = .ok (.string X3) W) (exact H.out _ hkS) (first
        | (go_at_call 6; refine (q7 _).mono ?_; rintro e w7 ⟨rfl, hk7⟩; replace hkS := hkS.trans hk7))
      go_wp2_with fail
      go_ret
      exact ⟨rfl, (hK6.trans (hkS.mono (by simp))).old hdl⟩
    · have v6 : ¬ (192 = T) := fun e => v5 e.symm
      obtain ⟨R3, hR3⟩ : ∃ R3 : List Nat, (i1.drop T).take (192 - T) = R3 := ⟨_, rfl⟩
      rw [hR3] at r7 r8
      clear hR3
      have r5 : ByteRow w4.heap.size w5.heap.size w6 (.slice (some ⟨y5, z5 + T, none⟩) (192 - T) (192 - T)) R3 := r7
      have r6 : ByteRow w2.heap.size w3.heap.size w6 (.slice (some ⟨y3, z3 + T, none⟩) (192 - T) (192 - T)) R3 := r8
      have H : Hid (∀ W, Kept [] w6 W → W.cell? ⟨w.heap.size + 1, 5, none⟩ = some (.slice sa2 len2 cap2) ∧ (convert 34 9 (.slice (some ⟨y5, z5 + F, none⟩) (T - F) (192 - F))).run Try.prog W = .ok (.string (txt bs2)) W ∧ (convert 34 9 (.slice sa2 len2 cap2)).run Try.prog W = .ok (.string (txt bs2)) W ∧ (convert 34 9 (.slice (some ⟨y5, z5, none⟩) F 192)).run Try.prog W = .ok (.string (txt (i1.take F))) W ∧ (convert 34 9 (.slice (some ⟨y3, z3, none⟩) F 192)).run Try.prog W = .ok (.string (txt (i1.take F))) W ∧ (convert 34 9 (.slice (some ⟨y5, z5 + T, none⟩) (192 - T) (192 - T))).run Try.prog W = .ok (.string (txt R3)) W ∧ (convert 34 9 (.slice (some ⟨y3, z3 + T, none⟩) (192 - T) (192 - T))).run Try.prog W = .ok (.string (txt R3)) W) :=
        fun W hk => ⟨(act_six (hB6.kept hk (by simp))).2.2.2.2.2, conv_txt (r1.kept hl5 hk (by simp)), conv_txt (r2.kept hl2' hk (by simp)), conv_txt (r3.kept hl5 hk (by simp)), conv_txt (r4.kept hl3 hk (by simp)), conv_txt (r5.kept hl5 hk (by simp)), conv_txt (r6.kept hl3 hk (by simp))⟩
      generalize txt bs2 = X1 at *
      generalize txt (i1.take F) = X2 at *
      generalize txt R3 = X3 at *
      clear r1 r2 r3 r4 r5 r6
      have hkS := kept_drew [] w6
      go_wp2_with fail
      go_region_held3 (fun W => W.cell? ⟨w.heap.size + 1, 5, none⟩ = some (.slice sa2 len2 cap2) ∧ (convert 34 9 (.slice (some ⟨y5, z5 + F, none⟩) (T - F) (192 - F))).run Try.prog W = .ok (.string X1) W ∧ (convert 34 9 (.slice sa2 len2 cap2)).run Try.prog W = .ok (.string X1) W ∧ (convert 34 9 (.slice (some ⟨y5, z5, none⟩) F 192)).run Try.prog W = .ok (.string X2) W ∧ (convert 34 9 (.slice (some ⟨y3, z3, none⟩) F 192)).run Try.prog W = .ok (.string X2) W ∧ (convert 34 9 (.slice (some ⟨y5, z5 + T, none⟩) (192 - T) (192 - T))).run Try.prog W = .ok (.string X3) W ∧ (convert 34 9 (.slice (some ⟨y3, z3 + T, none⟩) (192 - T) (192 - T))).run Try.prog W = .ok (.string X3) W) (exact H.out _ hkS) (first
        | (go_at_call 6; refine (q7 _).mono ?_; rintro e w7 ⟨rfl, hk7⟩; replace hkS := hkS.trans hk7))
      go_wp2_with fail
      go_ret
      exact ⟨rfl, (hK6.trans (hkS.mono (by simp))).old hdl⟩
  · have e := hno.out hE
    subst e
    have z1 : (((E2 : Nat) : Int) != 0) = true := by simp; omega
    clear hyes himg hno hi1'
    go_enter Try.func4, Try.ntmps4
    go_wp2_with (first
      | (go_at_call 7; refine (q1 _).mono ?_; rintro e w1 ⟨d, b1, b2, rfl, hD1, hdl, hk1⟩; replace hdl : w.heap.size + 2 ≤ d ∧ w.heap.size + 2 ≤ b1 ∧ w.heap.size + 2 ≤ b2 := (by simpa using hdl); have hK1 : Kept [] w w1 := hk.trans hk1; have hA1 := hb1.kept hk1 (by simp); have hB1 := hb2.kept hk1 (by simp); obtain ⟨-, -, -, a3, a4, a5⟩ := act_six hA1; have hap : ∀ k ∈ [d, b1, b2], k < 0 ∨ w.heap.size ≤ k := (by simp; omega))
      | (go_at_call 9; refine (q2 _ _ _ _ hD1 (hr1.kept (Nat.le_refl _) hK1 (by simp)) hK1.size hap).mono ?_; clear q2; rintro e w2 ⟨rfl, hD2, hk2⟩; have hK2 : Kept [d, b1, b2] w w2 := (hK1.mono (by simp)).trans hk2; have hB2 := hB1.kept hk2 (by simp; omega))
      | (go_at_call 25; refine (q3 _ _ _ _ hD2).mono ?_; clear q3; rintro e w3 ⟨v3, rfl, hR3, hk3, s3, p3, rfl⟩; have hK3 := hK2.trans (hk3.mono (by simp)); have hB3 := hB2.kept hk3 (by simp); have hD3 := hD2.kept hk3 (by simp) (by simp) (by simp); obtain ⟨-, -, -, e3, e4, e5⟩ := act_six hB3)
      | (go_at_call 9; refine (q4 _ _ _ _ hD3 (hr2.kept (Nat.le_refl _) hK3 hap) hK3.size hap).mono ?_; clear q4; rintro e w4 ⟨rfl, hD4, hk4⟩; have hK4 := hK3.trans hk4; have hB4 := hB3.kept hk4 (by simp; omega); have hR4 := hR3.kept (Nat.le_refl _) hk4 (by have := hD2.lt; simp; omega))
      | (go_at_call 25; refine (q5 _ _ _ _ hD4).mono ?_; clear q5; rintro e w5 ⟨v5, rfl, hR5, hk5, s5, p5, rfl⟩; have hK5 := hK4.trans (hk5.mono (by simp)); have hB5 := hB4.kept hk5 (by simp); have hR45 := hR4.kept hk4.size hk5 (by simp); obtain ⟨-, -, -, c3, c4, c5⟩ := act_six hB5; have hcv3 := conv_txt hR45; have hcv5 := conv_txt hR5; obtain rfl : p3 = 192 := hR45.len.trans hi2'.out; obtain rfl : p5 = 192 := hR5.len.trans hi2'.out)
      | (go_at_call 6; refine (q7 _).mono ?_; rintro e w6 ⟨rfl, hk6⟩))
    go_ret
    exact ⟨rfl, (hK5.trans (hk6.mono (by simp))).old hdl⟩
end Go.Proofs.Ytgddpfcnngglaaa
