/-
  The walks of DirtyNone and DirtySafe.
-/
import Derived.Test.YtglndmkmdldpfaaDirtyA
import Derived.Test.YtglndmkmdldpfaaBits1
namespace Go.Proofs.Ytglndmkmdldpfaa
open Go.RowKit Go.Maps Go.Shelf
open Math

set_option maxRecDepth 100000 in
/-- DirtyNone -/
theorem none_walk11 (m : Nat) (e : Int) (w : World) :
    Calls Try.prog 4 #[.int .u64 (m : Int), .int .i64 e] w fun r w' => r = .returned (.bool true) ∧ Kept [] w w' := by
  have q0 := clear_none none e w (.inl rfl)
  have q1 := fun W => mapPut_none none m W (.inl rfl)
  have q2 := fun W => dget_none none W (.inl rfl)
  have q4 := mapLives_any
  go_enter Try.func4, Try.ntmps4
  go_wp2_with (first
    | (go_at_call 10; refine q0.mono ?_; rintro e w0 ⟨rfl, hk0⟩)
    | (go_at_call 7; refine (q1 _).mono ?_; rintro e w1 ⟨rfl, hk1⟩)
    | (go_at_call 8; refine (q2 _).mono ?_; rintro e w2 ⟨rfl, hk2⟩)
    | (go_at_call 6; refine (q4 _).mono ?_; rintro e w3 ⟨rfl, hk3⟩))
  go_ret
  exact ⟨rfl, ((hk0.trans hk1).trans hk2).trans hk3⟩

set_option maxRecDepth 100000 in
set_option maxHeartbeats 1000000 in
/-- DirtySafe, of what is let go -/
theorem safe_early11 (mask spare : Nat) (e k : Int) (hno : k < 0 ∨ 3 < k) (w : World) :
    Calls Try.prog 3 #[.int .u64 (mask : Int), .int .i64 e, .agg #[.int .i64 k, .int .u64 (spare : Int)]] w fun e w' => e = .returned (.bool true) ∧ Kept [] w w' := by
  have q7 := mapLives_any
  have q8 := fun W => new_any 12 (by decide) (by decide) W
  have hk0 := kept_alloc [] w (.cells #[.int .i64 k, .int .u64 (spare : Int)] 24)
  rcases (show k < 0 ∨ (¬ (k < 0) ∧ 3 < k) by omega) with g1 | ⟨g1, g2⟩
  all_goals clear hno
  all_goals
    go_enter Try.func3, Try.ntmps3
    go_wp2_with fail
    go_quiet (fail)
    replace hk0 := hk0.trans (kept_drewN [] _ nq)
    generalize (w.alloc (.cells #[.int .i64 k, .int .u64 (spare : Int)] 24)).drewN nq = W0 at *
    go_wp2_with (first
      | (go_at_call 5; refine (q8 _).mono ?_; rintro e w1 ⟨rfl, hD1, hk1⟩)
      | (go_at_call 6; refine (q7 _).mono ?_; rintro e w2 ⟨rfl, hk2⟩))
    go_ret
    exact ⟨rfl, (hk0.trans hk1).trans hk2⟩

theorem Nums.slice {W : World} {base : Nat} {v : Value} {l : List Nat} (h : Nums W base v l) : ∃ a cap, v = .slice a l.length cap ∧ l.length ≤ cap := by
  rcases h.open with ⟨rfl, rfl⟩ | ⟨g, cap, rfl, _, _, hc, _⟩
  · exact ⟨none, 0, rfl, Nat.le_refl _⟩
  · exact ⟨_, cap, rfl, hc⟩
/-- Where we are when some were cleared. -/
structure Left (now n : Nat) (l : List Nat) (s : Dk) : Prop where
  still : ∃ n', n' ≤ n ∧ Still s 6 2 n' (strip now l)
  works : s.broken = false
  fuse : s.fuse = -1
theorem Left.step {now n : Nat} {l : List Nat} {s : Dk} (h : Left now n l s) (hnow : now < 18446744073709551616) (hn : n + 1 < 4294967296) (x : Nat) :
    clearM s (x : Int) = strip now (l ++ [x]) ∧ mapE s (strip now (l ++ [x])) = 0 ∧ Left now (n + 1) (l ++ [x]) (mapS s (strip now (l ++ [x]))) ∧ (mapS s (strip now (l ++ [x]))).ops ≤ s.ops + 2 := by
  obtain ⟨n', h1, h2⟩ := h.still
  have e : Ytglndmkmdldpfaa.latestY s 6 2 = strip now l := h2.latestY h.works
  obtain ⟨a1, ⟨n2, a2, a3⟩, a4, a5, a6⟩ := h2.map_ok h.works (by omega) (strip now (l ++ [x])) (strip_lt now hnow _) (.inl (by rw [h.fuse]; decide))
  refine ⟨?_, a1, ⟨⟨n2, by omega, a3⟩, a4, (a5 (by rw [h.fuse]; decide)).trans h.fuse⟩, a6⟩
  unfold clearM
  rw [e, strip_snoc]

set_option maxRecDepth 100000 in
set_option maxHeartbeats 8000000 in
/-- DirtySafe, of a play -/
theorem safe_play11 (mask spare : Nat) (hmask : mask < 18446744073709551616) (hspare : spare < 18446744073709551616) (e k : Int) (h0 : 0 ≤ k) (h3 : k ≤ 3) (w : World) :
    Calls Try.prog 3 #[.int .u64 (mask : Int), .int .i64 e, .agg #[.int .i64 k, .int .u64 (spare : Int)]] w fun e w' => e = .returned (.bool true) ∧ Kept [] w w' := by
  have q7 := mapLives_any
  have hk0 := kept_alloc [] w (.cells #[.int .i64 k, .int .u64 (spare : Int)] 24)
  have q8 := fun W => new_any 12 (by decide) (by decide) W
  have g1 : ¬ (k < 0) := by omega
  have g2 : ¬ (3 < k) := by omega
  go_enter Try.func3, Try.ntmps3
  go_wp2_with fail
  go_quiet (fail)
  replace hk0 := hk0.trans (kept_drewN [] _ nq)
  generalize (w.alloc (.cells #[.int .i64 k, .int .u64 (spare : Int)] 24)).drewN nq = W0 at *
  obtain ⟨a1, ⟨n, an, a2⟩, a3, a4, a5⟩ := (still_made 12 6 2 (by decide) (by decide) (by decide) (by decide) (by decide)).map_ok rfl (by decide) mask hmask (.inl (by decide))
  have q10 := fun W d b1 b2 (h : DiskAt W d b1 b2 (made 12)) => mapPut_any d b1 b2 (made 12) mask hmask (by decide) W h
  rw [a1] at q10
  have o1 : (mapS (made 12) mask).ops ≤ 2 := a5
  generalize mapS (made 12) mask = s1 at *
  clear a1 a4 a5
  have q11 := fun W d b1 b2 (h : DiskAt W d b1 b2 s1) => dget_any d b1 b2 s1 W h
  have e11 : latestY s1 6 2 = mask := a2.latestY a3
  rw [e11] at q11
  have q13 := fun W d b1 b2 (h : DiskAt W d b1 b2 s1) => fuse_any d b1 b2 s1 k (by omega) (by omega) W h
  have ec : clearM (fused s1 k) e = Bits.Math.without mask e := by
    unfold clearM
    rw [show Ytglndmkmdldpfaa.latestY (fused s1 k) 6 2 = mask from (a2.fused k (by omega) (by omega)).latestY a3]
  obtain ⟨n2, now, hn2, e2, e3, e4⟩ := (a2.fused k (by omega) (by omega)).map_crash a3 (by omega) (Bits.Math.without mask e) (Bits.Math.without_lt _ _ hmask) h0 spare
  have q14 := fun W d b1 b2 (h : DiskAt W d b1 b2 (fused s1 k)) => clear_any d b1 b2 (fused s1 k) e (show s1.ops ≤ 999998 by omega) W h
  rw [ec] at q14
  have q15 := fun W d b1 b2 (h : DiskAt W d b1 b2 (mapS (fused s1 k) (Bits.Math.without mask e))) => crash_any d b1 b2 (mapS (fused s1 k) (Bits.Math.without mask e)) spare hspare W h
  have q16 := fun W d b1 b2 (h : DiskAt W d b1 b2 (crashed (mapS (fused s1 k) (Bits.Math.without mask e)) spare)) => dget_any d b1 b2 (crashed (mapS (fused s1 k) (Bits.Math.without mask e)) spare) W h
  have hL : Left now n2 [] (crashed (mapS (fused s1 k) (Bits.Math.without mask e)) spare) := ⟨⟨n2, Nat.le_refl _, e2⟩, rfl, rfl⟩
  have e16 : latestY (crashed (mapS (fused s1 k) (Bits.Math.without mask e)) spare) 6 2 = now := e2.latestY rfl
  have ho : (crashed (mapS (fused s1 k) (Bits.Math.without mask e)) spare).ops ≤ 4 := by
    have e4' : (mapS (fused s1 k) (Bits.Math.without mask e)).ops ≤ s1.ops + 2 := e4
    show (mapS (fused s1 k) (Bits.Math.without mask e)).ops ≤ 4
    omega
  rw [e16] at q16
  have hnow : now < 18446744073709551616 := by
    rcases e3 with rfl | rfl
    · exact hmask
    · exact Bits.Math.without_lt _ _ hmask
  have hall : strip now (Bits.Math.elems mask) = 0 := strip_all now mask hnow (fun j _ hj => by
    rcases e3 with rfl | rfl
    · exact hj
    · exact without_sub mask e j hj)
  have qW := fun W => Bits.refWithout_any mask e W hmask
  have qL := fun W => Bits.refList_any mask W hmask
  have hel : (Bits.Math.elems mask).length ≤ 64 := by rw [← Bits.Math.pop_elems]; exact Bits.Math.pop_le mask
  obtain ⟨L, eL⟩ : ∃ L, Bits.Math.elems mask = L := ⟨_, rfl⟩
  obtain ⟨len, hlen0⟩ : ∃ len, L.length = len := ⟨_, rfl⟩
  have hlen : Hid (L.length = len) := hlen0
  rw [eL] at hall hel
  rw [hlen0] at hel
  clear hlen0
  generalize clearX (fused s1 k) e = cx at *
  generalize mapE (fused s1 k) (Bits.Math.without mask e) = ce at *
  generalize crashed (mapS (fused s1 k) (Bits.Math.without mask e)) spare = s4 at *
  generalize mapS (fused s1 k) (Bits.Math.without mask e) = s3 at *
  generalize Bits.Math.without mask e = wo at *
  generalize fused s1 k = s2 at *
  generalize made 12 = s0 at *
  clear a2 a3 o1 e2 e4 ec e11 e16
  have hn2' : n2 ≤ 2 := by omega
  clear hn2 an
  rcases (show now = mask ∨ (now = wo ∧ now ≠ mask) by omega) with hm | ⟨rfl, hne⟩
  all_goals clear e3
  all_goals try (have hne' : ((now : Int) != (mask : Int)) = true := by simp; omega)
  all_goals try clear hne
  all_goals try (subst hm)
  all_goals
    go_wp2_with (first
      | (go_at_call 5; refine (q8 _).mono ?_; rintro e w1 ⟨rfl, hD1, hk1⟩)
      | (go_at_call 7; refine (q10 _ _ _ _ hD1).mono ?_; rintro e w2 ⟨rfl, hD2, hk2⟩; clear q10)
      | (go_at_call 8; refine (q11 _ _ _ _ hD2).mono ?_; rintro e w3 ⟨rfl, hk3⟩; clear q11; have hD3 := hD2.kept hk3 (by simp) (by simp) (by simp))
      | (go_at_call 9; refine (q13 _ _ _ _ hD3).mono ?_; rintro e w4 ⟨rfl, hD4, hk4, hz4⟩; replace hz4 : Hid _ := hz4)
      | (go_at_call 10; refine (q14 _ _ _ _ hD4).mono ?_; rintro e w5 ⟨rfl, hD5, hk5⟩)
      | (go_at_call 11; refine (q15 _ _ _ _ hD5).mono ?_; rintro e w6 ⟨rfl, hD6, hk6⟩)
      | (go_at_call 8; refine (q16 _ _ _ _ hD6).mono ?_; rintro e w7 ⟨rfl, hk7⟩; have hD7 := hD6.kept hk7 (by simp) (by simp) (by simp))
      | (go_at_call 12; refine (qW _).mono ?_; rintro e w7 ⟨rfl, rfl⟩)
      | (go_at_call 13; refine (qL _).mono ?_; rintro e w9 ⟨v, rfl, hrow, hB9⟩; have hk9 := Kept.of_below hB9 []; have hD9 := hD7.kept hk9 (by simp) (by simp) (by simp); have hN9 : Nums w9 w7.heap.size v L := eL ▸ hrow; obtain ⟨a, cap, rfl, hcap⟩ := hN9.slice; replace hlen' := hlen.out; rw [hlen'] at hcap hN9 ⊢; clear hlen' hrow))
  all_goals
    have hs0 := hk0.size
    have hs7 := hk7.size
    have hlt7 := hD7.lt
    have hK9 := (((((((hk0.trans hk1).young3 hk2 (by omega) (by omega) (by omega)).trans hk3).young hk4 (by omega)).young3 hk5 (by omega) (by omega) (by omega)).young3 hk6 (by omega) (by omega) (by omega)).trans hk7).trans hk9
    obtain ⟨d, hd⟩ : ∃ d, W0.heap.size + 2 = d := ⟨_, rfl⟩
    obtain ⟨b1, hb1⟩ : ∃ b, W0.heap.size = b := ⟨_, rfl⟩
    obtain ⟨b2, hb2⟩ : ∃ b, W0.heap.size + 1 = b := ⟨_, rfl⟩
    have hD : DiskAt w9 d b1 b2 s4 := by
      rw [← hd, ← hb1, ← hb2]
      exact hD9
    have hdl : w.heap.size ≤ d ∧ d < w7.heap.size := by omega
    have hbl1 : w.heap.size ≤ b1 ∧ b1 < w7.heap.size := by omega
    have hbl2 : w.heap.size ≤ b2 ∧ b2 < w7.heap.size := by omega
    rw [hd]
    generalize w7.heap.size = base at *
    clear hd hb1 hb2 hD1 hD2 hD3 hD4 hD5 hD6 hD7 hD9 hz4 hk0 hk1 hk2 hk3 hk4 hk5 hk6 hk7 hk9 hB9 q8 q13 q14 q15 q16 qW qL hs0 hs7 hlt7 g1 g2
    go_loopw [65] (fun i wr => ∃ (j : Nat) (s : Dk), j ≤ len ∧ i = .int .i64 j ∧ DiskAt wr d b1 b2 s ∧ Left now (n2 + j) (L.take j) s ∧ s.ops ≤ 4 + 2 * j ∧ Nums wr base (.slice a len cap) L ∧ Kept [] w wr) (fun i _ => len - (RowKit.intOf i).toNat)
    case atStart => exact ⟨0, s4, by omega, rfl, hD, hL, ho, hN9, hK9⟩
    case round =>
      obtain ⟨j, s, hj, rfl, hDj, hLj, hoj, hNj, hKj⟩ := hrel
      clear hD hL ho hN9 hK9
      by_cases hlt : j < len
      · rcases hNj.open with ⟨_, h2⟩ | ⟨gb, cp, ev, hgb, _, _, hcell⟩
        · have := hlen.out
          rw [h2] at this
          simp at this
          omega
        obtain rfl : a = some ⟨gb, 0, none⟩ := by injection ev
        clear ev
        obtain ⟨x, hx⟩ : ∃ x, L[j]? = some x := ⟨_, List.getElem?_eq_getElem (by rw [hlen.out]; exact hlt)⟩
        have c0 := hcell j x hx
        obtain ⟨t1, t2, t3, t4⟩ := hLj.step hnow (by omega) x
        have etake : L.take (j + 1) = L.take j ++ [x] := by
          rw [List.take_add_one, hx]
          rfl
        rw [← etake] at t1 t2 t3 t4
        have q20 := fun W (h : DiskAt W d b1 b2 s) => clear_any d b1 b2 s (x : Int) (show s.ops ≤ 999998 by omega) W h
        unfold clearX at q20
        rw [t1, t2, if_pos rfl] at q20
        generalize mapS s (strip now (List.take (j + 1) L)) = s' at *
        generalize strip now (List.take (j + 1) L) = y' at *
        have hm1 : Hid (len - (j + 1) < len - j) := by show _ < _; omega
        have kk4 : (j : Int) < (len : Int) := by omega
        have kcap : (j : Int) < (cap : Int) := by omega
        clear t1 t2 etake hx hcell hLj
        go_wp2_with (first
          | (go_at_call 10; refine (q20 _ hDj).mono ?_; rintro e w10 ⟨rfl, hD10, hk10⟩))
        go_roundw
        case rel => exact ⟨j + 1, s', by omega, rfl, hD10, t3, by omega, hNj.kept hk10 (by simp; omega), hKj.young3 hk10 hdl.1 hbl1.1 hbl2.1⟩
        case measure => simpa [RowKit.intOf] using hm1.out
      · obtain rfl : j = len := by omega
        have et : L.take j = L := List.take_of_length_le (by rw [hlen.out]; exact Nat.le_refl _)
        rw [et] at hLj
        obtain ⟨n3, _, hst⟩ := hLj.still
        rw [hall] at hst
        have q21 := dget_any d b1 b2 s _ hDj
        have e21 : latestY s 6 2 = 0 := hst.latestY hLj.works
        rw [e21] at q21
        clear et hst e21 hLj
        go_wp2_with (first
          | (go_at_call 8; refine q21.mono ?_; rintro e w11 ⟨rfl, hk11⟩)
          | (go_at_call 6; refine (q7 _).mono ?_; rintro e w12 ⟨rfl, hk12⟩))
        go_ret
        exact ⟨rfl, (hKj.trans hk11).trans hk12⟩
end Go.Proofs.Ytglndmkmdldpfaa
