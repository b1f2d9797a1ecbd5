/-
  The walk of OutboxActs.
-/
import Derived.Test.YtmibcnefonmmgaaOtH
import Derived.Test.YtmibcnefonmmgaaOtJ
namespace Go.Proofs.Ytmibcnefonmmgaa.Outbox
open Go.RowKit

theorem blk_ne {W : World} {a b : Nat} {t t' : TypeId} {c c' : Array Value} (h : Blk W a t c) (h' : Blk W b t' c') (ht : t ≠ t') : a ≠ b := fun e => by
  subst e
  unfold Blk at h h'
  rw [h] at h'
  injection h' with h'
  injection h' with _ h' _
  exact ht h'
/-- The program's, and the document's, apart. -/
structure Two (W : World) (base o r : Nat) (gr gs : Option Nat) (s s2 : Ob) : Prop where
  out : OutAt W base o gr s
  ref : RefAt W base r gs s2
  apart : ∀ g, gr = some g → gs ≠ some g
theorem Two.ne {W : World} {base o r : Nat} {gr gs : Option Nat} {s s2 : Ob} (h : Two W base o r gr gs s s2) : o ≠ r ∧ (∀ g, gr = some g → g ≠ r) ∧ (∀ g, gs = some g → g ≠ o) := by
  obtain ⟨v, P, h1, h2, _⟩ := h.out.blk
  obtain ⟨v', P', h1', h2', _⟩ := h.ref.blk
  refine ⟨blk_ne h1 h1' (by decide), fun g hg => ?_, fun g hg => ?_⟩
  · obtain ⟨_, _, cur, hc⟩ := h2.low g hg
    exact blk_ne hc h1' (by decide)
  · obtain ⟨_, _, cur, hc⟩ := h2'.low g hg
    exact blk_ne hc h1 (by decide)
/-- The program's was turned. -/
theorem Two.left {W W' : World} {base o r : Nat} {gr gs gr' : Option Nat} {s s2 s' : Ob} (h : Two W base o r gr gs s s2) (hk : Kept (o :: gr.toList) W W') (hO : OutAt W' base o gr' s') (hg : ∀ g, gr' = some g → gr = some g ∨ W.heap.size ≤ g) : Two W' base o r gr' gs s' s2 := by
  obtain ⟨n1, n2, n3⟩ := h.ne
  refine ⟨hO, h.ref.kept hk ?_ (fun g hs hm => ?_) h.out.foot, fun g e hs => ?_⟩
  · intro hm
    rcases List.mem_cons.1 hm with e | e
    · exact n1 e.symm
    · exact n2 r (by simpa using e) rfl
  · rcases List.mem_cons.1 hm with e | e
    · exact n3 g hs e
    · exact h.apart g (by simpa using e) hs
  · rcases hg g e with e | e
    · exact h.apart g e hs
    · have := (h.ref.lt.2 g hs).2.1
      omega
/-- The document's was turned. -/
theorem Two.right {W W' : World} {base o r : Nat} {gr gs gs' : Option Nat} {s s2 s' : Ob} (h : Two W base o r gr gs s s2) (hk : Kept (r :: gs.toList) W W') (hR : RefAt W' base r gs' s') (hg : ∀ g, gs' = some g → gs = some g ∨ W.heap.size ≤ g) : Two W' base o r gr gs' s s' := by
  obtain ⟨n1, n2, n3⟩ := h.ne
  refine ⟨h.out.kept hk ?_ (fun g hs hm => ?_) h.ref.foot, hR, fun g e hs => ?_⟩
  · intro hm
    rcases List.mem_cons.1 hm with e | e
    · exact n1 e
    · exact n3 o (by simpa using e) rfl
  · rcases List.mem_cons.1 hm with e | e
    · exact n2 g hs e
    · exact h.apart g hs (by simpa using e)
  · rcases hg g hs with hs | hs
    · exact h.apart g e hs
    · have := (h.out.lt.2 g e).2.1
      omega
theorem Two.kept0 {W W' : World} {base o r : Nat} {gr gs : Option Nat} {s s2 : Ob} (h : Two W base o r gr gs s s2) (hk : Kept [] W W') : Two W' base o r gr gs s s2 := ⟨h.out.kept0 hk, h.ref.kept0 hk, h.apart⟩
/-- A block that neither has. -/
theorem Two.free {W : World} {base o r : Nat} {gr gs : Option Nat} {s s2 : Ob} (h : Two W base o r gr gs s s2) {A : Nat} {c : Array Value} (hA : Blk W A 33 c) : A ∉ (o :: gr.toList) ∧ A ∉ (r :: gs.toList) := by
  obtain ⟨v, P, h1, h2, _⟩ := h.out.blk
  obtain ⟨v', P', h1', h2', _⟩ := h.ref.blk
  refine ⟨fun hm => ?_, fun hm => ?_⟩
  · rcases List.mem_cons.1 hm with e | e
    · exact blk_ne hA h1 (by decide) e
    · obtain ⟨_, _, cur, hc⟩ := h2.low A (by simpa using e)
      exact blk_ne hA hc (by decide) rfl
  · rcases List.mem_cons.1 hm with e | e
    · exact blk_ne hA h1' (by decide) e
    · obtain ⟨_, _, cur, hc⟩ := h2'.low A (by simpa using e)
      exact blk_ne hA hc (by decide) rfl
/-- What lies within a round: both, the act in its block, the act's bytes. -/
structure Rnd (w : World) (base o r A : Nat) (gr gs : Option Nat) (s s2 : Ob) (b : Bool) (n : Int) (x : Bv) (W : World) : Prop where
  two : Two W base o r gr gs s s2
  act : Blk W A 33 #[.bool b, .int .i64 n, .slice x.sa x.len x.cap]
  row : ByteRow w.heap.size W (.slice x.sa x.len x.cap) x.bs
  kept : Kept [] w W
  low : w.heap.size ≤ base
theorem Rnd.left {w W W' : World} {base o r A : Nat} {gr gs gr' : Option Nat} {s s2 s' : Ob} {b : Bool} {n : Int} {x : Bv} (h : Rnd w base o r A gr gs s s2 b n x W) (hk : Kept (o :: gr.toList) W W') (hO : OutAt W' base o gr' s') (hg : ∀ g, gr' = some g → gr = some g ∨ W.heap.size ≤ g) : Rnd w base o r A gr' gs s' s2 b n x W' :=
  ⟨h.two.left hk hO hg, h.act.kept hk (h.two.free h.act).1, h.row.kept h.kept.size hk (fun k hm => by
    have hl := h.low
    have h1 := h.two.out.low
    rcases List.mem_cons.1 hm with e | e
    · omega
    · have := (h.two.out.lt.2 k (by simpa using e)).1
      omega), h.two.out.young h.kept h.low hk, h.low⟩
theorem Rnd.right {w W W' : World} {base o r A : Nat} {gr gs gs' : Option Nat} {s s2 s' : Ob} {b : Bool} {n : Int} {x : Bv} (h : Rnd w base o r A gr gs s s2 b n x W) (hk : Kept (r :: gs.toList) W W') (hR : RefAt W' base r gs' s') (hg : ∀ g, gs' = some g → gs = some g ∨ W.heap.size ≤ g) : Rnd w base o r A gr gs' s s' b n x W' :=
  ⟨h.two.right hk hR hg, h.act.kept hk (h.two.free h.act).2, h.row.kept h.kept.size hk (fun k hm => by
    have hl := h.low
    have h1 := h.two.ref.low
    rcases List.mem_cons.1 hm with e | e
    · omega
    · have := (h.two.ref.lt.2 k (by simpa using e)).1
      omega), h.two.ref.young h.kept h.low hk, h.low⟩
theorem Rnd.after {w W W' : World} {base o r A : Nat} {gr gs : Option Nat} {s s2 : Ob} {b : Bool} {n : Int} {x : Bv} (h : Rnd w base o r A gr gs s s2 b n x W) (hk : Kept [] W W') : Rnd w base o r A gr gs s s2 b n x W' :=
  ⟨h.two.kept0 hk, h.act.kept hk (by simp), h.row.kept h.kept.size hk (by simp), h.kept.trans hk, h.low⟩
theorem Rnd.three {w W : World} {base o r A : Nat} {gr gs : Option Nat} {s s2 : Ob} {b : Bool} {n : Int} {x : Bv} (h : Rnd w base o r A gr gs s s2 b n x W) : W.cell? ⟨A, 0, none⟩ = some (.bool b) ∧ W.cell? ⟨A, 1, none⟩ = some (.int .i64 n) ∧ W.cell? ⟨A, 2, none⟩ = some (.slice x.sa x.len x.cap) :=
  ⟨(h.act.cell 0).trans rfl, (h.act.cell 1).trans rfl, (h.act.cell 2).trans rfl⟩
/-- Numbers that the program told, kept while the document's is turned. -/
theorem NRow.past {W W0 W' : World} {base o r : Nat} {gr gs : Option Nat} {s s2 : Ob} {v : Value} {l : List Nat} (h0 : Two W0 base o r gr gs s s2) (h : NRow W0.heap.size W v l) (hk : Kept (r :: gs.toList) W W') : NRow W0.heap.size W' v l := by
  refine h.kept hk (fun k hm => ?_)
  rcases List.mem_cons.1 hm with e | e
  · subst e
    exact h0.ref.lt.1
  · exact (h0.ref.lt.2 k (by simpa using e)).2.1
/-- What a state of the calls is. -/
structure Fit (s : Ob) (m k : Nat) : Prop where
  size : s.n + s.l.length ≤ k + 1
  bod : ∀ b ∈ s.l, b.length ≤ 1000
theorem fit_made (m : Nat) : Fit (made m) m 0 := ⟨Nat.le_refl _, by simp [made]⟩
theorem Fit.push {s : Ob} {m k : Nat} (h : Fit s m k) (bs : List Nat) (hb : bs.length ≤ 1000) : Fit (s.push bs) m (k + 1) := by
  refine ⟨?_, fun b hm => ?_⟩
  · have := h.size
    rw [Ob.push_len]
    show s.n + _ ≤ _
    omega
  · rcases List.mem_append.1 (show b ∈ s.l ++ [bs] from hm) with e | e
    · exact h.bod b e
    · rw [List.mem_singleton] at e
      subst e
      exact hb
theorem Fit.ack {s : Ob} {m k : Nat} (h : Fit s m k) (n : Int) : Fit (s.ack n) m (k + 1) := by
  by_cases on : s.On n
  · rw [Ob.ack_in on]
    obtain ⟨o1, o2⟩ := on
    have hw := s.way_le
    have hc := s.cut_len n.toNat
    have hs := h.size
    refine ⟨?_, fun b hm => h.bod b (List.mem_of_mem_drop hm)⟩
    show n.toNat + 1 + _ ≤ _
    omega
  · rw [Ob.ack_out on]
    exact ⟨by have := h.size; omega, h.bod⟩
set_option maxRecDepth 100000 in
set_option maxHeartbeats 1000000 in
theorem acts_early (k : Int) (a0 : Option Addr) (len cap : Nat) (hl : len ≤ 9223372036854775807) (w : World) (h : 80 < len) :
    Calls Try.prog 3 #[.int .i64 k, .slice a0 len cap] w fun e w' => e = .returned (.bool true) ∧ Kept [] w w' := by
  have q := lives_any w
  have h3 : (80 : Int) < (len : Int) := by omega
  clear h
  go_enter Try.func3, Try.ntmps3
  go_wp2_with (go_at_call 6; refine q.mono ?_; rintro e w1 ⟨rfl, hk1⟩)
  go_ret
  exact ⟨rfl, hk1⟩
set_option maxRecDepth 100000 in
set_option maxHeartbeats 1000000 in
theorem acts_none (k : Int) (hk : k < 1 ∨ 64 < k) (a0 : Option Addr) (len cap : Nat) (hl : len ≤ 80) (w : World) :
    Calls Try.prog 3 #[.int .i64 k, .slice a0 len cap] w fun e w' => e = .returned (.bool true) ∧ Kept [] w w' := by
  have q := lives_any w
  have q1 := new_none k hk w
  have q2 := rnew_none k hk w
  have h3 : ¬ ((80 : Int) < (len : Int)) := by omega
  clear hl hk
  go_enter Try.func3, Try.ntmps3
  go_wp2_with (first
    | (go_at_call 7; refine q1.mono ?_; rintro e w ⟨rfl, rfl⟩)
    | (go_at_call 8; refine q2.mono ?_; rintro e w ⟨rfl, rfl⟩))
  go_loopw [9] (fun i wr => i = .int .i64 0 ∧ wr = w) (fun _ _ => 0)
  case atStart => exact ⟨rfl, rfl⟩
  case round =>
    obtain ⟨rfl, rfl⟩ := hrel
    by_cases h0 : (0 : Int) < (len : Int)
    · go_wp2_with (go_at_call 6; refine q.mono ?_; rintro e w1 ⟨rfl, hk1⟩)
      go_ret
      exact ⟨rfl, hk1⟩
    · go_wp2_with (go_at_call 6; refine q.mono ?_; rintro e w1 ⟨rfl, hk1⟩)
      go_ret
      exact ⟨rfl, hk1⟩
/-- What a round's last region asks of the calls. -/
structure Look (w6 : World) (o r : Nat) (L : Nat) (D : Bool) (Z : List Nat) (a : Option Addr) (cap : Nat) : Prop where
  cell : ∀ W, Kept [] w6 W → W.cell? ⟨r, 0, none⟩ = some (.slice a L cap)
  len : ∀ W, Kept [] w6 W → Calls Try.prog 16 #[.pointer (some ⟨o, 0, none⟩)] W fun e w' => e = .returned (.int .i64 (L : Int)) ∧ Kept [] W w'
  full : ∀ W, Kept [] w6 W → Calls Try.prog 17 #[.pointer (some ⟨o, 0, none⟩)] W fun e w' => e = .returned (.bool D) ∧ Kept [] W w'
  rfull : ∀ W, Kept [] w6 W → Calls Try.prog 18 #[.pointer (some ⟨r, 0, none⟩)] W fun e w' => e = .returned (.bool D) ∧ Kept [] W w'
  win : ∀ W, Kept [] w6 W → Calls Try.prog 19 #[.pointer (some ⟨o, 0, none⟩)] W fun e w' => ∃ v, e = .returned v ∧ NRow W.heap.size w' v Z ∧ Kept [] W w'
  nums : ∀ W, Kept [] w6 W → Calls Try.prog 20 #[.pointer (some ⟨r, 0, none⟩)] W fun e w' => ∃ v, e = .returned v ∧ NRow W.heap.size w' v Z ∧ Kept [] W w'
  short : Z.length ≤ 64
theorem look_of {w6 : World} {base o r : Nat} {gr gs : Option Nat} {s : Ob} (h : Two w6 base o r gr gs s s) (hs : s.n + s.l.length ≤ 1000000) : ∃ L D Z a cap, Look w6 o r L D Z a cap := by
  obtain ⟨A1, a1, cap1, P1, hn1, hR1, -, -, -, -, -, -⟩ := h.out.three
  obtain ⟨a2, cap2, P2, hR2, -, -, -, -, -⟩ := h.ref.three
  refine ⟨s.l.length, decide (s.w ≤ s.l.length), s.window, a2, cap2, fun W hk => (hR2.kept hk (by simp)).three.1, fun W hk => ?_, fun W hk => full_any W (hR1.kept hk (by simp)) h.out.pos, fun W hk => rfull_any W (hR2.kept hk (by simp)), fun W hk => window_any W (h.out.kept0 hk) hs, fun W hk => rnumbers_any W (hR2.kept hk (by simp)) h.out.top hs, ?_⟩
  · refine (len_any W (hR1.kept hk (by simp)) h.out.pos).mono ?_
    rintro e w' ⟨rfl, rfl⟩
    exact ⟨rfl, Kept.refl _ _⟩
  · have := s.way_le
    have := h.out.top
    unfold Ob.window
    rw [nums_length]
    omega
set_option maxRecDepth 100000 in
set_option maxHeartbeats 8000000 in
theorem acts_play (m : Nat) (h1 : 1 ≤ m) (h2 : m ≤ 64) (a0 : Option Addr) (len cap : Nat) (acts : List Ac) (hl : len ≤ 80) (w : World) (hacts : AcsAt w.heap.size w a0 len cap acts) :
    Calls Try.prog 3 #[.int .i64 (m : Int), .slice a0 len cap] w fun e w' => e = .returned (.bool true) ∧ Kept [] w w' := by
  have q1 := new_any m h1 h2 w
  have h3 : ¬ ((80 : Int) < (len : Int)) := by omega
  go_enter Try.func3, Try.ntmps3
  go_wp2_with (first
    | (go_at_call 7; refine q1.mono ?_; rintro e w1 ⟨rfl, hO1, hs1, hk1⟩; have hs1' : Hid (w1.heap.size = w.heap.size + 1) := hs1; have q2 := rnew_any m h1 h2 w1; rw [hs1] at q2; clear hs1)
    | (go_at_call 8; refine q2.mono ?_; rintro e w2 ⟨rfl, hR2, hs2, hk2⟩; replace hs2 : Hid _ := hs2))
  have hb0 : Two w2 w.heap.size w.heap.size (w.heap.size + 1) none none (made m) (made m) :=
    ⟨hO1.kept0 hk2, ⟨hR2.blk.elim fun v h => h.elim fun P h => ⟨v, P, h.1, RowAt.mono h.2.1 (by omega), h.2.2.1, h.2.2.2⟩, hR2.first, hR2.pos, hR2.top, by omega⟩, fun g e => by cases e⟩
  have hk02 := hk1.trans hk2
  clear hO1 hs1' hR2 hs2 q1 q2 hk1 hk2
  obtain ⟨o, ho⟩ : ∃ o, w.heap.size = o := ⟨_, rfl⟩
  obtain ⟨r, hr⟩ : ∃ r, w.heap.size + 1 = r := ⟨_, rfl⟩
  have hb1 : Two w2 w.heap.size o r none none (made m) (made m) := by rw [hr] at hb0; exact ho ▸ hb0
  rw [hr, ho]
  clear ho hr hb0
  go_loopw [9] (fun i wr => ∃ (j : Nat) (s : Ob) (gr gs : Option Nat), j ≤ len ∧ i = .int .i64 j ∧ Fit s m j ∧ Two wr w.heap.size o r gr gs s s ∧ Kept [] w wr) (fun i _ => len - (RowKit.intOf i).toNat)
  case atStart => exact ⟨0, made m, none, none, by omega, rfl, fit_made m, hb1, hk02⟩
  case round =>
    obtain ⟨j, s, gr, gs, hj, rfl, hF, hT0, hk⟩ := hrel
    clear hb1 hk02
    by_cases hlt : j < len
    · obtain ⟨⟨b, n, x⟩, hx, hok, ab, ao, rfl, hac, y0, y1, y2⟩ := (hacts.kept (Nat.le_refl _) hk (by simp)).at j hlt
      obtain ⟨len0, hxA⟩ := hok
      dsimp only at len0 hxA y0 y1 y2
      have hxl : Hid (x.len = x.bs.length) := (by show _ = _; obtain ⟨_, _, _, e, _⟩ := hxA; injection e)
      have kA := kept_alloc [] wr (.cells #[.bool b, .int .i64 n, .slice x.sa x.len x.cap] 33)
      have hbA := blk_new wr 33 #[.bool b, .int .i64 n, .slice x.sa x.len x.cap]
      have i1 : (j : Int) < (len : Int) := by omega
      have i2 : (j : Int) < (cap : Int) := by omega
      have hm1 : Hid (len - (j + 1) < len - j) := by show _ < _; omega
      have hj1 : Hid (j + 1 ≤ len) := hlt
      have hM : Rnd w w.heap.size o r wr.heap.size gr gs s s b n x (wr.alloc (.cells #[.bool b, .int .i64 n, .slice x.sa x.len x.cap] 33)) := ⟨hT0.kept0 kA, hbA, hxA.kept hk.size kA (by simp), hk.trans kA, Nat.le_refl _⟩
      have hss : Hid (s.n + s.l.length ≤ 999999) := (by show _ ≤ _; have := hF.size; omega)
      have hss' : Hid (s.n + s.l.length ≤ 1000000) := (by show _ ≤ _; have := hF.size; omega)
      have hjb : Hid (j + 1 ≤ 80) := (by show _ ≤ _; omega)
      clear hacts hx hxA hT0 hbA hlt hj kA hk
      by_cases hbig : (300 : Int) < (x.len : Int)
      · have q := lives_any (wr.alloc (.cells #[.bool b, .int .i64 n, .slice x.sa x.len x.cap] 33))
        have hk := hM.kept
        clear hM
        go_wp2_with (go_at_call 6; refine q.mono ?_; rintro e w3 ⟨rfl, hk3⟩)
        go_ret
        exact ⟨rfl, hk.trans hk3⟩
      · have hxb : Hid (x.bs.length ≤ 1000) := (by show _ ≤ _; rw [← hxl.out]; omega)
        have hxb2 : Hid (x.bs.length ≤ 140737488351232) := Nat.le_trans hxb.out (by omega)
        cases b with
        | true =>
          have hF5 := hF.ack (m := m) n
          obtain ⟨z0, z1, z2⟩ := hM.three
          go_wp2_with fail
          replace hM := hM.after (kept_drew [] _)
          have hZ : Hid (((s.ackL n).map Int.ofNat).length ≤ 9223372036854775807) := (by
            show _ ≤ _
            rw [List.length_map]
            by_cases on : s.On n
            · rw [Ob.ackL_in on, nums_length]
              have e1 := (s.cut n.toNat).way_le
              have e2 := s.cut_len n.toNat
              have e3 := hF.size
              have e4 := hjb.out
              obtain ⟨o1, o2⟩ := on
              have e5 := s.way_le
              omega
            · rw [Ob.ackL_out on]
              simp)
          clear z0 z1 z2
          go_region_held3 (fun W => W.cell? ⟨wr.heap.size, 1, none⟩ = some (.int .i64 n)) (exact hM.three.2.1) (first
            | (go_at_call 10; refine (acked_any _ hM.two.out hss'.out n).mono ?_; rintro e w3 ⟨v3, rfl, hN3, hO3, hk3⟩; have hTB := hM.two; replace hM := hM.left hk3 hO3 (fun g h => .inl h))
            | (go_at_call 11; refine (racked_any _ hM.two.ref hss'.out n).mono ?_; rintro e w4 ⟨v4, rfl, hN4, gs4, hR4, hk4, hg4⟩; have hN3' := hN3.past hTB hk4; clear hTB hN3; replace hM := hM.right hk4 hR4 hg4)
            | (go_at_call 9; refine (Bits.ints_any v3 v4 _ _ hZ.out hN3'.ints hN4.ints).mono ?_; rintro e w5 ⟨rfl, n5, rfl⟩; replace hM := hM.after (kept_drewN [] _ n5)))
          clear hk3 hO3 hk4 hR4 hg4 hN4 hN3' hF hss hss'
          generalize s.ack n = s5 at *
          obtain ⟨z0, z1, z2⟩ := hM.three
          have hss5 : Hid (s5.n + s5.l.length ≤ 1000000) := (by show _ ≤ _; have := hF5.size; have := hjb.out; omega)
          go_upto_region 22 with (first
            | (go_at_call 14; refine (body_any _ hM.two.out hss5.out hF5.bod n).mono ?_; rintro e w6 ⟨sx, nx, cx, rfl, hB6, hk6⟩; replace hM := hM.after hk6; obtain ⟨z0, z1, z2⟩ := hM.three)
            | (go_at_call 15; refine (rbody_any _ hM.two.ref hss5.out hF5.bod n).mono ?_; rintro e w7 ⟨sy, ny, cy, rfl, hB7, hk7⟩; have hB6' := Byt.kept hB6 hk7 (noByt_nil _); replace hM := hM.after hk7; obtain ⟨z0, z1, z2⟩ := hM.three))
          obtain ⟨L, D, Z, aL, capL, hLk⟩ := look_of hM.two hss5.out
          have hZ2 : Hid ((Z.map Int.ofNat).length ≤ 9223372036854775807) := (by show _ ≤ _; rw [List.length_map]; have := hLk.short; omega)
          obtain ⟨BB, hBB⟩ : ∃ BB, (s5.body n).isSome = BB := ⟨_, rfl⟩
          rw [hBB]
          have hcx : ∀ W, Kept [] w7 W → (convert 31 9 (.slice sx nx cx)).run Try.prog W = .ok (.string (txt ((s5.body n).getD []))) W := fun W hW => conv_txt (Byt.kept hB6' hW (noByt_nil _)).row
          have hcy : ∀ W, Kept [] w7 W → (convert 31 9 (.slice sy ny cy)).run Try.prog W = .ok (.string (txt ((s5.body n).getD []))) W := fun W hW => conv_txt (Byt.kept hB7 hW (noByt_nil _)).row
          generalize txt ((s5.body n).getD []) = X at *
          have hkM := hM.kept
          have hTM := hM.two
          clear hM z0 z1 z2 hB6 hB6' hB7 hBB hk6 hk7
          refine wp_region_held_drew (S := fun W => Kept [] w7 W) (by kernel_rfl) (kept_drew [] w7) (fun hP => ?_)
          have hH := hP
          clear hP
          refine wpAnyH_take (i := 0) (oi := { dst := some 103, op := Op.move (Operand.tmp 15), type := 31, pos := "law.go:54", after := #[], guard := none }) (v := (.slice sx nx cx)) rfl (by kernel_rfl) (by kernel_rfl) (by kernel_rfl) (fun _ _ _ h => h) (Or.inl ⟨by rfl, fun W hSw => by go_simp⟩) hH ?_
          try simp only [Act.put, List.setIfInBounds_toArray, List.set_cons_zero, List.set_cons_succ]
          refine wpAnyH_take (i := 1) (oi := { dst := some 104, op := Op.convert 31 9 (Operand.tmp 103), type := 9, pos := "law.go:54", after := #[{ on := 0, ground := Ground.data }], guard := none }) (v := (.string X)) rfl (by kernel_rfl) (by kernel_rfl) (by kernel_rfl) (fun _ _ _ h => h) (Or.inl ⟨by rfl, fun W hSw => by have hc := hcx W hSw; go_simp⟩) hH ?_
          try simp only [Act.put, List.setIfInBounds_toArray, List.set_cons_zero, List.set_cons_succ]
          refine wpAnyH_take (i := 2) (oi := { dst := some 105, op := Op.move (Operand.tmp 17), type := 31, pos := "law.go:54", after := #[], guard := none }) (v := (.slice sy ny cy)) rfl (by kernel_rfl) (by kernel_rfl) (by kernel_rfl) (fun _ _ _ h => h) (Or.inl ⟨by rfl, fun W hSw => by go_simp⟩) hH ?_
          try simp only [Act.put, List.setIfInBounds_toArray, List.set_cons_zero, List.set_cons_succ]
          refine wpAnyH_take (i := 3) (oi := { dst := some 106, op := Op.convert 31 9 (Operand.tmp 105), type := 9, pos := "law.go:54", after := #[{ on := 2, ground := Ground.data }], guard := none }) (v := (.string X)) rfl (by kernel_rfl) (by kernel_rfl) (by kernel_rfl) (fun _ _ _ h => h) (Or.inl ⟨by rfl, fun W hSw => by have hc := hcy W hSw; go_simp⟩) hH ?_
          try simp only [Act.put, List.setIfInBounds_toArray, List.set_cons_zero, List.set_cons_succ]
          refine wpAnyH_take (i := 4) (oi := { dst := some 107, op := Op.binOp BinOp.neq 9 (Operand.tmp 104) (Operand.tmp 106) 9, type := 4, pos := "law.go:54", after := #[{ on := 1, ground := Ground.data }, { on := 3, ground := Ground.data }], guard := none }) (v := (.bool false)) rfl (by kernel_rfl) (by kernel_rfl) (by kernel_rfl) (fun _ _ _ h => h) (Or.inl ⟨by rfl, fun W hSw => by go_simp⟩) hH ?_
          try simp only [Act.put, List.setIfInBounds_toArray, List.set_cons_zero, List.set_cons_succ]
          refine wpAnyH_take (i := 5) (oi := { dst := some 108, op := Op.move (Operand.tmp 107), type := 4, pos := "law.go:54", after := #[{ on := 4, ground := Ground.data }], guard := none }) (v := (.bool false)) rfl (by kernel_rfl) (by kernel_rfl) (by kernel_rfl) (fun _ _ _ h => h) (Or.inl ⟨by rfl, fun W hSw => by go_simp⟩) hH ?_
          try simp only [Act.put, List.setIfInBounds_toArray, List.set_cons_zero, List.set_cons_succ]
          refine wpAnyH_take (i := 6) (oi := { dst := some 109, op := Op.move (Operand.tmp 16), type := 4, pos := "law.go:54", after := #[{ on := 5, ground := Ground.guard }], guard := some (5, false) }) (v := (.bool BB)) rfl (by kernel_rfl) (by kernel_rfl) (by kernel_rfl) (fun _ _ _ h => h) (Or.inl ⟨by rfl, fun W hSw => by go_simp⟩) hH ?_
          try simp only [Act.put, List.setIfInBounds_toArray, List.set_cons_zero, List.set_cons_succ]
          refine wpAnyH_take (i := 7) (oi := { dst := some 110, op := Op.move (Operand.tmp 18), type := 4, pos := "law.go:54", after := #[{ on := 5, ground := Ground.guard }], guard := some (5, false) }) (v := (.bool BB)) rfl (by kernel_rfl) (by kernel_rfl) (by kernel_rfl) (fun _ _ _ h => h) (Or.inl ⟨by rfl, fun W hSw => by go_simp⟩) hH ?_
          try simp only [Act.put, List.setIfInBounds_toArray, List.set_cons_zero, List.set_cons_succ]
          refine wpAnyH_take (i := 8) (oi := { dst := some 111, op := Op.binOp BinOp.neq 4 (Operand.tmp 109) (Operand.tmp 110) 4, type := 4, pos := "law.go:54", after := #[{ on := 6, ground := Ground.data }, { on := 7, ground := Ground.data }, { on := 5, ground := Ground.guard }], guard := some (5, false) }) (v := (.bool false)) rfl (by kernel_rfl) (by kernel_rfl) (by kernel_rfl) (fun _ _ _ h => h) (Or.inl ⟨by rfl, fun W hSw => by go_simp⟩) hH ?_
          try simp only [Act.put, List.setIfInBounds_toArray, List.set_cons_zero, List.set_cons_succ]
          refine wpAnyH_take (i := 9) (oi := { dst := some 112, op := Op.pick (Operand.tmp 108) (Operand.const (Value.bool true)) (Operand.tmp 111), type := 4, pos := "law.go:54", after := #[{ on := 5, ground := Ground.data }, { on := 8, ground := Ground.data }], guard := none }) (v := (.bool false)) rfl (by kernel_rfl) (by kernel_rfl) (by kernel_rfl) (fun _ _ _ h => h) (Or.inl ⟨by rfl, fun W hSw => by go_simp⟩) hH ?_
          try simp only [Act.put, List.setIfInBounds_toArray, List.set_cons_zero, List.set_cons_succ]
          refine wpAnyH_take (i := 10) (oi := { dst := some 113, op := Op.move (Operand.tmp 112), type := 4, pos := "law.go:54", after := #[{ on := 9, ground := Ground.data }, { on := 5, ground := Ground.chain }], guard := none }) (v := (.bool false)) rfl (by kernel_rfl) (by kernel_rfl) (by kernel_rfl) (fun _ _ _ h => h) (Or.inl ⟨by rfl, fun W hSw => by go_simp⟩) hH ?_
          try simp only [Act.put, List.setIfInBounds_toArray, List.set_cons_zero, List.set_cons_succ]
          refine wpAnyH_take (i := 11) (oi := { dst := some 114, op := Op.move (Operand.tmp 5), type := 24, pos := "law.go:54", after := #[{ on := 10, ground := Ground.guard }], guard := some (10, false) }) (v := (.pointer (some ⟨o, 0, none⟩))) rfl (by kernel_rfl) (by kernel_rfl) (by kernel_rfl) (fun _ _ _ h => h) (Or.inl ⟨by rfl, fun W hSw => by go_simp⟩) hH ?_
          try simp only [Act.put, List.setIfInBounds_toArray, List.set_cons_zero, List.set_cons_succ]
          refine wpAnyH_take (i := 13) (oi := { dst := some 116, op := Op.move (Operand.tmp 7), type := 28, pos := "law.go:54", after := #[{ on := 10, ground := Ground.guard }], guard := some (10, false) }) (v := (.pointer (some ⟨r, 0, none⟩))) rfl (by kernel_rfl) (by kernel_rfl) (by kernel_rfl) (fun _ _ _ h => h) (Or.inl ⟨by rfl, fun W hSw => by go_simp⟩) hH ?_
          try simp only [Act.put, List.setIfInBounds_toArray, List.set_cons_zero, List.set_cons_succ]
          refine wpAnyH_take (i := 14) (oi := { dst := some 117, op := Op.nilCheck (Operand.tmp 116), type := 0, pos := "law.go:54", after := #[{ on := 13, ground := Ground.data }, { on := 10, ground := Ground.guard }], guard := some (10, false) }) (v := (.pointer (some ⟨r, 0, none⟩))) rfl (by kernel_rfl) (by kernel_rfl) (by kernel_rfl) (fun _ _ _ h => h) (Or.inl ⟨by rfl, fun W hSw => by go_simp⟩) hH ?_
          try simp only [Act.put, List.setIfInBounds_toArray, List.set_cons_zero, List.set_cons_succ]
          refine wpAnyH_take (i := 15) (oi := { dst := some 118, op := Op.fieldAddr 44 (Operand.tmp 117) 0, type := 0, pos := "law.go:54", after := #[{ on := 14, ground := Ground.data }, { on := 10, ground := Ground.guard }], guard := some (10, false) }) (v := (.pointer (some ⟨r, 0, none⟩))) rfl (by kernel_rfl) (by kernel_rfl) (by kernel_rfl) (fun _ _ _ h => h) (Or.inl ⟨by rfl, fun W hSw => by go_simp⟩) hH ?_
          try simp only [Act.put, List.setIfInBounds_toArray, List.set_cons_zero, List.set_cons_succ]
          refine wpAnyH_take (i := 16) (oi := { dst := some 119, op := Op.load 42 (Operand.tmp 118), type := 42, pos := "law.go:54", after := #[{ on := 15, ground := Ground.data }, { on := 10, ground := Ground.guard }], guard := some (10, false) }) (v := (.slice aL L capL)) rfl (by kernel_rfl) (by kernel_rfl) (by kernel_rfl) (fun _ _ _ h => h) (Or.inl ⟨by rfl, fun W hSw => by have hc := hLk.cell W hSw; go_simp⟩) hH ?_
          try simp only [Act.put, List.setIfInBounds_toArray, List.set_cons_zero, List.set_cons_succ]
          refine wpAnyH_take (i := 17) (oi := { dst := some 120, op := Op.call { callee := Callee.builtin Builtin.len, args := #[Operand.tmp 119], argTypes := #[42] }, type := 3, pos := "law.go:54", after := #[{ on := 16, ground := Ground.data }, { on := 10, ground := Ground.guard }], guard := some (10, false) }) (v := (.int .i64 (L : Int))) rfl (by kernel_rfl) (by kernel_rfl) (by kernel_rfl) (fun _ _ _ h => h) (Or.inl ⟨by rfl, fun W hSw => by go_simp⟩) hH ?_
          try simp only [Act.put, List.setIfInBounds_toArray, List.set_cons_zero, List.set_cons_succ]
          refine wpAnyH_ready (rs := [12]) (by kernel_rfl) (by simp) ?_
          refine AllReadyH.cons (o := { dst := some 115, op := Op.call { callee := Callee.value (Operand.func 16), args := #[Operand.tmp 114], argTypes := #[24] }, type := 3, pos := "law.go:54", after := #[{ on := 11, ground := Ground.data }, { on := 10, ground := Ground.chain }, { on := 10, ground := Ground.guard }], guard := some (10, false) }) rfl (fun K hK => ?_) AllReadyH.nil
          go_simp
          refine (hLk.len _ hH).mono ?_
          rintro e w12 ⟨rfl, hk12⟩
          go_wp2_with fail
          have hH1 := hH.trans hk12
          refine hK.out _ _ hH1 (fun _ => ?_)
          replace hH := hH1
          clear hK K hH1
          try simp only [Act.put, List.setIfInBounds_toArray, List.set_cons_zero, List.set_cons_succ]
          refine wpAnyH_take (i := 18) (oi := { dst := some 121, op := Op.binOp BinOp.neq 3 (Operand.tmp 115) (Operand.tmp 120) 3, type := 4, pos := "law.go:54", after := #[{ on := 12, ground := Ground.data }, { on := 17, ground := Ground.data }, { on := 10, ground := Ground.guard }], guard := some (10, false) }) (v := (.bool false)) rfl (by kernel_rfl) (by kernel_rfl) (by kernel_rfl) (fun _ _ _ h => h) (Or.inl ⟨by rfl, fun W hSw => by go_simp⟩) hH ?_
          try simp only [Act.put, List.setIfInBounds_toArray, List.set_cons_zero, List.set_cons_succ]
          refine wpAnyH_take (i := 19) (oi := { dst := some 122, op := Op.pick (Operand.tmp 113) (Operand.const (Value.bool true)) (Operand.tmp 121), type := 4, pos := "law.go:54", after := #[{ on := 10, ground := Ground.data }, { on := 18, ground := Ground.data }], guard := none }) (v := (.bool false)) rfl (by kernel_rfl) (by kernel_rfl) (by kernel_rfl) (fun _ _ _ h => h) (Or.inl ⟨by rfl, fun W hSw => by go_simp⟩) hH ?_
          try simp only [Act.put, List.setIfInBounds_toArray, List.set_cons_zero, List.set_cons_succ]
          refine wpAnyH_take (i := 20) (oi := { dst := some 123, op := Op.move (Operand.tmp 122), type := 4, pos := "law.go:54", after := #[{ on := 19, ground := Ground.data }, { on := 12, ground := Ground.chain }], guard := none }) (v := (.bool false)) rfl (by kernel_rfl) (by kernel_rfl) (by kernel_rfl) (fun _ _ _ h => h) (Or.inl ⟨by rfl, fun W hSw => by go_simp⟩) hH ?_
          try simp only [Act.put, List.setIfInBounds_toArray, List.set_cons_zero, List.set_cons_succ]
          refine wpAnyH_take (i := 21) (oi := { dst := some 124, op := Op.move (Operand.tmp 5), type := 24, pos := "law.go:54", after := #[{ on := 20, ground := Ground.guard }], guard := some (20, false) }) (v := (.pointer (some ⟨o, 0, none⟩))) rfl (by kernel_rfl) (by kernel_rfl) (by kernel_rfl) (fun _ _ _ h => h) (Or.inl ⟨by rfl, fun W hSw => by go_simp⟩) hH ?_
          try simp only [Act.put, List.setIfInBounds_toArray, List.set_cons_zero, List.set_cons_succ]
          refine wpAnyH_take (i := 23) (oi := { dst := some 126, op := Op.move (Operand.tmp 7), type := 28, pos := "law.go:54", after := #[{ on := 20, ground := Ground.guard }], guard := some (20, false) }) (v := (.pointer (some ⟨r, 0, none⟩))) rfl (by kernel_rfl) (by kernel_rfl) (by kernel_rfl) (fun _ _ _ h => h) (Or.inl ⟨by rfl, fun W hSw => by go_simp⟩) hH ?_
          try simp only [Act.put, List.setIfInBounds_toArray, List.set_cons_zero, List.set_cons_succ]
          refine wpAnyH_ready (rs := [22]) (by kernel_rfl) (by simp) ?_
          refine AllReadyH.cons (o := { dst := some 125, op := Op.call { callee := Callee.value (Operand.func 17), args := #[Operand.tmp 124], argTypes := #[24] }, type := 4, pos := "law.go:54", after := #[{ on := 21, ground := Ground.data }, { on := 20, ground := Ground.chain }, { on := 20, ground := Ground.guard }], guard := some (20, false) }) rfl (fun K hK => ?_) AllReadyH.nil
          go_simp
          refine (hLk.full _ hH).mono ?_
          rintro e w22 ⟨rfl, hk22⟩
          go_wp2_with fail
          have hH1 := hH.trans hk22
          refine hK.out _ _ hH1 (fun _ => ?_)
          replace hH := hH1
          clear hK K hH1
          try simp only [Act.put, List.setIfInBounds_toArray, List.set_cons_zero, List.set_cons_succ]
          refine wpAnyH_ready (rs := [24]) (by kernel_rfl) (by simp) ?_
          refine AllReadyH.cons (o := { dst := some 127, op := Op.call { callee := Callee.value (Operand.func 18), args := #[Operand.tmp 126], argTypes := #[28] }, type := 4, pos := "law.go:54", after := #[{ on := 23, ground := Ground.data }, { on := 22, ground := Ground.chain }, { on := 20, ground := Ground.guard }], guard := some (20, false) }) rfl (fun K hK => ?_) AllReadyH.nil
          go_simp
          refine (hLk.rfull _ hH).mono ?_
          rintro e w24 ⟨rfl, hk24⟩
          go_wp2_with fail
          have hH1 := hH.trans hk24
          refine hK.out _ _ hH1 (fun _ => ?_)
          replace hH := hH1
          clear hK K hH1
          try simp only [Act.put, List.setIfInBounds_toArray, List.set_cons_zero, List.set_cons_succ]
          refine wpAnyH_take (i := 25) (oi := { dst := some 128, op := Op.binOp BinOp.neq 4 (Operand.tmp 125) (Operand.tmp 127) 4, type := 4, pos := "law.go:54", after := #[{ on := 22, ground := Ground.data }, { on := 24, ground := Ground.data }, { on := 20, ground := Ground.guard }], guard := some (20, false) }) (v := (.bool false)) rfl (by kernel_rfl) (by kernel_rfl) (by kernel_rfl) (fun _ _ _ h => h) (Or.inl ⟨by rfl, fun W hSw => by go_simp⟩) hH ?_
          try simp only [Act.put, List.setIfInBounds_toArray, List.set_cons_zero, List.set_cons_succ]
          refine wpAnyH_take (i := 26) (oi := { dst := some 129, op := Op.pick (Operand.tmp 123) (Operand.const (Value.bool true)) (Operand.tmp 128), type := 4, pos := "law.go:54", after := #[{ on := 20, ground := Ground.data }, { on := 25, ground := Ground.data }], guard := none }) (v := (.bool false)) rfl (by kernel_rfl) (by kernel_rfl) (by kernel_rfl) (fun _ _ _ h => h) (Or.inl ⟨by rfl, fun W hSw => by go_simp⟩) hH ?_
          try simp only [Act.put, List.setIfInBounds_toArray, List.set_cons_zero, List.set_cons_succ]
          refine wpAnyH_take (i := 27) (oi := { dst := some 130, op := Op.move (Operand.tmp 129), type := 4, pos := "law.go:54", after := #[{ on := 26, ground := Ground.data }, { on := 24, ground := Ground.chain }], guard := none }) (v := (.bool false)) rfl (by kernel_rfl) (by kernel_rfl) (by kernel_rfl) (fun _ _ _ h => h) (Or.inl ⟨by rfl, fun W hSw => by go_simp⟩) hH ?_
          try simp only [Act.put, List.setIfInBounds_toArray, List.set_cons_zero, List.set_cons_succ]
          refine wpAnyH_take (i := 28) (oi := { dst := some 131, op := Op.move (Operand.tmp 5), type := 24, pos := "law.go:54", after := #[{ on := 27, ground := Ground.guard }], guard := some (27, false) }) (v := (.pointer (some ⟨o, 0, none⟩))) rfl (by kernel_rfl) (by kernel_rfl) (by kernel_rfl) (fun _ _ _ h => h) (Or.inl ⟨by rfl, fun W hSw => by go_simp⟩) hH ?_
          try simp only [Act.put, List.setIfInBounds_toArray, List.set_cons_zero, List.set_cons_succ]
          refine wpAnyH_take (i := 30) (oi := { dst := some 133, op := Op.move (Operand.tmp 7), type := 28, pos := "law.go:54", after := #[{ on := 27, ground := Ground.guard }], guard := some (27, false) }) (v := (.pointer (some ⟨r, 0, none⟩))) rfl (by kernel_rfl) (by kernel_rfl) (by kernel_rfl) (fun _ _ _ h => h) (Or.inl ⟨by rfl, fun W hSw => by go_simp⟩) hH ?_
          try simp only [Act.put, List.setIfInBounds_toArray, List.set_cons_zero, List.set_cons_succ]
          refine wpAnyH_ready (rs := [29]) (by kernel_rfl) (by simp) ?_
          refine AllReadyH.cons (o := { dst := some 132, op := Op.call { callee := Callee.value (Operand.func 19), args := #[Operand.tmp 131], argTypes := #[24] }, type := 35, pos := "law.go:54", after := #[{ on := 28, ground := Ground.data }, { on := 27, ground := Ground.chain }, { on := 27, ground := Ground.guard }], guard := some (27, false) }) rfl (fun K hK => ?_) AllReadyH.nil
          go_simp
          refine (hLk.win _ hH).mono ?_
          rintro e w29 ⟨v29, rfl, hN29, hk29⟩
          go_wp2_with fail
          have hH1 := hH.trans hk29
          refine hK.out _ _ hH1 (fun _ => ?_)
          replace hH := hH1
          clear hK K hH1
          try simp only [Act.put, List.setIfInBounds_toArray, List.set_cons_zero, List.set_cons_succ]
          refine wpAnyH_ready (rs := [31]) (by kernel_rfl) (by simp) ?_
          refine AllReadyH.cons (o := { dst := some 134, op := Op.call { callee := Callee.value (Operand.func 20), args := #[Operand.tmp 133], argTypes := #[28] }, type := 35, pos := "law.go:54", after := #[{ on := 30, ground := Ground.data }, { on := 29, ground := Ground.chain }, { on := 27, ground := Ground.guard }], guard := some (27, false) }) rfl (fun K hK => ?_) AllReadyH.nil
          go_simp
          refine (hLk.nums _ hH).mono ?_
          rintro e w31 ⟨v31, rfl, hN31, hk31⟩
          go_wp2_with fail
          have hH1 := hH.trans hk31
          refine hK.out _ _ hH1 (fun _ => ?_)
          replace hH := hH1
          clear hK K hH1
          try simp only [Act.put, List.setIfInBounds_toArray, List.set_cons_zero, List.set_cons_succ]
          refine wpAnyH_ready (rs := [32]) (by kernel_rfl) (by simp) ?_
          refine AllReadyH.cons (o := { dst := some 135, op := Op.call { callee := Callee.value (Operand.func 9), args := #[Operand.tmp 132, Operand.tmp 134], argTypes := #[35, 35] }, type := 4, pos := "law.go:54", after := #[{ on := 29, ground := Ground.data }, { on := 31, ground := Ground.data }, { on := 31, ground := Ground.chain }, { on := 27, ground := Ground.guard }], guard := some (27, false) }) rfl (fun K hK => ?_) AllReadyH.nil
          go_simp
          refine (Bits.ints_any v29 v31 _ _ hZ2.out (hN29.ints_kept hk31) hN31.ints).mono ?_
          rintro e w32 ⟨rfl, n32, rfl⟩
          go_wp2_with fail
          have hH1 := hH.trans (kept_drewN [] _ n32)
          refine hK.out _ _ hH1 (fun _ => ?_)
          replace hH := hH1
          clear hK K hH1
          try simp only [Act.put, List.setIfInBounds_toArray, List.set_cons_zero, List.set_cons_succ]
          refine wpAnyH_take (i := 33) (oi := { dst := some 136, op := Op.unOp UnOp.not 4 (Operand.tmp 135), type := 4, pos := "law.go:54", after := #[{ on := 32, ground := Ground.data }, { on := 27, ground := Ground.guard }], guard := some (27, false) }) (v := (.bool false)) rfl (by kernel_rfl) (by kernel_rfl) (by kernel_rfl) (fun _ _ _ h => h) (Or.inl ⟨by rfl, fun W hSw => by go_simp⟩) hH ?_
          try simp only [Act.put, List.setIfInBounds_toArray, List.set_cons_zero, List.set_cons_succ]
          refine wpAnyH_take (i := 34) (oi := { dst := some 137, op := Op.pick (Operand.tmp 130) (Operand.const (Value.bool true)) (Operand.tmp 136), type := 4, pos := "law.go:54", after := #[{ on := 27, ground := Ground.data }, { on := 33, ground := Ground.data }], guard := none }) (v := (.bool false)) rfl (by kernel_rfl) (by kernel_rfl) (by kernel_rfl) (fun _ _ _ h => h) (Or.inl ⟨by rfl, fun W hSw => by go_simp⟩) hH ?_
          try simp only [Act.put, List.setIfInBounds_toArray, List.set_cons_zero, List.set_cons_succ]
          refine wpAnyH_done (by kernel_rfl) ?_ _
          have hTE := hTM.kept0 hH
          have hkE := hkM.trans hH
          clear hLk hcx hcy hTM hkM hN29 hN31
          go_wp2_with fail
          go_roundw
          case rel => exact ⟨j + 1, s5, _, _, hj1.out, by go_num, hF5, hTE, hkE⟩
          case measure => simpa [RowKit.intOf] using hm1.out
        | false =>
          have hF5 := hF.push (m := m) x.bs hxb.out
          have hsp : Hid (w.heap.size ≤ wr.heap.size + 1) := (by show _ ≤ _; have := hM.kept.size; simpa using this)
          obtain ⟨z0, z1, z2⟩ := hM.three
          obtain ⟨PN, hPN⟩ : ∃ PN, s.pushN = PN := ⟨_, rfl⟩
          obtain ⟨PB, hPB⟩ : ∃ PB, s.pushB = PB := ⟨_, rfl⟩
          have qp := fun W (hM : Rnd w w.heap.size o r wr.heap.size gr gs s s false n x W) => push_any W hM.two.out hss.out (.slice x.sa x.len x.cap) _ x.bs hM.row hM.kept.size hxb2.out
          have qr := fun W gr3 s3 (hM : Rnd w w.heap.size o r wr.heap.size gr3 gs s3 s false n x W) => rpush_any W hM.two.ref hss.out (.slice x.sa x.len x.cap) _ x.bs hM.row hM.kept.size hxb2.out
          rw [hPN, hPB] at qp qr
          clear hPN hPB
          go_upto_region 22 with (first
            | (go_at_call 12; refine (qp _ hM).mono ?_; rintro e w3 ⟨rfl, gr3, hO3, hk3, hg3⟩; replace hM := hM.left hk3 hO3 hg3; obtain ⟨z0, z1, z2⟩ := hM.three; clear qp)
            | (go_at_call 13; refine (qr _ _ _ hM).mono ?_; rintro e w4 ⟨rfl, gs4, hR4, hk4, hg4⟩; replace hM := hM.right hk4 hR4 hg4; obtain ⟨z0, z1, z2⟩ := hM.three; clear qr; have hss5 : Hid ((s.push x.bs).n + (s.push x.bs).l.length ≤ 1000000) := (by show _ ≤ _; have := hF5.size; have := hjb.out; omega))
            | (go_at_call 14; refine (body_any _ hM.two.out hss5.out hF5.bod n).mono ?_; rintro e w6 ⟨sx, nx, cx, rfl, hB6, hk6⟩; replace hM := hM.after hk6; obtain ⟨z0, z1, z2⟩ := hM.three)
            | (go_at_call 15; refine (rbody_any _ hM.two.ref hss5.out hF5.bod n).mono ?_; rintro e w7 ⟨sy, ny, cy, rfl, hB7, hk7⟩; have hB6' := Byt.kept hB6 hk7 (noByt_nil _); replace hM := hM.after hk7; obtain ⟨z0, z1, z2⟩ := hM.three))
          clear hk3 hO3 hk4 hR4 hg4 hF hss hss' hg3
          generalize s.push x.bs = s5 at *
          have hdummy : True := trivial
          obtain ⟨L, D, Z, aL, capL, hLk⟩ := look_of hM.two hss5.out
          have hZ2 : Hid ((Z.map Int.ofNat).length ≤ 9223372036854775807) := (by show _ ≤ _; rw [List.length_map]; have := hLk.short; omega)
          obtain ⟨BB, hBB⟩ : ∃ BB, (s5.body n).isSome = BB := ⟨_, rfl⟩
          rw [hBB]
          have hcx : ∀ W, Kept [] w7 W → (convert 31 9 (.slice sx nx cx)).run Try.prog W = .ok (.string (txt ((s5.body n).getD []))) W := fun W hW => conv_txt (Byt.kept hB6' hW (noByt_nil _)).row
          have hcy : ∀ W, Kept [] w7 W → (convert 31 9 (.slice sy ny cy)).run Try.prog W = .ok (.string (txt ((s5.body n).getD []))) W := fun W hW => conv_txt (Byt.kept hB7 hW (noByt_nil _)).row
          generalize txt ((s5.body n).getD []) = X at *
          have hkM := hM.kept
          have hTM := hM.two
          clear hM z0 z1 z2 hB6 hB6' hB7 hBB hk6 hk7
          refine wp_region_held_drew (S := fun W => Kept [] w7 W) (by kernel_rfl) (kept_drew [] w7) (fun hP => ?_)
          have hH := hP
          clear hP
          refine wpAnyH_take (i := 0) (oi := { dst := some 103, op := Op.move (Operand.tmp 15), type := 31, pos := "law.go:54", after := #[], guard := none }) (v := (.slice sx nx cx)) rfl (by kernel_rfl) (by kernel_rfl) (by kernel_rfl) (fun _ _ _ h => h) (Or.inl ⟨by rfl, fun W hSw => by go_simp⟩) hH ?_
          try simp only [Act.put, List.setIfInBounds_toArray, List.set_cons_zero, List.set_cons_succ]
          refine wpAnyH_take (i := 1) (oi := { dst := some 104, op := Op.convert 31 9 (Operand.tmp 103), type := 9, pos := "law.go:54", after := #[{ on := 0, ground := Ground.data }], guard := none }) (v := (.string X)) rfl (by kernel_rfl) (by kernel_rfl) (by kernel_rfl) (fun _ _ _ h => h) (Or.inl ⟨by rfl, fun W hSw => by have hc := hcx W hSw; go_simp⟩) hH ?_
          try simp only [Act.put, List.setIfInBounds_toArray, List.set_cons_zero, List.set_cons_succ]
          refine wpAnyH_take (i := 2) (oi := { dst := some 105, op := Op.move (Operand.tmp 17), type := 31, pos := "law.go:54", after := #[], guard := none }) (v := (.slice sy ny cy)) rfl (by kernel_rfl) (by kernel_rfl) (by kernel_rfl) (fun _ _ _ h => h) (Or.inl ⟨by rfl, fun W hSw => by go_simp⟩) hH ?_
          try simp only [Act.put, List.setIfInBounds_toArray, List.set_cons_zero, List.set_cons_succ]
          refine wpAnyH_take (i := 3) (oi := { dst := some 106, op := Op.convert 31 9 (Operand.tmp 105), type := 9, pos := "law.go:54", after := #[{ on := 2, ground := Ground.data }], guard := none }) (v := (.string X)) rfl (by kernel_rfl) (by kernel_rfl) (by kernel_rfl) (fun _ _ _ h => h) (Or.inl ⟨by rfl, fun W hSw => by have hc := hcy W hSw; go_simp⟩) hH ?_
          try simp only [Act.put, List.setIfInBounds_toArray, List.set_cons_zero, List.set_cons_succ]
          refine wpAnyH_take (i := 4) (oi := { dst := some 107, op := Op.binOp BinOp.neq 9 (Operand.tmp 104) (Operand.tmp 106) 9, type := 4, pos := "law.go:54", after := #[{ on := 1, ground := Ground.data }, { on := 3, ground := Ground.data }], guard := none }) (v := (.bool false)) rfl (by kernel_rfl) (by kernel_rfl) (by kernel_rfl) (fun _ _ _ h => h) (Or.inl ⟨by rfl, fun W hSw => by go_simp⟩) hH ?_
          try simp only [Act.put, List.setIfInBounds_toArray, List.set_cons_zero, List.set_cons_succ]
          refine wpAnyH_take (i := 5) (oi := { dst := some 108, op := Op.move (Operand.tmp 107), type := 4, pos := "law.go:54", after := #[{ on := 4, ground := Ground.data }], guard := none }) (v := (.bool false)) rfl (by kernel_rfl) (by kernel_rfl) (by kernel_rfl) (fun _ _ _ h => h) (Or.inl ⟨by rfl, fun W hSw => by go_simp⟩) hH ?_
          try simp only [Act.put, List.setIfInBounds_toArray, List.set_cons_zero, List.set_cons_succ]
          refine wpAnyH_take (i := 6) (oi := { dst := some 109, op := Op.move (Operand.tmp 16), type := 4, pos := "law.go:54", after := #[{ on := 5, ground := Ground.guard }], guard := some (5, false) }) (v := (.bool BB)) rfl (by kernel_rfl) (by kernel_rfl) (by kernel_rfl) (fun _ _ _ h => h) (Or.inl ⟨by rfl, fun W hSw => by go_simp⟩) hH ?_
          try simp only [Act.put, List.setIfInBounds_toArray, List.set_cons_zero, List.set_cons_succ]
          refine wpAnyH_take (i := 7) (oi := { dst := some 110, op := Op.move (Operand.tmp 18), type := 4, pos := "law.go:54", after := #[{ on := 5, ground := Ground.guard }], guard := some (5, false) }) (v := (.bool BB)) rfl (by kernel_rfl) (by kernel_rfl) (by kernel_rfl) (fun _ _ _ h => h) (Or.inl ⟨by rfl, fun W hSw => by go_simp⟩) hH ?_
          try simp only [Act.put, List.setIfInBounds_toArray, List.set_cons_zero, List.set_cons_succ]
          refine wpAnyH_take (i := 8) (oi := { dst := some 111, op := Op.binOp BinOp.neq 4 (Operand.tmp 109) (Operand.tmp 110) 4, type := 4, pos := "law.go:54", after := #[{ on := 6, ground := Ground.data }, { on := 7, ground := Ground.data }, { on := 5, ground := Ground.guard }], guard := some (5, false) }) (v := (.bool false)) rfl (by kernel_rfl) (by kernel_rfl) (by kernel_rfl) (fun _ _ _ h => h) (Or.inl ⟨by rfl, fun W hSw => by go_simp⟩) hH ?_
          try simp only [Act.put, List.setIfInBounds_toArray, List.set_cons_zero, List.set_cons_succ]
          refine wpAnyH_take (i := 9) (oi := { dst := some 112, op := Op.pick (Operand.tmp 108) (Operand.const (Value.bool true)) (Operand.tmp 111), type := 4, pos := "law.go:54", after := #[{ on := 5, ground := Ground.data }, { on := 8, ground := Ground.data }], guard := none }) (v := (.bool false)) rfl (by kernel_rfl) (by kernel_rfl) (by kernel_rfl) (fun _ _ _ h => h) (Or.inl ⟨by rfl, fun W hSw => by go_simp⟩) hH ?_
          try simp only [Act.put, List.setIfInBounds_toArray, List.set_cons_zero, List.set_cons_succ]
          refine wpAnyH_take (i := 10) (oi := { dst := some 113, op := Op.move (Operand.tmp 112), type := 4, pos := "law.go:54", after := #[{ on := 9, ground := Ground.data }, { on := 5, ground := Ground.chain }], guard := none }) (v := (.bool false)) rfl (by kernel_rfl) (by kernel_rfl) (by kernel_rfl) (fun _ _ _ h => h) (Or.inl ⟨by rfl, fun W hSw => by go_simp⟩) hH ?_
          try simp only [Act.put, List.setIfInBounds_toArray, List.set_cons_zero, List.set_cons_succ]
          refine wpAnyH_take (i := 11) (oi := { dst := some 114, op := Op.move (Operand.tmp 5), type := 24, pos := "law.go:54", after := #[{ on := 10, ground := Ground.guard }], guard := some (10, false) }) (v := (.pointer (some ⟨o, 0, none⟩))) rfl (by kernel_rfl) (by kernel_rfl) (by kernel_rfl) (fun _ _ _ h => h) (Or.inl ⟨by rfl, fun W hSw => by go_simp⟩) hH ?_
          try simp only [Act.put, List.setIfInBounds_toArray, List.set_cons_zero, List.set_cons_succ]
          refine wpAnyH_take (i := 13) (oi := { dst := some 116, op := Op.move (Operand.tmp 7), type := 28, pos := "law.go:54", after := #[{ on := 10, ground := Ground.guard }], guard := some (10, false) }) (v := (.pointer (some ⟨r, 0, none⟩))) rfl (by kernel_rfl) (by kernel_rfl) (by kernel_rfl) (fun _ _ _ h => h) (Or.inl ⟨by rfl, fun W hSw => by go_simp⟩) hH ?_
          try simp only [Act.put, List.setIfInBounds_toArray, List.set_cons_zero, List.set_cons_succ]
          refine wpAnyH_take (i := 14) (oi := { dst := some 117, op := Op.nilCheck (Operand.tmp 116), type := 0, pos := "law.go:54", after := #[{ on := 13, ground := Ground.data }, { on := 10, ground := Ground.guard }], guard := some (10, false) }) (v := (.pointer (some ⟨r, 0, none⟩))) rfl (by kernel_rfl) (by kernel_rfl) (by kernel_rfl) (fun _ _ _ h => h) (Or.inl ⟨by rfl, fun W hSw => by go_simp⟩) hH ?_
          try simp only [Act.put, List.setIfInBounds_toArray, List.set_cons_zero, List.set_cons_succ]
          refine wpAnyH_take (i := 15) (oi := { dst := some 118, op := Op.fieldAddr 44 (Operand.tmp 117) 0, type := 0, pos := "law.go:54", after := #[{ on := 14, ground := Ground.data }, { on := 10, ground := Ground.guard }], guard := some (10, false) }) (v := (.pointer (some ⟨r, 0, none⟩))) rfl (by kernel_rfl) (by kernel_rfl) (by kernel_rfl) (fun _ _ _ h => h) (Or.inl ⟨by rfl, fun W hSw => by go_simp⟩) hH ?_
          try simp only [Act.put, List.setIfInBounds_toArray, List.set_cons_zero, List.set_cons_succ]
          refine wpAnyH_take (i := 16) (oi := { dst := some 119, op := Op.load 42 (Operand.tmp 118), type := 42, pos := "law.go:54", after := #[{ on := 15, ground := Ground.data }, { on := 10, ground := Ground.guard }], guard := some (10, false) }) (v := (.slice aL L capL)) rfl (by kernel_rfl) (by kernel_rfl) (by kernel_rfl) (fun _ _ _ h => h) (Or.inl ⟨by rfl, fun W hSw => by have hc := hLk.cell W hSw; go_simp⟩) hH ?_
          try simp only [Act.put, List.setIfInBounds_toArray, List.set_cons_zero, List.set_cons_succ]
          refine wpAnyH_take (i := 17) (oi := { dst := some 120, op := Op.call { callee := Callee.builtin Builtin.len, args := #[Operand.tmp 119], argTypes := #[42] }, type := 3, pos := "law.go:54", after := #[{ on := 16, ground := Ground.data }, { on := 10, ground := Ground.guard }], guard := some (10, false) }) (v := (.int .i64 (L : Int))) rfl (by kernel_rfl) (by kernel_rfl) (by kernel_rfl) (fun _ _ _ h => h) (Or.inl ⟨by rfl, fun W hSw => by go_simp⟩) hH ?_
          try simp only [Act.put, List.setIfInBounds_toArray, List.set_cons_zero, List.set_cons_succ]
          refine wpAnyH_ready (rs := [12]) (by kernel_rfl) (by simp) ?_
          refine AllReadyH.cons (o := { dst := some 115, op := Op.call { callee := Callee.value (Operand.func 16), args := #[Operand.tmp 114], argTypes := #[24] }, type := 3, pos := "law.go:54", after := #[{ on := 11, ground := Ground.data }, { on := 10, ground := Ground.chain }, { on := 10, ground := Ground.guard }], guard := some (10, false) }) rfl (fun K hK => ?_) AllReadyH.nil
          go_simp
          refine (hLk.len _ hH).mono ?_
          rintro e w12 ⟨rfl, hk12⟩
          go_wp2_with fail
          have hH1 := hH.trans hk12
          refine hK.out _ _ hH1 (fun _ => ?_)
          replace hH := hH1
          clear hK K hH1
          try simp only [Act.put, List.setIfInBounds_toArray, List.set_cons_zero, List.set_cons_succ]
          refine wpAnyH_take (i := 18) (oi := { dst := some 121, op := Op.binOp BinOp.neq 3 (Operand.tmp 115) (Operand.tmp 120) 3, type := 4, pos := "law.go:54", after := #[{ on := 12, ground := Ground.data }, { on := 17, ground := Ground.data }, { on := 10, ground := Ground.guard }], guard := some (10, false) }) (v := (.bool false)) rfl (by kernel_rfl) (by kernel_rfl) (by kernel_rfl) (fun _ _ _ h => h) (Or.inl ⟨by rfl, fun W hSw => by go_simp⟩) hH ?_
          try simp only [Act.put, List.setIfInBounds_toArray, List.set_cons_zero, List.set_cons_succ]
          refine wpAnyH_take (i := 19) (oi := { dst := some 122, op := Op.pick (Operand.tmp 113) (Operand.const (Value.bool true)) (Operand.tmp 121), type := 4, pos := "law.go:54", after := #[{ on := 10, ground := Ground.data }, { on := 18, ground := Ground.data }], guard := none }) (v := (.bool false)) rfl (by kernel_rfl) (by kernel_rfl) (by kernel_rfl) (fun _ _ _ h => h) (Or.inl ⟨by rfl, fun W hSw => by go_simp⟩) hH ?_
          try simp only [Act.put, List.setIfInBounds_toArray, List.set_cons_zero, List.set_cons_succ]
          refine wpAnyH_take (i := 20) (oi := { dst := some 123, op := Op.move (Operand.tmp 122), type := 4, pos := "law.go:54", after := #[{ on := 19, ground := Ground.data }, { on := 12, ground := Ground.chain }], guard := none }) (v := (.bool false)) rfl (by kernel_rfl) (by kernel_rfl) (by kernel_rfl) (fun _ _ _ h => h) (Or.inl ⟨by rfl, fun W hSw => by go_simp⟩) hH ?_
          try simp only [Act.put, List.setIfInBounds_toArray, List.set_cons_zero, List.set_cons_succ]
          refine wpAnyH_take (i := 21) (oi := { dst := some 124, op := Op.move (Operand.tmp 5), type := 24, pos := "law.go:54", after := #[{ on := 20, ground := Ground.guard }], guard := some (20, false) }) (v := (.pointer (some ⟨o, 0, none⟩))) rfl (by kernel_rfl) (by kernel_rfl) (by kernel_rfl) (fun _ _ _ h => h) (Or.inl ⟨by rfl, fun W hSw => by go_simp⟩) hH ?_
          try simp only [Act.put, List.setIfInBounds_toArray, List.set_cons_zero, List.set_cons_succ]
          refine wpAnyH_take (i := 23) (oi := { dst := some 126, op := Op.move (Operand.tmp 7), type := 28, pos := "law.go:54", after := #[{ on := 20, ground := Ground.guard }], guard := some (20, false) }) (v := (.pointer (some ⟨r, 0, none⟩))) rfl (by kernel_rfl) (by kernel_rfl) (by kernel_rfl) (fun _ _ _ h => h) (Or.inl ⟨by rfl, fun W hSw => by go_simp⟩) hH ?_
          try simp only [Act.put, List.setIfInBounds_toArray, List.set_cons_zero, List.set_cons_succ]
          refine wpAnyH_ready (rs := [22]) (by kernel_rfl) (by simp) ?_
          refine AllReadyH.cons (o := { dst := some 125, op := Op.call { callee := Callee.value (Operand.func 17), args := #[Operand.tmp 124], argTypes := #[24] }, type := 4, pos := "law.go:54", after := #[{ on := 21, ground := Ground.data }, { on := 20, ground := Ground.chain }, { on := 20, ground := Ground.guard }], guard := some (20, false) }) rfl (fun K hK => ?_) AllReadyH.nil
          go_simp
          refine (hLk.full _ hH).mono ?_
          rintro e w22 ⟨rfl, hk22⟩
          go_wp2_with fail
          have hH1 := hH.trans hk22
          refine hK.out _ _ hH1 (fun _ => ?_)
          replace hH := hH1
          clear hK K hH1
          try simp only [Act.put, List.setIfInBounds_toArray, List.set_cons_zero, List.set_cons_succ]
          refine wpAnyH_ready (rs := [24]) (by kernel_rfl) (by simp) ?_
          refine AllReadyH.cons (o := { dst := some 127, op := Op.call { callee := Callee.value (Operand.func 18), args := #[Operand.tmp 126], argTypes := #[28] }, type := 4, pos := "law.go:54", after := #[{ on := 23, ground := Ground.data }, { on := 22, ground := Ground.chain }, { on := 20, ground := Ground.guard }], guard := some (20, false) }) rfl (fun K hK => ?_) AllReadyH.nil
          go_simp
          refine (hLk.rfull _ hH).mono ?_
          rintro e w24 ⟨rfl, hk24⟩
          go_wp2_with fail
          have hH1 := hH.trans hk24
          refine hK.out _ _ hH1 (fun _ => ?_)
          replace hH := hH1
          clear hK K hH1
          try simp only [Act.put, List.setIfInBounds_toArray, List.set_cons_zero, List.set_cons_succ]
          refine wpAnyH_take (i := 25) (oi := { dst := some 128, op := Op.binOp BinOp.neq 4 (Operand.tmp 125) (Operand.tmp 127) 4, type := 4, pos := "law.go:54", after := #[{ on := 22, ground := Ground.data }, { on := 24, ground := Ground.data }, { on := 20, ground := Ground.guard }], guard := some (20, false) }) (v := (.bool false)) rfl (by kernel_rfl) (by kernel_rfl) (by kernel_rfl) (fun _ _ _ h => h) (Or.inl ⟨by rfl, fun W hSw => by go_simp⟩) hH ?_
          try simp only [Act.put, List.setIfInBounds_toArray, List.set_cons_zero, List.set_cons_succ]
          refine wpAnyH_take (i := 26) (oi := { dst := some 129, op := Op.pick (Operand.tmp 123) (Operand.const (Value.bool true)) (Operand.tmp 128), type := 4, pos := "law.go:54", after := #[{ on := 20, ground := Ground.data }, { on := 25, ground := Ground.data }], guard := none }) (v := (.bool false)) rfl (by kernel_rfl) (by kernel_rfl) (by kernel_rfl) (fun _ _ _ h => h) (Or.inl ⟨by rfl, fun W hSw => by go_simp⟩) hH ?_
          try simp only [Act.put, List.setIfInBounds_toArray, List.set_cons_zero, List.set_cons_succ]
          refine wpAnyH_take (i := 27) (oi := { dst := some 130, op := Op.move (Operand.tmp 129), type := 4, pos := "law.go:54", after := #[{ on := 26, ground := Ground.data }, { on := 24, ground := Ground.chain }], guard := none }) (v := (.bool false)) rfl (by kernel_rfl) (by kernel_rfl) (by kernel_rfl) (fun _ _ _ h => h) (Or.inl ⟨by rfl, fun W hSw => by go_simp⟩) hH ?_
          try simp only [Act.put, List.setIfInBounds_toArray, List.set_cons_zero, List.set_cons_succ]
          refine wpAnyH_take (i := 28) (oi := { dst := some 131, op := Op.move (Operand.tmp 5), type := 24, pos := "law.go:54", after := #[{ on := 27, ground := Ground.guard }], guard := some (27, false) }) (v := (.pointer (some ⟨o, 0, none⟩))) rfl (by kernel_rfl) (by kernel_rfl) (by kernel_rfl) (fun _ _ _ h => h) (Or.inl ⟨by rfl, fun W hSw => by go_simp⟩) hH ?_
          try simp only [Act.put, List.setIfInBounds_toArray, List.set_cons_zero, List.set_cons_succ]
          refine wpAnyH_take (i := 30) (oi := { dst := some 133, op := Op.move (Operand.tmp 7), type := 28, pos := "law.go:54", after := #[{ on := 27, ground := Ground.guard }], guard := some (27, false) }) (v := (.pointer (some ⟨r, 0, none⟩))) rfl (by kernel_rfl) (by kernel_rfl) (by kernel_rfl) (fun _ _ _ h => h) (Or.inl ⟨by rfl, fun W hSw => by go_simp⟩) hH ?_
          try simp only [Act.put, List.setIfInBounds_toArray, List.set_cons_zero, List.set_cons_succ]
          refine wpAnyH_ready (rs := [29]) (by kernel_rfl) (by simp) ?_
          refine AllReadyH.cons (o := { dst := some 132, op := Op.call { callee := Callee.value (Operand.func 19), args := #[Operand.tmp 131], argTypes := #[24] }, type := 35, pos := "law.go:54", after := #[{ on := 28, ground := Ground.data }, { on := 27, ground := Ground.chain }, { on := 27, ground := Ground.guard }], guard := some (27, false) }) rfl (fun K hK => ?_) AllReadyH.nil
          go_simp
          refine (hLk.win _ hH).mono ?_
          rintro e w29 ⟨v29, rfl, hN29, hk29⟩
          go_wp2_with fail
          have hH1 := hH.trans hk29
          refine hK.out _ _ hH1 (fun _ => ?_)
          replace hH := hH1
          clear hK K hH1
          try simp only [Act.put, List.setIfInBounds_toArray, List.set_cons_zero, List.set_cons_succ]
          refine wpAnyH_ready (rs := [31]) (by kernel_rfl) (by simp) ?_
          refine AllReadyH.cons (o := { dst := some 134, op := Op.call { callee := Callee.value (Operand.func 20), args := #[Operand.tmp 133], argTypes := #[28] }, type := 35, pos := "law.go:54", after := #[{ on := 30, ground := Ground.data }, { on := 29, ground := Ground.chain }, { on := 27, ground := Ground.guard }], guard := some (27, false) }) rfl (fun K hK => ?_) AllReadyH.nil
          go_simp
          refine (hLk.nums _ hH).mono ?_
          rintro e w31 ⟨v31, rfl, hN31, hk31⟩
          go_wp2_with fail
          have hH1 := hH.trans hk31
          refine hK.out _ _ hH1 (fun _ => ?_)
          replace hH := hH1
          clear hK K hH1
          try simp only [Act.put, List.setIfInBounds_toArray, List.set_cons_zero, List.set_cons_succ]
          refine wpAnyH_ready (rs := [32]) (by kernel_rfl) (by simp) ?_
          refine AllReadyH.cons (o := { dst := some 135, op := Op.call { callee := Callee.value (Operand.func 9), args := #[Operand.tmp 132, Operand.tmp 134], argTypes := #[35, 35] }, type := 4, pos := "law.go:54", after := #[{ on := 29, ground := Ground.data }, { on := 31, ground := Ground.data }, { on := 31, ground := Ground.chain }, { on := 27, ground := Ground.guard }], guard := some (27, false) }) rfl (fun K hK => ?_) AllReadyH.nil
          go_simp
          refine (Bits.ints_any v29 v31 _ _ hZ2.out (hN29.ints_kept hk31) hN31.ints).mono ?_
          rintro e w32 ⟨rfl, n32, rfl⟩
          go_wp2_with fail
          have hH1 := hH.trans (kept_drewN [] _ n32)
          refine hK.out _ _ hH1 (fun _ => ?_)
          replace hH := hH1
          clear hK K hH1
          try simp only [Act.put, List.setIfInBounds_toArray, List.set_cons_zero, List.set_cons_succ]
          refine wpAnyH_take (i := 33) (oi := { dst := some 136, op := Op.unOp UnOp.not 4 (Operand.tmp 135), type := 4, pos := "law.go:54", after := #[{ on := 32, ground := Ground.data }, { on := 27, ground := Ground.guard }], guard := some (27, false) }) (v := (.bool false)) rfl (by kernel_rfl) (by kernel_rfl) (by kernel_rfl) (fun _ _ _ h => h) (Or.inl ⟨by rfl, fun W hSw => by go_simp⟩) hH ?_
          try simp only [Act.put, List.setIfInBounds_toArray, List.set_cons_zero, List.set_cons_succ]
          refine wpAnyH_take (i := 34) (oi := { dst := some 137, op := Op.pick (Operand.tmp 130) (Operand.const (Value.bool true)) (Operand.tmp 136), type := 4, pos := "law.go:54", after := #[{ on := 27, ground := Ground.data }, { on := 33, ground := Ground.data }], guard := none }) (v := (.bool false)) rfl (by kernel_rfl) (by kernel_rfl) (by kernel_rfl) (fun _ _ _ h => h) (Or.inl ⟨by rfl, fun W hSw => by go_simp⟩) hH ?_
          try simp only [Act.put, List.setIfInBounds_toArray, List.set_cons_zero, List.set_cons_succ]
          refine wpAnyH_done (by kernel_rfl) ?_ _
          have hTE := hTM.kept0 hH
          have hkE := hkM.trans hH
          clear hLk hcx hcy hTM hkM hN29 hN31
          go_wp2_with fail
          go_roundw
          case rel => exact ⟨j + 1, s5, _, _, hj1.out, by go_num, hF5, hTE, hkE⟩
          case measure => simpa [RowKit.intOf] using hm1.out
    · obtain rfl : j = len := by omega
      have q := lives_any wr
      have i1 : ¬ ((j : Int) < (j : Int)) := by omega
      clear hacts
      go_wp2_with (go_at_call 6; refine q.mono ?_; rintro e w2 ⟨rfl, hk2⟩)
      go_ret
      exact ⟨rfl, hk.trans hk2⟩
end Go.Proofs.Ytmibcnefonmmgaa.Outbox
