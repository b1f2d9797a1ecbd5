import Derived.Test.YtnbkbakbjllmcaaOtD
import Derived.Deep.Cut
/-
  The walks of Acked, Push and Body.
-/
namespace Go.Proofs.Ytnbkbakbjllmcaa.Outbox
open Go.RowKit

set_option maxRecDepth 100000 in
set_option maxHeartbeats 1000000 in
/-- Acked, of none that is on its way -/
theorem acked_out {o m A : Nat} {a : Option Addr} {L cap : Nat} (w : World) (h : Raw w o m A a L cap) (h1 : 1 ≤ m) (h2 : m ≤ 64) (hs : A + L ≤ 1000000) (n : Int) (hn : n ≤ (A : Int) ∨ ((A + min L m : Nat) : Int) < n) :
    Calls Try.prog 54 #[.pointer (some ⟨o, 0, none⟩), .int .i64 n] w fun e w' => e = .returned (.slice none 0 0) ∧ Kept [] w w' := by
  obtain ⟨B, hB⟩ : ∃ B, A + min L m = B := ⟨_, rfl⟩
  rw [hB] at hn
  have q := made_any w h h1
  have qw := way_any w h B hB h2 hs
  obtain ⟨c0, c1, c2⟩ := h.three
  have hAB : Hid (A ≤ B) := (by show _ ≤ _; omega)
  clear hB
  by_cases hn1 : n ≤ (A : Int)
  · go_enter Try.func54, Try.ntmps54
    go_wp2_with (first
      | (go_at_call 40; refine q.mono ?_; rintro e w ⟨rfl, rfl⟩))
    go_ret
    exact ⟨rfl, Kept.refl _ _⟩
  · have hn2 : (B : Int) < n := by omega
    go_enter Try.func54, Try.ntmps54
    go_wp2_with (first
      | (go_at_call 40; refine q.mono ?_; rintro e w ⟨rfl, rfl⟩)
      | (go_at_call 49; refine qw.mono ?_; rintro e w1 ⟨rfl, hk1⟩))
    go_ret
    exact ⟨rfl, hk1⟩
set_option maxRecDepth 100000 in
set_option maxHeartbeats 1000000 in
/-- Acked, of one that is on its way -/
theorem acked_in {base o : Nat} {gr : Option Nat} {s : Ob} (w : World) (h : OutAt w base o gr s) (hs : s.n + s.l.length ≤ 1000000) (A n k : Nat) (hA : s.n = A + 1) (hk : n = A + k) (h1 : 1 ≤ k) (h2 : k ≤ s.way) :
    Calls Try.prog 54 #[.pointer (some ⟨o, 0, none⟩), .int .i64 (n : Int)] w fun e w' => ∃ v, e = .returned v ∧ NRow w.heap.size w' v (nums (s.n + s.way) (n + 1 + (s.cut n).way - (s.n + s.way))) ∧ OutAt w' base o gr (s.cut n) ∧ Kept (o :: gr.toList) w w' := by
  obtain ⟨A', a, cap, P, hn, hR, -, -, -, -, -, -⟩ := h.three
  obtain rfl : A' = A := by omega
  have hwl := s.way_le
  have hcl := s.cut_len n
  have hp := h.pos
  have ht := h.top
  have q := made_any w hR hp
  obtain ⟨B, hB⟩ : ∃ B, A' + min s.l.length s.w = B := ⟨_, rfl⟩
  have hBw : B + 1 = s.n + s.way := (by show _ = _; unfold Ob.way; omega)
  have qw := fun W (hW : Raw W o s.w A' a s.l.length cap) => way_any W hW B hB ht (by omega)
  have hk0 : Hid (B + 1 = s.n + s.way) := hBw
  have hR1 := hR
  obtain ⟨c0, c1, c2⟩ := hR.three
  have i1 : ¬ (n : Int) ≤ (A' : Int) := by omega
  have i2 : ¬ (B : Int) < (n : Int) := by omega
  have i3 : (n : Int) - (A' : Int) = (k : Int) := by omega
  have i4 : (n : Int) ≤ 1000000 := by omega
  have i5 : (A' : Int) ≤ 1000000 := by omega
  have qd := fun W (hW : OutAt W base o gr s) => drop_any W hW A' k n hn hk h1 (by omega) hs
  -- behind the drop
  have hcw : (s.cut n).w = s.w := rfl
  have hcn : (s.cut n).n = n + 1 := rfl
  have hrise := s.end_rises (n := n) (by omega)
  obtain ⟨C, hC⟩ : ∃ C, n + min (s.cut n).l.length s.w = C := ⟨_, rfl⟩
  have hCw : C = n + (s.cut n).way := (by unfold Ob.way; rw [hcw]; omega)
  obtain ⟨j, hj⟩ : ∃ j, C = B + j := ⟨C - B, by omega⟩
  have hj' : n + 1 + (s.cut n).way - (s.n + s.way) = j := (by omega)
  rw [hj', ← hBw]
  have hsn : Hid (n + (s.cut n).l.length ≤ 1000000) := (by show _ ≤ _; omega)
  have qn := fun W => numbers_any B C j hj (by have := s.way_le; have := (s.cut n).way_le; omega) W
  have qw2 := fun W (hW : OutAt W base o gr (s.cut n)) => (show Calls Try.prog 49 #[.pointer (some ⟨o, 0, none⟩)] W fun e w' => e = .returned (.int .i64 (C : Int)) ∧ Kept [] W w' from (by
    obtain ⟨A2, a2, cap2, P2, hn2, hR2, -, -, -, -, -, -⟩ := hW.three
    obtain rfl : A2 = n := by omega
    exact way_any W hR2 C hC ht hsn.out))
  have hlow := h.low
  clear hCw hj hj' hC hsn hcw hcn hrise hcl hwl hB hBw hk0 hk h2 hn hs hA h1
  generalize s.cut n = t at *
  have hk0 : Kept (o :: gr.toList) w w := Kept.refl _ _
  go_enter Try.func54, Try.ntmps54
  go_wp2_with (first
    | (go_at_call 40; refine q.mono ?_; rintro e w ⟨rfl, rfl⟩)
    | (go_at_call 49; refine (qw _ hR1).mono ?_; rintro e w1 ⟨rfl, hk1⟩; replace h := h.kept0 hk1; replace hR1 := hR1.kept hk1 (by simp); replace hk0 := hk0.trans (hk1.mono (by simp)); obtain ⟨c0, c1, c2⟩ := hR1.three)
    | (go_at_call 66; refine (qd _ h).mono ?_; rintro e w2 ⟨rfl, hO, hk2⟩; replace hk0 := hk0.trans hk2; clear hR1 h)
    | (go_at_call 49; refine (qw2 _ hO).mono ?_; rintro e w3 ⟨rfl, hk3⟩; replace hO := hO.kept0 hk3; replace hk0 := hk0.trans (hk3.mono (by simp)))
    | (go_at_call 48; refine (qn _).mono ?_; rintro e w4 ⟨v4, rfl, hN, hk4⟩; replace hO := hO.kept0 hk4; replace hN := hN.mono hk0.size; replace hk0 := hk0.trans (hk4.mono (by simp))))
  go_ret
  exact ⟨_, rfl, hN, hO, hk0⟩
set_option maxRecDepth 100000 in
/-- Acked -/
theorem acked_any {base o : Nat} {gr : Option Nat} {s : Ob} (w : World) (h : OutAt w base o gr s) (hs : s.n + s.l.length ≤ 1000000) (n : Int) :
    Calls Try.prog 54 #[.pointer (some ⟨o, 0, none⟩), .int .i64 n] w fun e w' => ∃ v, e = .returned v ∧ NRow w.heap.size w' v (s.ackL n) ∧ OutAt w' base o gr (s.ack n) ∧ Kept (o :: gr.toList) w w' := by
  have hf := h.first
  by_cases on : s.On n
  · obtain ⟨o1, o2⟩ := on
    obtain ⟨N, rfl⟩ : ∃ N : Nat, n = (N : Int) := ⟨n.toNat, by omega⟩
    rw [Ob.ackL_in ⟨o1, o2⟩, Ob.ack_in ⟨o1, o2⟩, Int.toNat_natCast]
    exact acked_in w h hs (s.n - 1) N (N - (s.n - 1)) (by omega) (by omega) (by omega) (by omega)
  · rw [Ob.ackL_out on, Ob.ack_out on]
    obtain ⟨A, a, cap, P, hn, hR, -, -, -, -, -, -⟩ := h.three
    refine (acked_out w hR h.pos h.top (by omega) n ?_).mono ?_
    · unfold Ob.On Ob.way at on
      omega
    · rintro e w' ⟨rfl, hk⟩
      exact ⟨_, rfl, NRow.nil _ _, h.kept0 hk, hk.mono (by simp)⟩
/-- What a Push leaves. -/
theorem fin_push {w w5 w6 w8 : World} {base o m A : Nat} {gr gr6 : Option Nat} {s2 : Ob} {P : List Bv} {bs : List Nat} {sa6 sa4 : Option Addr} {n6 cap6 n4 cap4 : Nat}
    (hf : ∀ (w' : World) (gr' : Option Nat) (sa : Option Addr) (z cap' : Nat) (u : Bv), u.bs = bs → Raw w' o m A sa z cap' → RowAt base w' (.slice sa z cap') (P ++ [u]) gr' 0 → u.At w' → Kept (o :: gr.toList) w w' → OutAt w' base o gr' s2)
    (hk5 : Kept [] w w5) (hk6 : Kept gr.toList w5 w6) (hk8 : Kept [o] w6 w8) (hg6 : ∀ g, gr6 = some g → gr = some g ∨ w5.heap.size ≤ g) (hr6 : RowAt base w6 (.slice sa6 n6 cap6) (P ++ [⟨sa4, n4, cap4, bs⟩]) gr6 0) (hb8 : Raw w8 o m A sa6 n6 cap6) (hB5 : Byt w5 (.slice sa4 n4 cap4) bs)
    (hfoot : NoByt (o :: gr.toList) w) (hno : o ∉ gr.toList) (hne : ∀ g, gr = some g → g ∉ [o]) (hlo : o < w.heap.size ∧ ∀ g, gr = some g → g < w.heap.size) :
    OutAt w8 base o gr6 s2 ∧ Kept (o :: gr.toList) w w8 ∧ (∀ g, gr6 = some g → gr = some g ∨ w.heap.size ≤ g) := by
  have hk : Kept (o :: gr.toList) w w8 := ((hk5.mono (by simp)).trans (hk6.mono (fun k hk => List.mem_cons_of_mem _ hk))).trans (hk8.mono (by simp))
  have hg : ∀ g, gr6 = some g → gr = some g ∨ w.heap.size ≤ g := fun g h => (hg6 g h).imp id (fun h => Nat.le_trans hk5.size h)
  have hno5 : NoByt (o :: gr.toList) w5 := fun k hkm cur hc => by
    have hlt : k < w.heap.size := (by
      rcases List.mem_cons.1 hkm with e | e
      · subst e; exact hlo.1
      · exact hlo.2 k (by simpa using e))
    refine hfoot k hkm cur ?_
    unfold Blk at hc ⊢
    rw [← hk5.block k hlt (by simp)]
    exact hc
  have hk58 : Kept (o :: gr.toList) w5 w8 := (hk6.mono (fun k hk => List.mem_cons_of_mem _ hk)).trans (hk8.mono (by simp))
  refine ⟨hf w8 gr6 sa6 n6 cap6 ⟨sa4, n4, cap4, bs⟩ rfl hb8 (hr6.kept hk8 (fun g h => ?_)) (Byt.kept hB5 hk58 hno5) hk, hk, hg⟩
  rcases hg g h with h | h
  · exact hne g h
  · have := hlo.1
    simp
    omega
set_option maxRecDepth 100000 in
set_option maxHeartbeats 2000000 in
/-- Push -/
theorem push_any {base o : Nat} {gr : Option Nat} {s : Ob} (w : World) (h : OutAt w base o gr s) (hs : s.n + s.l.length ≤ 999999) (v : Value) (hi : Nat) (bs : List Nat) (hv : ByteRow hi w v bs) (hhi : hi ≤ w.heap.size) (hlen : bs.length ≤ 140737488351232) :
    Calls Try.prog 21 #[.pointer (some ⟨o, 0, none⟩), v] w fun e w' => e = .returned (.tuple #[.int .i64 (s.pushN : Int), .bool s.pushB]) ∧ ∃ gr', OutAt w' base o gr' (s.push bs) ∧ Kept (o :: gr.toList) w w' ∧ (∀ g, gr' = some g → gr = some g ∨ w.heap.size ≤ g) := by
  obtain ⟨A, a, cap, P, hn, hR, hr, hl, hat, hPl, hc1, hc2⟩ := h.three
  have hp := h.pos
  have ht := h.top
  have q := made_any w hR hp
  have qf := full_any w hR hp
  have hlt := h.lt
  have hlow := h.low
  have hne : Hid (∀ g, gr = some g → g ∉ [o]) := fun g hg => by have := (hlt.2 g hg).2.2; simpa using this
  have hno : Hid (o ∉ gr.toList) := fun hm => (hlt.2 o (by simpa using hm)).2.2 rfl
  have hlo : Hid (o < w.heap.size ∧ ∀ g, gr = some g → g < w.heap.size) := ⟨hlt.1, fun g hg => (hlt.2 g hg).2.1⟩
  have hbase : Hid (base ≤ w.heap.size) := (by show _ ≤ _; have := hlt.1; omega)
  have hfoot : Hid (NoByt (o :: gr.toList) w) := h.foot
  have hPs : Hid (P.length ≤ 1000000) := (by show _ ≤ _; omega)
  have hPN : Hid (A + (s.l.length + 1) = s.pushN) := (by show _ = _; unfold Ob.pushN; omega)
  have hPB : Hid (s.pushB = !decide (s.w ≤ s.l.length)) := (by
    show _ = _
    unfold Ob.pushB
    by_cases hx : s.w ≤ s.l.length
    · rw [decide_eq_true hx, decide_eq_false (by omega)]
      rfl
    · rw [decide_eq_false hx, decide_eq_true (by omega)]
      rfl)
  have hsz : Hid (A + (s.l.length + 1) ≤ 1000000) := (by show _ ≤ _; omega)
  have hfin : ∀ (w' : World) (gr' : Option Nat) (sa : Option Addr) (z cap' : Nat) (u : Bv), u.bs = bs → Raw w' o s.w A sa z cap' → RowAt base w' (.slice sa z cap') (P ++ [u]) gr' 0 → u.At w' → Kept (o :: gr.toList) w w' → OutAt w' base o gr' (s.push bs) := fun w' gr' sa z cap' u hu h1 h2 h3 h4 => by
    refine ⟨⟨_, P ++ [u], ?_, h2, ?_, ?_⟩, h.first, h.pos, h.top, h.low⟩
    · show Blk w' o 82 #[.int .i64 (s.w : Int), .int .i64 ((s.n - 1 : Nat) : Int), .slice sa z cap']
      rw [show s.n - 1 = A by omega]
      exact h1
    · rw [List.map_append, hl]
      show s.l ++ [u.bs] = s.l ++ [bs]
      rw [hu]
    · intro x hx
      rcases List.mem_append.1 hx with hx | hx
      · exact (hat x hx).kept h4 hfoot.out
      · rw [List.mem_singleton] at hx
        subst hx
        exact h3
  have hv' : Hid (ByteRow hi w v bs) := hv
  have hlen' : Hid (bs.length ≤ 140737488351232) := hlen
  have hhi' : Hid (hi ≤ w.heap.size) := hhi
  generalize s.pushN = PN at *
  generalize s.pushB = PB at *
  generalize s.push bs = s2 at *
  generalize s.l.length = L at *
  generalize s.w = m at *
  have hPl' : Hid (P.length = L) := hPl
  have hf0 : Hid (∀ (w' : World) (gr' : Option Nat) (sa : Option Addr) (z cap' : Nat) (u : Bv), u.bs = bs → Raw w' o m A sa z cap' → RowAt base w' (.slice sa z cap') (P ++ [u]) gr' 0 → u.At w' → Kept (o :: gr.toList) w w' → OutAt w' base o gr' s2) := hfin
  clear hfin hat hl h hlt hlow hv hlen hn hs hPl hhi
  go_enter Try.func21, Try.ntmps21
  go_upto_region 4 with (first
    | (go_at_call 40; refine q.mono ?_; rintro e w ⟨rfl, rfl⟩)
    | (go_at_call 38; refine qf.mono ?_; rintro e w1 ⟨rfl, hk1⟩))
  have hk2 : Kept [] w w1.drew := hk1.trans (kept_drew [] w1)
  have hR2 := hR.kept hk2 (by simp)
  have hr2 := hr.kept hk2 (fun _ _ => by simp)
  have hv2 : Hid (ByteRow hi w1.drew v bs) := hv'.out.kept hhi'.out hk2 (by simp)
  clear hR hr q qf hv'
  have hz1 := hk2.size
  obtain ⟨c0, c1, c2⟩ := hR2.three
  refine wp_region_held_drew (S := fun _ => True) (by kernel_rfl) trivial (fun hP => ?_)
  have hH := hP
  clear hP
  refine wpAnyH_take (i := 0) (oi := ⟨some 13, _, _, _, _, _⟩) (v := (.pointer (some ⟨o, 0, none⟩))) rfl (by kernel_rfl) (by kernel_rfl) (by kernel_rfl) (fun _ _ _ h => h) (Or.inl ⟨by rfl, fun W hSw => by go_simp⟩) hH ?_
  try simp only [Act.put, List.setIfInBounds_toArray, List.set_cons_zero, List.set_cons_succ]
  refine wpAnyH_take (i := 1) (oi := ⟨some 14, _, _, _, _, _⟩) (v := (.pointer (some ⟨o, 0, none⟩))) rfl (by kernel_rfl) (by kernel_rfl) (by kernel_rfl) (fun _ _ _ h => h) (Or.inl ⟨by rfl, fun W hSw => by go_simp⟩) hH ?_
  try simp only [Act.put, List.setIfInBounds_toArray, List.set_cons_zero, List.set_cons_succ]
  refine wpAnyH_take (i := 2) (oi := ⟨some 15, _, _, _, _, _⟩) (v := (.pointer (some ⟨o, 0, none⟩))) rfl (by kernel_rfl) (by kernel_rfl) (by kernel_rfl) (fun _ _ _ h => h) (Or.inl ⟨by rfl, fun W hSw => by go_simp⟩) hH ?_
  try simp only [Act.put, List.setIfInBounds_toArray, List.set_cons_zero, List.set_cons_succ]
  refine wpAnyH_take (i := 3) (oi := ⟨some 16, _, _, _, _, _⟩) (v := (.pointer (some ⟨o, 2, none⟩))) rfl (by kernel_rfl) (by kernel_rfl) (by kernel_rfl) (fun _ _ _ h => h) (Or.inl ⟨by rfl, fun W hSw => by go_simp⟩) hH ?_
  try simp only [Act.put, List.setIfInBounds_toArray, List.set_cons_zero, List.set_cons_succ]
  refine wpAnyH_take (i := 5) (oi := ⟨some 18, _, _, _, _, _⟩) (v := v) rfl (by kernel_rfl) (by kernel_rfl) (by kernel_rfl) (fun _ _ _ h => h) (Or.inl ⟨by rfl, fun W hSw => by go_simp⟩) hH ?_
  try simp only [Act.put, List.setIfInBounds_toArray, List.set_cons_zero, List.set_cons_succ]
  refine wpAnyH_ready (rs := [4, 6]) (by kernel_rfl) (by simp) ?_
  refine AllReadyH.cons (o := ⟨some 17, _, _, _, _, _⟩) rfl (fun K hK => ?_) (AllReadyH.cons (o := ⟨some 19, _, _, _, _, _⟩) rfl (fun K hK => ?_) AllReadyH.nil)
  · go_simp
    refine hK.out _ _ trivial (fun _ => ?_)
    clear hK K
    try simp only [Act.put, List.setIfInBounds_toArray, List.set_cons_zero, List.set_cons_succ]
    refine wpAnyH_ready (rs := [6]) (by kernel_rfl) (by simp) ?_
    refine AllReadyH.cons (o := ⟨some 19, _, _, _, _, _⟩) rfl (fun K hK => ?_) AllReadyH.nil
    go_simp
    refine (clone_any v hi bs _ hv2.out (Nat.le_trans hhi'.out hz1) hlen'.out).mono ?_
    rintro e w4 ⟨sa4, n4, cap4, rfl, hB4, hk4⟩
    go_wp2_with fail
    have hR4 := hR2.kept hk4 (by simp)
    have hr4 := hr2.kept hk4 (fun _ _ => by simp)
    obtain ⟨d0, d1, d2⟩ := hR4.three
    refine hK.out _ _ trivial (fun _ => ?_)
    clear hK K
    try simp only [Act.put, List.setIfInBounds_toArray, List.set_cons_zero, List.set_cons_succ]
    refine wpAnyH_ready (rs := [7]) (by kernel_rfl) (by simp) ?_
    refine AllReadyH.cons (o := ⟨some 20, _, _, _, _, _⟩) rfl (fun K hK => ?_) AllReadyH.nil
    go_simp
    have hk5 := kept_alloc [] w4 (.cells #[.slice sa4 n4 cap4] 34)
    have hR5 := hR4.kept hk5 (by simp)
    have hr5 := hr4.kept hk5 (fun _ _ => by simp)
    have hB5 := Byt.kept hB4 hk5 (noByt_nil _)
    have hc5 : (w4.alloc (.cells #[.slice sa4 n4 cap4] 34)).cell? ⟨w4.heap.size, 0, none⟩ = some (.slice sa4 n4 cap4) := cell_one_new _ _ _ 0 _ rfl
    obtain ⟨e0, e1, e2⟩ := hR5.three
    refine hK.out _ _ trivial (fun _ => ?_)
    clear hK K
    try simp only [Act.put, List.setIfInBounds_toArray, List.set_cons_zero, List.set_cons_succ]
    have hk05 := hk2.trans (hk4.trans hk5)
    clear hk4 hk5 hR4 hr4 hB4 hR2 hr2 hk2 c0 c1 c2 d0 d1 d2
    refine wpAnyH_ready (rs := [8]) (by kernel_rfl) (by simp) ?_
    refine AllReadyH.cons (o := ⟨some 21, _, _, _, _, _⟩) rfl (fun K hK => ?_) AllReadyH.nil
    refine step_append_row rfl (.tmp 17) (.tmp 20) rfl base (.slice a L cap) P gr ⟨sa4, n4, cap4, bs⟩ w4.heap.size (by simp [Act.eval]) (by simp [Act.eval]) hr5 hc5 hPs.out (Nat.le_trans hbase.out hk05.size) ?_
    intro sa6 n6 cap6 w6 gr6 hr6 hk6 hg6
    have hR6 := hR5.kept hk6 hno.out
    have f2 := Blk.frozen hR6 2
    obtain ⟨e0, e1, e2⟩ := hR6.three
    refine hK.out _ _ trivial (fun _ => ?_)
    clear hK K
    try simp only [Act.put, List.setIfInBounds_toArray, List.set_cons_zero, List.set_cons_succ]
    refine wpAnyH_take (i := 9) (oi := ⟨some 22, _, _, _, _, _⟩) (v := (.pointer (some ⟨o, 0, none⟩))) rfl (by kernel_rfl) (by kernel_rfl) (by kernel_rfl) (fun _ _ _ h => h) (Or.inl ⟨by rfl, fun W hSw => by go_simp⟩) hH ?_
    try simp only [Act.put, List.setIfInBounds_toArray, List.set_cons_zero, List.set_cons_succ]
    refine wpAnyH_take (i := 10) (oi := ⟨some 23, _, _, _, _, _⟩) (v := (.pointer (some ⟨o, 2, none⟩))) rfl (by kernel_rfl) (by kernel_rfl) (by kernel_rfl) (fun _ _ _ h => h) (Or.inl ⟨by rfl, fun W hSw => by go_simp⟩) hH ?_
    try simp only [Act.put, List.setIfInBounds_toArray, List.set_cons_zero, List.set_cons_succ]
    refine wpAnyH_ready (rs := [11]) (by kernel_rfl) (by simp) ?_
    refine AllReadyH.cons (o := ⟨none, _, _, _, _, _⟩) rfl (fun K hK => ?_) AllReadyH.nil
    go_simp
    refine hK.out _ _ trivial (fun _ => ?_)
    clear hK K
    try simp only [Act.put, List.setIfInBounds_toArray, List.set_cons_zero, List.set_cons_succ]
    refine wpAnyH_done (by kernel_rfl) ?_ _
    have hb8 : Raw (w6.setCell ⟨o, 2, none⟩ (.slice sa6 n6 cap6)) o m A sa6 n6 cap6 := Blk.set hR6 2 _
    have hk8 : Kept [o] w6 (w6.setCell ⟨o, 2, none⟩ (.slice sa6 n6 cap6)) := kept_set (by simp) _ _ _
    obtain ⟨w8, hw8⟩ : ∃ w8, w6.setCell ⟨o, 2, none⟩ (.slice sa6 n6 cap6) = w8 := ⟨_, rfl⟩
    rw [hw8] at hb8 hk8 ⊢
    obtain ⟨s6, z6, e6, _⟩ := hr6.open
    have hn6 : Hid (n6 = L + 1) := (by show _ = _; injection e6 with _ e7 _; rw [e7, List.length_append, hPl'.out]; rfl)
    have hfin := fin_push hf0.out hk05 hk6 hk8 hg6 hr6 hb8 hB5 hfoot.out hno.out hne.out hlo.out
    have hs8 : A + n6 ≤ 1000000 := (by rw [hn6.out]; exact hsz.out)
    have hP8 : A + n6 = PN := (by rw [hn6.out]; exact hPN.out)
    clear hw8 f2 e0 e1 e2 hr6 hR6 hr5 hR5 hB5 hc5 e6 hk6 hk8 hg6
    go_wp2_with (first
      | (go_at_call 42; refine (last_any _ hb8 PN hP8 hs8).mono ?_; rintro e w9 ⟨rfl, hk9⟩))
    go_ret2
    rw [hPB.out]
    exact ⟨rfl, gr6, hfin.1.kept0 hk9, hfin.2.1.trans (hk9.mono (by simp)), hfin.2.2⟩
  · go_simp
    refine (clone_any v hi bs _ hv2.out (Nat.le_trans hhi'.out hz1) hlen'.out).mono ?_
    rintro e w4 ⟨sa4, n4, cap4, rfl, hB4, hk4⟩
    go_wp2_with fail
    have hR4 := hR2.kept hk4 (by simp)
    have hr4 := hr2.kept hk4 (fun _ _ => by simp)
    obtain ⟨d0, d1, d2⟩ := hR4.three
    refine hK.out _ _ trivial (fun _ => ?_)
    clear hK K
    try simp only [Act.put, List.setIfInBounds_toArray, List.set_cons_zero, List.set_cons_succ]
    refine wpAnyH_ready (rs := [4, 7]) (by kernel_rfl) (by simp) ?_
    refine AllReadyH.cons (o := ⟨some 17, _, _, _, _, _⟩) rfl (fun K hK => ?_) (AllReadyH.cons (o := ⟨some 20, _, _, _, _, _⟩) rfl (fun K hK => ?_) AllReadyH.nil)
    · go_simp
      refine hK.out _ _ trivial (fun _ => ?_)
      clear hK K
      try simp only [Act.put, List.setIfInBounds_toArray, List.set_cons_zero, List.set_cons_succ]
      refine wpAnyH_ready (rs := [7]) (by kernel_rfl) (by simp) ?_
      refine AllReadyH.cons (o := ⟨some 20, _, _, _, _, _⟩) rfl (fun K hK => ?_) AllReadyH.nil
      go_simp
      have hk5 := kept_alloc [] w4 (.cells #[.slice sa4 n4 cap4] 34)
      have hR5 := hR4.kept hk5 (by simp)
      have hr5 := hr4.kept hk5 (fun _ _ => by simp)
      have hB5 := Byt.kept hB4 hk5 (noByt_nil _)
      have hc5 : (w4.alloc (.cells #[.slice sa4 n4 cap4] 34)).cell? ⟨w4.heap.size, 0, none⟩ = some (.slice sa4 n4 cap4) := cell_one_new _ _ _ 0 _ rfl
      obtain ⟨e0, e1, e2⟩ := hR5.three
      refine hK.out _ _ trivial (fun _ => ?_)
      clear hK K
      try simp only [Act.put, List.setIfInBounds_toArray, List.set_cons_zero, List.set_cons_succ]
      have hk05 := hk2.trans (hk4.trans hk5)
      clear hk4 hk5 hR4 hr4 hB4 hR2 hr2 hk2 c0 c1 c2 d0 d1 d2
      refine wpAnyH_ready (rs := [8]) (by kernel_rfl) (by simp) ?_
      refine AllReadyH.cons (o := ⟨some 21, _, _, _, _, _⟩) rfl (fun K hK => ?_) AllReadyH.nil
      refine step_append_row rfl (.tmp 17) (.tmp 20) rfl base (.slice a L cap) P gr ⟨sa4, n4, cap4, bs⟩ w4.heap.size (by simp [Act.eval]) (by simp [Act.eval]) hr5 hc5 hPs.out (Nat.le_trans hbase.out hk05.size) ?_
      intro sa6 n6 cap6 w6 gr6 hr6 hk6 hg6
      have hR6 := hR5.kept hk6 hno.out
      have f2 := Blk.frozen hR6 2
      obtain ⟨e0, e1, e2⟩ := hR6.three
      refine hK.out _ _ trivial (fun _ => ?_)
      clear hK K
      try simp only [Act.put, List.setIfInBounds_toArray, List.set_cons_zero, List.set_cons_succ]
      refine wpAnyH_take (i := 9) (oi := ⟨some 22, _, _, _, _, _⟩) (v := (.pointer (some ⟨o, 0, none⟩))) rfl (by kernel_rfl) (by kernel_rfl) (by kernel_rfl) (fun _ _ _ h => h) (Or.inl ⟨by rfl, fun W hSw => by go_simp⟩) hH ?_
      try simp only [Act.put, List.setIfInBounds_toArray, List.set_cons_zero, List.set_cons_succ]
      refine wpAnyH_take (i := 10) (oi := ⟨some 23, _, _, _, _, _⟩) (v := (.pointer (some ⟨o, 2, none⟩))) rfl (by kernel_rfl) (by kernel_rfl) (by kernel_rfl) (fun _ _ _ h => h) (Or.inl ⟨by rfl, fun W hSw => by go_simp⟩) hH ?_
      try simp only [Act.put, List.setIfInBounds_toArray, List.set_cons_zero, List.set_cons_succ]
      refine wpAnyH_ready (rs := [11]) (by kernel_rfl) (by simp) ?_
      refine AllReadyH.cons (o := ⟨none, _, _, _, _, _⟩) rfl (fun K hK => ?_) AllReadyH.nil
      go_simp
      refine hK.out _ _ trivial (fun _ => ?_)
      clear hK K
      try simp only [Act.put, List.setIfInBounds_toArray, List.set_cons_zero, List.set_cons_succ]
      refine wpAnyH_done (by kernel_rfl) ?_ _
      have hb8 : Raw (w6.setCell ⟨o, 2, none⟩ (.slice sa6 n6 cap6)) o m A sa6 n6 cap6 := Blk.set hR6 2 _
      have hk8 : Kept [o] w6 (w6.setCell ⟨o, 2, none⟩ (.slice sa6 n6 cap6)) := kept_set (by simp) _ _ _
      obtain ⟨w8, hw8⟩ : ∃ w8, w6.setCell ⟨o, 2, none⟩ (.slice sa6 n6 cap6) = w8 := ⟨_, rfl⟩
      rw [hw8] at hb8 hk8 ⊢
      obtain ⟨s6, z6, e6, _⟩ := hr6.open
      have hn6 : Hid (n6 = L + 1) := (by show _ = _; injection e6 with _ e7 _; rw [e7, List.length_append, hPl'.out]; rfl)
      have hfin := fin_push hf0.out hk05 hk6 hk8 hg6 hr6 hb8 hB5 hfoot.out hno.out hne.out hlo.out
      have hs8 : A + n6 ≤ 1000000 := (by rw [hn6.out]; exact hsz.out)
      have hP8 : A + n6 = PN := (by rw [hn6.out]; exact hPN.out)
      clear hw8 f2 e0 e1 e2 hr6 hR6 hr5 hR5 hB5 hc5 e6 hk6 hk8 hg6
      go_wp2_with (first
        | (go_at_call 42; refine (last_any _ hb8 PN hP8 hs8).mono ?_; rintro e w9 ⟨rfl, hk9⟩))
      go_ret2
      rw [hPB.out]
      exact ⟨rfl, gr6, hfin.1.kept0 hk9, hfin.2.1.trans (hk9.mono (by simp)), hfin.2.2⟩
    · go_simp
      have hk5 := kept_alloc [] w4 (.cells #[.slice sa4 n4 cap4] 34)
      have hR5 := hR4.kept hk5 (by simp)
      have hr5 := hr4.kept hk5 (fun _ _ => by simp)
      have hB5 := Byt.kept hB4 hk5 (noByt_nil _)
      have hc5 : (w4.alloc (.cells #[.slice sa4 n4 cap4] 34)).cell? ⟨w4.heap.size, 0, none⟩ = some (.slice sa4 n4 cap4) := cell_one_new _ _ _ 0 _ rfl
      obtain ⟨e0, e1, e2⟩ := hR5.three
      refine hK.out _ _ trivial (fun _ => ?_)
      clear hK K
      try simp only [Act.put, List.setIfInBounds_toArray, List.set_cons_zero, List.set_cons_succ]
      refine wpAnyH_ready (rs := [4]) (by kernel_rfl) (by simp) ?_
      refine AllReadyH.cons (o := ⟨some 17, _, _, _, _, _⟩) rfl (fun K hK => ?_) AllReadyH.nil
      go_simp
      refine hK.out _ _ trivial (fun _ => ?_)
      clear hK K
      try simp only [Act.put, List.setIfInBounds_toArray, List.set_cons_zero, List.set_cons_succ]
      have hk05 := hk2.trans (hk4.trans hk5)
      clear hk4 hk5 hR4 hr4 hB4 hR2 hr2 hk2 c0 c1 c2 d0 d1 d2
      refine wpAnyH_ready (rs := [8]) (by kernel_rfl) (by simp) ?_
      refine AllReadyH.cons (o := ⟨some 21, _, _, _, _, _⟩) rfl (fun K hK => ?_) AllReadyH.nil
      refine step_append_row rfl (.tmp 17) (.tmp 20) rfl base (.slice a L cap) P gr ⟨sa4, n4, cap4, bs⟩ w4.heap.size (by simp [Act.eval]) (by simp [Act.eval]) hr5 hc5 hPs.out (Nat.le_trans hbase.out hk05.size) ?_
      intro sa6 n6 cap6 w6 gr6 hr6 hk6 hg6
      have hR6 := hR5.kept hk6 hno.out
      have f2 := Blk.frozen hR6 2
      obtain ⟨e0, e1, e2⟩ := hR6.three
      refine hK.out _ _ trivial (fun _ => ?_)
      clear hK K
      try simp only [Act.put, List.setIfInBounds_toArray, List.set_cons_zero, List.set_cons_succ]
      refine wpAnyH_take (i := 9) (oi := ⟨some 22, _, _, _, _, _⟩) (v := (.pointer (some ⟨o, 0, none⟩))) rfl (by kernel_rfl) (by kernel_rfl) (by kernel_rfl) (fun _ _ _ h => h) (Or.inl ⟨by rfl, fun W hSw => by go_simp⟩) hH ?_
      try simp only [Act.put, List.setIfInBounds_toArray, List.set_cons_zero, List.set_cons_succ]
      refine wpAnyH_take (i := 10) (oi := ⟨some 23, _, _, _, _, _⟩) (v := (.pointer (some ⟨o, 2, none⟩))) rfl (by kernel_rfl) (by kernel_rfl) (by kernel_rfl) (fun _ _ _ h => h) (Or.inl ⟨by rfl, fun W hSw => by go_simp⟩) hH ?_
      try simp only [Act.put, List.setIfInBounds_toArray, List.set_cons_zero, List.set_cons_succ]
      refine wpAnyH_ready (rs := [11]) (by kernel_rfl) (by simp) ?_
      refine AllReadyH.cons (o := ⟨none, _, _, _, _, _⟩) rfl (fun K hK => ?_) AllReadyH.nil
      go_simp
      refine hK.out _ _ trivial (fun _ => ?_)
      clear hK K
      try simp only [Act.put, List.setIfInBounds_toArray, List.set_cons_zero, List.set_cons_succ]
      refine wpAnyH_done (by kernel_rfl) ?_ _
      have hb8 : Raw (w6.setCell ⟨o, 2, none⟩ (.slice sa6 n6 cap6)) o m A sa6 n6 cap6 := Blk.set hR6 2 _
      have hk8 : Kept [o] w6 (w6.setCell ⟨o, 2, none⟩ (.slice sa6 n6 cap6)) := kept_set (by simp) _ _ _
      obtain ⟨w8, hw8⟩ : ∃ w8, w6.setCell ⟨o, 2, none⟩ (.slice sa6 n6 cap6) = w8 := ⟨_, rfl⟩
      rw [hw8] at hb8 hk8 ⊢
      obtain ⟨s6, z6, e6, _⟩ := hr6.open
      have hn6 : Hid (n6 = L + 1) := (by show _ = _; injection e6 with _ e7 _; rw [e7, List.length_append, hPl'.out]; rfl)
      have hfin := fin_push hf0.out hk05 hk6 hk8 hg6 hr6 hb8 hB5 hfoot.out hno.out hne.out hlo.out
      have hs8 : A + n6 ≤ 1000000 := (by rw [hn6.out]; exact hsz.out)
      have hP8 : A + n6 = PN := (by rw [hn6.out]; exact hPN.out)
      clear hw8 f2 e0 e1 e2 hr6 hR6 hr5 hR5 hB5 hc5 e6 hk6 hk8 hg6
      go_wp2_with (first
        | (go_at_call 42; refine (last_any _ hb8 PN hP8 hs8).mono ?_; rintro e w9 ⟨rfl, hk9⟩))
      go_ret2
      rw [hPB.out]
      exact ⟨rfl, gr6, hfin.1.kept0 hk9, hfin.2.1.trans (hk9.mono (by simp)), hfin.2.2⟩
end Go.Proofs.Ytnbkbakbjllmcaa.Outbox

