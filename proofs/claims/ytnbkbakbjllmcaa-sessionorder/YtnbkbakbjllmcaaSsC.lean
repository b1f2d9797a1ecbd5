/-
  The walks of the program's session: Send, Tick.
-/
import Derived.Test.YtnbkbakbjllmcaaSsB
namespace Go.Proofs.Ytnbkbakbjllmcaa.Session
open Go.RowKit
open Outbox (Ob nums OutAt Bv Byt NoByt RowAt NRow)
open Inbox (InAt)
open Keep (KpAt)
open Wire (Ps Pv bytesL parseM parseE)

/-- One number, laid just now. -/
theorem one_num (W : World) (n : Nat) : NRow W.heap.size (W.alloc (.cells #[.int .i64 (n : Int)] 3)) (.slice (some ⟨W.heap.size, 0, none⟩) 1 1) [n] := World.ownsRow_lit W _ 1 (Nat.le_refl _) (by decide) rfl
theorem one_nought (W : World) : NRow W.heap.size (W.alloc (.cells #[.int .i64 0] 3)) (.slice (some ⟨W.heap.size, 0, none⟩) 1 1) [0] := one_num W 0
/-- A session whose outbox was turned. -/
theorem SsAt.outbox {base : Nat} {F : Foot} {s : Ss} {A B : World} (h : SsAt A base F s) (r : Option Nat) (o : Ob) (hO : OutAt B base F.g r o) (hk : Kept (F.g :: F.r.toList) A B) (hw : o.w = s.ob.w) : SsAt B base ⟨F.o, F.g, F.i, F.k, r⟩ { s with ob := o } := by
  obtain ⟨n1, n2, n3, n4, n5, n6, n7⟩ := h.ne
  have hno : ∀ k, k ≠ F.g → (∀ g, F.r = some g → g ≠ k) → k ∉ F.g :: F.r.toList := fun k h1 h2 hm => by
    rcases List.mem_cons.1 hm with e | e
    · exact h1 e
    · exact h2 k (by simpa using e) rfl
  have hb := h.blk.kept hk (hno _ n1 (fun g hg => (n7 g hg).1))
  rw [← hw] at hb
  exact ⟨hb, hO, h.inn.kept hk (hno _ n4.symm (fun g hg => (n7 g hg).2.2.1)), h.kp.kept hk (hno _ n5.symm (fun g hg => (n7 g hg).2.2.2)), h.my1, h.my2, h.peer, h.lo, h.li, h.lk⟩
/-- What a call of a session leaves. -/
structure After (w : World) (base : Nat) (F F' : Foot) (s' : Ss) (w' : World) : Prop where
  at' : SsAt w' base F' s'
  same : F'.o = F.o
  kept : Kept F.l w w'
  new : ∀ k ∈ F'.l, k ∈ F.l ∨ w.heap.size ≤ k
set_option maxRecDepth 100000 in
set_option maxHeartbeats 1000000 in
/-- Send -/
theorem send_any {base : Nat} {F : Foot} {s : Ss} (w : World) (h : SsAt w base F s) (hs : s.ob.n + s.ob.l.length ≤ 999999) (hb : ∀ b ∈ s.ob.l, b.length ≤ 1000) (sa : Option Addr) (len cap : Nat) (hi : Nat) (bs : List Nat) (hv : Outbox.ByteRow hi w (.slice sa len cap) bs) (hhi : hi ≤ w.heap.size) (hlen : bs.length ≤ 1000) :
    Calls Try.prog 8 #[.pointer (some ⟨F.o, 0, none⟩), .slice sa len cap] w fun e w' => ∃ v P F', e = .returned v ∧ Told w.heap.size w' v P (s.sendL bs) ∧ After w base F F' (s.sent bs) w' := by
  obtain ⟨c0, c1, c2, c3, c4, c5⟩ := h.six
  obtain rfl : len = bs.length := by
    obtain ⟨_, _, _, el, _⟩ := id hv
    injection el
  have q := peer_any w h
  have fin : ∀ w', s.may bs = false → w' = w → ∃ v P F', Ending.returned (.slice none 0 0) = .returned v ∧ Told w.heap.size w' v P (s.sendL bs) ∧ After w base F F' (s.sent bs) w' := fun w' hm e => by
    subst e
    refine ⟨_, [], F, rfl, ?_, ?_, rfl, Kept.refl _ _, fun k hk => .inl hk⟩
    · unfold Ss.sendL
      rw [hm]
      exact told_nil _ _
    · unfold Ss.sent
      rw [hm]
      exact h
  by_cases hm : s.may bs = true
  · have hm' := hm
    unfold Ss.may at hm'
    rw [Bool.and_eq_true, Bool.and_eq_true] at hm'
    obtain ⟨m1, m2, m3⟩ := hm'
    have m1 := of_decide_eq_true m1
    have m2 := of_decide_eq_true m2
    have m3 := of_decide_eq_true m3
    have i1 : ((s.peer : Int) == 0) = false := by simp; omega
    have i2 : ¬ ((bs.length : Int) < 1) := by omega
    have i3 : ¬ ((200 : Int) < (bs.length : Int)) := by omega
    have qp := Outbox.push_any w h.out hs _ hi bs hv hhi (by omega)
    have hsent : Hid (s.sent bs = { s with ob := s.ob.push bs }) := by
      show _ = _
      unfold Ss.sent
      rw [if_pos hm]
    have hsl : Hid (s.sendL bs = if s.ob.pushB then (s.sent bs).msgs [s.ob.pushN] else []) := by
      show _ = _
      unfold Ss.sendL
      rw [hm]
      rfl
    have hS : ∀ gr' w1, OutAt w1 base F.g gr' (s.ob.push bs) → Kept (F.g :: F.r.toList) w w1 → SsAt w1 base ⟨F.o, F.g, F.i, F.k, gr'⟩ (s.sent bs) := fun gr' w1 hO hk => by
      rw [hsent.out]
      exact h.outbox gr' (s.ob.push bs) hO hk rfl
    have aft : ∀ gr' w1, OutAt w1 base F.g gr' (s.ob.push bs) → Kept (F.g :: F.r.toList) w w1 → (∀ g, gr' = some g → F.r = some g ∨ w.heap.size ≤ g) → ∀ w', Kept [] w1 w' → After w base F ⟨F.o, F.g, F.i, F.k, gr'⟩ (s.sent bs) w' := fun gr' w1 hO hk hg w' hk' => by
      refine ⟨(hS gr' w1 hO hk).kept0 hk', rfl, (hk.mono (fun k hm => ?_)).trans (hk'.mono (by simp)), fun k hm => ?_⟩
      · simp only [Foot.l]
        rcases List.mem_cons.1 hm with e | e
        · simp [e]
        · simp at e
          simp [e]
      · simp only [Foot.l, List.mem_cons] at hm ⊢
        rcases hm with e | e | e | e | e
        · simp [e]
        · simp [e]
        · simp [e]
        · simp [e]
        · rcases hg k (by simpa using e) with e | e
          · simp [e]
          · exact .inr e
    by_cases hB : s.ob.pushB = true
    · rw [hB] at qp
      have hs2 : (s.sent bs).ob.n + (s.sent bs).ob.l.length ≤ 1000000 := by
        rw [hsent.out]
        have := s.ob.push_len bs
        have e : (s.ob.push bs).n = s.ob.n := rfl
        show (s.ob.push bs).n + (s.ob.push bs).l.length ≤ 1000000
        omega
      have hb2 : ∀ b ∈ (s.sent bs).ob.l, b.length ≤ 1000 := fun b hmm => by
        rw [hsent.out] at hmm
        rcases List.mem_append.1 (show b ∈ s.ob.l ++ [bs] from hmm) with e | e
        · exact hb b e
        · rw [List.mem_singleton] at e
          subst e
          exact hlen
      replace hsl : Hid (s.sendL bs = [s.ob.pushN].map fun n => bytesL ((s.sent bs).msg n)) := by
        show _ = _
        rw [hsl.out, hB]
        rfl
      clear hsent
      generalize s.ob.pushN = N at *
      generalize s.sendL bs = SL at *
      generalize s.sent bs = t at *
      clear fin hm hB hs hb
      go_enter Try.func8, Try.ntmps8
      go_wp2_with (first
        | (go_at_call 7; refine q.mono ?_; rintro e w ⟨rfl, rfl⟩)
        | (go_at_call 21; refine qp.mono ?_; rintro e w1 ⟨rfl, gr', hO1, hk1, hg1⟩; have hS1 := hS gr' w1 hO1 hk1; obtain ⟨d0, d1, d2, d3, d4, d5⟩ := hS1.six; have kA := kept_alloc [] w1 (.cells #[.int .i64 (N : Int)] 3); have qt := tell_msg ⟨F.o, F.g, F.i, F.k, gr'⟩ t base hS1.my2 hS1.peer _ (hS1.kept0 kA).out (hS1.kept0 kA).inn hs2 hb2 _ _ _ _ [N] (one_num w1 N) (by simp))
        | (go_at_call 22; refine qt.mono ?_; rintro e w3 ⟨v3, P3, rfl, hT3, hk3⟩))
      go_ret
      have hT4 := hT3.lower (Nat.le_trans hk1.size kA.size)
      rw [← hsl.out] at hT4
      exact ⟨_, P3, _, rfl, hT4, aft gr' w1 hO1 hk1 hg1 w3 (kA.trans hk3)⟩
    · have hB' : s.ob.pushB = false := by simpa using hB
      rw [hB'] at qp
      replace hsl : Hid (s.sendL bs = []) := by
        show _ = _
        rw [hsl.out, hB']
        rfl
      clear fin hm hB hs hb
      go_enter Try.func8, Try.ntmps8
      go_wp2_with (first
        | (go_at_call 7; refine q.mono ?_; rintro e w ⟨rfl, rfl⟩)
        | (go_at_call 21; refine qp.mono ?_; rintro e w1 ⟨rfl, gr', hO1, hk1, hg1⟩))
      go_ret
      rw [hsl.out]
      exact ⟨_, [], _, rfl, told_nil _ _, aft gr' w1 hO1 hk1 hg1 w1 (Kept.refl _ _)⟩
  · have hm' : s.may bs = false := by simpa using hm
    by_cases m1 : s.peer = 0
    · have i1 : ((s.peer : Int) == 0) = true := by simp; omega
      go_enter Try.func8, Try.ntmps8
      go_wp2_with (go_at_call 7; refine q.mono ?_; rintro e w ⟨rfl, rfl⟩)
      go_ret
      exact fin _ hm' rfl
    · have i1 : ((s.peer : Int) == 0) = false := by simp; omega
      by_cases m2 : (bs.length : Int) < 1
      · go_enter Try.func8, Try.ntmps8
        go_wp2_with (go_at_call 7; refine q.mono ?_; rintro e w ⟨rfl, rfl⟩)
        go_ret
        exact fin _ hm' rfl
      · have i3 : (200 : Int) < (bs.length : Int) := by
          simp [Ss.may, m1] at hm'
          omega
        go_enter Try.func8, Try.ntmps8
        go_wp2_with (go_at_call 7; refine q.mono ?_; rintro e w ⟨rfl, rfl⟩)
        go_ret
        exact fin _ hm' rfl
/-- A session whose keep was turned. -/
theorem SsAt.keep {base : Nat} {F : Foot} {s : Ss} {A B : World} (h : SsAt A base F s) (a : Nat) (hK : KpAt B F.k s.pat a) (hk : Kept [F.k] A B) : SsAt B base F { s with age := a } := by
  obtain ⟨n1, n2, n3, n4, n5, n6, n7⟩ := h.ne
  exact ⟨h.blk.kept hk (by simpa using n3), h.out.kept hk (by simpa using n5) (fun g hg => by simpa using (n7 g hg).2.2.2) (NoByt.cons (Outbox.noByt_nil _) h.kp.1 (by decide)), h.inn.kept hk (by simpa using n6), hK, h.my1, h.my2, h.peer, h.lo, h.li, h.lk⟩
theorem SsAt.inbox {base : Nat} {F : Foot} {s : Ss} {A B : World} (h : SsAt A base F s) (L : Nat) (hI : InAt B F.i L) (hk : Kept [F.i] A B) : SsAt B base F { s with last := L } := by
  obtain ⟨n1, n2, n3, n4, n5, n6, n7⟩ := h.ne
  exact ⟨h.blk.kept hk (by simpa using n2), h.out.kept hk (by simpa using n4) (fun g hg => by simpa using (n7 g hg).2.2.1) (NoByt.cons (Outbox.noByt_nil _) h.inn.1 (by decide)), hI, h.kp.kept hk (by simpa using n6.symm), h.my1, h.my2, h.peer, h.lo, h.li, h.lk⟩
set_option maxRecDepth 100000 in
set_option maxHeartbeats 1000000 in
/-- Tick -/
theorem tick_any {base : Nat} {F : Foot} {s : Ss} (w : World) (h : SsAt w base F s) (hs : s.ob.n + s.ob.l.length ≤ 1000000) (hb : ∀ b ∈ s.ob.l, b.length ≤ 1000) :
    Calls Try.prog 9 #[.pointer (some ⟨F.o, 0, none⟩)] w fun e w' => ∃ v P, e = .returned v ∧ Told w.heap.size w' v P s.tickL ∧ After w base F F s.ticked w' := by
  obtain ⟨c0, c1, c2, c3, c4, c5⟩ := h.six
  have q := made_any w h
  have qk := Keep.tick_any w h.kp
  have aft : ∀ w1 w', KpAt w1 F.k s.pat (Keep.tickN s.pat s.age) → Kept [F.k] w w1 → Kept [] w1 w' → After w base F F s.ticked w' := fun w1 w' hK hk hk' =>
    ⟨(h.keep _ hK hk).kept0 hk', rfl, (hk.mono (by simp [Foot.l])).trans (hk'.mono (by simp)), fun k hm => .inl hm⟩
  have hS : ∀ w1, KpAt w1 F.k s.pat (Keep.tickN s.pat s.age) → Kept [F.k] w w1 → SsAt w1 base F s.ticked := fun w1 hK hk => h.keep _ hK hk
  have hs2 : s.ticked.ob.n + s.ticked.ob.l.length ≤ 1000000 := hs
  have hb2 : ∀ b ∈ s.ticked.ob.l, b.length ≤ 1000 := hb
  by_cases hp : s.peer = 0
  · have i1 : ((s.ticked.peer : Int) == 0) = true := by show ((s.peer : Int) == 0) = true; simp; omega
    have hL : Hid (s.tickL = [0].map fun _ => bytesL s.ticked.hello) := by
      show _ = _
      unfold Ss.tickL
      rw [if_pos hp]
      rfl
    generalize s.tickL = L at *
    generalize s.ticked = t at *
    clear hp c0 c1 c2 c3 c4 hs hb hs2 hb2
    go_enter Try.func9, Try.ntmps9
    go_wp2_with (first
      | (go_at_call 20; refine q.mono ?_; rintro e w ⟨rfl, rfl⟩)
      | (go_at_call 24; refine qk.mono ?_; rintro e w1 ⟨rfl, hK1, hk1⟩; have hS1 := hS w1 hK1 hk1; obtain ⟨d0, d1, d2, d3, d4, d5⟩ := hS1.six; have kA := kept_alloc [] w1 (.cells #[.int .i64 0] 3); have qt := tell_hello F t base hS1.my2 hS1.peer _ _ _ _ _ [0] (one_nought w1) (by simp) (by simp))
      | (go_at_call 22; refine qt.mono ?_; rintro e w3 ⟨v3, P3, rfl, hT3, hk3⟩))
    go_ret
    have hT4 := hT3.lower (Nat.le_trans hk1.size kA.size)
    rw [← hL.out] at hT4
    exact ⟨_, P3, rfl, hT4, aft w1 w3 hK1 hk1 (kA.trans hk3)⟩
  · have i1 : ((s.ticked.peer : Int) == 0) = false := by show ((s.peer : Int) == 0) = false; simp; omega
    by_cases hl : s.ob.l = []
    · have hwin : s.ob.window = [] := by
        unfold Ob.window Ob.way
        rw [hl]
        rfl
      have hL : Hid (s.tickL = [0].map fun _ => bytesL s.ticked.ping) := by
        show _ = _
        unfold Ss.tickL
        rw [if_neg hp, if_pos hl]
        rfl
      have qw := fun w1 (h1 : SsAt w1 base F s.ticked) => Outbox.window_any w1 h1.out hs2
      rw [show s.ticked.ob.window = [] from hwin] at qw
      generalize s.tickL = L at *
      generalize s.ticked = t at *
      clear hp hl hwin c0 c1 c2 c3 c4 hs hb hb2
      go_enter Try.func9, Try.ntmps9
      go_wp2_with (first
        | (go_at_call 20; refine q.mono ?_; rintro e w ⟨rfl, rfl⟩)
        | (go_at_call 24; refine qk.mono ?_; rintro e w1 ⟨rfl, hK1, hk1⟩; have hS1 := hS w1 hK1 hk1; obtain ⟨d0, d1, d2, d3, d4, d5⟩ := hS1.six)
        | (go_at_call 26; refine (qw _ hS1).mono ?_; rintro e w2 ⟨v2, rfl, hN2, hk2⟩; obtain ⟨sa2, cap2, rfl, -, -⟩ := hN2.slice; have hS2 := hS1.kept0 hk2; clear d0 d1 d2 d3 d4 d5; obtain ⟨d0, d1, d2, d3, d4, d5⟩ := hS2.six; have kA := kept_alloc [] w2 (.cells #[.int .i64 0] 3); have qt := tell_ping F t base hS1.my2 hS1.peer _ (hS2.kept0 kA).inn _ _ _ _ [0] (one_nought w2) (by simp) (by simp))
        | (go_at_call 22; refine qt.mono ?_; rintro e w3 ⟨v3, P3, rfl, hT3, hk3⟩))
      go_ret
      have hT4 := hT3.lower (Nat.le_trans (Nat.le_trans hk1.size hk2.size) kA.size)
      rw [← hL.out] at hT4
      exact ⟨_, P3, rfl, hT4, aft w1 w3 hK1 hk1 (hk2.trans (kA.trans hk3))⟩
    · have hL : Hid (s.tickL = s.ob.window.map fun n => bytesL (s.ticked.msg n)) := by
        show _ = _
        unfold Ss.tickL
        rw [if_neg hp, if_neg hl]
        rfl
      have hw0 : (0 : Int) < (s.ob.window.length : Int) ∧ s.ob.window.length ≤ 1000 := by
        have h1 := h.out.pos
        have h2 := h.out.top
        have h3 : 0 < s.ob.l.length := List.length_pos_iff.2 hl
        unfold Ob.window Ob.way
        rw [Outbox.nums_length]
        omega
      have qw := fun w1 (h1 : SsAt w1 base F s.ticked) => Outbox.window_any w1 h1.out hs2
      rw [show s.ticked.ob.window = s.ob.window from rfl] at qw
      obtain ⟨hw0, hw1⟩ := hw0
      generalize s.ob.window = WN at *
      generalize s.tickL = L at *
      generalize s.ticked = t at *
      clear hp hl c0 c1 c2 c3 c4 hs hb
      go_enter Try.func9, Try.ntmps9
      go_wp2_with (first
        | (go_at_call 20; refine q.mono ?_; rintro e w ⟨rfl, rfl⟩)
        | (go_at_call 24; refine qk.mono ?_; rintro e w1 ⟨rfl, hK1, hk1⟩; have hS1 := hS w1 hK1 hk1; obtain ⟨d0, d1, d2, d3, d4, d5⟩ := hS1.six)
        | (go_at_call 26; refine (qw _ hS1).mono ?_; rintro e w2 ⟨v2, rfl, hN2, hk2⟩; obtain ⟨sa2, cap2, rfl, -, -⟩ := hN2.slice; have hS2 := hS1.kept0 hk2; clear d0 d1 d2 d3 d4 d5; obtain ⟨d0, d1, d2, d3, d4, d5⟩ := hS2.six; have qt := tell_msg F t base hS1.my2 hS1.peer _ hS2.out hS2.inn hs2 hb2 _ _ _ _ WN hN2 hw1)
        | (go_at_call 22; refine qt.mono ?_; rintro e w3 ⟨v3, P3, rfl, hT3, hk3⟩))
      go_ret
      have hT4 := hT3.lower (Nat.le_trans hk1.size hk2.size)
      rw [← hL.out] at hT4
      exact ⟨_, P3, rfl, hT4, aft w1 w3 hK1 hk1 (hk2.trans hk3)⟩
end Go.Proofs.Ytnbkbakbjllmcaa.Session
