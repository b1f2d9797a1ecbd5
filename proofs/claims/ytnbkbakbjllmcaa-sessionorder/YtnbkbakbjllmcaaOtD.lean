import Derived.Test.YtnbkbakbjllmcaaOtC
/-
  The walks of Window, drop and Acked.
-/
namespace Go.Proofs.Ytnbkbakbjllmcaa.Outbox
open Go.RowKit

set_option maxRecDepth 100000 in
/-- Window -/
theorem window_any {base o : Nat} {gr : Option Nat} {s : Ob} (w : World) (h : OutAt w base o gr s) (hs : s.n + s.l.length ≤ 1000000) :
    Calls Try.prog 26 #[.pointer (some ⟨o, 0, none⟩)] w fun e w' => ∃ v, e = .returned v ∧ NRow w.heap.size w' v s.window ∧ Kept [] w w' := by
  obtain ⟨A, a, cap, P, hn, hR, -, -, -, -, -, -⟩ := h.three
  have hp := h.pos
  have ht := h.top
  have hwin : Hid (s.window = nums (A + 1) (min s.l.length s.w)) := (by
    show _ = _
    unfold Ob.window Ob.way
    rw [hn])
  generalize s.window = win at *
  generalize s.l.length = L at *
  generalize s.w = m at *
  obtain ⟨M, hM⟩ : ∃ M, min L m = M := ⟨_, rfl⟩
  obtain ⟨B, hB⟩ : ∃ B, A + min L m = B := ⟨_, rfl⟩
  have hB' : Hid (A + min L m = B) := hB
  have hAB : Hid (B = A + M) := (by show _ = _; omega)
  have hs1 : Hid (A + L ≤ 1000000) := (by show _ ≤ _; omega)
  have hs2 : Hid (A + M ≤ 1000000) := (by show _ ≤ _; omega)
  rw [hM] at hwin
  have q := made_any w hR hp
  have hS := hR.kept (kept_drew [] w) (by simp)
  have hk := kept_drew [] w
  clear h hn hs hM hB
  go_enter Try.func26, Try.ntmps26
  go_wp2_with (go_at_call 40; refine q.mono ?_; rintro e w ⟨rfl, rfl⟩)
  clear q hR
  go_region_held3 (fun W => W.cell? ⟨o, 1, none⟩ = some (.int .i64 (A : Int))) (exact hS.three.2.1) (first
    | (go_at_call 49; refine (way_any _ hS B hB'.out ht hs1.out).mono ?_; rintro e w1 ⟨rfl, hk1⟩; replace hS := hS.kept hk1 (by simp); replace hk := hk.trans hk1)
    | (go_at_call 48; refine (numbers_any A B M hAB.out hs2.out _).mono ?_; rintro e w2 ⟨v2, rfl, hN, hk2⟩; replace hN := hN.mono hk.size; replace hS := hS.kept hk2 (by simp); replace hk := hk.trans hk2))
  go_wp2
  go_ret
  exact ⟨_, rfl, by rw [hwin.out]; exact hN, hk⟩
/-- What lies within a drop. -/
structure Drp (w : World) (base o : Nat) (gr : Option Nat) (m A : Nat) (a : Option Addr) (L cap : Nat) (P : List Bv) (k : Nat) (W : World) : Prop where
  raw : Raw W o m A a L cap
  row : RowAt base W (.slice a L cap) P gr k
  kept : Kept (o :: gr.toList) w W
  ne : ∀ g, gr = some g → g ≠ o
theorem Drp.turn {w : World} {base o : Nat} {gr : Option Nat} {m A m' A' : Nat} {a a' : Option Addr} {L cap L' cap' : Nat} {P P' : List Bv} {k k' : Nat} {W W' : World} (h : Drp w base o gr m A a L cap P k W) (hR : Raw W' o m' A' a' L' cap') (hr : RowAt base W (.slice a' L' cap') P' gr k') (hk : Kept [o] W W') : Drp w base o gr m' A' a' L' cap' P' k' W' :=
  ⟨hR, hr.kept hk (fun g hg => by have := h.ne g hg; simpa using this), h.kept.trans (hk.mono (by simp)), h.ne⟩
set_option maxRecDepth 100000 in
set_option maxHeartbeats 1000000 in
/-- drop, said of the parts -/
theorem drop_raw {base o : Nat} {gr : Option Nat} {m A : Nat} {a : Option Addr} {L cap : Nat} {P : List Bv} (w : World) (h : Drp w base o gr m A a L cap P 0 w) (hl : P.length = L) (hc : L ≤ cap) (_hcm : cap ≤ 9223372036854775807) (n : Nat) (h1 : 1 ≤ n) (h2 : n ≤ L) (hs : A + L ≤ 1000000) :
    Calls Try.prog 66 #[.pointer (some ⟨o, 0, none⟩), .int .i64 (n : Int)] w fun e w' => e = .returned (.tuple #[]) ∧ ∃ a' L' cap', Drp w base o gr m (A + n) a' L' cap' (P.drop n) 0 w' := by
  have hd : ∀ k, Drp w base o gr m A a L cap P 0 (w.drewN k) := fun k => ⟨h.raw.kept (kept_drewN [] w k) (by simp), h.row.kept (kept_drewN [] w k) (fun _ _ => by simp), kept_drewN _ w k, h.ne⟩
  have c2 := fun k => (hd k).raw.three.2.2
  have hP0 : Hid (0 < P.length) := (by show _ < _; omega)
  have hPn : Hid (n ≤ P.length) := (by show _ ≤ _; omega)
  have hn0 : Hid (0 < n) := h1
  have hAn : Hid (((A + n : Nat) : Int) = (A : Int) + (n : Int)) := (by show _ = _; omega)
  clear h
  go_enter Try.func66, Try.ntmps66
  go_wp2_with fail
  go_quiet (fail)
  have hD := hd nq
  clear hd c2
  generalize w.drewN nq = W0 at *
  obtain ⟨c0, c1, c2⟩ := hD.raw.three
  by_cases hh : L - n ≤ n
  · have hi : ((L : Int) - (n : Int)) ≤ (n : Int) := by omega
    have hm1 : Hid (P.length ≤ L) := (by show _ ≤ _; omega)
    have hm2 : Hid (L ≤ cap) := hc
    clear hl
    go_wp2_with (first
      | (refine wpList_take rfl _ _ rfl base a L cap n P gr rfl rfl hD.row hP0.out hPn.out ?_)
      | (refine wpList_clear rfl _ rfl base a n cap L P gr rfl hD.row hn0.out hPn.out ?_; intro w5 hr5 hk5; replace hD : Drp w base o gr m A a L cap P n w5 := ⟨hD.raw.kept hk5 (fun hm => hD.ne o (by simpa using hm) rfl), hr5, hD.kept.trans (hk5.mono (fun k hk => List.mem_cons_of_mem _ hk)), hD.ne⟩; obtain ⟨c0, c1, c2⟩ := hD.raw.three)
      | (refine wpList_cut rfl _ _ _ _ rfl base a L cap n L P gr rfl rfl rfl rfl hD.row hP0.out hPn.out hm1.out hm2.out ?_; intro sa6 n6 cap6 hr6)
      | (refine wpList_store_cell rfl 26 _ _ rfl o 2 82 _ (.slice sa6 n6 cap6) rfl rfl hD.raw (by simp) Try.sizeBB rfl ?_; intro w7 hb7 hk7; replace hD := hD.turn (show Raw w7 o m A sa6 n6 cap6 from hb7) hr6 hk7; obtain ⟨c0, c1, c2⟩ := hD.raw.three)
      | (refine wpList_store_cell rfl 3 _ _ rfl o 1 82 _ (.int .i64 ((A : Int) + (n : Int))) rfl rfl hD.raw (by simp) Try.sizeI rfl ?_; intro w8 hb8 hk8))

    go_end0
    have hb8' : Raw w8 o m (A + n) sa6 n6 cap6 := (by unfold Raw; rw [hAn.out]; exact hb8)
    exact ⟨rfl, _, _, _, hD.turn hb8' hD.row hk8⟩
  · have hi : ¬ ((L : Int) - (n : Int)) ≤ (n : Int) := by omega
    have hm1 : Hid (P.length ≤ cap) := (by show _ ≤ _; omega)
    have hm2 : Hid (cap ≤ cap) := Nat.le_refl cap
    clear hl
    go_wp2_with (first
      | (refine wpList_take rfl _ _ rfl base a L cap n P gr rfl rfl hD.row hP0.out hPn.out ?_)
      | (refine wpList_clear rfl _ rfl base a n cap L P gr rfl hD.row hn0.out hPn.out ?_; intro w5 hr5 hk5; replace hD : Drp w base o gr m A a L cap P n w5 := ⟨hD.raw.kept hk5 (fun hm => hD.ne o (by simpa using hm) rfl), hr5, hD.kept.trans (hk5.mono (fun k hk => List.mem_cons_of_mem _ hk)), hD.ne⟩; obtain ⟨c0, c1, c2⟩ := hD.raw.three)
      | (refine wpList_cut rfl _ _ _ _ rfl base a L cap n cap P gr rfl rfl rfl rfl hD.row hP0.out hPn.out hm1.out hm2.out ?_; intro sa6 n6 cap6 hr6)
      | (refine wpList_store_cell rfl 26 _ _ rfl o 2 82 _ (.slice sa6 n6 cap6) rfl rfl hD.raw (by simp) Try.sizeBB rfl ?_; intro w7 hb7 hk7; replace hD := hD.turn (show Raw w7 o m A sa6 n6 cap6 from hb7) hr6 hk7; obtain ⟨c0, c1, c2⟩ := hD.raw.three)
      | (refine wpList_store_cell rfl 3 _ _ rfl o 1 82 _ (.int .i64 ((A : Int) + (n : Int))) rfl rfl hD.raw (by simp) Try.sizeI rfl ?_; intro w8 hb8 hk8))

    go_end0
    have hb8' : Raw w8 o m (A + n) sa6 n6 cap6 := (by unfold Raw; rw [hAn.out]; exact hb8)
    exact ⟨rfl, _, _, _, hD.turn hb8' hD.row hk8⟩
set_option maxRecDepth 100000 in
/-- drop -/
theorem drop_any {base o : Nat} {gr : Option Nat} {s : Ob} (w : World) (h : OutAt w base o gr s) (A n k : Nat) (hA : s.n = A + 1) (hk : k = A + n) (h1 : 1 ≤ n) (h2 : n ≤ s.l.length) (hs : s.n + s.l.length ≤ 1000000) :
    Calls Try.prog 66 #[.pointer (some ⟨o, 0, none⟩), .int .i64 (n : Int)] w fun e w' => e = .returned (.tuple #[]) ∧ OutAt w' base o gr (s.cut k) ∧ Kept (o :: gr.toList) w w' := by
  obtain ⟨A', a, cap, P, hn, hR, hr, hl, hat, hPl, hc1, hc2⟩ := h.three
  obtain rfl : A' = A := by omega
  have hf := h.foot
  refine (drop_raw w ⟨hR, hr, Kept.refl _ _, fun g hg => (h.lt.2 g hg).2.2⟩ hPl hc1 hc2 n h1 h2 (by omega)).mono ?_
  rintro e w' ⟨rfl, a', L', cap', hD⟩
  subst hk
  refine ⟨rfl, ⟨⟨_, P.drop n, hD.raw, hD.row, ?_, fun x hx => (hat x (List.mem_of_mem_drop hx)).kept hD.kept hf⟩, by simp [Ob.cut], h.pos, h.top, h.low⟩, hD.kept⟩
  show (P.drop n).map Bv.bs = s.l.drop (A' + n + 1 - s.n)
  rw [← hl, List.map_drop, show A' + n + 1 - s.n = n by omega]
end Go.Proofs.Ytnbkbakbjllmcaa.Outbox

