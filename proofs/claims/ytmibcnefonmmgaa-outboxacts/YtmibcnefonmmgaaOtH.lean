/-
  The walk of the document's Acked.
-/
import Derived.Test.YtmibcnefonmmgaaOtG
import Derived.Deep.LoopGhost
namespace Go.Proofs.Ytmibcnefonmmgaa.Outbox
open Go.RowKit

theorem RowAt.mono {base base' : Nat} {W : World} {v : Value} {P : List Bv} {gr : Option Nat} {k : Nat} (h : RowAt base W v P gr k) (hb : base' ≤ base) : RowAt base' W v P gr k := by
  obtain ⟨a, cap, e, h1, h2, h3 | ⟨g, off, cur, e1, e2, h4, h5, h6, h7⟩⟩ := h
  · exact ⟨a, cap, e, h1, h2, .inl h3⟩
  · exact ⟨a, cap, e, h1, h2, .inr ⟨g, off, cur, e1, e2, by omega, h5, h6, h7⟩⟩
/-- A row of numbers with something in it. -/
theorem NRow.some_at {W : World} {base : Nat} {v : Value} {l : List Nat} (h : NRow base W v l) (h0 : 0 < l.length) : ∃ g cap, v = .slice (some ⟨g, 0, none⟩) l.length cap ∧ base ≤ g ∧ g < W.heap.size := by
  obtain ⟨sa, cap, e, _⟩ := h.slice
  subst e
  obtain ⟨g, e, h1, h2, _⟩ := h.at 0 _ (List.getElem?_eq_getElem h0)
  subst e
  exact ⟨g, cap, rfl, h1, h2⟩
set_option maxRecDepth 100000 in
set_option maxHeartbeats 1000000 in
/-- Acked, of none that is on its way -/
theorem racked_out {r n m : Nat} {a : Option Addr} {L cap : Nat} (w : World) (h : RRaw w r n m a L cap) (hm : m ≤ 64) (h1 : 1 ≤ n) (hs : n + L ≤ 1000000) (k : Int) (hk : k < (n : Int) ∨ ((n + min L m : Nat) : Int) ≤ k) :
    Calls Try.prog 11 #[.pointer (some ⟨r, 0, none⟩), .int .i64 k] w fun e w' => e = .returned (.slice none 0 0) ∧ Kept [] w w' := by
  have q := rnumbers_any w h hm hs
  obtain ⟨M, hM⟩ : ∃ M, min L m = M := ⟨_, rfl⟩
  rw [hM] at q hk
  have hMs : M ≤ 64 := by omega
  clear hM
  by_cases h0 : M = 0
  · subst h0
    go_enter Try.func11, Try.ntmps11
    go_wp2_with (first
      | (go_at_call 20; refine q.mono ?_; rintro e w1 ⟨v1, rfl, hN, hk1⟩; obtain ⟨sa, cap1, e1, -⟩ := hN.slice; rw [nums_zero] at e1; replace e1 : v1 = .slice sa 0 cap1 := e1; subst e1))
    go_ret
    exact ⟨rfl, hk1⟩
  · obtain ⟨last, hlast⟩ : ∃ last, n + M - 1 = last := ⟨_, rfl⟩
    have hne : ((M : Int) == 0) = false := (by simp; omega)
    have hM1 : (1 : Int) ≤ (M : Int) := by omega
    have hM2 : (M : Int) ≤ 64 := by omega
    have wr1 : IntKind.i64.wrap ((M : Int) - 1) = (M : Int) - 1 := (by rw [IntKind.wrap_i64]; omega)
    obtain ⟨z, hz⟩ : ∃ z : Nat, z = M - 1 := ⟨_, rfl⟩
    have hz1 : (M : Int) - 1 = (z : Int) := by omega
    have hz2 : (z : Int) < (M : Int) := by omega
    have hz3 : (0 : Int) ≤ (z : Int) := by omega
    have hc0 : Hid ((nums n M)[0]? = some n) := (by show _ = _; rw [nums_get n M 0 (by omega)]; rfl)
    have hcz : Hid ((nums n M)[z]? = some last) := (by show _ = _; rw [nums_get n M z (by omega)]; congr 1; omega)
    have hpos : Hid (0 < (nums n M).length) := (by show _ < _; rw [nums_length]; omega)
    have hnl : Hid ((nums n M).length = M) := nums_length n M
    have hcell : ∀ (w1 : World) (v1 : Value), NRow w.heap.size w1 v1 (nums n M) → ∃ g cap1, v1 = .slice (some ⟨g, 0, none⟩) M cap1 ∧ w1.cell? ⟨g, 0, none⟩ = some (.int .i64 (n : Int)) ∧ w1.cell? ⟨g, z, none⟩ = some (.int .i64 (last : Int)) := fun w1 v1 hN => by
      obtain ⟨g, cap1, e, _, _⟩ := hN.some_at hpos.out
      rw [hnl.out] at e
      subst e
      obtain ⟨g1, e1, _, _, c1⟩ := hN.at 0 _ hc0.out
      obtain ⟨g2, e2, _, _, c2⟩ := hN.at z _ hcz.out
      injection e1 with e1
      injection e1 with e1 _ _
      injection e2 with e2
      injection e2 with e2 _ _
      subst e1 e2
      exact ⟨_, cap1, rfl, c1, c2⟩
    clear hz
    by_cases hlo : k < (n : Int)
    · clear hk hlast
      go_enter Try.func11, Try.ntmps11
      go_wp2_with (first
        | (go_at_call 20; refine q.mono ?_; rintro e w1 ⟨v1, rfl, hN, hk1⟩; obtain ⟨g1, cap1, e1, cc0, ccz⟩ := hcell w1 v1 hN; subst e1))
      go_ret
      exact ⟨rfl, hk1⟩
    · have hhi : (last : Int) < k := by omega
      clear hk hlast
      go_enter Try.func11, Try.ntmps11
      go_wp2_with (first
        | (go_at_call 20; refine q.mono ?_; rintro e w1 ⟨v1, rfl, hN, hk1⟩; obtain ⟨g1, cap1, e1, cc0, ccz⟩ := hcell w1 v1 hN; subst e1))
      go_ret
      exact ⟨rfl, hk1⟩
/-- The first body is there no longer. -/
def Ob.step1 (s : Ob) : Ob := ⟨s.n + 1, s.w, s.l.drop 1⟩
/-- What one round of the document's Acked leaves. -/
theorem fin_rack {W w5 w7 : World} {base r : Nat} {gr gr5 : Option Nat} {s : Ob} {P : List Bv} {sa : Option Addr} {z cap n' : Nat} (h : RefAt W base r gr s) (hl : P.map Bv.bs = s.l) (hat : ∀ x ∈ P, x.At W) (hk5 : Kept [] W w5) (hr5 : RowAt W.heap.size w5 (.slice sa z cap) (P.drop 1) gr5 0) (hk7 : Kept [r] w5 w7) (hn : n' = s.n + 1) (hR7 : RRaw w7 r n' s.w sa z cap) :
    RefAt w7 base r gr5 s.step1 ∧ Kept [r] W w7 ∧ (∀ g, gr5 = some g → W.heap.size ≤ g) := by
  have hlt := h.lt
  have hlow := h.low
  have hg : ∀ g, gr5 = some g → W.heap.size ≤ g := fun g hg => (hr5.low g hg).1
  have hk : Kept [r] W w7 := (hk5.mono (by simp)).trans hk7
  have hfo : NoByt [r] W := fun k hk cur => h.foot k (by simp at hk; simp [hk]) cur
  subst hn
  refine ⟨⟨⟨_, P.drop 1, hR7, (hr5.mono (by have := hlt.1; omega)).kept hk7 (fun g e => by have := hg g e; have := hlt.1; simp; omega), ?_, fun x hx => (hat x (List.mem_of_mem_drop hx)).kept hk hfo⟩, by simp [Ob.step1], h.pos, h.top, h.low⟩, hk, hg⟩
  show (P.drop 1).map Bv.bs = s.l.drop 1
  rw [List.map_drop, hl]
/-- What was there, the first j taken. -/
def Ob.from (s : Ob) (j : Nat) : Ob := ⟨s.n + j, s.w, s.l.drop j⟩
theorem Ob.from_step (s : Ob) (j : Nat) : (s.from j).step1 = s.from (j + 1) := by
  unfold Ob.from Ob.step1
  simp [List.drop_drop, Nat.add_assoc]
theorem Ob.from_cut (s : Ob) (j N : Nat) (h1 : s.n ≤ N) (h : j = N + 1 - s.n) : s.from j = s.cut N := by
  subst h
  unfold Ob.from Ob.cut
  congr 1
  omega
theorem Ob.from_len (s : Ob) (j : Nat) : (s.from j).l.length = s.l.length - j := by simp [Ob.from]
set_option maxRecDepth 100000 in
set_option maxHeartbeats 4000000 in
/-- Acked, of one that is on its way -/
theorem racked_in {base r : Nat} {gr : Option Nat} {s : Ob} (w : World) (h : RefAt w base r gr s) (hs : s.n + s.l.length ≤ 1000000) (N k : Nat) (hk : N + 1 = s.n + k) (h1 : 1 ≤ k) (h2 : k ≤ s.way) :
    Calls Try.prog 11 #[.pointer (some ⟨r, 0, none⟩), .int .i64 (N : Int)] w fun e w' => ∃ v, e = .returned v ∧ NRow w.heap.size w' v ((s.cut N).window.filter (fun x => decide (s.n + s.way - 1 < x))) ∧ ∃ gr', RefAt w' base r gr' (s.cut N) ∧ Kept (r :: gr.toList) w w' ∧ (∀ g, gr' = some g → gr = some g ∨ w.heap.size ≤ g) := by
  obtain ⟨a, cap, P, hR, -, -, -, -, -⟩ := h.three
  have hwl := s.way_le
  have ht := h.top
  have q := rnumbers_any w hR ht hs
  obtain ⟨M, hM⟩ : ∃ M, min s.l.length s.w = M := ⟨_, rfl⟩
  have hMw : s.way = M := hM
  rw [hM] at q
  rw [hMw] at h2 hwl ⊢
  have hfs := h.first
  obtain ⟨last, hlast⟩ : ∃ last, s.n + M - 1 = last := ⟨_, rfl⟩
  rw [hlast]
  have hne : ((M : Int) == 0) = false := (by simp; omega)
  have hM1 : (1 : Int) ≤ (M : Int) := by omega
  have hM2 : (M : Int) ≤ 64 := by omega
  have wr1 : IntKind.i64.wrap ((M : Int) - 1) = (M : Int) - 1 := (by rw [IntKind.wrap_i64]; omega)
  obtain ⟨z, hz⟩ : ∃ z : Nat, z = M - 1 := ⟨_, rfl⟩
  have hz1 : (M : Int) - 1 = (z : Int) := by omega
  have hz2 : (z : Int) < (M : Int) := by omega
  have hz3 : (0 : Int) ≤ (z : Int) := by omega
  have hc0 : Hid ((nums s.n M)[0]? = some s.n) := (by show _ = _; rw [nums_get s.n M 0 (by omega)]; rfl)
  have hcz : Hid ((nums s.n M)[z]? = some last) := (by show _ = _; rw [nums_get s.n M z (by omega)]; congr 1; omega)
  have hpos : Hid (0 < (nums s.n M).length) := (by show _ < _; rw [nums_length]; omega)
  have hnl : Hid ((nums s.n M).length = M) := nums_length s.n M
  have hcell : ∀ (w1 : World) (v1 : Value), NRow w.heap.size w1 v1 (nums s.n M) → ∃ g cap1, v1 = .slice (some ⟨g, 0, none⟩) M cap1 ∧ w.heap.size ≤ g ∧ g < w1.heap.size ∧ w1.cell? ⟨g, 0, none⟩ = some (.int .i64 (s.n : Int)) ∧ w1.cell? ⟨g, z, none⟩ = some (.int .i64 (last : Int)) := fun w1 v1 hN => by
    obtain ⟨g, cap1, e, _, _⟩ := hN.some_at hpos.out
    rw [hnl.out] at e
    subst e
    obtain ⟨g1, e1, b1, b2, c1⟩ := hN.at 0 _ hc0.out
    obtain ⟨g2, e2, _, _, c2⟩ := hN.at z _ hcz.out
    injection e1 with e1
    injection e1 with e1 _ _
    injection e2 with e2
    injection e2 with e2 _ _
    subst e1 e2
    exact ⟨_, cap1, rfl, b1, b2, c1, c2⟩
  have i1 : ¬ (N : Int) < (s.n : Int) := by omega
  have i2 : ¬ (last : Int) < (N : Int) := by omega
  have i1' : decide (N < s.n) = false := decide_eq_false (by omega)
  have i2' : decide (last < N) = false := decide_eq_false (by omega)
  have i3 : (N : Int) ≤ 1000000 := by omega
  have i4 : (s.n : Int) ≤ 1000000 := by omega
  have hkl : Hid (k ≤ s.l.length) := (by show _ ≤ _; omega)
  have hcut : Hid (s.from k = s.cut N) := s.from_cut k N (by omega) (by omega)
  have hk' : Hid (N + 1 = s.n + k) := hk
  have hs' : Hid (s.n + s.l.length ≤ 1000000) := hs
  have hlt := h.lt
  have hrl : Hid (r < w.heap.size) := hlt.1
  have ht' : Hid (s.w ≤ 64) := ht
  have hli : Hid (last ≤ 1000000) := (by show _ ≤ _; omega)
  clear hk hs h2 hwl hlast hz hM hMw hlt hfs
  go_enter Try.func11, Try.ntmps11
  go_wp2_with (first
    | (go_at_call 20; refine q.mono ?_; rintro e w1 ⟨v1, rfl, hN, hk1⟩; obtain ⟨g1, cap1, e1, hb1, hb2, cc0, ccz⟩ := hcell w1 v1 hN; subst e1))
  clear q hcell hN hR
  replace h := h.kept0 hk1
  go_loopg [] (k + 1) (fun d wr => ∃ j gr', Hid (j ≤ k) ∧ RefAt wr base r gr' (s.from j) ∧ Kept [r] w1 wr ∧ Hid (∀ g, gr' = some g → gr = some g ∨ w.heap.size ≤ g) ∧ Hid (k - j < d))
  case atStart => exact ⟨0, gr, Nat.zero_le _, h, Kept.refl _ _, fun g hg => .inl hg, Nat.lt_succ_of_le (Nat.sub_le _ _)⟩
  case round =>
    obtain ⟨j, gr', hj, hO, hkr, hgr, hd⟩ := hrel
    obtain ⟨a2, cap2, P2, hR2, hr2, hl2, hat2, hPl2, hc2⟩ := hO.three
    have hfl := s.from_len j
    have hfn : (s.from j).n = s.n + j := rfl
    have hfw : (s.from j).w = s.w := rfl
    obtain ⟨L2, hL2⟩ : ∃ L2, (s.from j).l.length = L2 := ⟨_, rfl⟩
    rw [hL2] at hR2 hr2 hPl2
    obtain ⟨n2, hn2⟩ : ∃ n2, (s.from j).n = n2 := ⟨_, rfl⟩
    rw [hn2] at hR2
    have hn3 : n2 = s.n + j := by omega
    obtain ⟨c0, c1, c2⟩ := hR2.three
    have hkj := hj.out
    have hkk := hk'.out
    have hss := hs'.out
    have hkll := hkl.out
    by_cases hlt : j < k
    · have hle : (n2 : Int) ≤ (N : Int) := by omega
      have hn4 : (n2 : Int) ≤ 1000000 := by omega
      obtain ⟨n5, hn5⟩ : ∃ n5, n5 = n2 + 1 := ⟨_, rfl⟩
      have hn6 : (n2 : Int) + 1 = (n5 : Int) := by omega
      have wr2 : IntKind.i64.wrap (n5 : Int) = (n5 : Int) := (by rw [IntKind.wrap_i64]; omega)
      have hn7 : Hid (n5 = (s.from j).n + 1) := (by show _ = _; omega)
      have k3 := kept_alloc [] wr (.cells #[] 31)
      have hR3 := hR2.kept k3 (by simp)
      have hr3 : Hid (RowAt base (wr.alloc (.cells #[] 31)) (.slice a2 L2 cap2) P2 gr' 0) := hr2.kept k3 (fun _ _ => by simp)
      obtain ⟨c3, c4, c5⟩ := hR3.three
      have r0 : Hid ((wr.alloc (.cells #[] 31)).ownsRow wr.heap.size 31 1 (.slice (some ⟨wr.heap.size, 0, none⟩) 0 0) 0 []) := World.ownsRow_made wr #[] 0 (Nat.le_refl _) (by unfold maxLen; omega) rfl
      have hP0 : Hid (0 < P2.length) := (by show _ < _; omega)
      have hP1 : Hid ((P2.drop 1).length ≤ 1000000) := (by show _ ≤ _; rw [List.length_drop]; omega)
      have hlt' : Hid (j < k) := hlt
      clear hfl hfn hL2 hn2 hn3 hn5 hkj hkk hss hkll hlt hPl2 hr2
      go_wp2_with (first
        | (refine wpList_tail rfl _ rfl base a2 L2 cap2 P2 gr' rfl hr3.out hP0.out ?_; intro sa4 n4 cap4 hr4)
        | (at_builtin; refine wpList_append_rows rfl _ _ rfl wr.heap.size base _ sa4 n4 cap4 (P2.drop 1) gr' rfl r0.out rfl hr4 hP1.out (by simp) ?_; intro sa6 n6 cap6 w6 gr6 hr6 hg6; have hk6 : Kept [] wr w6 := kept_grown r0.out hg6 wr k3 (Nat.le_refl _); have hR6 := hR2.kept hk6 (by simp); obtain ⟨c0, c1, c2⟩ := hR6.three)
        | (refine wpList_store_cell rfl 42 _ _ rfl r 0 44 _ (.slice sa6 n6 cap6) rfl rfl hR6 (by simp) Try.sizeBB rfl ?_; intro w7 hb7 hk7; have hR7 : RRaw w7 r n2 (s.from j).w sa6 n6 cap6 := hb7; obtain ⟨c0, c1, c2⟩ := hR7.three)
        | (refine wpList_store_cell rfl 3 _ _ rfl r 1 44 _ (.int .i64 (n5 : Int)) rfl rfl hR7 (by simp) Try.sizeI rfl ?_; intro w8 hb8 hk8))
      have hR8 : RRaw w8 r n5 (s.from j).w sa6 n6 cap6 := hb8
      have hF := fin_rack hO hl2 hat2 hk6 hr6 (hk7.trans hk8) hn7.out hR8
      rw [s.from_step j] at hF
      go_roundg (k - (j + 1) + 1)
      case measure => have := hd.out; have := hlt'.out; omega
      case rel => exact ⟨j + 1, gr6, hlt'.out, hF.1, hkr.trans hF.2.1, fun g hg => .inr (Nat.le_trans hk1.size (Nat.le_trans hkr.size (hF.2.2 g hg))), Nat.lt_succ_self _⟩
    · have hle : ¬ (n2 : Int) ≤ (N : Int) := by omega
      obtain rfl : j = k := by omega
      have hkc : Hid (L2 = s.l.length - j) := (by show _ = _; omega)
      have hs2 : Hid (n2 + L2 ≤ 1000000) := (by show _ ≤ _; omega)
      have q2 := rnumbers_any wr hR2 ht'.out hs2.out
      obtain ⟨M2, hM2'⟩ : ∃ M2, min L2 (s.from j).w = M2 := ⟨_, rfl⟩
      rw [hM2'] at q2
      have hwin : Hid ((s.cut N).window = nums n2 M2) := (by
        show _ = _
        rw [← hcut.out]
        unfold Ob.window Ob.way
        rw [hL2, hM2', hn2])
      have hMM : M2 ≤ 64 := (by rw [hfw] at hM2'; omega)
      have hn4 : n2 ≤ 1000000 := by omega
      have hN2 : Hid ((nums n2 M2).length = M2) := nums_length n2 M2
      have hccz : wr.cell? ⟨g1, z, none⟩ = some (.int .i64 (last : Int)) := (World.cell?_of_block (w := w1) (w' := wr) (hkr.block g1 hb2 (by have := hrl.out; simp; omega))).trans ccz
      have hg1l : Hid (g1 < wr.heap.size) := Nat.lt_of_lt_of_le hb2 hkr.size
      clear hfl hfn hL2 hn2 hn3 hkj hkk hss hkll hlt hPl2 hr2 hM2' hfw hkc ccz cc0
      go_wp2_with (first
        | (go_at_call 20; refine q2.mono ?_; rintro e w2 ⟨v2, rfl, hN, hk2⟩; obtain ⟨sa2, cap3, e2, -⟩ := hN.slice; rw [hN2.out] at e2; subst e2))
      have hN' : Hid (NRow wr.heap.size w2 (.slice sa2 M2 cap3) (nums n2 M2)) := hN
      have hccz2 : w2.cell? ⟨g1, z, none⟩ = some (.int .i64 (last : Int)) := (World.cell?_of_block (w := wr) (w' := w2) (hk2.block g1 hg1l.out (by simp))).trans hccz
      have hg1l2 : Hid (g1 < w2.heap.size) := Nat.lt_of_lt_of_le hg1l.out hk2.size
      have hO2 := hO.kept0 hk2
      clear q2 hN hccz hR2 hl2 hat2 c0 c1 c2 hO
      obtain ⟨wo, rfl⟩ : ∃ wo, wo = wr := ⟨_, rfl⟩
      go_loopw [6, 57] (fun v i wr => ∃ t : Nat, t ≤ M2 ∧ i = .int .i64 t ∧ NRow w2.heap.size wr v ((nums n2 t).filter (fun x => decide (last < x))) ∧ Kept [] w2 wr) (fun _ i _ => M2 - (intOf i).toNat)
      case atStart => exact ⟨0, by omega, rfl, NRow.nil _ _, Kept.refl _ _⟩
      case round =>
        obtain ⟨t, ht2, rfl, hown, hB⟩ := hrel
        have hcl : wr.cell? ⟨g1, z, none⟩ = some (.int .i64 (last : Int)) := (World.cell?_of_block (w := w2) (w' := wr) (hB.block g1 hg1l2.out (by simp))).trans hccz2
        have hsn := nums_more n2 t
        have hfll := List.length_filter_le (fun x => decide (last < x)) (nums n2 t)
        rw [nums_length] at hfll
        by_cases hlt : t < M2
        · obtain ⟨u, hu⟩ : ∃ u, n2 + t = u := ⟨_, rfl⟩
          obtain ⟨g2, e3, hg2, hg2l, hcu⟩ := hN'.out.at t u (by rw [nums_get n2 M2 t hlt, hu])
          subst e3
          have hcu2 : wr.cell? ⟨g2, t, none⟩ = some (.int .i64 (u : Int)) := (World.cell?_of_block (w := w2) (w' := wr) (hB.block g2 hg2l (by simp))).trans hcu
          rw [hu] at hsn
          have it1 : (t : Int) < (M2 : Int) := by omega
          have it2 : (0 : Int) ≤ (t : Int) := by omega
          have it3 : (M2 : Int) ≤ 64 := by omega
          have hm1 : Hid (M2 - (t + 1) < M2 - t) := by show _ < _; omega
          have ht1 : Hid (t + 1 ≤ M2) := hlt
          have hz0 := hB.size
          have hlen : Hid (((nums n2 t).filter (fun x => decide (last < x))).length ≤ 1000000) := (by show _ ≤ _; omega)
          by_cases hlu : last < u
          · have HS : Hid ((nums n2 (t + 1)).filter (fun x => decide (last < x)) = (nums n2 t).filter (fun x => decide (last < x)) ++ [u]) := (by
              show _ = _
              rw [hsn, List.filter_append]
              simp [hlu])
            have hlu2 : (last : Int) < (u : Int) := by omega
            generalize (nums n2 t).filter (fun x => decide (last < x)) = F at *
            clear hu hsn hfll ht2 hlt hcu
            go_wp2_with (first
              | (at_builtin; refine wpList_append_num rfl _ _ rfl w2.heap.size _ _ u wr.heap.size rfl (hown.kept (kept_alloc [] _ _) (by simp)) rfl ?c1 hlen.out ?c5 ?_))
            case c1 => exact cell_one_new _ _ _ 0 _ rfl
            case c5 => simp; omega
            intro v3 w3 hr3 hg3
            have hk3 : Kept [] w2 w3 := kept_grown (World.ownsRow.alloc hown _) hg3 w2 (hB.trans (kept_alloc [] _ _)) (Nat.le_refl _)
            rw [← HS.out] at hr3
            clear hg3 hown HS hlen hB hcl hcu2
            go_wp2
            go_roundw
            case rel => exact ⟨t + 1, ht1.out, by go_num, hr3, hk3⟩
            case measure => simpa [intOf] using hm1.out
          · have HS : Hid ((nums n2 (t + 1)).filter (fun x => decide (last < x)) = (nums n2 t).filter (fun x => decide (last < x))) := (by
              show _ = _
              rw [hsn, List.filter_append]
              simp [hlu])
            have hlu2 : ¬ (last : Int) < (u : Int) := by omega
            rw [← HS.out] at hown
            clear hu hsn hfll ht2 hlt hcu HS hlen
            go_wp2
            go_roundw
            case rel => exact ⟨t + 1, ht1.out, by go_num, hown, hB⟩
            case measure => simpa [intOf] using hm1.out
        · obtain rfl : t = M2 := by omega
          have it1 : ¬ (t : Int) < (t : Int) := by omega
          clear hsn hfll hcl
          go_wp2
          go_ret
          have hk02 : Kept [r] w w2 := ((hk1.mono (by simp)).trans hkr).trans (hk2.mono (by simp))
          refine ⟨_, rfl, ?_, gr', ?_, (hk02.trans (hB.mono (by simp))).mono (by simp), hgr.out⟩
          · rw [hwin.out]
            exact hown.mono hk02.size
          · rw [← hcut.out]
            exact hO2.kept0 hB
set_option maxRecDepth 100000 in
/-- Acked -/
theorem racked_any {base r : Nat} {gr : Option Nat} {s : Ob} (w : World) (h : RefAt w base r gr s) (hs : s.n + s.l.length ≤ 1000000) (n : Int) :
    Calls Try.prog 11 #[.pointer (some ⟨r, 0, none⟩), .int .i64 n] w fun e w' => ∃ v, e = .returned v ∧ NRow w.heap.size w' v (s.ackL n) ∧ ∃ gr', RefAt w' base r gr' (s.ack n) ∧ Kept (r :: gr.toList) w w' ∧ (∀ g, gr' = some g → gr = some g ∨ w.heap.size ≤ g) := by
  have hf := h.first
  by_cases on : s.On n
  · obtain ⟨o1, o2⟩ := on
    obtain ⟨N, rfl⟩ : ∃ N : Nat, n = (N : Int) := ⟨n.toNat, by omega⟩
    rw [Ob.ackL_in ⟨o1, o2⟩, Ob.ack_in ⟨o1, o2⟩, Int.toNat_natCast, ← Ob.ackL_filter (by omega)]
    exact racked_in w h hs N (N + 1 - s.n) (by omega) (by omega) (by omega)
  · rw [Ob.ackL_out on, Ob.ack_out on]
    obtain ⟨a, cap, P, hR, -, -, -, -, -⟩ := h.three
    refine (racked_out w hR h.top hf hs n ?_).mono ?_
    · unfold Ob.On Ob.way at on
      omega
    · rintro e w' ⟨rfl, hk⟩
      exact ⟨_, rfl, NRow.nil _ _, gr, h.kept0 hk, hk.mono (by simp), fun g hg => .inl hg⟩
end Go.Proofs.Ytmibcnefonmmgaa.Outbox
