/-
 A span put in: the walk of Insert.
-/
import Derived.Test.YtoaeficfmcncjaaGreatN23
namespace Go.Proofs.YtoaeficfmcncjaaGreat.Itree
open Go.RowKit

def TT (W : World) (p : Nat) (F : List Nat) (L : List It) : Prop := ∃ t, Whole W p L.length t ∧ Good t ∧ t.toL = L ∧ F = p :: t.blks
theorem TT.lt {W : World} {p : Nat} {F : List Nat} {L : List It} (h : TT W p F L) : ∀ k ∈ F, k < W.heap.size := by
 obtain ⟨t, h1, _, _, rfl⟩ := h
 exact h1.lt
theorem TT.kept {K : List Nat} {A B : World} {p : Nat} {F : List Nat} {L : List It} (h : TT A p F L) (hk : Kept K A B) (hK : ∀ k ∈ F, k ∉ K) : TT B p F L := by
 obtain ⟨t, h1, h2, h3, rfl⟩ := h
 exact ⟨t, h1.kept hk hK, h2, h3, rfl⟩
theorem Whole.size {W : World} {p n : Nat} {t : Tr} (h : Whole W p n t) (m : Nat) : Whole (W.setCell ⟨p, 2, none⟩ (.int .i64 (m : Int))) p m t := by
 have hp : p ∉ t.blks := (List.nodup_cons.1 h.nd).1
 exact ⟨h.blk.set 2 _, h.nodes.kept1 (kept_set1 p 2 W _) hp, h.nd⟩
set_option maxRecDepth 100000 in
theorem inew_any (w : World) : Calls Tryz.prog 93 #[] w fun e w' => ∃ p F, e = .returned (.pointer (some ⟨p, 0, none⟩)) ∧ TT w' p F [] ∧ (∀ k ∈ F, w.heap.size ≤ k) ∧ Kept [] w w' := by
 go_enter Tryz.func93, Tryz.ntmps93
 go_wp2
 go_ret
 exact ⟨w.heap.size, [w.heap.size], rfl, ⟨.nil, ⟨blk_new w _ _, trivial, by simp [Tr.blks]⟩, trivial, rfl, rfl⟩, by simp, kept_alloc [] _ _⟩
theorem way_last {W : World} {p base g cap : Nat} {fs : List Fr} (h : PRow W 278 base (.slice (some ⟨g, 0, none⟩) (fs.length + 1) cap) ((lnks fs).map (lnV p))) :
  W.cell? ⟨g, fs.length, none⟩ = some (lnV p (lnk fs)) ∧ base ≤ g ∧ g < W.heap.size := by
 have hll := lnks_length fs
 obtain ⟨g', cap', hv, hg1, hg2, hcap, hcs⟩ := h.open (by simp [hll])
 rw [List.length_map, hll] at hv hcap
 injection hv with e1 e2 e3
 injection e1 with e1
 injection e1 with e1 _ _
 subst e1 e3
 refine ⟨?_, hg1, hg2⟩
 obtain ⟨l, h1, h2⟩ := lnks_last fs
 refine hcs fs.length _ ?_
 rw [h1, List.map_append, List.getElem?_append_right (by simp [h2])]
 simp [h2]
theorem Whole.grow {W : World} {p n : Nat} {fs : List Fr} (h : Whole W p n (plug fs .nil)) (x : It) :
  Whole ((W.alloc (.cells (nodeC x (.pointer none) (.pointer none) 0 0) 265)).setCell ⟨(lnk fs).blk p, (lnk fs).off, none⟩ (.pointer (some ⟨W.heap.size, 0, none⟩))) p n (plug fs (.node W.heap.size x 0 0 .nil .nil)) := by
 have k1 := kept_alloc [] W (.cells (nodeC x (.pointer none) (.pointer none) 0 0) 265)
 have b1 := blk_new W 265 (nodeC x (.pointer none) (.pointer none) 0 0)
 have hT := h.kept k1 (by simp)
 have hlt := h.lt
 obtain ⟨tg, cs, h1, h2, h3, h4, h5, h6⟩ := hT.place
 have k2 := kept_set1 ((lnk fs).blk p) (lnk fs).off (W.alloc (.cells (nodeC x (.pointer none) (.pointer none) 0 0) 265)) (.pointer (some ⟨W.heap.size, 0, none⟩))
 have hin : ∀ k ∈ p :: ctx fs, k < W.heap.size := fun k hk => hlt k (by
  rcases List.mem_cons.1 hk with rfl | hk
  ·simp
  ·exact List.mem_cons_of_mem _ ((plug_blks fs .nil).mem_iff.2 (List.mem_append.2 (.inl hk))))
 have hne : W.heap.size ∉ [(lnk fs).blk p] := fun hm => by
  simp at hm
  have := hin _ h5
  omega
 refine h6 _ (.node W.heap.size x 0 0 .nil .nil) (h1.set _ _) ⟨b1.kept k2 hne, trivial, trivial⟩ k2 ?_
 have hnd := nodup_plug.1 h.nd
 simp only [Tr.blks, List.append_nil] at hnd ⊢
 rw [← List.cons_append]
 refine List.nodup_append.2 ⟨hnd, by simp, fun a ha b hb => ?_⟩
 simp at hb
 have := hin a ha
 omega
set_option maxRecDepth 100000 in
set_option maxHeartbeats 4000000 in
theorem insert_any (w : World) (p : Nat) (F : List Nat) (L : List It) (x : It) (h : TT w p F L) (hs : Sorted L) (hl : L.length ≤ 600) (_hx : x.Ok) :
  Calls Tryz.prog 136 #[.pointer (some ⟨p, 0, none⟩), .agg #[.int .i64 x.o, .int .i64 x.l], .int .i64 x.i] w fun e w' => ∃ F', e = .returned (.bool (insOk L x)) ∧ TT w' p F' (insL L x) ∧ (∀ k ∈ F', k ∈ F ∨ w.heap.size ≤ k) ∧ Kept F w w' := by
 obtain ⟨t, h1, h2, h3, hF⟩ := h
 have kA := kept_alloc [] w (.cells #[.int .i64 x.o, .int .i64 x.l] 44)
 have bA := blk_new w 44 #[.int .i64 x.o, .int .i64 x.l]
 have qm := isMade_any p _ t _ (h1.kept kA (by simp))
 have qh := fun W => hasSector_any x W
 cases hg : good x with
 | false =>
  obtain ⟨e1, e2⟩ := ins_there (L := L) (x := x) (.inr hg)
  rw [hg] at qh
  rw [e1, e2]
  clear hg e1 e2
  replace hF : Hid _ := hF
  replace h3 : Hid _ := h3
  obtain ⟨W0, hW0⟩ : ∃ W0, w.alloc (.cells #[.int .i64 x.o, .int .i64 x.l] 44) = W0 := ⟨_, rfl⟩
  rw [hW0] at kA bA qm
  have c0 := (bA.cell 0).trans (show _ = some (Value.int .i64 x.o) from rfl)
  have c1 := (bA.cell 1).trans (show _ = some (Value.int .i64 x.l) from rfl)
  go_enter Tryz.func136, Tryz.ntmps136
  go_wp2_with (first
   | (go_at_call 176; refine qm.mono ?_; rintro e W0 ⟨rfl, rfl⟩)
   | (go_at_call 177; refine (qh _).mono ?_; rintro e w2 ⟨rfl, k2⟩))
  go_ret
  exact ⟨F, rfl, ⟨t, h1.kept (kA.trans k2) (by simp), h2, h3.out, hF.out⟩, fun k hk => .inl hk, (kA.trans k2).mono (by simp)⟩
 | true =>
  rw [hg] at qh
  obtain ⟨W0, hW0⟩ : ∃ W0, w.alloc (.cells #[.int .i64 x.o, .int .i64 x.l] 44) = W0 := ⟨_, rfl⟩
  rw [hW0] at kA bA qm
  have c0 := (bA.cell 0).trans (show _ = some (Value.int .i64 x.o) from rfl)
  have c1 := (bA.cell 1).trans (show _ = some (Value.int .i64 x.l) from rfl)
  replace hF : Hid _ := hF
  replace h3 : Hid _ := h3
  replace hg : Hid _ := hg
  have hbl : t.blks.length ≤ 700 := by
   rw [← toL_length, h3.out]
   omega
  have hst : Sorted t.toL := h3.out ▸ hs
  go_enter Tryz.func136, Tryz.ntmps136
  go_wp2_with (first
   | (go_at_call 176; refine qm.mono ?_; rintro e W0 ⟨rfl, rfl⟩)
   | (go_at_call 177; refine (qh _).mono ?_; rintro e w2 ⟨rfl, k2⟩; have b2 := bA.kept k2 (by simp); have c0' := (b2.cell 0).trans (show _ = some (Value.int .i64 x.o) from rfl); have c1' := (b2.cell 1).trans (show _ = some (Value.int .i64 x.l) from rfl); have k3 := kept_alloc [] w2 (.cells #[.int .i64 x.o, .int .i64 x.l, .int .i64 x.i] 262); have b3 := blk_new w2 262 #[.int .i64 x.o, .int .i64 x.l, .int .i64 x.i]; have hT3 := ((h1.kept kA (by simp)).kept k2 (by simp)).kept k3 (by simp); have q3 := way_any p _ t x _ hT3 hst hbl)
   | (go_at_call 197; refine q3.mono ?_; rintro e w4 ⟨fs, u, g, cap, rfl, hpl, hpre, hpost, hu, hR, k4⟩))
  replace hpl : Hid _ := hpl
  replace hpre : Hid _ := hpre
  replace hpost : Hid _ := hpost
  have hT4 := hT3.kept k4 (by simp)
  have K4 : Kept [] w w4 := ((kA.trans k2).trans k3).trans k4
  have b4 := b3.kept k4 (by simp)
  have d0 := (b4.cell 0).trans (show _ = some (Value.int .i64 x.o) from rfl)
  have d1 := (b4.cell 1).trans (show _ = some (Value.int .i64 x.l) from rfl)
  have d2 := (b4.cell 2).trans (show _ = some (Value.int .i64 x.i) from rfl)
  obtain ⟨hc1, hg1, hg2⟩ := way_last hR
  have hfl : fs.length ≤ 700 := by
   have e1 := (plug_blks fs u).length_eq
   have e2 := fs_length fs
   have e3 := hpl.out
   rw [e3] at hbl
   simp only [List.length_append] at e1
   omega
  have q5 := last_any g fs.length cap _ w4 (by omega) hc1
  have hz3 : Hid _ := Nat.le_trans kA.size (Nat.le_trans k2.size k3.size)
  have hz4 : Hid _ := k4.size
  rw [hpl.out] at hT4
  obtain ⟨tg, cs, hp1, hp2, hp3, -, hp5, -⟩ := hT4.place
  have hc2 := blk_get hp1 hp2
  have hf2 := hp1.frozen (lnk fs).off
  clear q3 hT3 kA k2 k3 k4 b2 c0' c1' b3 b4 hc1 qm qh c0 c1 bA hW0
  unfold lnV at q5
  rcases hu with rfl | ⟨b, e, hh, l, r, rfl⟩
  ·refine q5.mono ?_
   clear q5
   rintro e5 w4 ⟨rfl, rfl⟩
   rw [ptr_nil] at hc2
   have hG : Whole ((w4.alloc (.cells #[.int .i64 x.o, .int .i64 x.l, .int .i64 x.i, .pointer none, .pointer none, .int .i64 0, .int .i64 0] 265)).setCell ⟨(lnk fs).blk p, (lnk fs).off, none⟩ (.pointer (some ⟨w4.heap.size, 0, none⟩))) p L.length (plug fs (.node w4.heap.size x 0 0 .nil .nil)) := hT4.grow x
   have kG : Kept [(lnk fs).blk p] w4 _ := (kept_alloc [(lnk fs).blk p] w4 (.cells #[.int .i64 x.o, .int .i64 x.l, .int .i64 x.i, .pointer none, .pointer none, .int .i64 0, .int .i64 0] 265)).trans (kept_set1 ((lnk fs).blk p) (lnk fs).off _ (.pointer (some ⟨w4.heap.size, 0, none⟩)))
   have hp1' := hp1.kept (kept_alloc [] w4 (.cells #[.int .i64 x.o, .int .i64 x.l, .int .i64 x.i, .pointer none, .pointer none, .int .i64 0, .int .i64 0] 265)) (by simp)
   have hc3 := blk_get hp1' hp2
   have hf3 := hp1'.frozen (lnk fs).off
   rw [ptr_nil] at hc3
   obtain ⟨B, hB⟩ : ∃ B, (lnk fs).blk p = B := ⟨_, rfl⟩
   obtain ⟨O, hO⟩ : ∃ O, (lnk fs).off = O := ⟨_, rfl⟩
   rw [hB, hO] at hG hc2 hf2 hc3 hf3 ⊢
   rw [hB] at hp5
   rw [hB, hO] at kG
   clear hB hO
   go_upto_region 9 with fail
   obtain ⟨W5, hW5⟩ : ∃ W5, (w4.alloc (.cells #[.int .i64 x.o, .int .i64 x.l, .int .i64 x.i, .pointer none, .pointer none, .int .i64 0, .int .i64 0] 265)).setCell ⟨B, O, none⟩ (.pointer (some ⟨w4.heap.size, 0, none⟩)) = W5 := ⟨_, rfl⟩
   rw [hW5] at hG kG ⊢
   clear hW5
   have hS1 := hG.size (L.length + 1)
   have kS := kept_set1 p 2 W5 (.int .i64 ((L.length + 1 : Nat) : Int))
   rw [show ((L.length + 1 : Nat) : Int) = (L.length : Int) + 1 by omega] at hS1 kS
   have hcp := (hG.blk.cell 2).trans (show _ = some (Value.int .i64 (L.length : Int)) from rfl)
   have hfp := hG.blk.frozen 2
   have hw4 : ∀ k ∈ p :: ctx fs, k < w4.heap.size := fun k hk => hT4.lt k (by
    rcases List.mem_cons.1 hk with rfl | hk
    ·simp
    ·exact List.mem_cons_of_mem _ ((plug_blks fs .nil).mem_iff.2 (List.mem_append.2 (.inl hk))))
   have hwo : ∀ k ∈ p :: ctx fs, k < w.heap.size := fun k hk => h1.lt k (by
    rw [hpl.out]
    rcases List.mem_cons.1 hk with rfl | hk
    ·simp
    ·exact List.mem_cons_of_mem _ ((plug_blks fs .nil).mem_iff.2 (List.mem_append.2 (.inl hk))))
   obtain ⟨nb, hnb⟩ : ∃ nb, w4.heap.size = nb := ⟨_, rfl⟩
   rw [hnb] at hG hS1
   have hmem : ∀ k ∈ p :: (plug fs (.node nb x 0 0 .nil .nil)).blks, k ∈ p :: ctx fs ∨ k = nb := fun k hk => by
    rcases List.mem_cons.1 hk with rfl | hk
    ·exact .inl (by simp)
    ·rcases List.mem_append.1 ((plug_blks fs _).mem_iff.1 hk) with hk | hk
     ·exact .inl (List.mem_cons_of_mem _ hk)
     ·simp [Tr.blks] at hk
      exact .inr hk
   have hbase : w.heap.size ≤ (w2.alloc (.cells #[.int .i64 x.o, .int .i64 x.l, .int .i64 x.i] 262)).heap.size := hz3.out
   have hR6 := (hR.kept kG (fun k hk => by simp at hk; subst hk; have := hwo k hp5; omega)).kept kS (fun k hk => by simp at hk; subst hk; have := hwo k (by simp); omega)
   have hL6 := lns_of_row hR6 (by omega)
   have hmo : (plug fs (.node nb x 0 0 .nil .nil)).most + 4 * (fs.length + 1) ≤ 700000 := by
    have e1 := good_most t h2
    rw [h3.out, hpl.out, plug_most] at e1
    rw [plug_most]
    simp only [Tr.most] at e1 ⊢
    omega
   have hgn : g ∉ p :: (plug fs (.node nb x 0 0 .nil .nil)).blks := fun hm => by
    rcases hmem g hm with e1 | e1
    ·have := hwo g e1
     omega
    ·omega
   have q6 := settle_any p (L.length + 1) g cap fs (.node nb x 0 0 .nil .nil) _ hS1 hL6 hgn hmo
   obtain ⟨m, hm⟩ : ∃ m, fs.length + 1 = m := ⟨_, rfl⟩
   rw [hm] at q6 ⊢
   clear hm
   go_wp2_with (go_at_call 199; refine q6.mono ?_; rintro e7 w7 ⟨rfl, hW7, k7⟩)
   go_ret
   have hLL : L = pre fs ++ post fs := by
    have := h3.out
    rw [hpl.out, plug_toL] at this
    simpa [Tr.toL] using this.symm
   obtain ⟨i1, i2⟩ := ins_mid (A := pre fs) (B := post fs) hpre.out hpost.out hg.out
   rw [← hLL] at i1 i2
   have htl : (settleT fs (.node nb x 0 0 .nil .nil)).toL = insL L x := by
    rw [settle_toL, i2]
    simp [Tr.toL]
   have hgd : Good (settleT fs (.node nb x 0 0 .nil .nil)) := by
    have hgp := (good_plug fs .nil (hpl.out ▸ h2)).1
    have hlv1 : lv (.node nb x 0 0 .nil .nil) = cnt nb x .nil .nil := rfl
    refine settle_good fs _ 0 hgp ?_ ?_ ?_
    ·rw [hlv1]
     exact cnt_good trivial trivial hg.out (by simp [Tr.tall]) (by simp [Tr.tall])
    ·rw [hlv1, cnt_tall]
     simp [Tr.tall]
    ·omega
   have hsb := settle_blks fs (.node nb x 0 0 .nil .nil)
   have hnbw : w.heap.size ≤ nb := by have := K4.size; omega
   have hFp : ∀ k ∈ p :: ctx fs, k ∈ F := fun k hk => by
    rw [hF.out, hpl.out]
    rcases List.mem_cons.1 hk with rfl | hk
    ·simp
    ·exact List.mem_cons_of_mem _ ((plug_blks fs .nil).mem_iff.2 (List.mem_append.2 (.inl hk)))
   refine ⟨p :: (settleT fs (.node nb x 0 0 .nil .nil)).blks, by rw [i1]; rfl, ⟨_, ?_, hgd, htl, rfl⟩, fun k hk => ?_, ?_⟩
   ·have e1 : (insL L x).length = L.length + 1 := by
     rw [ins_length, if_pos i1]
    rw [e1]
    exact hW7
   ·rcases List.mem_cons.1 hk with rfl | hk
    ·exact .inl (hFp k (by simp))
    ·rcases List.mem_append.1 (hsb.mem_iff.1 hk) with hk | hk
     ·exact .inl (hFp k (by simp [hk]))
     ·simp [Tr.blks] at hk
      exact .inr (by omega)
   ·have e1 : Kept F w W5 := (K4.mono (by simp)).trans (kG.mono (fun k hk => by simp at hk; subst hk; exact hFp k hp5))
    have e2 := e1.trans (kS.mono (fun k hk => by simp at hk; subst hk; exact hFp k (by simp)))
    refine kept_youngs e2 k7 (fun k hk => ?_)
    rcases hmem k hk with e3 | e3
    ·exact .inl (hFp k e3)
    ·exact .inr (by omega)
  ·refine q5.mono ?_
   clear q5
   rintro e5 w4 ⟨rfl, rfl⟩
   rw [ptr_node] at hc2
   have hth : there L x = true := by
    rw [there_iff hs, ← h3.out, hpl.out, plug_toL]
    simp [Tr.toL]
   obtain ⟨e1, e2⟩ := ins_there (L := L) (x := x) (.inl hth)
   replace e1 : Hid _ := e1
   replace e2 : Hid _ := e2
   clear hth
   go_wp2
   go_ret
   exact ⟨F, by rw [e1.out]; rfl, by rw [e2.out]; exact ⟨t, h1.kept K4 (by simp), h2, h3.out, hF.out⟩, fun k hk => .inl hk, K4.mono (by simp)⟩
end Go.Proofs.YtoaeficfmcncjaaGreat.Itree

