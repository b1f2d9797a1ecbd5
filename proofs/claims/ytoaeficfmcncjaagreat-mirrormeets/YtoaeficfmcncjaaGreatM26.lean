/-
 A span taken out: the walk of Delete.
-/
import Derived.Test.YtoaeficfmcncjaaGreatM25
namespace Go.Proofs.YtoaeficfmcncjaaGreat.Itree
open Go.RowKit
def rest (l r : Tr) : Tr := match l with
 | .nil => r
 | .node .. => l
theorem rest_ptr {l r : Tr} {a b : Option Addr} (ha : l.ptr = .pointer a) (hb : r.ptr = .pointer b) : (rest l r).ptr = .pointer (if a = none then b else a) := by
 cases l with
 | nil =>
  rw [ptr_nil] at ha
  injection ha with ha
  rw [if_pos ha.symm]
  exact hb
 | node c x e h l' r' =>
  rw [ptr_node] at ha
  injection ha with ha
  rw [if_neg (by rw [← ha]; simp)]
  show (Tr.node c x e h l' r').ptr = _
  rw [ptr_node, ha]
theorem Whole.shrink {W : World} {p n : Nat} {G : List Fr} {gb : Nat} {gx : It} {ge : Int} {gh : Nat} {gl gr : Tr} (h : Whole W p n (plug G (.node gb gx ge gh gl gr))) (h1 : gl = .nil ∨ gr = .nil) :
  Whole (W.setCell ⟨(lnk G).blk p, (lnk G).off, none⟩ (rest gl gr).ptr) p n (plug G (rest gl gr)) := by
 obtain ⟨tg, cs, p1, p2, p3, p4, p5, p6⟩ := h.place
 have hsub : ∀ k ∈ (rest gl gr).blks, k ∈ (Tr.node gb gx ge gh gl gr).blks := fun k hk => by
  cases gl with
  | nil => simp only [rest] at hk; simp [Tr.blks, hk]
  | node c x e h' l' r' => exact List.mem_cons_of_mem _ (List.mem_append.2 (.inl hk))
 have hat : TrAt W (rest gl gr) := by
  obtain ⟨_, a1, a2⟩ := p3
  cases gl with
  | nil => exact a2
  | node c x e h' l' r' => exact a1
 have k1 := kept_set1 ((lnk G).blk p) (lnk G).off W (rest gl gr).ptr
 refine p6 _ _ (p1.set _ _) (hat.kept1 k1 (fun hm => (List.nodup_cons.1 p4).1 (hsub _ hm))) (k1.mono (by simp)) ?_
 have hnd := nodup_plug.1 h.nd
 refine hnd.sublist ?_
 refine List.Sublist.cons_cons _ (List.Sublist.append_left ?_ _)
 refine List.Sublist.cons _ ?_
 rcases h1 with rfl | rfl
 ·exact List.Sublist.refl _
 ·cases gl with
  | nil => exact List.Sublist.refl _
  | node c x e h' l' r' => simp [rest, Tr.blks]
theorem Whole.retell {W : World} {p n : Nat} {gs fs : List Fr} {b : Nat} {y x' : It} {e : Int} {hh : Nat} {l u : Tr} (h : Whole W p n (plug (gs ++ ⟨b, y, e, hh, true, l⟩ :: fs) u)) {W' : World}
  (hb : ∀ vl vr e' h', Blk W b 265 (nodeC y vl vr e' h') → Blk W' b 265 (nodeC x' vl vr e' h')) (hk : Kept [b] W W') : Whole W' p n (plug (gs ++ ⟨b, x', e, hh, true, l⟩ :: fs) u) := by
 have hnd := h.nd
 have hperm : (plug (gs ++ ⟨b, x', e, hh, true, l⟩ :: fs) u).blks.Perm (plug (gs ++ ⟨b, y, e, hh, true, l⟩ :: fs) u).blks := by
  rw [plug_append, plug_append]
  exact (plug_blks (⟨b, x', e, hh, true, l⟩ :: fs) (plug gs u)).trans (plug_blks (⟨b, y, e, hh, true, l⟩ :: fs) (plug gs u)).symm
 obtain ⟨hc, hu⟩ := (plug_at W _ _).1 h.nodes
 rw [plug_append] at hnd
 have hnd2 := nodup_plug.1 hnd
 have hbn : b ∉ p :: (l.blks ++ ctx fs ++ (plug gs u).blks) := by
  simp only [ctx, List.cons_append] at hnd2
  have a1 := List.nodup_cons.1 hnd2
  have a2 := List.nodup_cons.1 a1.2
  intro hm
  rcases List.mem_cons.1 hm with rfl | hm
  ·exact a1.1 (by simp)
  ·exact a2.1 hm
 have hptr : (plug (gs ++ ⟨b, x', e, hh, true, l⟩ :: fs) u).ptr = (plug (gs ++ ⟨b, y, e, hh, true, l⟩ :: fs) u).ptr := by
  rw [plug_append, plug_append]
  cases fs with
  | nil => rfl
  | cons f fs => exact plug_ptr f fs _ _
 have hnodes := h.nodes
 rw [plug_append] at hnodes
 obtain ⟨⟨c1, c2, c3⟩, c4⟩ := (plug_at W _ _).1 hnodes
 refine ⟨?_, ?_, (hperm.cons p).nodup_iff.2 h.nd⟩
 ·rw [hptr]
  exact h.blk.kept hk (by simp; exact fun e1 => hbn (by simp [e1]))
 ·rw [plug_append]
  refine (plug_at W' _ _).2 ⟨⟨hb _ _ _ _ c1, c2.kept1 hk (fun hm => hbn (by simp [hm])), c3.kept hk (fun k hm he => by simp at he; subst he; exact hbn (by simp [hm]))⟩, c4.kept1 hk (fun hm => hbn (by simp [hm]))⟩
theorem lnks_retell (b : Nat) (y x' : It) (e : Int) (hh : Nat) (l : Tr) (fs : List Fr) : ∀ gs : List Fr, lnks (gs ++ ⟨b, x', e, hh, true, l⟩ :: fs) = lnks (gs ++ ⟨b, y, e, hh, true, l⟩ :: fs)
 | [] => rfl
 | _ :: gs => by
  show lnks (gs ++ _) ++ _ = lnks (gs ++ _) ++ _
  rw [lnks_retell b y x' e hh l fs gs]
theorem mostF_retell (b : Nat) (y x' : It) (e : Int) (hh : Nat) (l : Tr) (fs : List Fr) : ∀ gs : List Fr, mostF (gs ++ ⟨b, x', e, hh, true, l⟩ :: fs) = mostF (gs ++ ⟨b, y, e, hh, true, l⟩ :: fs)
 | [] => rfl
 | g :: gs => by
  show max g.h (max g.t.most (mostF (gs ++ _))) = max g.h (max g.t.most (mostF (gs ++ _)))
  rw [mostF_retell b y x' e hh l fs gs]
theorem goodF_retell {b : Nat} {y x' : It} {e : Int} {hh : Nat} {l : Tr} {fs : List Fr} (hx : good x' = true) : ∀ (gs : List Fr) (k : Nat), GoodF (gs ++ ⟨b, y, e, hh, true, l⟩ :: fs) k → GoodF (gs ++ ⟨b, x', e, hh, true, l⟩ :: fs) k
 | [], _, ⟨h1, _, h3⟩ => ⟨h1, hx, h3⟩
 | _ :: gs, _, ⟨h1, h2, h3, h4, h5, h6⟩ => ⟨h1, h2, h3, h4, h5, goodF_retell hx gs _ h6⟩
structure Going (w Wc : World) (p base n : Nat) (F : List Nat) (L' : List It) (G : List Fr) (gb : Nat) (gx : It) (ge : Int) (gh : Nat) (gl gr : Tr) (g cap : Nat) : Prop where
 tree : Whole Wc p n (plug G (.node gb gx ge gh gl gr))
 one : gl = .nil ∨ gr = .nil
 row : PRow Wc 278 base (.slice (some ⟨g, 0, none⟩) (G.length + 1) cap) ((lnks G).map (lnV p))
 kept : Kept F w Wc
 few : G.length ≤ 700
 sub : ∀ k ∈ p :: (plug G (.node gb gx ge gh gl gr)).blks, k ∈ F
 low : ∀ k ∈ F, k < base
 most : (plug G (.node gb gx ge gh gl gr)).most ≤ 600
 good : Good (settleT G (rest gl gr))
 items : (settleT G (rest gl gr)).toL = L'
theorem rest_sub {gb : Nat} {gx : It} {ge : Int} {gh : Nat} {gl gr : Tr} : ∀ k ∈ (rest gl gr).blks, k ∈ (Tr.node gb gx ge gh gl gr).blks := fun k hk => by
 cases gl with
 | nil => simp only [rest] at hk; simp [Tr.blks, hk]
 | node c x e h' l' r' => exact List.mem_cons_of_mem _ (List.mem_append.2 (.inl hk))
theorem rest_most {gb : Nat} {gx : It} {ge : Int} {gh : Nat} {gl gr : Tr} : (rest gl gr).most ≤ (Tr.node gb gx ge gh gl gr).most := by
 cases gl with
 | nil => simp only [rest, Tr.most]; omega
 | node c x e h' l' r' => simp only [rest, Tr.most]; omega
theorem Going.most2 {w Wc : World} {p base n : Nat} {F : List Nat} {L' : List It} {G : List Fr} {gb : Nat} {gx : It} {ge : Int} {gh : Nat} {gl gr : Tr} {g cap : Nat} (h : Going w Wc p base n F L' G gb gx ge gh gl gr g cap) : (plug G (rest gl gr)).most ≤ 600 := by
 have e1 := h.most
 have e2 := rest_most (gb := gb) (gx := gx) (ge := ge) (gh := gh) (gl := gl) (gr := gr)
 rw [plug_most] at e1 ⊢
 omega
theorem Going.rest_in {w Wc : World} {p base n : Nat} {F : List Nat} {L' : List It} {G : List Fr} {gb : Nat} {gx : It} {ge : Int} {gh : Nat} {gl gr : Tr} {g cap : Nat} (h : Going w Wc p base n F L' G gb gx ge gh gl gr g cap) : ∀ k ∈ p :: (plug G (rest gl gr)).blks, k ∈ F := fun k hk => by
 refine h.sub k ?_
 rcases List.mem_cons.1 hk with rfl | hk
 ·simp
 ·refine List.mem_cons_of_mem _ ((plug_blks _ _).mem_iff.2 ?_)
  rcases List.mem_append.1 ((plug_blks _ _).mem_iff.1 hk) with hk | hk
  ·exact List.mem_append.2 (.inl hk)
  ·exact List.mem_append.2 (.inr (rest_sub k hk))
set_option maxRecDepth 100000 in
set_option maxHeartbeats 8000000 in
theorem delete_any (w : World) (p : Nat) (F : List Nat) (L : List It) (x : It) (h : TT w p F L) (hs : Sorted L) (hl : L.length ≤ 600) (_hx : x.Ok) :
  Calls Tryz.prog 207 #[.pointer (some ⟨p, 0, none⟩), .agg #[.int .i64 x.o, .int .i64 x.l], .int .i64 x.i] w fun e w' => ∃ F', e = .returned (.bool (there L x)) ∧ TT w' p F' (delL L x) ∧ (∀ k ∈ F', k ∈ F ∨ w.heap.size ≤ k) ∧ Kept F w w' := by
 obtain ⟨t, h1, h2, h3, hF⟩ := h
 have kA := kept_alloc [] w (.cells #[.int .i64 x.o, .int .i64 x.l] 44)
 have bA := blk_new w 44 #[.int .i64 x.o, .int .i64 x.l]
 have hT0 := h1.kept kA (by simp)
 have qm := isMade_any p _ t _ hT0
 obtain ⟨W0, hW0⟩ : ∃ W0, w.alloc (.cells #[.int .i64 x.o, .int .i64 x.l] 44) = W0 := ⟨_, rfl⟩
 rw [hW0] at kA bA qm hT0
 have c0 := (bA.cell 0).trans (show _ = some (Value.int .i64 x.o) from rfl)
 have c1 := (bA.cell 1).trans (show _ = some (Value.int .i64 x.l) from rfl)
 replace hF : Hid _ := hF
 replace h3 : Hid _ := h3
 have hbl : t.blks.length ≤ 700 := by
  rw [← toL_length, h3.out]
  omega
 have hst : Sorted t.toL := h3.out ▸ hs
 have q3 := way_any p _ t x _ hT0 hst hbl
 unfold It.val at q3
 go_enter Tryz.func207, Tryz.ntmps207
 go_wp2_with (first
  | (go_at_call 176; refine qm.mono ?_; rintro e W0 ⟨rfl, rfl⟩)
  | (go_at_call 197; refine q3.mono ?_; rintro e w4 ⟨fs, u, g, cap, rfl, hpl, hpre, hpost, hu, hR, k4⟩))
 replace hpl : Hid _ := hpl
 replace hpre : Hid _ := hpre
 replace hpost : Hid _ := hpost
 have hT4 := hT0.kept k4 (by simp)
 have K4 : Kept [] w w4 := kA.trans k4
 obtain ⟨hc1, hg1, hg2⟩ := way_last hR
 have hfl : fs.length ≤ 700 := by
  have e1 := (plug_blks fs u).length_eq
  have e2 := fs_length fs
  have e3 := hpl.out
  rw [e3] at hbl
  simp only [List.length_append] at e1
  omega
 have q5 := last_any g fs.length cap _ w4 (by omega) hc1
 rw [hpl.out] at hT4
 obtain ⟨tg, cs, hp1, hp2, hp3, -, hp5, -⟩ := hT4.place
 have hc2 := blk_get hp1 hp2
 clear q3 bA hc1 qm c0 c1 hW0
 unfold lnV at q5
 rcases hu with rfl | ⟨b, e, hh, l, r, rfl⟩
 ·refine q5.mono ?_
  clear q5
  rintro e5 w4 ⟨rfl, rfl⟩
  rw [ptr_nil] at hc2
  have hth : there L x = false := by
   have := h3.out
   rw [hpl.out, plug_toL] at this
   simp only [Tr.toL, List.append_nil] at this
   rw [← this]
   exact (there_not hpre.out hpost.out).2
  have e2 : Hid _ := del_not hth
  replace hth : Hid _ := hth
  go_wp2
  go_ret
  exact ⟨F, by rw [hth.out]; rfl, by rw [e2.out]; exact ⟨t, h1.kept K4 (by simp), h2, h3.out, hF.out⟩, fun k hk => .inl hk, K4.mono (by simp)⟩
 ·refine q5.mono ?_
  clear q5
  rintro e5 w4 ⟨rfl, rfl⟩
  rw [ptr_node] at hc2
  obtain ⟨hnb, hnl, hnr⟩ := hp3
  obtain ⟨⟨d0, d1, d2⟩, d3, d4, d5, d6⟩ := nd_cells hnb
  have hrep : Hid (L = pre fs ++ (l.toL ++ x :: r.toL) ++ post fs) := (show _ = _ by
   have := h3.out
   rw [hpl.out, plug_toL] at this
   simpa [Tr.toL] using this.symm)
  have hth : Hid (there L x = true) := (show _ = _ by
   rw [there_iff hs, hrep.out]
   simp)
  have hdl : Hid (delL L x = pre fs ++ (l.toL ++ r.toL) ++ post fs) := (show _ = _ by
   have e1 := hrep.out
   rw [show pre fs ++ (l.toL ++ x :: r.toL) ++ post fs = (pre fs ++ l.toL) ++ x :: (r.toL ++ post fs) by simp] at e1
   rw [e1, del_mid (e1 ▸ hs)]
   simp)
  have hGp := good_plug fs _ (hpl.out ▸ h2)
  have hmo : Hid ((plug fs (.node b x e hh l r)).most ≤ 600) := (show _ ≤ _ by
   have := good_most t h2
   rw [h3.out, hpl.out] at this
   omega)
  have hsubF : Hid (∀ k ∈ p :: (plug fs (.node b x e hh l r)).blks, k ∈ F) := (show ∀ k ∈ p :: (plug fs (.node b x e hh l r)).blks, k ∈ F from fun k hk => by rw [hF.out, hpl.out]; exact hk)
  have hlowF : Hid (∀ k ∈ F, k < W0.heap.size) := (show ∀ k ∈ F, k < W0.heap.size from fun k hk => by rw [hF.out] at hk; exact hT0.lt k hk)
  have hgone : Hid (l = .nil ∨ r = .nil → Going w w4 p W0.heap.size L.length F (delL L x) fs b x e hh l r g cap) := (show l = .nil ∨ r = .nil → Going w w4 p W0.heap.size L.length F (delL L x) fs b x e hh l r g cap from fun hone =>
   ⟨hT4, hone, hR, K4.mono (by simp), hfl, hsubF.out, hlowF.out, hmo.out, by
    obtain ⟨g1, g2, g3, g4, g5, g6, _⟩ := hGp.2
    have hgf := hGp.1
    simp only [Tr.tall] at hgf
    refine settle_good fs _ hh hgf ?_ ?_ ?_
    ·rcases hone with rfl | rfl
     ·show Good (lv r)
      rw [lv_same g2]
      exact g2
     ·cases l with
      | nil => trivial
      | node c x' e' h' l' r' =>
       show Good (lv (Tr.node c x' e' h' l' r'))
       rw [lv_same g1]
       exact g1
    ·rcases hone with rfl | rfl
     ·show (lv r).tall ≤ _
      rw [lv_same g2]
      omega
     ·cases l with
      | nil => exact Nat.zero_le _
      | node c x' e' h' l' r' =>
       show (lv (Tr.node c x' e' h' l' r')).tall ≤ _
       rw [lv_same g1]
       omega
    ·rcases hone with rfl | rfl
     ·show _ ≤ (lv r).tall + 1
      rw [lv_same g2]
      have g4' : hh = max 0 r.tall + 1 := g4
      have g6' : r.tall ≤ 0 + 1 := g6
      omega
     ·cases l with
      | nil =>
       have g4' : hh = max 0 0 + 1 := g4
       show hh ≤ 0 + 1
       omega
      | node c x' e' h' l' r' =>
       show _ ≤ (lv (Tr.node c x' e' h' l' r')).tall + 1
       rw [lv_same g1]
       have g4' : hh = max h' 0 + 1 := g4
       have g5' : h' ≤ 0 + 1 := g5
       show hh ≤ h' + 1
       omega, by
    rw [settle_toL, hdl.out]
    congr 2
    rcases hone with rfl | rfl
    ·simp [rest, Tr.toL]
    ·cases l with
     | nil => rfl
     | node c x' e' h' l' r' => simp [rest, Tr.toL]⟩)
  have hLpos : Hid (0 < L.length) := (show _ < _ by rw [hrep.out]; simp; omega)
  have hmoK := hmo
  clear hmo
  cases l with
  | nil =>
   rw [ptr_nil] at d3
   go_upto_region 12 with fail
   have hGo := hgone.out (by simp)
   obtain ⟨g5, hg5⟩ : ∃ g5, g = g5 := ⟨_, rfl⟩
   obtain ⟨cap5, hcap5⟩ : ∃ cap5, cap = cap5 := ⟨_, rfl⟩
   obtain ⟨gl, hgl⟩ : ∃ gl, Tr.nil = gl := ⟨_, rfl⟩
   obtain ⟨gr, hgr⟩ : ∃ gr, r = gr := ⟨_, rfl⟩
   rw [hgl, hgr, hg5, hcap5] at hGo
   rw [hg5, hcap5]
   obtain ⟨G, hG⟩ : ∃ G, fs = G := ⟨_, rfl⟩
   obtain ⟨Wc, hWc⟩ : ∃ Wc, w4 = Wc := ⟨_, rfl⟩
   obtain ⟨gb, hgb⟩ : ∃ gb, b = gb := ⟨_, rfl⟩
   rw [hG, hWc, hgb] at hGo
   rw [hG, hWc, hgb]
   clear hgone hgl hgr hg5 hcap5 hG hWc hgb hR hT4 hnb hnl hnr d0 d1 d2 d3 d4 d5 d6 hc2 hp1 hp2 hp5 hrep hdl
   obtain ⟨pa, hpa⟩ := ptr_is gl
   obtain ⟨pb, hpb⟩ := ptr_is gr
   have hrp := rest_ptr hpa hpb
   obtain ⟨PC, hPC⟩ : ∃ PC, (if pa = none then pb else pa) = PC := ⟨_, rfl⟩
   rw [hPC] at hrp
   obtain ⟨tg', cs', hq1, hq2, hq3, hq4, hq5, -⟩ := hGo.tree.place
   have hgB : gb ≠ (lnk G).blk p := fun e1 => (List.nodup_cons.1 hq4).1 (by rw [← e1]; simp [Tr.blks])
   obtain ⟨hqn, -, -⟩ := hq3
   rw [hpa, hpb] at hqn
   obtain ⟨hrc, hrb, hrl⟩ := way_last hGo.row
   have hS : ∀ W, Kept [(lnk G).blk p] Wc W → (W.cell? ⟨gb, 3, none⟩ = some (.pointer pa) ∧ W.cell? ⟨gb, 4, none⟩ = some (.pointer pb)) := fun W hk => ⟨(nd_cells (hqn.kept hk (by simp; exact hgB))).2.1, (nd_cells (hqn.kept hk (by simp; exact hgB))).2.2.1⟩
   have hP : ∀ W, Kept [] Wc W → W.cell? ⟨(lnk G).blk p, (lnk G).off, none⟩ = some (.pointer (some ⟨gb, 0, none⟩)) ∧ W.frozen? ⟨(lnk G).blk p, (lnk G).off, none⟩ = false := fun W hk => ⟨blk_get (hq1.kept hk (by simp)) hq2, (hq1.kept hk (by simp)).frozen _⟩
   have hfw := hGo.few
   have qL : ∀ W, Kept [] Wc W → Calls Tryz.prog 198 #[.slice (some ⟨g5, 0, none⟩) (G.length + 1) cap5] W fun e w' => e = .returned (lnV p (lnk G)) ∧ w' = W := fun W hk => last_any g5 G.length cap5 _ W (by omega) (way_last (hGo.row.kept hk (by simp))).1
   have kO := kept_alloc [] Wc (.cells #[.pointer pa, .pointer pb] 239)
   have bO := (blk_new Wc 239 #[.pointer pa, .pointer pb]).kept (kept_drew [] _) (by simp)
   have qO := or_any pa pb Wc.heap.size _ ((bO.cell 0).trans rfl) ((bO.cell 1).trans rfl)
   rw [hPC] at qO
   have hWs := ((hGo.tree.kept kO (by simp)).shrink hGo.one).kept (kept_drew [] _) (by simp)
   rw [hrp] at hWs
   have kW := ((kO.mono (L' := [(lnk G).blk p]) (by simp)).trans (kept_set1 ((lnk G).blk p) (lnk G).off (Wc.alloc (.cells #[.pointer pa, .pointer pb] 239)) (.pointer PC))).trans (kept_drew _ _)
   obtain ⟨hP1, hP2⟩ := hP _ kO
   have hqF : (lnk G).blk p ∈ F := hGo.sub _ (by
    rcases List.mem_cons.1 hq5 with e1 | e1
    ·rw [e1]; simp
    ·exact List.mem_cons_of_mem _ ((plug_blks _ _).mem_iff.2 (List.mem_append.2 (.inl e1))))
   replace hrp : Hid _ := hrp
   replace hpa : Hid _ := hpa
   replace hpb : Hid _ := hpb
   unfold lnV at qL
   obtain ⟨B, hB⟩ : ∃ B, (lnk G).blk p = B := ⟨_, rfl⟩
   obtain ⟨O, hO⟩ : ∃ O, (lnk G).off = O := ⟨_, rfl⟩
   obtain ⟨m, hm⟩ : ∃ m, G.length + 1 = m := ⟨_, rfl⟩
   rw [hB, hO] at hWs kW hP1 hP2
   rw [hB] at hS
   simp only [hB, hO, hm] at qL
   rw [hB] at hqF
   rw [hm]
   replace hm : Hid _ := hm
   clear hB hO hP hq1 hq2 hq5 hqn hrc hPC bO
   have hkd := kept_drew [] Wc
   go_cut [] from 52 (fun W => Whole W p L.length (plug G (rest gl gr)) ∧ Kept [B] Wc W)
   case first =>
    go_region_held3 (fun W => W.cell? ⟨gb, 3, none⟩ = some (.pointer pa) ∧ W.cell? ⟨gb, 4, none⟩ = some (.pointer pb)) (exact hS _ (by first | exact hkd.mono (by simp) | exact (hkd.trans (kept_alloc [] _ _)).mono (by simp) | exact kW)) (first
     | (go_at_call 198; refine (qL _ (by first | exact hkd | exact hkd.trans (kept_alloc [] _ _))).mono ?_; rintro e6 w6 ⟨rfl, rfl⟩)
     | (go_at_call 252; refine qO.mono ?_; rintro e6 w6 ⟨rfl, rfl⟩))
    all_goals (try go_wp2_with fail)
    all_goals go_meet
    all_goals exact ⟨hWs, kW⟩
   case rest =>
    clear hWs kW hP1 hP2 qO qL hS hkd kO
    obtain ⟨hWs, kW⟩ := hcut
    have hpos : 0 < L.length := hLpos.out
    obtain ⟨n1, hn1⟩ : ∃ n1 : Nat, L.length = n1 + 1 := ⟨L.length - 1, by omega⟩
    have hcp := (hWs.blk.cell 2).trans (show _ = some (Value.int .i64 (L.length : Int)) from rfl)
    have hfp := hWs.blk.frozen 2
    have hS1 := hWs.size n1
    have kS := kept_set1 p 2 wc (.int .i64 (n1 : Int))
    rw [hn1, show ((n1 + 1 : Nat) : Int) = (n1 : Int) + 1 by omega] at hcp
    have hn600 : (n1 : Int) ≤ 600 := by omega
    have hpF : p ∈ F := hGo.sub p (by simp)
    have hR6 := (hGo.row.kept kW (fun k hk => by simp at hk; subst hk; exact hGo.low k hqF)).kept kS (fun k hk => by simp at hk; subst hk; exact hGo.low k hpF)
    have hL6 := lns_of_row hR6 (by omega)
    have hgn : g5 ∉ p :: (plug G (rest gl gr)).blks := fun hm => by
     have := hGo.low g5 (hGo.rest_in g5 hm)
     omega
    have hmo2 : (plug G (rest gl gr)).most + 4 * (G.length + 1) ≤ 700000 := by
     have e1 := hGo.most2
     omega
    have q6 := settle_any p n1 g5 cap5 G (rest gl gr) _ hS1 hL6 hgn hmo2
    rw [hm.out] at q6
    replace hn1 : Hid _ := hn1
    clear hR6 hL6 hgn hmo2
    go_wp2_with (go_at_call 199; refine q6.mono ?_; rintro e7 w7 ⟨rfl, hW7, k7⟩)
    go_ret
    refine ⟨p :: (settleT G (rest gl gr)).blks, by rw [hth.out]; rfl, ⟨_, ?_, hGo.good, hGo.items, rfl⟩, fun k hk => .inl ?_, ?_⟩
    ·have e1 : (delL L x).length = n1 := by
      rw [del_length, if_pos hth.out, hn1.out]
      omega
     rw [e1]
     exact hW7
    ·refine hGo.rest_in k ?_
     rcases List.mem_cons.1 hk with rfl | hk
     ·simp
     ·exact List.mem_cons_of_mem _ ((plug_blks _ _).mem_iff.2 ((settle_blks _ _).mem_iff.1 hk))
    ·exact ((hGo.kept.trans (kW.mono (fun k hk => by simp at hk; subst hk; exact hqF))).trans (kS.mono (fun k hk => by simp at hk; subst hk; exact hpF))).trans (k7.mono hGo.rest_in)
  | node lb lx le lh ll lr =>
   rw [ptr_node] at d3
   cases r with
   | nil =>
    rw [ptr_nil] at d4
    go_upto_region 12 with fail
    have hGo := hgone.out (by simp)
    obtain ⟨g5, hg5⟩ : ∃ g5, g = g5 := ⟨_, rfl⟩
    obtain ⟨cap5, hcap5⟩ : ∃ cap5, cap = cap5 := ⟨_, rfl⟩
    obtain ⟨gl, hgl⟩ : ∃ gl, Tr.node lb lx le lh ll lr = gl := ⟨_, rfl⟩
    obtain ⟨gr, hgr⟩ : ∃ gr, Tr.nil = gr := ⟨_, rfl⟩
    rw [hgl, hgr, hg5, hcap5] at hGo
    rw [hg5, hcap5]
    obtain ⟨G, hG⟩ : ∃ G, fs = G := ⟨_, rfl⟩
    obtain ⟨Wc, hWc⟩ : ∃ Wc, w4 = Wc := ⟨_, rfl⟩
    obtain ⟨gb, hgb⟩ : ∃ gb, b = gb := ⟨_, rfl⟩
    rw [hG, hWc, hgb] at hGo
    rw [hG, hWc, hgb]
    clear hgone hgl hgr hg5 hcap5 hG hWc hgb hR hT4 hnb hnl hnr d0 d1 d2 d3 d4 d5 d6 hc2 hp1 hp2 hp5 hrep hdl
    obtain ⟨pa, hpa⟩ := ptr_is gl
    obtain ⟨pb, hpb⟩ := ptr_is gr
    have hrp := rest_ptr hpa hpb
    obtain ⟨PC, hPC⟩ : ∃ PC, (if pa = none then pb else pa) = PC := ⟨_, rfl⟩
    rw [hPC] at hrp
    obtain ⟨tg', cs', hq1, hq2, hq3, hq4, hq5, -⟩ := hGo.tree.place
    have hgB : gb ≠ (lnk G).blk p := fun e1 => (List.nodup_cons.1 hq4).1 (by rw [← e1]; simp [Tr.blks])
    obtain ⟨hqn, -, -⟩ := hq3
    rw [hpa, hpb] at hqn
    obtain ⟨hrc, hrb, hrl⟩ := way_last hGo.row
    have hS : ∀ W, Kept [(lnk G).blk p] Wc W → (W.cell? ⟨gb, 3, none⟩ = some (.pointer pa) ∧ W.cell? ⟨gb, 4, none⟩ = some (.pointer pb)) := fun W hk => ⟨(nd_cells (hqn.kept hk (by simp; exact hgB))).2.1, (nd_cells (hqn.kept hk (by simp; exact hgB))).2.2.1⟩
    have hP : ∀ W, Kept [] Wc W → W.cell? ⟨(lnk G).blk p, (lnk G).off, none⟩ = some (.pointer (some ⟨gb, 0, none⟩)) ∧ W.frozen? ⟨(lnk G).blk p, (lnk G).off, none⟩ = false := fun W hk => ⟨blk_get (hq1.kept hk (by simp)) hq2, (hq1.kept hk (by simp)).frozen _⟩
    have hfw := hGo.few
    have qL : ∀ W, Kept [] Wc W → Calls Tryz.prog 198 #[.slice (some ⟨g5, 0, none⟩) (G.length + 1) cap5] W fun e w' => e = .returned (lnV p (lnk G)) ∧ w' = W := fun W hk => last_any g5 G.length cap5 _ W (by omega) (way_last (hGo.row.kept hk (by simp))).1
    have kO := kept_alloc [] Wc (.cells #[.pointer pa, .pointer pb] 239)
    have bO := (blk_new Wc 239 #[.pointer pa, .pointer pb]).kept (kept_drew [] _) (by simp)
    have qO := or_any pa pb Wc.heap.size _ ((bO.cell 0).trans rfl) ((bO.cell 1).trans rfl)
    rw [hPC] at qO
    have hWs := ((hGo.tree.kept kO (by simp)).shrink hGo.one).kept (kept_drew [] _) (by simp)
    rw [hrp] at hWs
    have kW := ((kO.mono (L' := [(lnk G).blk p]) (by simp)).trans (kept_set1 ((lnk G).blk p) (lnk G).off (Wc.alloc (.cells #[.pointer pa, .pointer pb] 239)) (.pointer PC))).trans (kept_drew _ _)
    obtain ⟨hP1, hP2⟩ := hP _ kO
    have hqF : (lnk G).blk p ∈ F := hGo.sub _ (by
     rcases List.mem_cons.1 hq5 with e1 | e1
     ·rw [e1]; simp
     ·exact List.mem_cons_of_mem _ ((plug_blks _ _).mem_iff.2 (List.mem_append.2 (.inl e1))))
    replace hrp : Hid _ := hrp
    replace hpa : Hid _ := hpa
    replace hpb : Hid _ := hpb
    unfold lnV at qL
    obtain ⟨B, hB⟩ : ∃ B, (lnk G).blk p = B := ⟨_, rfl⟩
    obtain ⟨O, hO⟩ : ∃ O, (lnk G).off = O := ⟨_, rfl⟩
    obtain ⟨m, hm⟩ : ∃ m, G.length + 1 = m := ⟨_, rfl⟩
    rw [hB, hO] at hWs kW hP1 hP2
    rw [hB] at hS
    simp only [hB, hO, hm] at qL
    rw [hB] at hqF
    rw [hm]
    replace hm : Hid _ := hm
    clear hB hO hP hq1 hq2 hq5 hqn hrc hPC bO
    have hkd := kept_drew [] Wc
    go_cut [] from 52 (fun W => Whole W p L.length (plug G (rest gl gr)) ∧ Kept [B] Wc W)
    case first =>
     go_region_held3 (fun W => W.cell? ⟨gb, 3, none⟩ = some (.pointer pa) ∧ W.cell? ⟨gb, 4, none⟩ = some (.pointer pb)) (exact hS _ (by first | exact hkd.mono (by simp) | exact (hkd.trans (kept_alloc [] _ _)).mono (by simp) | exact kW)) (first
      | (go_at_call 198; refine (qL _ (by first | exact hkd | exact hkd.trans (kept_alloc [] _ _))).mono ?_; rintro e6 w6 ⟨rfl, rfl⟩)
      | (go_at_call 252; refine qO.mono ?_; rintro e6 w6 ⟨rfl, rfl⟩))
     all_goals (try go_wp2_with fail)
     all_goals go_meet
     all_goals exact ⟨hWs, kW⟩
    case rest =>
     clear hWs kW hP1 hP2 qO qL hS hkd kO
     obtain ⟨hWs, kW⟩ := hcut
     have hpos : 0 < L.length := hLpos.out
     obtain ⟨n1, hn1⟩ : ∃ n1 : Nat, L.length = n1 + 1 := ⟨L.length - 1, by omega⟩
     have hcp := (hWs.blk.cell 2).trans (show _ = some (Value.int .i64 (L.length : Int)) from rfl)
     have hfp := hWs.blk.frozen 2
     have hS1 := hWs.size n1
     have kS := kept_set1 p 2 wc (.int .i64 (n1 : Int))
     rw [hn1, show ((n1 + 1 : Nat) : Int) = (n1 : Int) + 1 by omega] at hcp
     have hn600 : (n1 : Int) ≤ 600 := by omega
     have hpF : p ∈ F := hGo.sub p (by simp)
     have hR6 := (hGo.row.kept kW (fun k hk => by simp at hk; subst hk; exact hGo.low k hqF)).kept kS (fun k hk => by simp at hk; subst hk; exact hGo.low k hpF)
     have hL6 := lns_of_row hR6 (by omega)
     have hgn : g5 ∉ p :: (plug G (rest gl gr)).blks := fun hm => by
      have := hGo.low g5 (hGo.rest_in g5 hm)
      omega
     have hmo2 : (plug G (rest gl gr)).most + 4 * (G.length + 1) ≤ 700000 := by
      have e1 := hGo.most2
      omega
     have q6 := settle_any p n1 g5 cap5 G (rest gl gr) _ hS1 hL6 hgn hmo2
     rw [hm.out] at q6
     replace hn1 : Hid _ := hn1
     clear hR6 hL6 hgn hmo2
     go_wp2_with (go_at_call 199; refine q6.mono ?_; rintro e7 w7 ⟨rfl, hW7, k7⟩)
     go_ret
     refine ⟨p :: (settleT G (rest gl gr)).blks, by rw [hth.out]; rfl, ⟨_, ?_, hGo.good, hGo.items, rfl⟩, fun k hk => .inl ?_, ?_⟩
     ·have e1 : (delL L x).length = n1 := by
       rw [del_length, if_pos hth.out, hn1.out]
       omega
      rw [e1]
      exact hW7
     ·refine hGo.rest_in k ?_
      rcases List.mem_cons.1 hk with rfl | hk
      ·simp
      ·exact List.mem_cons_of_mem _ ((plug_blks _ _).mem_iff.2 ((settle_blks _ _).mem_iff.1 hk))
     ·exact ((hGo.kept.trans (kW.mono (fun k hk => by simp at hk; subst hk; exact hqF))).trans (kS.mono (fun k hk => by simp at hk; subst hk; exact hpF))).trans (k7.mono hGo.rest_in)
   | node rb rx re rh rl rr =>
    rw [ptr_node] at d4
    have hT0' := hT0
    rw [hpl.out] at hT0'
    have hbl' := hbl
    rw [hpl.out] at hbl'
    have q8 := next_any p L.length W0.heap.size g cap fs b x e hh (.node lb lx le lh ll lr) (.node rb rx re rh rl rr) W0 w4 hT0' Tr.noConfusion hbl' k4 rfl hR
    have hmoA := hmoK
    clear hgone
    obtain ⟨F0, hF0⟩ : ∃ F0 : Fr, F0 = ⟨b, x, e, hh, true, .node lb lx le lh ll lr⟩ := ⟨_, rfl⟩
    rw [← hF0] at q8
    replace hF0 : Hid _ := hF0
    go_upto_region 9 with (go_at_call 251; refine q8.mono ?_; clear q8; rintro e8 w8 ⟨gs, ub, ux, ue, uh, ur, g5, cap5, he8, hrg, hpg, hR8, k8⟩; obtain ⟨m8, hm8⟩ : ∃ m8, (gs ++ F0 :: fs).length + 1 = m8 := ⟨_, rfl⟩; rw [hm8] at he8 hR8; subst he8; replace hm8 : Hid _ := hm8; replace hrg : Hid _ := hrg; replace hpg : Hid _ := hpg)
    have hT8 := hT0'.kept k8 (by simp)
    have hpl8 : plug fs (.node b x e hh (.node lb lx le lh ll lr) (.node rb rx re rh rl rr)) = plug (gs ++ F0 :: fs) (.node ub ux ue uh .nil ur) := by
     rw [plug_append, ← hrg.out, hF0.out]
     rfl
    obtain ⟨-, -, -, -, ⟨hb8, -, -⟩, -, -, -⟩ := hT8.place
    rw [hpl8] at hT8
    obtain ⟨tg8, cs8, hx1, hx2, hx3, hx4, hx5, -⟩ := hT8.place
    have hc8 := blk_get hx1 hx2
    rw [ptr_node] at hc8
    obtain ⟨hu8, -, hur8⟩ := hx3
    have hR8' := hR8
    rw [← hm8.out] at hR8'
    obtain ⟨hwc, hwb, hwl⟩ := way_last hR8'
    have hfl8 : (gs ++ F0 :: fs).length ≤ 700 := by
     have e1 := (plug_blks (gs ++ F0 :: fs) (.node ub ux ue uh .nil ur)).length_eq
     have e2 := fs_length (gs ++ F0 :: fs)
     rw [← hpl8] at e1
     rw [List.length_append] at e1
     omega
    have q9 := last_any g5 (gs ++ F0 :: fs).length cap5 _ w8 (by omega) hwc
    rw [hm8.out] at q9
    obtain ⟨⟨v0, v1, v2⟩, -⟩ := nd_cells hu8
    obtain ⟨⟨y0, y1, y2⟩, -⟩ := nd_cells hb8
    have y0f := hb8.frozen 0
    have y1f := hb8.frozen 1
    have y2f := hb8.frozen 2
    unfold lnV at q9
    obtain ⟨B8, hB8⟩ : ∃ B8, (lnk (gs ++ F0 :: fs)).blk p = B8 := ⟨_, rfl⟩
    obtain ⟨O8, hO8⟩ : ∃ O8, (lnk (gs ++ F0 :: fs)).off = O8 := ⟨_, rfl⟩
    rw [hB8, hO8] at hc8 q9
    clear hB8 hO8 hx1 hx2 hx4 hx5 hwc hR8'
    replace hpl8 : Hid _ := hpl8
    go_upto_region 12 with (go_at_call 198; refine q9.mono ?_; clear q9; rintro e9 w8 ⟨rfl, rfl⟩)
    obtain ⟨Wc, hWc⟩ : ∃ Wc, ((w8.setCell ⟨b, 0, none⟩ (.int .i64 ux.o)).setCell ⟨b, 1, none⟩ (.int .i64 ux.l)).setCell ⟨b, 2, none⟩ (.int .i64 ux.i) = Wc := ⟨_, rfl⟩
    have hk9 : Kept [b] w8 Wc := hWc ▸ ((kept_set1 b 0 w8 _).trans (kept_set1 b 1 _ _)).trans (kept_set1 b 2 _ _)
    have hb9 : ∀ vl vr e' h', Blk w8 b 265 (nodeC x vl vr e' h') → Blk Wc b 265 (nodeC ux vl vr e' h') := fun vl vr e' h' hB => hWc ▸ ((hB.set 0 _).set 1 _).set 2 _
    rw [hWc]
    have hbF : b ∈ F := hsubF.out b (List.mem_cons_of_mem _ ((plug_blks _ _).mem_iff.2 (List.mem_append.2 (.inr (by simp [Tr.blks])))))
    rw [hF0.out] at hT8 hR8 hpl8 hfl8 hm8
    have hGo : Going w Wc p W0.heap.size L.length F (delL L x) (gs ++ ⟨b, ux, e, hh, true, .node lb lx le lh ll lr⟩ :: fs) ub ux ue uh .nil ur g5 cap5 := by
     have hlen : (gs ++ ⟨b, ux, e, hh, true, .node lb lx le lh ll lr⟩ :: fs).length = (gs ++ ⟨b, x, e, hh, true, .node lb lx le lh ll lr⟩ :: fs).length := by simp
     have hG2 := h2
     rw [hpl.out, hpl8.out] at hG2
     obtain ⟨hgf, hgu⟩ := good_plug _ _ hG2
     obtain ⟨-, q2, q3, q4, -, q6, -⟩ := hgu
     refine ⟨Whole.retell hT8 hb9 hk9, .inl rfl, ?_, ?_, by rw [hlen]; exact hfl8, ?_, hlowF.out, ?_, ?_, ?_⟩
     ·rw [hlen, lnks_retell b x ux e hh _ fs gs, hm8.out]
      exact hR8.kept hk9 (fun k hk => by simp at hk; subst hk; exact hlowF.out k hbF)
     ·exact ((kA.trans k8).mono (by simp)).trans (hk9.mono (fun k hk => by simp at hk; subst hk; exact hbF))
     ·intro k hk
      refine hsubF.out k ?_
      rw [hpl8.out]
      rcases List.mem_cons.1 hk with rfl | hk
      ·simp
      ·refine List.mem_cons_of_mem _ ?_
       rw [plug_append] at hk ⊢
       exact (plug_blks (⟨b, x, e, hh, true, .node lb lx le lh ll lr⟩ :: fs) (plug gs (.node ub ux ue uh .nil ur))).mem_iff.2 ((plug_blks (⟨b, ux, e, hh, true, .node lb lx le lh ll lr⟩ :: fs) (plug gs (.node ub ux ue uh .nil ur))).mem_iff.1 hk)
     ·have e1 := hmoK.out
      rw [hpl8.out, plug_most] at e1
      rw [plug_most, mostF_retell b x ux e hh _ fs gs]
      exact e1
     ·show Good (settleT _ ur)
      refine settle_good _ ur uh (goodF_retell q3 gs uh hgf) ?_ ?_ ?_
      ·rw [lv_same q2]
       exact q2
      ·rw [lv_same q2]
       have q4' : uh = max 0 ur.tall + 1 := q4
       omega
      ·rw [lv_same q2]
       have q4' : uh = max 0 ur.tall + 1 := q4
       omega
     ·show (settleT _ ur).toL = _
      have e1 : (Tr.node rb rx re rh rl rr).toL = ux :: (ur.toL ++ post gs) := by
       rw [hrg.out, plug_toL, hpg.out]
       simp [Tr.toL]
      rw [settle_toL, hdl.out, e1, pre_append, post_append, hpg.out]
      simp [pre, post]
    have hm9 : (gs ++ ⟨b, ux, e, hh, true, .node lb lx le lh ll lr⟩ :: fs).length + 1 = m8 := by
     rw [← hm8.out]
     simp
    rw [← hm9]
    obtain ⟨gl, hgl⟩ : ∃ gl, Tr.nil = gl := ⟨_, rfl⟩
    obtain ⟨gr, hgr⟩ : ∃ gr, ur = gr := ⟨_, rfl⟩
    rw [hgl, hgr] at hGo
    obtain ⟨G, hG⟩ : ∃ G, gs ++ ⟨b, ux, e, hh, true, .node lb lx le lh ll lr⟩ :: fs = G := ⟨_, rfl⟩
    obtain ⟨gb, hgb⟩ : ∃ gb, ub = gb := ⟨_, rfl⟩
    rw [hG, hgb] at hGo
    rw [hG, hgb]
    clear hm9 hWc hk9 hb9 hgl hgr hG hgb hR hR8 hT8 hT4 hnb hnl hnr d0 d1 d2 d3 d4 d5 d6 hc2 hp1 hp2 hp5 hrep hdl hc8 hu8 hur8 v0 v1 v2 y0 y1 y2 y0f y1f y2f hb8 hwb hwl hfl8
    obtain ⟨pa, hpa⟩ := ptr_is gl
    obtain ⟨pb, hpb⟩ := ptr_is gr
    have hrp := rest_ptr hpa hpb
    obtain ⟨PC, hPC⟩ : ∃ PC, (if pa = none then pb else pa) = PC := ⟨_, rfl⟩
    rw [hPC] at hrp
    obtain ⟨tg', cs', hq1, hq2, hq3, hq4, hq5, -⟩ := hGo.tree.place
    have hgB : gb ≠ (lnk G).blk p := fun e1 => (List.nodup_cons.1 hq4).1 (by rw [← e1]; simp [Tr.blks])
    obtain ⟨hqn, -, -⟩ := hq3
    rw [hpa, hpb] at hqn
    obtain ⟨hrc, hrb, hrl⟩ := way_last hGo.row
    have hS : ∀ W, Kept [(lnk G).blk p] Wc W → (W.cell? ⟨gb, 3, none⟩ = some (.pointer pa) ∧ W.cell? ⟨gb, 4, none⟩ = some (.pointer pb)) := fun W hk => ⟨(nd_cells (hqn.kept hk (by simp; exact hgB))).2.1, (nd_cells (hqn.kept hk (by simp; exact hgB))).2.2.1⟩
    have hP : ∀ W, Kept [] Wc W → W.cell? ⟨(lnk G).blk p, (lnk G).off, none⟩ = some (.pointer (some ⟨gb, 0, none⟩)) ∧ W.frozen? ⟨(lnk G).blk p, (lnk G).off, none⟩ = false := fun W hk => ⟨blk_get (hq1.kept hk (by simp)) hq2, (hq1.kept hk (by simp)).frozen _⟩
    have hfw := hGo.few
    have qL : ∀ W, Kept [] Wc W → Calls Tryz.prog 198 #[.slice (some ⟨g5, 0, none⟩) (G.length + 1) cap5] W fun e w' => e = .returned (lnV p (lnk G)) ∧ w' = W := fun W hk => last_any g5 G.length cap5 _ W (by omega) (way_last (hGo.row.kept hk (by simp))).1
    have kO := kept_alloc [] Wc (.cells #[.pointer pa, .pointer pb] 239)
    have bO := (blk_new Wc 239 #[.pointer pa, .pointer pb]).kept (kept_drew [] _) (by simp)
    have qO := or_any pa pb Wc.heap.size _ ((bO.cell 0).trans rfl) ((bO.cell 1).trans rfl)
    rw [hPC] at qO
    have hWs := ((hGo.tree.kept kO (by simp)).shrink hGo.one).kept (kept_drew [] _) (by simp)
    rw [hrp] at hWs
    have kW := ((kO.mono (L' := [(lnk G).blk p]) (by simp)).trans (kept_set1 ((lnk G).blk p) (lnk G).off (Wc.alloc (.cells #[.pointer pa, .pointer pb] 239)) (.pointer PC))).trans (kept_drew _ _)
    obtain ⟨hP1, hP2⟩ := hP _ kO
    have hqF : (lnk G).blk p ∈ F := hGo.sub _ (by
     rcases List.mem_cons.1 hq5 with e1 | e1
     ·rw [e1]; simp
     ·exact List.mem_cons_of_mem _ ((plug_blks _ _).mem_iff.2 (List.mem_append.2 (.inl e1))))
    replace hrp : Hid _ := hrp
    replace hpa : Hid _ := hpa
    replace hpb : Hid _ := hpb
    unfold lnV at qL
    obtain ⟨B, hB⟩ : ∃ B, (lnk G).blk p = B := ⟨_, rfl⟩
    obtain ⟨O, hO⟩ : ∃ O, (lnk G).off = O := ⟨_, rfl⟩
    obtain ⟨m, hm⟩ : ∃ m, G.length + 1 = m := ⟨_, rfl⟩
    rw [hB, hO] at hWs kW hP1 hP2
    rw [hB] at hS
    simp only [hB, hO, hm] at qL
    rw [hB] at hqF
    rw [hm]
    replace hm : Hid _ := hm
    clear hB hO hP hq1 hq2 hq5 hqn hrc hPC bO
    have hkd := kept_drew [] Wc
    go_cut [] from 52 (fun W => Whole W p L.length (plug G (rest gl gr)) ∧ Kept [B] Wc W)
    case first =>
     go_region_held3 (fun W => W.cell? ⟨gb, 3, none⟩ = some (.pointer pa) ∧ W.cell? ⟨gb, 4, none⟩ = some (.pointer pb)) (exact hS _ (by first | exact hkd.mono (by simp) | exact (hkd.trans (kept_alloc [] _ _)).mono (by simp) | exact kW)) (first
      | (go_at_call 198; refine (qL _ (by first | exact hkd | exact hkd.trans (kept_alloc [] _ _))).mono ?_; rintro e6 w6 ⟨rfl, rfl⟩)
      | (go_at_call 252; refine qO.mono ?_; rintro e6 w6 ⟨rfl, rfl⟩))
     all_goals (try go_wp2_with fail)
     all_goals go_meet
     all_goals exact ⟨hWs, kW⟩
    case rest =>
     clear hWs kW hP1 hP2 qO qL hS hkd kO
     obtain ⟨hWs, kW⟩ := hcut
     have hpos : 0 < L.length := hLpos.out
     obtain ⟨n1, hn1⟩ : ∃ n1 : Nat, L.length = n1 + 1 := ⟨L.length - 1, by omega⟩
     have hcp := (hWs.blk.cell 2).trans (show _ = some (Value.int .i64 (L.length : Int)) from rfl)
     have hfp := hWs.blk.frozen 2
     have hS1 := hWs.size n1
     have kS := kept_set1 p 2 wc (.int .i64 (n1 : Int))
     rw [hn1, show ((n1 + 1 : Nat) : Int) = (n1 : Int) + 1 by omega] at hcp
     have hn600 : (n1 : Int) ≤ 600 := by omega
     have hpF : p ∈ F := hGo.sub p (by simp)
     have hR6 := (hGo.row.kept kW (fun k hk => by simp at hk; subst hk; exact hGo.low k hqF)).kept kS (fun k hk => by simp at hk; subst hk; exact hGo.low k hpF)
     have hL6 := lns_of_row hR6 (by omega)
     have hgn : g5 ∉ p :: (plug G (rest gl gr)).blks := fun hm => by
      have := hGo.low g5 (hGo.rest_in g5 hm)
      omega
     have hmo2 : (plug G (rest gl gr)).most + 4 * (G.length + 1) ≤ 700000 := by
      have e1 := hGo.most2
      omega
     have q6 := settle_any p n1 g5 cap5 G (rest gl gr) _ hS1 hL6 hgn hmo2
     rw [hm.out] at q6
     replace hn1 : Hid _ := hn1
     clear hR6 hL6 hgn hmo2
     go_wp2_with (go_at_call 199; refine q6.mono ?_; rintro e7 w7 ⟨rfl, hW7, k7⟩)
     go_ret
     refine ⟨p :: (settleT G (rest gl gr)).blks, by rw [hth.out]; rfl, ⟨_, ?_, hGo.good, hGo.items, rfl⟩, fun k hk => .inl ?_, ?_⟩
     ·have e1 : (delL L x).length = n1 := by
       rw [del_length, if_pos hth.out, hn1.out]
       omega
      rw [e1]
      exact hW7
     ·refine hGo.rest_in k ?_
      rcases List.mem_cons.1 hk with rfl | hk
      ·simp
      ·exact List.mem_cons_of_mem _ ((plug_blks _ _).mem_iff.2 ((settle_blks _ _).mem_iff.1 hk))
     ·exact ((hGo.kept.trans (kW.mono (fun k hk => by simp at hk; subst hk; exact hqF))).trans (kS.mono (fun k hk => by simp at hk; subst hk; exact hpF))).trans (k7.mono hGo.rest_in)
theorem ahead_off {a b : It} (h : ahead a b = true) : a.o ≤ b.o := by
 rw [ahead_iff] at h
 omega
end Go.Proofs.YtoaeficfmcncjaaGreat.Itree
