import Derived.Test.YtollfckgjhklcaaGreatItX
/-
  The way on to the next item: the walk of next.
-/
namespace Go.Proofs.YtollfckgjhklcaaGreat.Itree
open Go.RowKit

theorem plug_append : ∀ (gs fs : List Fr) (u : Tr), plug (gs ++ fs) u = plug fs (plug gs u)
  | [], _, _ => rfl
  | g :: gs, fs, u => plug_append gs fs (g.fill u)
theorem pre_append : ∀ (gs fs : List Fr), pre (gs ++ fs) = pre fs ++ pre gs
  | [], fs => by simp [pre]
  | g :: gs, fs => by simp [pre, pre_append gs fs]
theorem post_append : ∀ (gs fs : List Fr), post (gs ++ fs) = post gs ++ post fs
  | [], fs => by simp [post]
  | g :: gs, fs => by simp [post, post_append gs fs]
set_option maxRecDepth 100000 in
set_option maxHeartbeats 4000000 in
/-- next -/
theorem next_any (p n base g cap : Nat) (fs : List Fr) (b : Nat) (y : It) (e : Int) (hh : Nat) (l r : Tr) (w0 w : World) (h : Whole w0 p n (plug fs (.node b y e hh l r))) (hr : r ≠ .nil) (hfew : (plug fs (.node b y e hh l r)).blks.length ≤ 700)
    (hk : Kept [] w0 w) (hbase : base = w0.heap.size) (hR : PRow w 88 base (.slice (some ⟨g, 0, none⟩) (fs.length + 1) cap) ((lnks fs).map (lnV p))) :
    Calls Tryz.prog 50 #[.slice (some ⟨g, 0, none⟩) (fs.length + 1) cap] w fun en w' => ∃ gs ub ux ue uh ur g' cap', en = .returned (.slice (some ⟨g', 0, none⟩) ((gs ++ ⟨b, y, e, hh, true, l⟩ :: fs).length + 1) cap') ∧ r = plug gs (.node ub ux ue uh .nil ur) ∧ pre gs = [] ∧
      PRow w' 88 base (.slice (some ⟨g', 0, none⟩) ((gs ++ ⟨b, y, e, hh, true, l⟩ :: fs).length + 1) cap') ((lnks (gs ++ ⟨b, y, e, hh, true, l⟩ :: fs)).map (lnV p)) ∧ Kept [] w0 w' := by
  have hll := lnks_length fs
  obtain ⟨g', cap', hv, hg1, hg2, hcap, hcs⟩ := hR.open (by simp [hll])
  rw [List.length_map, hll] at hv hcap
  injection hv with e1 e2 e3
  injection e1 with e1
  injection e1 with e1 _ _
  subst e1 e3
  have hT := h.kept hk (by simp)
  have hfl : fs.length ≤ 700 := by
    have e1 := (plug_blks fs (.node b y e hh l r)).length_eq
    have e2 := fs_length fs
    simp only [List.length_append] at e1
    omega
  have hbl : Hid (r.blks.length ≤ 700) := by
    have e1 := (plug_blks fs (.node b y e hh l r)).length_eq
    simp only [List.length_append, Tr.blks, List.length_cons] at e1
    show _ ≤ _
    omega
  have hc1 : w.cell? ⟨g, fs.length, none⟩ = some (lnV p (lnk fs)) := by
    obtain ⟨l, h1, h2⟩ := lnks_last fs
    refine hcs fs.length _ ?_
    rw [h1, List.map_append, List.getElem?_append_right (by simp [h2])]
    simp [h2]
  have q1 := last_any g fs.length cap _ w (by omega) hc1
  obtain ⟨tg, cs, hp1, hp2, hp3, -, -, -⟩ := hT.place
  have hc2 := blk_get hp1 hp2
  rw [ptr_node] at hc2
  unfold lnV at q1
  have hbse : Hid (base ≤ w0.heap.size) := (show _ ≤ _ by omega)
  have hbse2 : Hid (w0.heap.size ≤ base) := (show _ ≤ _ by omega)
  clear hbase
  obtain ⟨F0, hF0⟩ : ∃ F0 : Fr, F0 = ⟨b, y, e, hh, true, l⟩ := ⟨_, rfl⟩
  have hwh : ∀ gs u, r = plug gs u → plug fs (.node b y e hh l r) = plug (gs ++ F0 :: fs) u := fun gs u e1 => by
    rw [plug_append, ← e1, hF0]
    rfl
  rw [← hF0]
  have hFv : Hid (Value.pointer (some ⟨b, 4, none⟩) = lnV p (.kid F0.b F0.s)) := (show _ = _ by rw [hF0]; rfl)
  replace hF0 : Hid _ := hF0
  replace hwh : Hid _ := hwh
  generalize (lnk fs).blk p = B at *
  generalize (lnk fs).off = O at *
  obtain ⟨m, hm⟩ : ∃ m, fs.length + 1 = m := ⟨_, rfl⟩
  rw [hm] at q1 hR ⊢
  replace hm : Hid _ := hm
  clear hcs hc1 hp1 hp2 hp3 tg cs hT
  go_enter Tryz.func50, Tryz.ntmps50
  go_wp2
  go_step3
  go_wp2_with (first
    | (go_at_call 47; refine q1.mono ?_; clear q1; rintro e5 w ⟨rfl, rfl⟩))
  go_step3
  go_wp2
  go_loopg [0, 3] 701 (fun k v v3 wr => ∃ f F u gs, Hid (gs ++ F0 :: fs = f :: F) ∧ Hid (r = plug gs u) ∧ Hid (u ≠ .nil) ∧ Hid (pre gs = []) ∧ PRow wr 88 base v ((lnks F).map (lnV p)) ∧ v3 = lnV p (.kid f.b f.s) ∧ Kept [] w0 wr ∧ Hid (u.blks.length < k))
  case atStart => exact ⟨F0, fs, r, [], rfl, rfl, hr, rfl, hR, hFv.out, hk, Nat.lt_succ_of_le hbl.out⟩
  case round =>
    obtain ⟨f, F, u, gs, hfF, hru, hun, hpre, hRr, rfl, hkr, hgk⟩ := hrel
    have hT := h.kept hkr (by simp)
    rw [hwh.out gs u hru.out, hfF.out] at hT
    have hlen : Hid (((lnks F).map (lnV p)).length ≤ 2000000) := by
      have e1 := hfew
      rw [hwh.out gs u hru.out, hfF.out] at e1
      have e2 := (plug_blks (f :: F) u).length_eq
      have e3 := fs_length (f :: F)
      simp only [List.length_append, List.length_cons] at e2 e3
      show _ ≤ _
      rw [List.length_map, lnks_length]
      omega
    cases u with
    | nil => exact absurd rfl hun.out
    | node ub ux ue uh ul ur =>
      unfold lnV
      dsimp only [Ln.blk]
      obtain ⟨Of, hOf⟩ : ∃ Of, (Ln.kid f.b f.s).off = Of := ⟨_, rfl⟩
      rw [hOf]
      have k7 := hkr.trans (kept_alloc [] wr (.cells #[.pointer (some ⟨f.b, Of, none⟩)] 88))
      have hR7 : Hid _ := hRr.kept (kept_alloc [] wr (.cells #[.pointer (some ⟨f.b, Of, none⟩)] 88)) (by simp)
      have hq7 : Hid _ := ((blk_new wr 88 #[.pointer (some ⟨f.b, Of, none⟩)]).cell 0).trans (show _ = some (Value.pointer (some ⟨f.b, Of, none⟩)) from rfl)
      have hb7 : Hid _ := Nat.le_trans hbse.out k7.size
      have hT0 := h
      rw [hwh.out gs _ hru.out, hfF.out] at hT0
      have hlk : Hid ((lnks (f :: F)).map (lnV p) = (lnks F).map (lnV p) ++ [.pointer (some ⟨f.b, Of, none⟩)]) := (show _ = _ by rw [← hOf]; simp [lnks, lnV, Ln.blk])
      have hplc : Hid (∀ W, Kept [] w0 W → W.cell? ⟨f.b, Of, none⟩ = some (.pointer (some ⟨ub, 0, none⟩)) ∧ W.cell? ⟨ub, 3, none⟩ = some ul.ptr) := (show ∀ W, Kept [] w0 W → W.cell? ⟨f.b, Of, none⟩ = some (.pointer (some ⟨ub, 0, none⟩)) ∧ W.cell? ⟨ub, 3, none⟩ = some ul.ptr from fun W hkW => by
        obtain ⟨tg, cs, hp1, hp2, hp3, -, -, -⟩ := (hT0.kept hkW (by simp)).place
        have := blk_get hp1 hp2
        rw [show (lnk (f :: F)).off = Of from hOf] at this
        exact ⟨this, (nd_cells hp3.1).2.1⟩)
      cases ul with
      | nil =>
        go_wp2_with (at_builtin; refine wpList_append_pp rfl _ _ rfl base _ _ (some ⟨f.b, Of, none⟩) wr.heap.size rfl hR7.out rfl hq7.out hlen.out hb7.out ?_; intro v8 w8 hR8 hg8; have hk8 := kept_grown (n := base) hR7.out hg8 w0 k7 hbse2.out rfl; clear hg8; rw [← hlk.out] at hR8; obtain ⟨c8, d8⟩ := hplc.out w8 hk8; rw [ptr_nil] at d8)
        rw [Exit.noGoto_ret]
        go_ret
        obtain ⟨g8, cap8, e8, -, -, -, -⟩ := hR8.open (by rw [List.length_map, lnks_length]; omega)
        rw [List.length_map, lnks_length] at e8
        subst e8
        refine ⟨gs, ub, ux, ue, uh, ur, g8, cap8, ?_, hru.out, hpre.out, ?_, hk8⟩
        · rw [hfF.out]
          rfl
        · rw [hfF.out]
          exact hR8
      | node vb vx ve vh vl vr =>
        go_wp2_with (at_builtin; refine wpList_append_pp rfl _ _ rfl base _ _ (some ⟨f.b, Of, none⟩) wr.heap.size rfl hR7.out rfl hq7.out hlen.out hb7.out ?_; intro v8 w8 hR8 hg8; have hk8 := kept_grown (n := base) hR7.out hg8 w0 k7 hbse2.out rfl; clear hg8; rw [← hlk.out] at hR8; obtain ⟨c8, d8⟩ := hplc.out w8 hk8; rw [ptr_node] at d8)
        go_roundg ((Tr.node vb vx ve vh vl vr).blks.length + 1)
        case measure =>
          have := hgk.out
          simp only [Tr.blks, List.length_cons, List.length_append] at this ⊢
          omega
        case rel =>
          exact ⟨⟨ub, ux, ue, uh, false, ur⟩, f :: F, .node vb vx ve vh vl vr, ⟨ub, ux, ue, uh, false, ur⟩ :: gs, congrArg _ hfF.out, hru.out, Tr.noConfusion, (by show pre _ = []; simp only [pre, hpre.out]; rfl), hR8, rfl, hk8, Nat.lt_succ_self _⟩
end Go.Proofs.YtollfckgjhklcaaGreat.Itree

