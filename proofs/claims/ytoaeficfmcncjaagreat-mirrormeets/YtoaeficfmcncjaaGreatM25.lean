/-
 The way down to an item: the walks of way and next.
-/
import Derived.Test.YtoaeficfmcncjaaGreatM24
namespace Go.Proofs.YtoaeficfmcncjaaGreat.Itree
open Go.RowKit
def PRow (W : World) (e : TypeId) (base : Nat) (v : Value) (cs : List Value) : Prop := W.ownsRow base e 1 v cs.length cs
theorem PRow.kept {K : List Nat} {A B : World} {e : TypeId} {base : Nat} {v : Value} {l : List Value} (h : PRow A e base v l) (hk : Kept K A B) (hK : ∀ k ∈ K, k < base) : PRow B e base v l := by
 refine ⟨h.1, ?_⟩
 rcases h.2 with hn | ⟨g, cap, cur, hv, hb, hg, rest⟩
 ·exact .inl hn
 ·refine .inr ⟨g, cap, cur, hv, hb, ?_, rest⟩
  rw [hk.block g (Array.getElem?_eq_some_iff.1 hg).1 (fun hm => by have := hK g hm; omega)]
  exact hg
theorem PRow.mono {W : World} {e : TypeId} {base base' : Nat} {v : Value} {l : List Value} (h : PRow W e base v l) (hb : base' ≤ base) : PRow W e base' v l := by
 refine ⟨h.1, ?_⟩
 rcases h.2 with hn | ⟨g, cap, cur, hv, hg0, rest⟩
 ·exact .inl hn
 ·exact .inr ⟨g, cap, cur, hv, by omega, rest⟩
theorem PRow.open {W : World} {e : TypeId} {base : Nat} {v : Value} {l : List Value} (h : PRow W e base v l) (hl : 0 < l.length) :
  ∃ g cap, v = .slice (some ⟨g, 0, none⟩) l.length cap ∧ base ≤ g ∧ g < W.heap.size ∧ l.length ≤ cap ∧ ∀ j u, l[j]? = some u → W.cell? ⟨g, j, none⟩ = some u := by
 rcases h.2 with ⟨_, h0⟩ | ⟨g, cap, cur, hv, hb, hg, h1, h2, h3, h4⟩
 ·omega
 ·refine ⟨g, cap, hv, hb, (Array.getElem?_eq_some_iff.1 hg).1, h1, fun j u hu => ?_⟩
  have hj : j < l.length := (List.getElem?_eq_some_iff.1 hu).1
  subst hv
  have := World.ownsRow.cellAt h j (by simpa using hj)
  rw [this, hu]
set_option maxRecDepth 100000 in
theorem Tryz.info278 : (Tryz.prog.info? 278).map (fun i => (i.zero, i.size, i.bytes)) = some (some (.pointer none), 1, 8) := by kernel_rfl
section
variable {ops : Array Oper} {rest : List Oper} {o : Oper} {a : Act} {w : World} {Q : Exit → Act → World → Prop}
set_option maxRecDepth 100000 in
theorem wpList_append_pp (hgd : o.guard = none) (s x : Operand) (ho : o.op = .call { callee := .builtin .append, args := #[s, x], argTypes := #[276, 276] })
  (base : Nat) (v : Value) (l : List Value) (u : Option Addr) (q : Nat) (hs : a.eval s = v) (hown : PRow w 278 base v l) (hx : a.eval x = .slice (some ⟨q, 0, none⟩) 1 1) (hc : w.cell? ⟨q, 0, none⟩ = some (.pointer u)) (hlen : l.length ≤ 2000000) (hb : base ≤ w.heap.size)
  (h : ∀ v' w', PRow w' 278 base v' (l ++ [.pointer u]) → w.grownBy w' v.ownBlock → wpList Tryz.prog ops Q rest (a.put o.dst v') w') : wpList Tryz.prog ops Q (o :: rest) a w := by
 obtain ⟨i0, hi, hz0, hz1, hz2⟩ := info_parts Tryz.info278
 refine wpList_append_own _ hgd s x 276 ho base 278 i0 (.pointer none) 1 8 Tryz.underlying276 hi hz0 hz1 hz2 rfl (by decide) v l.length l hs hown ⟨q, 0, none⟩ 1 1 [.pointer u] hx rfl ?_ ?_ (by unfold maxLen; omega) (by omega) hb ?_
 ·intro j u' hu
  have hj : j = 0 := by
   have := (List.getElem?_eq_some_iff.1 hu).1
   simpa using this
  subst hj
  simp at hu
  subst hu
  exact hc
 ·intro u' hu
  simp at hu
  subst hu
  rfl
 ·intro v' w' h3 h4 _
  refine h v' w' ?_ h4
  unfold PRow
  rw [List.length_append]
  exact h3
end
theorem lns_of_row {W : World} {p base g cap : Nat} {fs : List Fr} (h : PRow W 278 base (.slice (some ⟨g, 0, none⟩) (fs.length + 1) cap) ((lnks fs).map (lnV p))) (hf : fs.length ≤ 900000) : LnsAt W p g cap (lnks fs) := by
 have hl := lnks_length fs
 obtain ⟨g', cap', e, _, h2, h3, h4⟩ := h.open (by simp [hl])
 simp only [List.length_map, hl] at e h3
 injection e with e1 e2 e3
 injection e1 with e1
 injection e1 with e1 _ _
 subst e1 e3
 exact ⟨by omega, by omega, h2, fun j l hj => h4 j _ (by rw [List.getElem?_map, hj]; rfl)⟩
set_option maxRecDepth 100000 in
set_option maxHeartbeats 4000000 in
theorem way_any (p n : Nat) (t : Tr) (x : It) (w : World) (h : Whole w p n t) (hs : Sorted t.toL) (hfew : t.blks.length ≤ 700) :
  Calls Tryz.prog 197 #[.pointer (some ⟨p, 0, none⟩), x.val] w fun e w' => ∃ fs u g cap, e = .returned (.slice (some ⟨g, 0, none⟩) (fs.length + 1) cap) ∧ t = plug fs u ∧ (∀ a ∈ pre fs, ahead a x = true) ∧ (∀ b ∈ post fs, ahead x b = true) ∧ (u = .nil ∨ ∃ b e h l r, u = .node b x e h l r) ∧
   PRow w' 278 w.heap.size (.slice (some ⟨g, 0, none⟩) (fs.length + 1) cap) ((lnks fs).map (lnV p)) ∧ Kept [] w w' := by
 have kA := kept_alloc [] w (.cells #[.int .i64 x.o, .int .i64 x.l, .int .i64 x.i] 262)
 have bA := blk_new w 262 #[.int .i64 x.o, .int .i64 x.l, .int .i64 x.i]
 unfold It.val
 have h0 := h
 have kB := kept_alloc [] (w.alloc (.cells #[.int .i64 x.o, .int .i64 x.l, .int .i64 x.i] 262)) (.cells #[lnV p .root] 278)
 unfold lnV Ln.blk Ln.off at kB
 dsimp only at kB
 have b0 := bA
 have k0 := kA
 have hz2 : w.heap.size + 1 ≤ (w.alloc (.cells #[.int .i64 x.o, .int .i64 x.l, .int .i64 x.i] 262)).heap.size := by simp
 obtain ⟨W0, hW0⟩ : ∃ W0, w.alloc (.cells #[.int .i64 x.o, .int .i64 x.l, .int .i64 x.i] 262) = W0 := ⟨_, rfl⟩
 rw [hW0] at kB b0 k0 hz2
 have rB : PRow (W0.alloc (.cells #[.pointer (some ⟨p, 1, none⟩)] 278)) 278 (w.heap.size + 1) (.slice (some ⟨W0.heap.size, 0, none⟩) 1 1) [.pointer (some ⟨p, 1, none⟩)] :=
  World.ownsRow_lit (base := w.heap.size + 1) (e := 278) (size := 1) W0 #[.pointer (some ⟨p, 1, none⟩)] 1 hz2 (by unfold maxLen; omega) rfl
 go_enter Tryz.func197, Tryz.ntmps197
 have hz0 : w.heap.size + 1 ≤ W0.heap.size := by rw [← hW0]; simp
 have hz1 : Hid (W0.heap.size ≤ w.heap.size + 1) := (show _ ≤ _ by rw [← hW0]; simp)
 go_wp2
 go_step3
 go_wp2
 go_step3
 go_wp2
 clear hW0 kA bA
 go_loopg [5] 701 (fun k v wr => ∃ fs u, Hid (t = plug fs u) ∧ Hid (∀ a ∈ pre fs, ahead a x = true) ∧ Hid (∀ b ∈ post fs, ahead x b = true) ∧ PRow wr 278 (w.heap.size + 1) v ((lnks fs).map (lnV p)) ∧ Kept [] W0 wr ∧ Hid (u.blks.length < k))
 case atStart => exact ⟨[], t, rfl, (by show ∀ a ∈ pre [], _; intro a ha; cases ha), (by show ∀ a ∈ post [], _; intro a ha; cases ha), rB, kB, Nat.lt_succ_of_le hfew⟩
 case round =>
  obtain ⟨fs, u, hpl, hpre, hpost, hR, hkr, hgk⟩ := hrel
  have hll := lnks_length fs
  obtain ⟨g, cap, hv, hg1, hg2, hcap, hcs⟩ := hR.open (by simp [hll])
  rw [List.length_map, hll] at hv hcap
  subst hv
  have hT := (h.kept k0 (by simp)).kept hkr (by simp)
  have hfl : fs.length ≤ 700 := by
   have e1 := (plug_blks fs u).length_eq
   have e2 := fs_length fs
   have e3 := hpl.out
   rw [e3] at hfew
   simp only [List.length_append] at e1
   omega
  have hc1 : wr.cell? ⟨g, fs.length, none⟩ = some (lnV p (lnk fs)) := by
   obtain ⟨l, h1, h2⟩ := lnks_last fs
   refine hcs fs.length _ ?_
   rw [h1, List.map_append, List.getElem?_append_right (by simp [h2])]
   simp [h2]
  have q1 := last_any g fs.length cap _ wr (by omega) hc1
  rw [hpl.out] at hT
  obtain ⟨tg, cs, hp1, hp2, hp3, -, -, -⟩ := hT.place
  have hc2 := blk_get hp1 hp2
  unfold lnV at q1
  generalize (lnk fs).blk p = B at *
  generalize (lnk fs).off = O at *
  clear hcs hc1 hp1 hp2 tg cs
  obtain ⟨m, hm⟩ : ∃ m, fs.length + 1 = m := ⟨_, rfl⟩
  rw [hm] at q1 hR
  replace hm : Hid _ := hm
  cases u with
  | nil =>
   rw [ptr_nil] at hc2
   rw [hm.out]
   go_wp2_with (first
    | (go_at_call 198; refine q1.mono ?_; clear q1; rintro e5 wr ⟨rfl, rfl⟩))
   rw [Exit.noGoto_ret]
   go_ret
   refine ⟨fs, .nil, g, cap, by rw [hm.out]; rfl, hpl.out, hpre.out, hpost.out, .inl rfl, ?_, k0.trans hkr⟩
   rw [hm.out]
   exact PRow.mono hR (Nat.le_succ _)
  | node b y e hh l r =>
   rw [ptr_node] at hc2
   have hsu : Hid ((∀ a ∈ l.toL, ahead a y = true) ∧ (∀ a ∈ r.toL, ahead y a = true)) := by
    have e1 := hs
    rw [hpl.out, plug_toL, List.append_assoc] at e1
    have e2 := (sorted_append.1 (sorted_append.1 e1).2.1).1
    simp only [Tr.toL] at e2
    have e3 := sorted_append.1 e2
    exact ⟨fun a ha => e3.2.2 a ha y (by simp), (sorted_cons.1 e3.2.1).1⟩
   obtain ⟨hnb, hnl, hnr⟩ := hp3
   have hS : ∀ W, Kept [] wr W → (W.cell? ⟨w.heap.size, 0, none⟩ = some (.int .i64 x.o) ∧ W.cell? ⟨w.heap.size, 1, none⟩ = some (.int .i64 x.l) ∧ W.cell? ⟨w.heap.size, 2, none⟩ = some (.int .i64 x.i)) ∧ W.cell? ⟨b, 0, none⟩ = some (.int .i64 y.o) ∧ W.cell? ⟨b, 1, none⟩ = some (.int .i64 y.l) ∧ W.cell? ⟨b, 2, none⟩ = some (.int .i64 y.i) := fun W hk =>
    have b1 := (b0.kept hkr (by simp)).kept hk (by simp)
    ⟨⟨(b1.cell 0).trans rfl, (b1.cell 1).trans rfl, (b1.cell 2).trans rfl⟩, (nd_cells (hnb.kept hk (by simp))).1⟩
   have q2 := fun W => against_any x y W
   unfold It.val at q2
   have hkd := kept_drew [] wr
   rw [hm.out]
   rcases sideI_cases x y with ⟨hah, hsd⟩ | ⟨hah, hsd⟩ | ⟨hah, hsd⟩
   ·have hp' : Hid (t = plug (⟨b, y, e, hh, false, r⟩ :: fs) l) := hpl
    have hlr : lnks (⟨b, y, e, hh, false, r⟩ :: fs) = lnks fs ++ [.kid b false] := rfl
    have hpre' : Hid (∀ a ∈ pre (⟨b, y, e, hh, false, r⟩ :: fs), ahead a x = true) := (show ∀ a ∈ pre (⟨b, y, e, hh, false, r⟩ :: fs), ahead a x = true from fun a ha => hpre.out a (by simpa [pre] using ha))
    have hpost' : Hid (∀ a ∈ post (⟨b, y, e, hh, false, r⟩ :: fs), ahead x a = true) := (show ∀ a ∈ post (⟨b, y, e, hh, false, r⟩ :: fs), ahead x a = true from fun a ha => by
     simp only [post, Bool.false_eq_true, if_false, List.mem_append, List.mem_cons] at ha
     rcases ha with (rfl | ha) | ha
     ·exact hah
     ·exact ahead_trans hah (hsu.out.2 a ha)
     ·exact hpost.out a ha)
    have hlt' : Hid (l.blks.length < (Tr.node b y e hh l r).blks.length) := (show _ < _ by simp only [Tr.blks, List.length_cons, List.length_append]; omega)
    have hgk' : Hid ((l.blks.length + 1 < gk)) := (show _ < _ by have := hgk.out; simp only [Tr.blks, List.length_cons, List.length_append] at this; omega)
    replace hlr : Hid _ := hlr
    have hi : sideI x y < 0 := hsd
    generalize sideI x y = sd at *
    clear hpl hpre hpost hah
    go_wp2_with (first
     | (go_at_call 198; refine q1.mono ?_; clear q1; rintro e5 wr ⟨rfl, rfl⟩))
    go_region_held3 (fun W => (W.cell? ⟨w.heap.size, 0, none⟩ = some (.int .i64 x.o) ∧ W.cell? ⟨w.heap.size, 1, none⟩ = some (.int .i64 x.l) ∧ W.cell? ⟨w.heap.size, 2, none⟩ = some (.int .i64 x.i)) ∧ W.cell? ⟨b, 0, none⟩ = some (.int .i64 y.o) ∧ W.cell? ⟨b, 1, none⟩ = some (.int .i64 y.l) ∧ W.cell? ⟨b, 2, none⟩ = some (.int .i64 y.i)) (exact hS _ hkd) (first
     | (go_at_call 234; refine (q2 _).mono ?_; rintro e6 w6 ⟨rfl, hk6⟩; replace hkd := hkd.trans hk6))
    have k7 := (hkr.trans hkd).trans (kept_alloc [] w6 (.cells #[.pointer (some ⟨b, 3, none⟩)] 278))
    have hR7 : Hid _ := hR.kept (hkd.trans (kept_alloc [] w6 (.cells #[.pointer (some ⟨b, 3, none⟩)] 278))) (by simp)
    have hq7 : Hid _ := ((blk_new w6 278 #[.pointer (some ⟨b, 3, none⟩)]).cell 0).trans (show _ = some (Value.pointer (some ⟨b, 3, none⟩)) from rfl)
    have hb7 : Hid _ := Nat.le_trans hz0 k7.size
    have hl7 : Hid (((lnks fs).map (lnV p)).length ≤ 2000000) := (show _ ≤ _ by rw [List.length_map, lnks_length]; omega)
    go_wp2_with (at_builtin; refine wpList_append_pp rfl _ _ rfl (w.heap.size + 1) _ _ (some ⟨b, 3, none⟩) w6.heap.size rfl hR7.out rfl hq7.out hl7.out hb7.out ?_; intro v8 w8 hR8 hg8; have hk8 := kept_grown (n := w.heap.size + 1) hR7.out hg8 W0 k7 hz1.out rfl; clear hg8)
    go_roundg (l.blks.length + 1)
    case measure => exact hgk'.out
    case rel => exact ⟨_, l, hp', hpre', hpost', (by rw [hlr.out, List.map_append]; exact hR8), hk8, Nat.lt_succ_self _⟩
   ·replace hah : Hid _ := hah
    have hi : ¬ sideI x y < 0 := by omega
    have hi2 : ¬ 0 < sideI x y := by omega
    generalize sideI x y = sd at *
    go_wp2_with (first
     | (go_at_call 198; refine q1.mono ?_; clear q1; rintro e5 wr ⟨rfl, rfl⟩))
    go_region_held3 (fun W => (W.cell? ⟨w.heap.size, 0, none⟩ = some (.int .i64 x.o) ∧ W.cell? ⟨w.heap.size, 1, none⟩ = some (.int .i64 x.l) ∧ W.cell? ⟨w.heap.size, 2, none⟩ = some (.int .i64 x.i)) ∧ W.cell? ⟨b, 0, none⟩ = some (.int .i64 y.o) ∧ W.cell? ⟨b, 1, none⟩ = some (.int .i64 y.l) ∧ W.cell? ⟨b, 2, none⟩ = some (.int .i64 y.i)) (exact hS _ hkd) (first
     | (go_at_call 234; refine (q2 _).mono ?_; rintro e6 w6 ⟨rfl, hk6⟩; replace hkd := hkd.trans hk6))
    go_wp2
    rw [Exit.noGoto_ret]
    go_ret
    refine ⟨fs, .node b y e hh l r, g, cap, by rw [hm.out]; rfl, hpl.out, hpre.out, hpost.out, .inr ⟨b, e, hh, l, r, by rw [hah.out]⟩, ?_, (k0.trans hkr).trans hkd⟩
    rw [hm.out]
    exact PRow.mono (hR.kept hkd (by simp)) (Nat.le_succ _)
   ·have hp' : Hid (t = plug (⟨b, y, e, hh, true, l⟩ :: fs) r) := hpl
    have hlr : lnks (⟨b, y, e, hh, true, l⟩ :: fs) = lnks fs ++ [.kid b true] := rfl
    have hpre' : Hid (∀ a ∈ pre (⟨b, y, e, hh, true, l⟩ :: fs), ahead a x = true) := (show ∀ a ∈ pre (⟨b, y, e, hh, true, l⟩ :: fs), ahead a x = true from fun a ha => by
     simp only [pre, if_true, List.mem_append, List.mem_singleton] at ha
     rcases ha with ha | ha | rfl
     ·exact hpre.out a ha
     ·exact ahead_trans (hsu.out.1 a ha) hah
     ·exact hah)
    have hpost' : Hid (∀ a ∈ post (⟨b, y, e, hh, true, l⟩ :: fs), ahead x a = true) := (show ∀ a ∈ post (⟨b, y, e, hh, true, l⟩ :: fs), ahead x a = true from fun a ha => hpost.out a (by simpa [post] using ha))
    have hlt' : Hid (r.blks.length < (Tr.node b y e hh l r).blks.length) := (show _ < _ by simp only [Tr.blks, List.length_cons, List.length_append]; omega)
    have hgk' : Hid ((r.blks.length + 1 < gk)) := (show _ < _ by have := hgk.out; simp only [Tr.blks, List.length_cons, List.length_append] at this; omega)
    replace hlr : Hid _ := hlr
    have hi : 0 < sideI x y := hsd; have hi2 : ¬ sideI x y < 0 := by omega
    generalize sideI x y = sd at *
    clear hpl hpre hpost hah
    go_wp2_with (first
     | (go_at_call 198; refine q1.mono ?_; clear q1; rintro e5 wr ⟨rfl, rfl⟩))
    go_region_held3 (fun W => (W.cell? ⟨w.heap.size, 0, none⟩ = some (.int .i64 x.o) ∧ W.cell? ⟨w.heap.size, 1, none⟩ = some (.int .i64 x.l) ∧ W.cell? ⟨w.heap.size, 2, none⟩ = some (.int .i64 x.i)) ∧ W.cell? ⟨b, 0, none⟩ = some (.int .i64 y.o) ∧ W.cell? ⟨b, 1, none⟩ = some (.int .i64 y.l) ∧ W.cell? ⟨b, 2, none⟩ = some (.int .i64 y.i)) (exact hS _ hkd) (first
     | (go_at_call 234; refine (q2 _).mono ?_; rintro e6 w6 ⟨rfl, hk6⟩; replace hkd := hkd.trans hk6))
    have k7 := (hkr.trans hkd).trans (kept_alloc [] w6 (.cells #[.pointer (some ⟨b, 4, none⟩)] 278))
    have hR7 : Hid _ := hR.kept (hkd.trans (kept_alloc [] w6 (.cells #[.pointer (some ⟨b, 4, none⟩)] 278))) (by simp)
    have hq7 : Hid _ := ((blk_new w6 278 #[.pointer (some ⟨b, 4, none⟩)]).cell 0).trans (show _ = some (Value.pointer (some ⟨b, 4, none⟩)) from rfl)
    have hb7 : Hid _ := Nat.le_trans hz0 k7.size
    have hl7 : Hid (((lnks fs).map (lnV p)).length ≤ 2000000) := (show _ ≤ _ by rw [List.length_map, lnks_length]; omega)
    go_wp2_with (at_builtin; refine wpList_append_pp rfl _ _ rfl (w.heap.size + 1) _ _ (some ⟨b, 4, none⟩) w6.heap.size rfl hR7.out rfl hq7.out hl7.out hb7.out ?_; intro v8 w8 hR8 hg8; have hk8 := kept_grown (n := w.heap.size + 1) hR7.out hg8 W0 k7 hz1.out rfl; clear hg8)
    go_roundg (r.blks.length + 1)
    case measure => exact hgk'.out
    case rel => exact ⟨_, r, hp', hpre', hpost', (by rw [hlr.out, List.map_append]; exact hR8), hk8, Nat.lt_succ_self _⟩
end Go.Proofs.YtoaeficfmcncjaaGreat.Itree
namespace Go.Proofs.YtoaeficfmcncjaaGreat.Itree
open Go.RowKit
theorem plug_append : ∀ (gs fs : List Fr) (u : Tr), plug (gs ++ fs) u = plug fs (plug gs u)
 | [], _, _ => rfl
 | g :: gs, fs, u => plug_append gs fs (g.fill u)
theorem pre_append : ∀ (gs fs : List Fr), pre (gs ++ fs) = pre fs ++ pre gs
 | [], fs => by simp [pre]
 | g :: gs, fs => by simp [pre, pre_append gs fs]
theorem post_append : ∀ (gs fs : List Fr), post (gs ++ fs) = post gs ++ post fs
 | [], fs => by simp [post]
 | g :: gs, fs => by simp [post, post_append gs fs]
set_option maxRecDepth 100000 in
set_option maxHeartbeats 4000000 in
theorem next_any (p n base g cap : Nat) (fs : List Fr) (b : Nat) (y : It) (e : Int) (hh : Nat) (l r : Tr) (w0 w : World) (h : Whole w0 p n (plug fs (.node b y e hh l r))) (hr : r ≠ .nil) (hfew : (plug fs (.node b y e hh l r)).blks.length ≤ 700)
  (hk : Kept [] w0 w) (hbase : base = w0.heap.size) (hR : PRow w 278 base (.slice (some ⟨g, 0, none⟩) (fs.length + 1) cap) ((lnks fs).map (lnV p))) :
  Calls Tryz.prog 251 #[.slice (some ⟨g, 0, none⟩) (fs.length + 1) cap] w fun en w' => ∃ gs ub ux ue uh ur g' cap', en = .returned (.slice (some ⟨g', 0, none⟩) ((gs ++ ⟨b, y, e, hh, true, l⟩ :: fs).length + 1) cap') ∧ r = plug gs (.node ub ux ue uh .nil ur) ∧ pre gs = [] ∧
   PRow w' 278 base (.slice (some ⟨g', 0, none⟩) ((gs ++ ⟨b, y, e, hh, true, l⟩ :: fs).length + 1) cap') ((lnks (gs ++ ⟨b, y, e, hh, true, l⟩ :: fs)).map (lnV p)) ∧ Kept [] w0 w' := by
 have hll := lnks_length fs
 obtain ⟨g', cap', hv, hg1, hg2, hcap, hcs⟩ := hR.open (by simp [hll])
 rw [List.length_map, hll] at hv hcap
 injection hv with e1 e2 e3
 injection e1 with e1
 injection e1 with e1 _ _
 subst e1 e3
 have hT := h.kept hk (by simp)
 have hfl : fs.length ≤ 700 := by
  have e1 := (plug_blks fs (.node b y e hh l r)).length_eq
  have e2 := fs_length fs
  simp only [List.length_append] at e1
  omega
 have hbl : Hid (r.blks.length ≤ 700) := by
  have e1 := (plug_blks fs (.node b y e hh l r)).length_eq
  simp only [List.length_append, Tr.blks, List.length_cons] at e1
  show _ ≤ _
  omega
 have hc1 : w.cell? ⟨g, fs.length, none⟩ = some (lnV p (lnk fs)) := by
  obtain ⟨l, h1, h2⟩ := lnks_last fs
  refine hcs fs.length _ ?_
  rw [h1, List.map_append, List.getElem?_append_right (by simp [h2])]
  simp [h2]
 have q1 := last_any g fs.length cap _ w (by omega) hc1
 obtain ⟨tg, cs, hp1, hp2, hp3, -, -, -⟩ := hT.place
 have hc2 := blk_get hp1 hp2
 rw [ptr_node] at hc2
 unfold lnV at q1
 have hbse : Hid (base ≤ w0.heap.size) := (show _ ≤ _ by omega)
 have hbse2 : Hid (w0.heap.size ≤ base) := (show _ ≤ _ by omega)
 clear hbase
 obtain ⟨F0, hF0⟩ : ∃ F0 : Fr, F0 = ⟨b, y, e, hh, true, l⟩ := ⟨_, rfl⟩
 have hwh : ∀ gs u, r = plug gs u → plug fs (.node b y e hh l r) = plug (gs ++ F0 :: fs) u := fun gs u e1 => by
  rw [plug_append, ← e1, hF0]
  rfl
 rw [← hF0]
 have hFv : Hid (Value.pointer (some ⟨b, 4, none⟩) = lnV p (.kid F0.b F0.s)) := (show _ = _ by rw [hF0]; rfl)
 replace hF0 : Hid _ := hF0
 replace hwh : Hid _ := hwh
 generalize (lnk fs).blk p = B at *
 generalize (lnk fs).off = O at *
 obtain ⟨m, hm⟩ : ∃ m, fs.length + 1 = m := ⟨_, rfl⟩
 rw [hm] at q1 hR ⊢
 replace hm : Hid _ := hm
 clear hcs hc1 hp1 hp2 hp3 tg cs hT
 go_enter Tryz.func251, Tryz.ntmps251
 go_wp2
 go_step3
 go_wp2_with (first
  | (go_at_call 198; refine q1.mono ?_; clear q1; rintro e5 w ⟨rfl, rfl⟩))
 go_step3
 go_wp2
 go_loopg [0, 3] 701 (fun k v v3 wr => ∃ f F u gs, Hid (gs ++ F0 :: fs = f :: F) ∧ Hid (r = plug gs u) ∧ Hid (u ≠ .nil) ∧ Hid (pre gs = []) ∧ PRow wr 278 base v ((lnks F).map (lnV p)) ∧ v3 = lnV p (.kid f.b f.s) ∧ Kept [] w0 wr ∧ Hid (u.blks.length < k))
 case atStart => exact ⟨F0, fs, r, [], rfl, rfl, hr, rfl, hR, hFv.out, hk, Nat.lt_succ_of_le hbl.out⟩
 case round =>
  obtain ⟨f, F, u, gs, hfF, hru, hun, hpre, hRr, rfl, hkr, hgk⟩ := hrel
  have hT := h.kept hkr (by simp)
  rw [hwh.out gs u hru.out, hfF.out] at hT
  have hlen : Hid (((lnks F).map (lnV p)).length ≤ 2000000) := by
   have e1 := hfew
   rw [hwh.out gs u hru.out, hfF.out] at e1
   have e2 := (plug_blks (f :: F) u).length_eq
   have e3 := fs_length (f :: F)
   simp only [List.length_append, List.length_cons] at e2 e3
   show _ ≤ _
   rw [List.length_map, lnks_length]
   omega
  cases u with
  | nil => exact absurd rfl hun.out
  | node ub ux ue uh ul ur =>
   unfold lnV
   dsimp only [Ln.blk]
   obtain ⟨Of, hOf⟩ : ∃ Of, (Ln.kid f.b f.s).off = Of := ⟨_, rfl⟩
   rw [hOf]
   have k7 := hkr.trans (kept_alloc [] wr (.cells #[.pointer (some ⟨f.b, Of, none⟩)] 278))
   have hR7 : Hid _ := hRr.kept (kept_alloc [] wr (.cells #[.pointer (some ⟨f.b, Of, none⟩)] 278)) (by simp)
   have hq7 : Hid _ := ((blk_new wr 278 #[.pointer (some ⟨f.b, Of, none⟩)]).cell 0).trans (show _ = some (Value.pointer (some ⟨f.b, Of, none⟩)) from rfl)
   have hb7 : Hid _ := Nat.le_trans hbse.out k7.size
   have hT0 := h
   rw [hwh.out gs _ hru.out, hfF.out] at hT0
   have hlk : Hid ((lnks (f :: F)).map (lnV p) = (lnks F).map (lnV p) ++ [.pointer (some ⟨f.b, Of, none⟩)]) := (show _ = _ by rw [← hOf]; simp [lnks, lnV, Ln.blk])
   have hplc : Hid (∀ W, Kept [] w0 W → W.cell? ⟨f.b, Of, none⟩ = some (.pointer (some ⟨ub, 0, none⟩)) ∧ W.cell? ⟨ub, 3, none⟩ = some ul.ptr) := (show ∀ W, Kept [] w0 W → W.cell? ⟨f.b, Of, none⟩ = some (.pointer (some ⟨ub, 0, none⟩)) ∧ W.cell? ⟨ub, 3, none⟩ = some ul.ptr from fun W hkW => by
    obtain ⟨tg, cs, hp1, hp2, hp3, -, -, -⟩ := (hT0.kept hkW (by simp)).place
    have := blk_get hp1 hp2
    rw [show (lnk (f :: F)).off = Of from hOf] at this
    exact ⟨this, (nd_cells hp3.1).2.1⟩)
   cases ul with
   | nil =>
    go_wp2_with (at_builtin; refine wpList_append_pp rfl _ _ rfl base _ _ (some ⟨f.b, Of, none⟩) wr.heap.size rfl hR7.out rfl hq7.out hlen.out hb7.out ?_; intro v8 w8 hR8 hg8; have hk8 := kept_grown (n := base) hR7.out hg8 w0 k7 hbse2.out rfl; clear hg8; rw [← hlk.out] at hR8; obtain ⟨c8, d8⟩ := hplc.out w8 hk8; rw [ptr_nil] at d8)
    rw [Exit.noGoto_ret]
    go_ret
    obtain ⟨g8, cap8, e8, -, -, -, -⟩ := hR8.open (by rw [List.length_map, lnks_length]; omega)
    rw [List.length_map, lnks_length] at e8
    subst e8
    refine ⟨gs, ub, ux, ue, uh, ur, g8, cap8, ?_, hru.out, hpre.out, ?_, hk8⟩
    ·rw [hfF.out]
     rfl
    ·rw [hfF.out]
     exact hR8
   | node vb vx ve vh vl vr =>
    go_wp2_with (at_builtin; refine wpList_append_pp rfl _ _ rfl base _ _ (some ⟨f.b, Of, none⟩) wr.heap.size rfl hR7.out rfl hq7.out hlen.out hb7.out ?_; intro v8 w8 hR8 hg8; have hk8 := kept_grown (n := base) hR7.out hg8 w0 k7 hbse2.out rfl; clear hg8; rw [← hlk.out] at hR8; obtain ⟨c8, d8⟩ := hplc.out w8 hk8; rw [ptr_node] at d8)
    go_roundg ((Tr.node vb vx ve vh vl vr).blks.length + 1)
    case measure =>
     have := hgk.out
     simp only [Tr.blks, List.length_cons, List.length_append] at this ⊢
     omega
    case rel =>
     exact ⟨⟨ub, ux, ue, uh, false, ur⟩, f :: F, .node vb vx ve vh vl vr, ⟨ub, ux, ue, uh, false, ur⟩ :: gs, congrArg _ hfF.out, hru.out, Tr.noConfusion, (by show pre _ = []; simp only [pre, hpre.out]; rfl), hR8, rfl, hk8, Nat.lt_succ_self _⟩
def TT (W : World) (p : Nat) (F : List Nat) (L : List It) : Prop := ∃ t, Whole W p L.length t ∧ Good t ∧ t.toL = L ∧ F = p :: t.blks
theorem TT.lt {W : World} {p : Nat} {F : List Nat} {L : List It} (h : TT W p F L) : ∀ k ∈ F, k < W.heap.size := by
 obtain ⟨t, h1, _, _, rfl⟩ := h
 exact h1.lt
theorem TT.kept {K : List Nat} {A B : World} {p : Nat} {F : List Nat} {L : List It} (h : TT A p F L) (hk : Kept K A B) (hK : ∀ k ∈ F, k ∉ K) : TT B p F L := by
 obtain ⟨t, h1, h2, h3, rfl⟩ := h
 exact ⟨t, h1.kept hk hK, h2, h3, rfl⟩
theorem Whole.size {W : World} {p n : Nat} {t : Tr} (h : Whole W p n t) (m : Nat) : Whole (W.setCell ⟨p, 2, none⟩ (.int .i64 (m : Int))) p m t := by
 have hp : p ∉ t.blks := (List.nodup_cons.1 h.nd).1
 exact ⟨h.blk.set 2 _, h.nodes.kept1 (kept_set1 p 2 W _) hp, h.nd⟩
set_option maxRecDepth 100000 in
theorem inew_any (w : World) : Calls Tryz.prog 93 #[] w fun e w' => ∃ p F, e = .returned (.pointer (some ⟨p, 0, none⟩)) ∧ TT w' p F [] ∧ (∀ k ∈ F, w.heap.size ≤ k) ∧ Kept [] w w' := by
 go_enter Tryz.func93, Tryz.ntmps93
 go_wp2
 go_ret
 exact ⟨w.heap.size, [w.heap.size], rfl, ⟨.nil, ⟨blk_new w _ _, trivial, by simp [Tr.blks]⟩, trivial, rfl, rfl⟩, by simp, kept_alloc [] _ _⟩
theorem way_last {W : World} {p base g cap : Nat} {fs : List Fr} (h : PRow W 278 base (.slice (some ⟨g, 0, none⟩) (fs.length + 1) cap) ((lnks fs).map (lnV p))) :
  W.cell? ⟨g, fs.length, none⟩ = some (lnV p (lnk fs)) ∧ base ≤ g ∧ g < W.heap.size := by
 have hll := lnks_length fs
 obtain ⟨g', cap', hv, hg1, hg2, hcap, hcs⟩ := h.open (by simp [hll])
 rw [List.length_map, hll] at hv hcap
 injection hv with e1 e2 e3
 injection e1 with e1
 injection e1 with e1 _ _
 subst e1 e3
 refine ⟨?_, hg1, hg2⟩
 obtain ⟨l, h1, h2⟩ := lnks_last fs
 refine hcs fs.length _ ?_
 rw [h1, List.map_append, List.getElem?_append_right (by simp [h2])]
 simp [h2]
theorem Whole.grow {W : World} {p n : Nat} {fs : List Fr} (h : Whole W p n (plug fs .nil)) (x : It) :
  Whole ((W.alloc (.cells (nodeC x (.pointer none) (.pointer none) 0 0) 265)).setCell ⟨(lnk fs).blk p, (lnk fs).off, none⟩ (.pointer (some ⟨W.heap.size, 0, none⟩))) p n (plug fs (.node W.heap.size x 0 0 .nil .nil)) := by
 have k1 := kept_alloc [] W (.cells (nodeC x (.pointer none) (.pointer none) 0 0) 265)
 have b1 := blk_new W 265 (nodeC x (.pointer none) (.pointer none) 0 0)
 have hT := h.kept k1 (by simp)
 have hlt := h.lt
 obtain ⟨tg, cs, h1, h2, h3, h4, h5, h6⟩ := hT.place
 have k2 := kept_set1 ((lnk fs).blk p) (lnk fs).off (W.alloc (.cells (nodeC x (.pointer none) (.pointer none) 0 0) 265)) (.pointer (some ⟨W.heap.size, 0, none⟩))
 have hin : ∀ k ∈ p :: ctx fs, k < W.heap.size := fun k hk => hlt k (by
  rcases List.mem_cons.1 hk with rfl | hk
  ·simp
  ·exact List.mem_cons_of_mem _ ((plug_blks fs .nil).mem_iff.2 (List.mem_append.2 (.inl hk))))
 have hne : W.heap.size ∉ [(lnk fs).blk p] := fun hm => by
  simp at hm
  have := hin _ h5
  omega
 refine h6 _ (.node W.heap.size x 0 0 .nil .nil) (h1.set _ _) ⟨b1.kept k2 hne, trivial, trivial⟩ k2 ?_
 have hnd := nodup_plug.1 h.nd
 simp only [Tr.blks, List.append_nil] at hnd ⊢
 rw [← List.cons_append]
 refine List.nodup_append.2 ⟨hnd, by simp, fun a ha b hb => ?_⟩
 simp at hb
 have := hin a ha
 omega
set_option maxRecDepth 100000 in
set_option maxHeartbeats 4000000 in
theorem insert_any (w : World) (p : Nat) (F : List Nat) (L : List It) (x : It) (h : TT w p F L) (hs : Sorted L) (hl : L.length ≤ 600) (_hx : x.Ok) :
  Calls Tryz.prog 136 #[.pointer (some ⟨p, 0, none⟩), .agg #[.int .i64 x.o, .int .i64 x.l], .int .i64 x.i] w fun e w' => ∃ F', e = .returned (.bool (insOk L x)) ∧ TT w' p F' (insL L x) ∧ (∀ k ∈ F', k ∈ F ∨ w.heap.size ≤ k) ∧ Kept F w w' := by
 obtain ⟨t, h1, h2, h3, hF⟩ := h
 have kA := kept_alloc [] w (.cells #[.int .i64 x.o, .int .i64 x.l] 44)
 have bA := blk_new w 44 #[.int .i64 x.o, .int .i64 x.l]
 have qm := isMade_any p _ t _ (h1.kept kA (by simp))
 have qh := fun W => hasSector_any x W
 cases hg : good x with
 | false =>
  obtain ⟨e1, e2⟩ := ins_there (L := L) (x := x) (.inr hg)
  rw [hg] at qh
  rw [e1, e2]
  clear hg e1 e2
  replace hF : Hid _ := hF
  replace h3 : Hid _ := h3
  obtain ⟨W0, hW0⟩ : ∃ W0, w.alloc (.cells #[.int .i64 x.o, .int .i64 x.l] 44) = W0 := ⟨_, rfl⟩
  rw [hW0] at kA bA qm
  have c0 := (bA.cell 0).trans (show _ = some (Value.int .i64 x.o) from rfl)
  have c1 := (bA.cell 1).trans (show _ = some (Value.int .i64 x.l) from rfl)
  go_enter Tryz.func136, Tryz.ntmps136
  go_wp2_with (first
   | (go_at_call 176; refine qm.mono ?_; rintro e W0 ⟨rfl, rfl⟩)
   | (go_at_call 177; refine (qh _).mono ?_; rintro e w2 ⟨rfl, k2⟩))
  go_ret
  exact ⟨F, rfl, ⟨t, h1.kept (kA.trans k2) (by simp), h2, h3.out, hF.out⟩, fun k hk => .inl hk, (kA.trans k2).mono (by simp)⟩
 | true =>
  rw [hg] at qh
  obtain ⟨W0, hW0⟩ : ∃ W0, w.alloc (.cells #[.int .i64 x.o, .int .i64 x.l] 44) = W0 := ⟨_, rfl⟩
  rw [hW0] at kA bA qm
  have c0 := (bA.cell 0).trans (show _ = some (Value.int .i64 x.o) from rfl)
  have c1 := (bA.cell 1).trans (show _ = some (Value.int .i64 x.l) from rfl)
  replace hF : Hid _ := hF
  replace h3 : Hid _ := h3
  replace hg : Hid _ := hg
  have hbl : t.blks.length ≤ 700 := by
   rw [← toL_length, h3.out]
   omega
  have hst : Sorted t.toL := h3.out ▸ hs
  go_enter Tryz.func136, Tryz.ntmps136
  go_wp2_with (first
   | (go_at_call 176; refine qm.mono ?_; rintro e W0 ⟨rfl, rfl⟩)
   | (go_at_call 177; refine (qh _).mono ?_; rintro e w2 ⟨rfl, k2⟩; have b2 := bA.kept k2 (by simp); have c0' := (b2.cell 0).trans (show _ = some (Value.int .i64 x.o) from rfl); have c1' := (b2.cell 1).trans (show _ = some (Value.int .i64 x.l) from rfl); have k3 := kept_alloc [] w2 (.cells #[.int .i64 x.o, .int .i64 x.l, .int .i64 x.i] 262); have b3 := blk_new w2 262 #[.int .i64 x.o, .int .i64 x.l, .int .i64 x.i]; have hT3 := ((h1.kept kA (by simp)).kept k2 (by simp)).kept k3 (by simp); have q3 := way_any p _ t x _ hT3 hst hbl)
   | (go_at_call 197; refine q3.mono ?_; rintro e w4 ⟨fs, u, g, cap, rfl, hpl, hpre, hpost, hu, hR, k4⟩))
  replace hpl : Hid _ := hpl
  replace hpre : Hid _ := hpre
  replace hpost : Hid _ := hpost
  have hT4 := hT3.kept k4 (by simp)
  have K4 : Kept [] w w4 := ((kA.trans k2).trans k3).trans k4
  have b4 := b3.kept k4 (by simp)
  have d0 := (b4.cell 0).trans (show _ = some (Value.int .i64 x.o) from rfl)
  have d1 := (b4.cell 1).trans (show _ = some (Value.int .i64 x.l) from rfl)
  have d2 := (b4.cell 2).trans (show _ = some (Value.int .i64 x.i) from rfl)
  obtain ⟨hc1, hg1, hg2⟩ := way_last hR
  have hfl : fs.length ≤ 700 := by
   have e1 := (plug_blks fs u).length_eq
   have e2 := fs_length fs
   have e3 := hpl.out
   rw [e3] at hbl
   simp only [List.length_append] at e1
   omega
  have q5 := last_any g fs.length cap _ w4 (by omega) hc1
  have hz3 : Hid _ := Nat.le_trans kA.size (Nat.le_trans k2.size k3.size)
  have hz4 : Hid _ := k4.size
  rw [hpl.out] at hT4
  obtain ⟨tg, cs, hp1, hp2, hp3, -, hp5, -⟩ := hT4.place
  have hc2 := blk_get hp1 hp2
  have hf2 := hp1.frozen (lnk fs).off
  clear q3 hT3 kA k2 k3 k4 b2 c0' c1' b3 b4 hc1 qm qh c0 c1 bA hW0
  unfold lnV at q5
  rcases hu with rfl | ⟨b, e, hh, l, r, rfl⟩
  ·refine q5.mono ?_
   clear q5
   rintro e5 w4 ⟨rfl, rfl⟩
   rw [ptr_nil] at hc2
   have hG : Whole ((w4.alloc (.cells #[.int .i64 x.o, .int .i64 x.l, .int .i64 x.i, .pointer none, .pointer none, .int .i64 0, .int .i64 0] 265)).setCell ⟨(lnk fs).blk p, (lnk fs).off, none⟩ (.pointer (some ⟨w4.heap.size, 0, none⟩))) p L.length (plug fs (.node w4.heap.size x 0 0 .nil .nil)) := hT4.grow x
   have kG : Kept [(lnk fs).blk p] w4 _ := (kept_alloc [(lnk fs).blk p] w4 (.cells #[.int .i64 x.o, .int .i64 x.l, .int .i64 x.i, .pointer none, .pointer none, .int .i64 0, .int .i64 0] 265)).trans (kept_set1 ((lnk fs).blk p) (lnk fs).off _ (.pointer (some ⟨w4.heap.size, 0, none⟩)))
   have hp1' := hp1.kept (kept_alloc [] w4 (.cells #[.int .i64 x.o, .int .i64 x.l, .int .i64 x.i, .pointer none, .pointer none, .int .i64 0, .int .i64 0] 265)) (by simp)
   have hc3 := blk_get hp1' hp2
   have hf3 := hp1'.frozen (lnk fs).off
   rw [ptr_nil] at hc3
   obtain ⟨B, hB⟩ : ∃ B, (lnk fs).blk p = B := ⟨_, rfl⟩
   obtain ⟨O, hO⟩ : ∃ O, (lnk fs).off = O := ⟨_, rfl⟩
   rw [hB, hO] at hG hc2 hf2 hc3 hf3 ⊢
   rw [hB] at hp5
   rw [hB, hO] at kG
   clear hB hO
   go_upto_region 9 with fail
   obtain ⟨W5, hW5⟩ : ∃ W5, (w4.alloc (.cells #[.int .i64 x.o, .int .i64 x.l, .int .i64 x.i, .pointer none, .pointer none, .int .i64 0, .int .i64 0] 265)).setCell ⟨B, O, none⟩ (.pointer (some ⟨w4.heap.size, 0, none⟩)) = W5 := ⟨_, rfl⟩
   rw [hW5] at hG kG ⊢
   clear hW5
   have hS1 := hG.size (L.length + 1)
   have kS := kept_set1 p 2 W5 (.int .i64 ((L.length + 1 : Nat) : Int))
   rw [show ((L.length + 1 : Nat) : Int) = (L.length : Int) + 1 by omega] at hS1 kS
   have hcp := (hG.blk.cell 2).trans (show _ = some (Value.int .i64 (L.length : Int)) from rfl)
   have hfp := hG.blk.frozen 2
   have hw4 : ∀ k ∈ p :: ctx fs, k < w4.heap.size := fun k hk => hT4.lt k (by
    rcases List.mem_cons.1 hk with rfl | hk
    ·simp
    ·exact List.mem_cons_of_mem _ ((plug_blks fs .nil).mem_iff.2 (List.mem_append.2 (.inl hk))))
   have hwo : ∀ k ∈ p :: ctx fs, k < w.heap.size := fun k hk => h1.lt k (by
    rw [hpl.out]
    rcases List.mem_cons.1 hk with rfl | hk
    ·simp
    ·exact List.mem_cons_of_mem _ ((plug_blks fs .nil).mem_iff.2 (List.mem_append.2 (.inl hk))))
   obtain ⟨nb, hnb⟩ : ∃ nb, w4.heap.size = nb := ⟨_, rfl⟩
   rw [hnb] at hG hS1
   have hmem : ∀ k ∈ p :: (plug fs (.node nb x 0 0 .nil .nil)).blks, k ∈ p :: ctx fs ∨ k = nb := fun k hk => by
    rcases List.mem_cons.1 hk with rfl | hk
    ·exact .inl (by simp)
    ·rcases List.mem_append.1 ((plug_blks fs _).mem_iff.1 hk) with hk | hk
     ·exact .inl (List.mem_cons_of_mem _ hk)
     ·simp [Tr.blks] at hk
      exact .inr hk
   have hbase : w.heap.size ≤ (w2.alloc (.cells #[.int .i64 x.o, .int .i64 x.l, .int .i64 x.i] 262)).heap.size := hz3.out
   have hR6 := (hR.kept kG (fun k hk => by simp at hk; subst hk; have := hwo k hp5; omega)).kept kS (fun k hk => by simp at hk; subst hk; have := hwo k (by simp); omega)
   have hL6 := lns_of_row hR6 (by omega)
   have hmo : (plug fs (.node nb x 0 0 .nil .nil)).most + 4 * (fs.length + 1) ≤ 700000 := by
    have e1 := good_most t h2
    rw [h3.out, hpl.out, plug_most] at e1
    rw [plug_most]
    simp only [Tr.most] at e1 ⊢
    omega
   have hgn : g ∉ p :: (plug fs (.node nb x 0 0 .nil .nil)).blks := fun hm => by
    rcases hmem g hm with e1 | e1
    ·have := hwo g e1
     omega
    ·omega
   have q6 := settle_any p (L.length + 1) g cap fs (.node nb x 0 0 .nil .nil) _ hS1 hL6 hgn hmo
   obtain ⟨m, hm⟩ : ∃ m, fs.length + 1 = m := ⟨_, rfl⟩
   rw [hm] at q6 ⊢
   clear hm
   go_wp2_with (go_at_call 199; refine q6.mono ?_; rintro e7 w7 ⟨rfl, hW7, k7⟩)
   go_ret
   have hLL : L = pre fs ++ post fs := by
    have := h3.out
    rw [hpl.out, plug_toL] at this
    simpa [Tr.toL] using this.symm
   obtain ⟨i1, i2⟩ := ins_mid (A := pre fs) (B := post fs) hpre.out hpost.out hg.out
   rw [← hLL] at i1 i2
   have htl : (settleT fs (.node nb x 0 0 .nil .nil)).toL = insL L x := by
    rw [settle_toL, i2]
    simp [Tr.toL]
   have hgd : Good (settleT fs (.node nb x 0 0 .nil .nil)) := by
    have hgp := (good_plug fs .nil (hpl.out ▸ h2)).1
    have hlv1 : lv (.node nb x 0 0 .nil .nil) = cnt nb x .nil .nil := rfl
    refine settle_good fs _ 0 hgp ?_ ?_ ?_
    ·rw [hlv1]
     exact cnt_good trivial trivial hg.out (by simp [Tr.tall]) (by simp [Tr.tall])
    ·rw [hlv1, cnt_tall]
     simp [Tr.tall]
    ·omega
   have hsb := settle_blks fs (.node nb x 0 0 .nil .nil)
   have hnbw : w.heap.size ≤ nb := by have := K4.size; omega
   have hFp : ∀ k ∈ p :: ctx fs, k ∈ F := fun k hk => by
    rw [hF.out, hpl.out]
    rcases List.mem_cons.1 hk with rfl | hk
    ·simp
    ·exact List.mem_cons_of_mem _ ((plug_blks fs .nil).mem_iff.2 (List.mem_append.2 (.inl hk)))
   refine ⟨p :: (settleT fs (.node nb x 0 0 .nil .nil)).blks, by rw [i1]; rfl, ⟨_, ?_, hgd, htl, rfl⟩, fun k hk => ?_, ?_⟩
   ·have e1 : (insL L x).length = L.length + 1 := by
     rw [ins_length, if_pos i1]
    rw [e1]
    exact hW7
   ·rcases List.mem_cons.1 hk with rfl | hk
    ·exact .inl (hFp k (by simp))
    ·rcases List.mem_append.1 (hsb.mem_iff.1 hk) with hk | hk
     ·exact .inl (hFp k (by simp [hk]))
     ·simp [Tr.blks] at hk
      exact .inr (by omega)
   ·have e1 : Kept F w W5 := (K4.mono (by simp)).trans (kG.mono (fun k hk => by simp at hk; subst hk; exact hFp k hp5))
    have e2 := e1.trans (kS.mono (fun k hk => by simp at hk; subst hk; exact hFp k (by simp)))
    refine kept_youngs e2 k7 (fun k hk => ?_)
    rcases hmem k hk with e3 | e3
    ·exact .inl (hFp k e3)
    ·exact .inr (by omega)
  ·refine q5.mono ?_
   clear q5
   rintro e5 w4 ⟨rfl, rfl⟩
   rw [ptr_node] at hc2
   have hth : there L x = true := by
    rw [there_iff hs, ← h3.out, hpl.out, plug_toL]
    simp [Tr.toL]
   obtain ⟨e1, e2⟩ := ins_there (L := L) (x := x) (.inl hth)
   replace e1 : Hid _ := e1
   replace e2 : Hid _ := e2
   clear hth
   go_wp2
   go_ret
   exact ⟨F, by rw [e1.out]; rfl, by rw [e2.out]; exact ⟨t, h1.kept K4 (by simp), h2, h3.out, hF.out⟩, fun k hk => .inl hk, K4.mono (by simp)⟩
end Go.Proofs.YtoaeficfmcncjaaGreat.Itree
