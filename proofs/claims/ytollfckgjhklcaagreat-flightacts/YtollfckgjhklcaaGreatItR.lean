import Derived.Test.YtollfckgjhklcaaGreatItQ
/-
  A side that is higher comes up: the walks of lift and level.
-/
namespace Go.Proofs.YtollfckgjhklcaaGreat.Itree
open Go.RowKit

theorem TrAt.cnt {W : World} {b : Nat} {x : It} {l r : Tr} (hb : Blk W b 92 (nodeC x l.ptr r.ptr (r.fin (l.fin (Span.Math.endN x.o x.l))) (max l.tall r.tall + 1))) (hl : TrAt W l) (hr : TrAt W r) : TrAt W (cnt b x l r) := ⟨hb, hl, hr⟩
theorem blk_get {W : World} {g : Nat} {t : TypeId} {cs : Array Value} {j : Nat} {v : Value} (h : Blk W g t cs) (hj : cs[j]? = some v) : W.cell? ⟨g, j, none⟩ = some v := (h.cell j).trans hj
theorem set_get {cs : Array Value} {j : Nat} {v : Value} (hj : cs[j]? = some v) (u : Value) : (cs.setIfInBounds j u)[j]? = some u := by
  have := (Array.getElem?_eq_some_iff.1 hj).1
  simp [this]
theorem ptr_is (t : Tr) : ∃ a, t.ptr = .pointer a := by
  cases t with
  | nil => exact ⟨_, rfl⟩
  | node b x e h l r => exact ⟨_, rfl⟩
set_option maxRecDepth 100000 in
set_option maxHeartbeats 4000000 in
/-- lift, the side ahead -/
theorem lift_R (g j : Nat) (tg : TypeId) (cs : Array Value) (b ub : Nat) (x ux : It) (e ue : Int) (h uh : Nat) (ul ur r : Tr) (w : World)
    (hg : Blk w g tg cs) (hj : cs[j]? = some (.pointer (some ⟨b, 0, none⟩))) (ht : TrAt w (.node b x e h (.node ub ux ue uh ul ur) r)) (hn : (g :: (Tr.node b x e h (.node ub ux ue uh ul ur) r).blks).Nodup)
    (m1 : ul.tall ≤ 900000) (m2 : ur.tall ≤ 900000) (m3 : r.tall ≤ 900000) :
    Calls Tryz.prog 78 #[.pointer (some ⟨g, j, none⟩), .int .i64 0] w fun en w' => en = .returned (.tuple #[]) ∧ Blk w' g tg (cs.setIfInBounds j (.pointer (some ⟨ub, 0, none⟩))) ∧ TrAt w' (cnt ub ux ul (cnt b x ur r)) ∧ Kept [g, b, ub] w w' := by
  obtain ⟨hb, ⟨hub, hul, hur⟩, hr⟩ := ht
  have hn0 := hn
  simp only [Tr.blks, List.cons_append, List.nodup_cons, List.mem_cons, List.mem_append, not_or, List.nodup_append] at hn
  have gb : g ≠ b := fun k => hn.1.1 k
  have gub : g ≠ ub := fun k => absurd k (by exact hn.1.2.1)
  have bub : b ≠ ub := fun k => absurd k (by exact hn.2.1.1)
  have nx : (∀ t ∈ [ul, ur, r], g ∉ t.blks ∧ b ∉ t.blks ∧ ub ∉ t.blks) := by
    have d1 := List.nodup_cons.1 hn0
    simp only [Tr.blks, List.cons_append, List.mem_cons, List.mem_append, not_or] at d1
    have d2 := List.nodup_cons.1 d1.2
    simp only [List.mem_cons, List.mem_append, not_or] at d2
    have d3 := List.nodup_cons.1 d2.2
    simp only [List.mem_append, not_or] at d3
    intro t ht
    simp only [List.mem_cons, List.not_mem_nil, or_false] at ht
    rcases ht with rfl | rfl | rfl
    · exact ⟨d1.1.2.2.1.1, d2.1.2.1.1, d3.1.1.1⟩
    · exact ⟨d1.1.2.2.1.2, d2.1.2.1.2, d3.1.1.2⟩
    · exact ⟨d1.1.2.2.2, d2.1.2.2, d3.1.2⟩
  clear hn hn0
  obtain ⟨gul, bul, ubul⟩ := nx ul (by simp)
  obtain ⟨gur, bur, ubur⟩ := nx ur (by simp)
  obtain ⟨gr, br, ubr⟩ := nx r (by simp)
  clear nx
  rw [ptr_node] at hb
  have cg := blk_get hg hj
  obtain ⟨⟨c0, c1, c2⟩, c3, c4, c5, c6⟩ := nd_cells hb
  obtain ⟨⟨d0, d1, d2⟩, d3, d4, d5, d6⟩ := nd_cells hub
  have f3 := hb.frozen 3
  obtain ⟨pu, hpu⟩ := ptr_is ur
  rw [hpu] at d4
  have hb1 := (nd_set3 hb (.pointer pu)).kept (kept_drew [] _) (by simp)
  have k1 := (kept_set1 b 3 w (.pointer pu)).trans (kept_drew [b] _)
  replace hpu : Hid _ := hpu
  go_enter Tryz.func78, Tryz.ntmps78
  go_wp2
  go_region
  obtain ⟨W1, hW1⟩ : ∃ W1, (w.setCell ⟨b, 3, none⟩ (.pointer pu)).drew = W1 := ⟨_, rfl⟩
  rw [hW1] at hb1 k1 ⊢
  rw [← hpu.out] at hb1
  clear hW1
  have hg1 := hg.kept k1 (by simp; exact gb)
  have hub1 := hub.kept k1 (by simp; exact fun k => bub k.symm)
  have hul1 := hul.kept k1 (fun k hm he => by simp at he; subst he; exact bul hm)
  have hur1 := hur.kept k1 (fun k hm he => by simp at he; subst he; exact bur hm)
  have hr1 := hr.kept k1 (fun k hm he => by simp at he; subst he; exact br hm)
  have k2 := kept_set1 ub 4 W1 (.pointer (some ⟨b, 0, none⟩))
  have hub2 := nd_set4 hub1 (.pointer (some ⟨b, 0, none⟩))
  have hg2 := hg1.kept k2 (by simp; exact gub)
  have hb2 := hb1.kept k2 (by simp; exact bub)
  have hul2 := hul1.kept k2 (fun k hm he => by simp at he; subst he; exact ubul hm)
  have hur2 := hur1.kept k2 (fun k hm he => by simp at he; subst he; exact ubur hm)
  have hr2 := hr1.kept k2 (fun k hm he => by simp at he; subst he; exact ubr hm)
  have k3 := kept_set1 g j (W1.setCell ⟨ub, 4, none⟩ (.pointer (some ⟨b, 0, none⟩))) (.pointer (some ⟨ub, 0, none⟩))
  have hg3 := hg2.set j (.pointer (some ⟨ub, 0, none⟩))
  have hub3 := hub2.kept k3 (by simp; exact fun k => gub k.symm)
  have hb3 := hb2.kept k3 (by simp; exact fun k => gb k.symm)
  have hul3 := hul2.kept k3 (fun k hm he => by simp at he; subst he; exact gul hm)
  have hur3 := hur2.kept k3 (fun k hm he => by simp at he; subst he; exact gur hm)
  have hr3 := hr2.kept k3 (fun k hm he => by simp at he; subst he; exact gr hm)
  have q1 := count_any b x e h ur r _ hb3 hur3 hr3 bur br (by omega) (by omega) _ rfl
  have e1 := (blk_get hg2 hj)
  have e2 := hg2.frozen j
  have e3 := (hub1.cell 4).trans (show _ = some ur.ptr from rfl)
  have e4 := hub1.frozen 4
  have K3 : Kept [g, b, ub] w _ := (k1.mono (by simp)).trans ((k2.mono (by simp)).trans (k3.mono (by simp)))
  obtain ⟨W3, hW3⟩ : ∃ W3, (W1.setCell ⟨ub, 4, none⟩ (.pointer (some ⟨b, 0, none⟩))).setCell ⟨g, j, none⟩ (.pointer (some ⟨ub, 0, none⟩)) = W3 := ⟨_, rfl⟩
  rw [hW3] at q1 hb3 hub3 hul3 hur3 hr3 hg3 K3
  replace hW3 : Hid _ := hW3
  go_wp2_with (first
    | (go_at_call 76; rw [hW3.out]; refine q1.mono ?_; clear q1; rintro e5 w4 ⟨rfl, b4, k4⟩; have tb4 : TrAt w4 (cnt b x ur r) := TrAt.cnt b4 (hur3.kept k4 (fun k hm he => (by simp at he; subst he; exact bur hm))) (hr3.kept k4 (fun k hm he => (by simp at he; subst he; exact br hm))); have tul4 := hul3.kept k4 (fun k hm he => (by simp at he; subst he; exact bul hm)); have hub4 := hub3.kept k4 (by simp; exact fun k => bub k.symm); have hg4 := hg3.kept k4 (by simp; exact gb); have nub : ub ∉ (cnt b x ur r).blks := (by rw [cnt_blks]; simp; exact ⟨fun k => bub k.symm, ubur, ubr⟩); have mcb : (cnt b x ur r).tall ≤ 1000000 := (by rw [cnt_tall]; omega); have q2 := count_any ub ux ue uh ul (cnt b x ur r) w4 hub4 tul4 tb4 ubul nub (by omega) mcb _ rfl)
    | (go_at_call 76; refine q2.mono ?_; clear q2; rintro e6 w5 ⟨rfl, b5, k5⟩; have tb5 := tb4.kept k5 (fun k hm he => (by simp at he; subst he; exact nub hm)); have tul5 := tul4.kept k5 (fun k hm he => (by simp at he; subst he; exact ubul hm)); have hg5 := hg4.kept k5 (by simp; exact gub)))
  go_end0
  exact ⟨rfl, hg5, TrAt.cnt b5 tul5 tb5, K3.trans ((k4.mono (by simp)).trans (k5.mono (by simp)))⟩
set_option maxRecDepth 100000 in
set_option maxHeartbeats 4000000 in
/-- lift, the side behind -/
theorem lift_L (g j : Nat) (tg : TypeId) (cs : Array Value) (b ub : Nat) (x ux : It) (e ue : Int) (h uh : Nat) (ul ur r : Tr) (w : World)
    (hg : Blk w g tg cs) (hj : cs[j]? = some (.pointer (some ⟨b, 0, none⟩))) (ht : TrAt w (.node b x e h r (.node ub ux ue uh ul ur))) (hn : (g :: (Tr.node b x e h r (.node ub ux ue uh ul ur)).blks).Nodup)
    (m1 : ul.tall ≤ 900000) (m2 : ur.tall ≤ 900000) (m3 : r.tall ≤ 900000) :
    Calls Tryz.prog 78 #[.pointer (some ⟨g, j, none⟩), .int .i64 1] w fun en w' => en = .returned (.tuple #[]) ∧ Blk w' g tg (cs.setIfInBounds j (.pointer (some ⟨ub, 0, none⟩))) ∧ TrAt w' (cnt ub ux (cnt b x r ul) ur) ∧ Kept [g, b, ub] w w' := by
  obtain ⟨hb, hr, hub, hul, hur⟩ := ht
  have hn0 := hn
  simp only [Tr.blks, List.nodup_cons, List.mem_cons, List.mem_append, not_or, List.nodup_append] at hn
  have gb : g ≠ b := fun k => hn.1.1 k
  have gub : g ≠ ub := fun k => absurd k (by exact hn.1.2.2.1)
  have bub : b ≠ ub := fun k => absurd k (by exact hn.2.1.2.1)
  have nx : (∀ t ∈ [ul, ur, r], g ∉ t.blks ∧ b ∉ t.blks ∧ ub ∉ t.blks) := by
    have d1 := List.nodup_cons.1 hn0
    simp only [Tr.blks, List.mem_cons, List.mem_append, not_or] at d1
    have d2 := List.nodup_cons.1 d1.2
    simp only [List.mem_cons, List.mem_append, not_or] at d2
    have d3 := List.nodup_append.1 d2.2
    have d4 := List.nodup_cons.1 d3.2.1
    simp only [List.mem_append, not_or] at d4
    intro t ht
    simp only [List.mem_cons, List.not_mem_nil, or_false] at ht
    rcases ht with rfl | rfl | rfl
    · exact ⟨d1.1.2.2.2.1, d2.1.2.2.1, d4.1.1⟩
    · exact ⟨d1.1.2.2.2.2, d2.1.2.2.2, d4.1.2⟩
    · exact ⟨d1.1.2.1, d2.1.1, fun hm => d3.2.2 _ hm _ (by simp) rfl⟩
  clear hn hn0
  obtain ⟨gul, bul, ubul⟩ := nx ul (by simp)
  obtain ⟨gur, bur, ubur⟩ := nx ur (by simp)
  obtain ⟨gr, br, ubr⟩ := nx r (by simp)
  clear nx
  rw [ptr_node] at hb
  have cg := blk_get hg hj
  obtain ⟨⟨c0, c1, c2⟩, c3, c4, c5, c6⟩ := nd_cells hb
  obtain ⟨⟨d0, d1, d2⟩, d3, d4, d5, d6⟩ := nd_cells hub
  have f3 := hb.frozen 4
  obtain ⟨pu, hpu⟩ := ptr_is ul
  rw [hpu] at d3
  have hb1 := (nd_set4 hb (.pointer pu)).kept (kept_drew [] _) (by simp)
  have k1 := (kept_set1 b 4 w (.pointer pu)).trans (kept_drew [b] _)
  replace hpu : Hid _ := hpu
  go_enter Tryz.func78, Tryz.ntmps78
  go_wp2
  go_region
  obtain ⟨W1, hW1⟩ : ∃ W1, (w.setCell ⟨b, 4, none⟩ (.pointer pu)).drew = W1 := ⟨_, rfl⟩
  rw [hW1] at hb1 k1 ⊢
  rw [← hpu.out] at hb1
  clear hW1
  have hg1 := hg.kept k1 (by simp; exact gb)
  have hub1 := hub.kept k1 (by simp; exact fun k => bub k.symm)
  have hul1 := hul.kept k1 (fun k hm he => by simp at he; subst he; exact bul hm)
  have hur1 := hur.kept k1 (fun k hm he => by simp at he; subst he; exact bur hm)
  have hr1 := hr.kept k1 (fun k hm he => by simp at he; subst he; exact br hm)
  have k2 := kept_set1 ub 3 W1 (.pointer (some ⟨b, 0, none⟩))
  have hub2 := nd_set3 hub1 (.pointer (some ⟨b, 0, none⟩))
  have hg2 := hg1.kept k2 (by simp; exact gub)
  have hb2 := hb1.kept k2 (by simp; exact bub)
  have hul2 := hul1.kept k2 (fun k hm he => by simp at he; subst he; exact ubul hm)
  have hur2 := hur1.kept k2 (fun k hm he => by simp at he; subst he; exact ubur hm)
  have hr2 := hr1.kept k2 (fun k hm he => by simp at he; subst he; exact ubr hm)
  have k3 := kept_set1 g j (W1.setCell ⟨ub, 3, none⟩ (.pointer (some ⟨b, 0, none⟩))) (.pointer (some ⟨ub, 0, none⟩))
  have hg3 := hg2.set j (.pointer (some ⟨ub, 0, none⟩))
  have hub3 := hub2.kept k3 (by simp; exact fun k => gub k.symm)
  have hb3 := hb2.kept k3 (by simp; exact fun k => gb k.symm)
  have hul3 := hul2.kept k3 (fun k hm he => by simp at he; subst he; exact gul hm)
  have hur3 := hur2.kept k3 (fun k hm he => by simp at he; subst he; exact gur hm)
  have hr3 := hr2.kept k3 (fun k hm he => by simp at he; subst he; exact gr hm)
  have q1 := count_any b x e h r ul _ hb3 hr3 hul3 br bul (by omega) (by omega) _ rfl
  have e1 := (blk_get hg2 hj)
  have e2 := hg2.frozen j
  have e3 := (hub1.cell 3).trans (show _ = some ul.ptr from rfl)
  have e4 := hub1.frozen 3
  have K3 : Kept [g, b, ub] w _ := (k1.mono (by simp)).trans ((k2.mono (by simp)).trans (k3.mono (by simp)))
  obtain ⟨W3, hW3⟩ : ∃ W3, (W1.setCell ⟨ub, 3, none⟩ (.pointer (some ⟨b, 0, none⟩))).setCell ⟨g, j, none⟩ (.pointer (some ⟨ub, 0, none⟩)) = W3 := ⟨_, rfl⟩
  rw [hW3] at q1 hb3 hub3 hul3 hur3 hr3 hg3 K3
  replace hW3 : Hid _ := hW3
  go_wp2_with (first
    | (go_at_call 76; rw [hW3.out]; refine q1.mono ?_; clear q1; rintro e5 w4 ⟨rfl, b4, k4⟩; have tb4 : TrAt w4 (cnt b x r ul) := TrAt.cnt b4 (hr3.kept k4 (fun k hm he => (by simp at he; subst he; exact br hm))) (hul3.kept k4 (fun k hm he => (by simp at he; subst he; exact bul hm))); have tur4 := hur3.kept k4 (fun k hm he => (by simp at he; subst he; exact bur hm)); have hub4 := hub3.kept k4 (by simp; exact fun k => bub k.symm); have hg4 := hg3.kept k4 (by simp; exact gb); have nub : ub ∉ (cnt b x r ul).blks := (by rw [cnt_blks]; simp; exact ⟨fun k => bub k.symm, ubr, ubul⟩); have mcb : (cnt b x r ul).tall ≤ 1000000 := (by rw [cnt_tall]; omega); have q2 := count_any ub ux ue uh (cnt b x r ul) ur w4 hub4 tb4 tur4 nub ubur mcb (by omega) _ rfl)
    | (go_at_call 76; refine q2.mono ?_; clear q2; rintro e6 w5 ⟨rfl, b5, k5⟩; have tb5 := tb4.kept k5 (fun k hm he => (by simp at he; subst he; exact nub hm)); have tur5 := tur4.kept k5 (fun k hm he => (by simp at he; subst he; exact ubur hm)); have hg5 := hg4.kept k5 (by simp; exact gub)))
  go_end0
  exact ⟨rfl, hg5, TrAt.cnt b5 tb5 tur5, K3.trans ((k4.mono (by simp)).trans (k5.mono (by simp)))⟩
end Go.Proofs.YtollfckgjhklcaaGreat.Itree

