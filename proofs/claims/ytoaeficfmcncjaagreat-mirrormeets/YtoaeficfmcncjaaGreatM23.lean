/-
 A side that is higher by 2 comes up: the walk of level.
-/
import Derived.Test.YtoaeficfmcncjaaGreatM22
namespace Go.Proofs.YtoaeficfmcncjaaGreat.Itree
open Go.RowKit
theorem set_same {cs : Array Value} {j : Nat} {v : Value} (h : cs[j]? = some v) : cs.setIfInBounds j v = cs := by
 obtain ⟨h1, h2⟩ := Array.getElem?_eq_some_iff.1 h
 apply Array.ext
 ·simp
 ·intro i hi1 hi2
  rw [Array.getElem_setIfInBounds]
  split
  ·subst_vars; rfl
  ·rfl
theorem TrAt.kept1 {b : Nat} {A B : World} {t : Tr} (h : TrAt A t) (hk : Kept [b] A B) (nb : b ∉ t.blks) : TrAt B t := h.kept hk (fun k hm he => by simp at he; subst he; exact nb hm)
theorem TrAt.kept3 {a b c : Nat} {A B : World} {t : Tr} (h : TrAt A t) (hk : Kept [a, b, c] A B) (na : a ∉ t.blks) (nb : b ∉ t.blks) (nc : c ∉ t.blks) : TrAt B t := h.kept hk (fun k hm he => by
 simp only [List.mem_cons, List.not_mem_nil, or_false] at he
 rcases he with rfl | rfl | rfl
 ·exact na hm
 ·exact nb hm
 ·exact nc hm)
set_option maxRecDepth 100000 in
set_option maxHeartbeats 8000000 in
theorem level_any (g j : Nat) (tg : TypeId) (cs : Array Value) (b : Nat) (x : It) (e : Int) (h : Nat) (l r : Tr) (w : World)
  (hg : Blk w g tg cs) (hj : cs[j]? = some (.pointer (some ⟨b, 0, none⟩))) (ht : TrAt w (.node b x e h l r)) (hn : (g :: (Tr.node b x e h l r).blks).Nodup) (hm : (Tr.node b x e h l r).most ≤ 800000) :
  Calls Tryz.prog 236 #[.pointer (some ⟨g, j, none⟩)] w fun en w' => en = .returned (.tuple #[]) ∧ Blk w' g tg (cs.setIfInBounds j (lv (.node b x e h l r)).ptr) ∧ TrAt w' (lv (.node b x e h l r)) ∧ Kept (g :: (Tr.node b x e h l r).blks) w w' := by
 obtain ⟨hb, hl, hr⟩ := ht
 obtain ⟨_, ml, mr⟩ := most_node hm
 have hn1 := List.nodup_cons.1 hn
 simp only [Tr.blks, List.mem_cons, List.mem_append, not_or] at hn1
 have hn2 := List.nodup_cons.1 hn1.2
 simp only [List.mem_append, not_or] at hn2
 obtain ⟨⟨gb, gl, gr⟩, -⟩ := hn1
 obtain ⟨⟨bl, br⟩, -⟩ := hn2
 have cg := blk_get hg hj
 have tl := tall_most l
 have tr := tall_most r
 have q := count_any b x e h l r w hb hl hr bl br (by omega) (by omega) _ rfl
 obtain ⟨E, hE⟩ : ∃ E, r.fin (l.fin (Span.Math.endN x.o x.l)) = E := ⟨_, rfl⟩
 obtain ⟨H, hH⟩ : ∃ H, max l.tall r.tall + 1 = H := ⟨_, rfl⟩
 rw [hE, hH] at q
 have hc : Hid (cnt b x l r = .node b x E H l r) := (show _ = _ by unfold cnt; rw [hE, hH])
 clear hE hH
 have hlv : Hid (lv (.node b x e h l r) = _) := lv_node b x e h l r
 rw [hc.out] at hlv
 have hbs : Hid ((Tr.node b x e h l r).blks = b :: (l.blks ++ r.blks)) := rfl
 go_enter Tryz.func236, Tryz.ntmps236
 go_wp2_with (first
  | (go_at_call 274; refine q.mono ?_; rintro e1 w1 ⟨rfl, b1, k1⟩; have hg1 := hg.kept k1 (by simp; exact gb); have hl1 := hl.kept1 k1 bl; have hr1 := hr.kept1 k1 br))
 clear q hb hl hr cg hg
 go_loopw [11, 3, 4, 5] (fun i _ _ _ wr => ∃ k : Nat, i = .int .i64 k ∧ (k = 0 ∨ k = 1 ∧ ¬ (r.tall + 1 < l.tall) ∨ k = 2 ∧ ¬ (r.tall + 1 < l.tall) ∧ ¬ (l.tall + 1 < r.tall)) ∧ Kept [] w1 wr) (fun i _ _ _ _ => 3 - (RowKit.intOf i).toNat)
 case atStart => exact ⟨0, rfl, .inl rfl, Kept.refl _ _⟩
 case round =>
  obtain ⟨k, rfl, hk, kr⟩ := hrel
  have hg2 := hg1.kept kr (by simp)
  have hb2 := b1.kept kr (by simp)
  have hl2 := hl1.kept kr (by simp)
  have hr2 := hr1.kept kr (by simp)
  rcases hk with rfl | ⟨rfl, hk⟩ | ⟨rfl, hk⟩
  ·obtain ⟨_, c3, c4, c5, c6⟩ := nd_cells hb2
   go_wp2
   go_quiet (fail)
   replace kr := kr.trans (kept_drewN [] _ nq)
   obtain ⟨W2, hW2⟩ : ∃ W2, wr.drewN nq = W2 := ⟨_, rfl⟩
   rw [hW2] at kr ⊢
   clear hW2 c3 c4 c5 c6 hg2 hb2 hl2 hr2
   have hg3 := hg1.kept kr (by simp)
   have hb3 := b1.kept kr (by simp)
   have hl3 := hl1.kept kr (by simp)
   have hr3 := hr1.kept kr (by simp)
   have qA := tall_any l W2 hl3
   have qB := tall_any r W2 hr3
   by_cases hlt : r.tall + 1 < l.tall
   ·have i1 : ¬ ((l.tall : Int) ≤ (r.tall : Int) + 1) := by omega
    cases l with
    | nil => exact absurd hlt (by show ¬ (_ < 0); omega)
    | node lb lx le lh ll lr =>
     have hhi3 := hl3
     obtain ⟨hlb3, hll3, hlr3⟩ := hhi3
     obtain ⟨_, c3, c4, _, _⟩ := nd_cells hlb3
     have mhi := ml
     obtain ⟨_, mll, mlr⟩ := most_node ml
     have tll := tall_most ll
     have tlr := tall_most lr
     by_cases hlt2 : ll.tall < lr.tall
     ·cases lr with
      | nil => exact absurd hlt2 (by show ¬ (_ < 0); omega)
      | node mb mx me mh pl pr =>
       obtain ⟨_, mpl, mpr⟩ := most_node mlr
       have tpl := tall_most pl
       have tpr := tall_most pr
       have hL : Hid (lv (.node b x e h (.node lb lx le lh ll (.node mb mx me mh pl pr)) r) = cnt mb mx (cnt lb lx ll pl) (cnt b x pr r)) := (show _ = _ by rw [hlv.out, if_pos hlt]; exact if_pos hlt2)
       have qC := fun n => tall_any (Tr.node mb mx me mh pl pr) (W2.drewN n) (hlr3.kept (kept_drewN [] _ n) (by simp))
       have qD := fun n => tall_any ll (W2.drewN n) (hll3.kept (kept_drewN [] _ n) (by simp))
       have i2 : (((Tr.node mb mx me mh pl pr).tall : Nat) : Int) > (ll.tall : Int) := by omega
       have nd1 : (b :: (Tr.node lb lx le lh ll (Tr.node mb mx me mh pl pr)).blks).Nodup := by
        have e1 := List.nodup_cons.1 (List.nodup_cons.1 hn).2
        have e2 := List.nodup_append.1 e1.2
        exact List.nodup_cons.2 ⟨fun k => bl k, e2.1⟩
       have nd2 : (g :: (Tr.node b x E H (cnt mb mx (cnt lb lx ll pl) pr) r).blks).Nodup := ((List.Perm.cons g (List.Perm.cons b ((rotL_blks (Tr.node lb lx le lh ll (Tr.node mb mx me mh pl pr))).append_right r.blks))).nodup_iff).2 hn
       have nlo : lb ∉ r.blks ∧ mb ∉ r.blks := by
        have e1 := List.nodup_cons.1 (List.nodup_cons.1 hn).2
        have e2 := (List.nodup_append.1 e1.2).2.2
        exact ⟨fun k => e2 lb (by simp [Tr.blks]) lb k rfl, fun k => e2 mb (by simp [Tr.blks]) mb k rfl⟩
       have ngs : g ≠ b ∧ g ≠ lb ∧ g ≠ mb := by
        have e1 := (List.nodup_cons.1 hn).1
        simp only [Tr.blks, List.mem_cons, List.mem_append, not_or] at e1
        refine ⟨fun k => e1.1 k, ?_, ?_⟩
        ·rintro rfl
         simp at e1
        ·rintro rfl
         simp at e1
       have hbsub : ∀ k ∈ [b, lb, mb], k ∈ g :: (Tr.node b x e h (.node lb lx le lh ll (.node mb mx me mh pl pr)) r).blks := by
        intro k hk1
        simp only [List.mem_cons, List.not_mem_nil, or_false] at hk1
        rcases hk1 with rfl | rfl | rfl <;> simp [Tr.blks]
       replace hbsub : Hid _ := hbsub
       replace nlo : Hid _ := nlo
       replace ngs : Hid _ := ngs
       replace nd1 : Hid _ := nd1
       replace nd2 : Hid _ := nd2
       have hlv' := hL
       clear hlv hc hbs hL
       simp only [ptr_node] at *
       go_wp2_with (first
        | (go_at_call 275; refine qA.mono ?_; clear qA; rintro e5 W2 ⟨rfl, rfl⟩)
        | (go_at_call 275; refine qB.mono ?_; clear qB; rintro e5 W2 ⟨rfl, rfl⟩))
       have wr1 : IntKind.i64.wrap 1 = 1 := rfl
       have wr0 : IntKind.i64.wrap 0 = 0 := rfl
       go_quiet (first
        | (go_at_call_of 275 (Value.pointer (some ⟨mb, 0, none⟩)); exact Calls.quiet_of_same (qC _))
        | (go_at_call_of 275 ll.ptr; exact Calls.quiet_of_same (qD _)))
       replace kr := kr.trans (kept_drewN [] _ nq)
       obtain ⟨W3, hW3⟩ : ∃ W3, W2.drewN nq = W3 := ⟨_, rfl⟩
       rw [hW3] at kr ⊢
       clear hW3 c3 c4 hg3 hb3 hl3 hr3 qC qD hlb3 hll3 hlr3
       have hg4 := hg1.kept kr (by simp)
       have hb4 := b1.kept kr (by simp)
       have hhi4 := hl1.kept kr (by simp)
       have ho4 := hr1.kept kr (by simp)
       have q1 := lift_L b 3 265 (nodeC x (.pointer (some ⟨lb, 0, none⟩)) r.ptr E H) lb mb lx mx le me lh mh pl pr ll W3 hb4 rfl hhi4 nd1.out (by omega) (by omega) (by omega)
       go_wp2_with (first
        | (go_at_call 276; refine q1.mono ?_; clear q1; rintro e5 w5 ⟨rfl, b5, t5, k5⟩; replace b5 : Blk w5 b 265 (nodeC x (.pointer (some ⟨mb, 0, none⟩)) r.ptr E H) := b5; have hg5 := hg4.kept k5 (by simp; exact ngs.out); have ho5 := ho4.kept3 k5 br nlo.out.1 nlo.out.2; have MB : (cnt lb lx ll pl).tall ≤ 900000 := (by rw [cnt_tall]; omega); have MB2 : pr.tall ≤ 900000 := (by omega); have q2 := lift_R g j tg cs b mb x mx E _ H _ (cnt lb lx ll pl) pr r w5 hg5 hj ⟨b5, t5, ho5⟩ nd2.out MB MB2 (by omega))
        | (go_at_call 276; refine q2.mono ?_; clear q2; rintro e6 w6 ⟨rfl, g6, t6, k6⟩))
       refine bodyPost_ret (results_none rfl _ _ _) rfl ?_
       rw [hlv'.out]
       exact ⟨rfl, g6, t6, (((k1.mono (by simp [Tr.blks])).trans (kr.mono (by simp))).trans (k5.mono hbsub.out)).trans (k6.mono (fun k hk2 => by
        simp only [List.mem_cons, List.not_mem_nil, or_false] at hk2
        rcases hk2 with rfl | rfl | rfl <;> simp [Tr.blks]))⟩
     ·have hL : Hid (lv (.node b x e h (.node lb lx le lh ll lr) r) = cnt lb lx ll (cnt b x lr r)) := (show _ = _ by rw [hlv.out, if_pos hlt]; exact if_neg hlt2)
      have qC := fun n => tall_any lr (W2.drewN n) (hlr3.kept (kept_drewN [] _ n) (by simp))
      have qD := fun n => tall_any ll (W2.drewN n) (hll3.kept (kept_drewN [] _ n) (by simp))
      have i2 : ¬ (((lr.tall : Nat) : Int) > (ll.tall : Int)) := by omega
      have nd0 : (g :: (Tr.node b x E H (Tr.node lb lx le lh ll lr) r).blks).Nodup := hn
      replace nd0 : Hid _ := nd0
      have hlv' := hL
      clear hlv hc hbs hL
      simp only [ptr_node] at *
      go_wp2_with (first
       | (go_at_call 275; refine qA.mono ?_; clear qA; rintro e5 W2 ⟨rfl, rfl⟩)
       | (go_at_call 275; refine qB.mono ?_; clear qB; rintro e5 W2 ⟨rfl, rfl⟩))
      have wr1 : IntKind.i64.wrap 1 = 1 := rfl
      have wr0 : IntKind.i64.wrap 0 = 0 := rfl
      go_quiet (first
       | (go_at_call_of 275 lr.ptr; exact Calls.quiet_of_same (qC _))
       | (go_at_call_of 275 ll.ptr; exact Calls.quiet_of_same (qD _)))
      replace kr := kr.trans (kept_drewN [] _ nq)
      obtain ⟨W3, hW3⟩ : ∃ W3, W2.drewN nq = W3 := ⟨_, rfl⟩
      rw [hW3] at kr ⊢
      clear hW3 c3 c4 hg3 hb3 hl3 hr3 qC qD hlb3 hll3 hlr3
      have hg4 := hg1.kept kr (by simp)
      have hb4 := b1.kept kr (by simp)
      have hhi4 := hl1.kept kr (by simp)
      have ho4 := hr1.kept kr (by simp)
      have q2 := lift_R g j tg cs b lb x lx E le H lh ll lr r W3 hg4 hj ⟨hb4, hhi4, ho4⟩ nd0.out (by omega) (by omega) (by omega)
      go_wp2_with (go_at_call 276; refine q2.mono ?_; clear q2; rintro e6 w6 ⟨rfl, g6, t6, k6⟩)
      refine bodyPost_ret (results_none rfl _ _ _) rfl ?_
      rw [hlv'.out]
      exact ⟨rfl, g6, t6, ((k1.mono (by simp [Tr.blks])).trans (kr.mono (by simp))).trans (k6.mono (fun k hk2 => by
       simp only [List.mem_cons, List.not_mem_nil, or_false] at hk2
       rcases hk2 with rfl | rfl | rfl <;> simp [Tr.blks]))⟩
   ·have i1 : ((l.tall : Int) ≤ (r.tall : Int) + 1) := by omega
    go_wp2_with (first
     | (go_at_call 275; refine qA.mono ?_; clear qA; rintro e5 W2 ⟨rfl, rfl⟩)
     | (go_at_call 275; refine qB.mono ?_; clear qB; rintro e5 W2 ⟨rfl, rfl⟩))
    go_roundw
    case rel => exact ⟨1, by go_num, .inr (.inl ⟨rfl, hlt⟩), kr⟩
    case measure => simp [RowKit.intOf]
  ·obtain ⟨_, c3, c4, c5, c6⟩ := nd_cells hb2
   go_wp2
   go_quiet (fail)
   replace kr := kr.trans (kept_drewN [] _ nq)
   obtain ⟨W2, hW2⟩ : ∃ W2, wr.drewN nq = W2 := ⟨_, rfl⟩
   rw [hW2] at kr ⊢
   clear hW2 c3 c4 c5 c6 hg2 hb2 hl2 hr2
   have hg3 := hg1.kept kr (by simp)
   have hb3 := b1.kept kr (by simp)
   have hl3 := hl1.kept kr (by simp)
   have hr3 := hr1.kept kr (by simp)
   have qA := tall_any r W2 hr3
   have qB := tall_any l W2 hl3
   by_cases hlt : l.tall + 1 < r.tall
   ·have i1 : ¬ ((r.tall : Int) ≤ (l.tall : Int) + 1) := by omega
    cases r with
    | nil => exact absurd hlt (by show ¬ (_ < 0); omega)
    | node lb lx le lh ll lr =>
     have hhi3 := hr3
     obtain ⟨hlb3, hll3, hlr3⟩ := hhi3
     obtain ⟨_, c3, c4, _, _⟩ := nd_cells hlb3
     have mhi := mr
     obtain ⟨_, mll, mlr⟩ := most_node mr
     have tll := tall_most ll
     have tlr := tall_most lr
     by_cases hlt2 : lr.tall < ll.tall
     ·cases ll with
      | nil => exact absurd hlt2 (by show ¬ (_ < 0); omega)
      | node mb mx me mh pl pr =>
       obtain ⟨_, mpl, mpr⟩ := most_node mll
       have tpl := tall_most pl
       have tpr := tall_most pr
       have hL : Hid (lv (.node b x e h l (.node lb lx le lh (.node mb mx me mh pl pr) lr)) = cnt mb mx (cnt b x l pl) (cnt lb lx pr lr)) := (show _ = _ by rw [hlv.out, if_neg hk, if_pos hlt]; exact if_pos hlt2)
       have qC := fun n => tall_any (Tr.node mb mx me mh pl pr) (W2.drewN n) (hll3.kept (kept_drewN [] _ n) (by simp))
       have qD := fun n => tall_any lr (W2.drewN n) (hlr3.kept (kept_drewN [] _ n) (by simp))
       have i2 : (((Tr.node mb mx me mh pl pr).tall : Nat) : Int) > (lr.tall : Int) := by omega
       have nd1 : (b :: (Tr.node lb lx le lh (Tr.node mb mx me mh pl pr) lr).blks).Nodup := by
        have e1 := List.nodup_cons.1 (List.nodup_cons.1 hn).2
        have e2 := List.nodup_append.1 e1.2
        exact List.nodup_cons.2 ⟨fun k => br k, e2.2.1⟩
       have nd2 : (g :: (Tr.node b x E H l (cnt mb mx pl (cnt lb lx pr lr))).blks).Nodup := ((List.Perm.cons g (List.Perm.cons b ((rotR_blks (Tr.node lb lx le lh (Tr.node mb mx me mh pl pr) lr)).append_left l.blks))).nodup_iff).2 hn
       have nlo : lb ∉ l.blks ∧ mb ∉ l.blks := by
        have e1 := List.nodup_cons.1 (List.nodup_cons.1 hn).2
        have e2 := (List.nodup_append.1 e1.2).2.2
        exact ⟨fun k => e2 lb k lb (by simp [Tr.blks]) rfl, fun k => e2 mb k mb (by simp [Tr.blks]) rfl⟩
       have ngs : g ≠ b ∧ g ≠ lb ∧ g ≠ mb := by
        have e1 := (List.nodup_cons.1 hn).1
        simp only [Tr.blks, List.mem_cons, List.mem_append, not_or] at e1
        refine ⟨fun k => e1.1 k, ?_, ?_⟩
        ·rintro rfl
         simp at e1
        ·rintro rfl
         simp at e1
       have hbsub : ∀ k ∈ [b, lb, mb], k ∈ g :: (Tr.node b x e h l (.node lb lx le lh (.node mb mx me mh pl pr) lr)).blks := by
        intro k hk1
        simp only [List.mem_cons, List.not_mem_nil, or_false] at hk1
        rcases hk1 with rfl | rfl | rfl <;> simp [Tr.blks]
       replace hbsub : Hid _ := hbsub
       replace nlo : Hid _ := nlo
       replace ngs : Hid _ := ngs
       replace nd1 : Hid _ := nd1
       replace nd2 : Hid _ := nd2
       have hlv' := hL
       clear hlv hc hbs hL
       simp only [ptr_node] at *
       go_wp2_with (first
        | (go_at_call 275; refine qA.mono ?_; clear qA; rintro e5 W2 ⟨rfl, rfl⟩)
        | (go_at_call 275; refine qB.mono ?_; clear qB; rintro e5 W2 ⟨rfl, rfl⟩))
       have wr1 : IntKind.i64.wrap 1 = 1 := rfl
       have wr0 : IntKind.i64.wrap 0 = 0 := rfl
       go_quiet (first
        | (go_at_call_of 275 (Value.pointer (some ⟨mb, 0, none⟩)); exact Calls.quiet_of_same (qC _))
        | (go_at_call_of 275 lr.ptr; exact Calls.quiet_of_same (qD _)))
       replace kr := kr.trans (kept_drewN [] _ nq)
       obtain ⟨W3, hW3⟩ : ∃ W3, W2.drewN nq = W3 := ⟨_, rfl⟩
       rw [hW3] at kr ⊢
       clear hW3 c3 c4 hg3 hb3 hl3 hr3 qC qD hlb3 hll3 hlr3
       have hg4 := hg1.kept kr (by simp)
       have hb4 := b1.kept kr (by simp)
       have hhi4 := hr1.kept kr (by simp)
       have ho4 := hl1.kept kr (by simp)
       have q1 := lift_R b 4 265 (nodeC x l.ptr (.pointer (some ⟨lb, 0, none⟩)) E H) lb mb lx mx le me lh mh pl pr lr W3 hb4 rfl hhi4 nd1.out (by omega) (by omega) (by omega)
       go_wp2_with (first
        | (go_at_call 276; refine q1.mono ?_; clear q1; rintro e5 w5 ⟨rfl, b5, t5, k5⟩; replace b5 : Blk w5 b 265 (nodeC x l.ptr (.pointer (some ⟨mb, 0, none⟩)) E H) := b5; have hg5 := hg4.kept k5 (by simp; exact ngs.out); have ho5 := ho4.kept3 k5 bl nlo.out.1 nlo.out.2; have MB : pl.tall ≤ 900000 := (by omega); have MB2 : (cnt lb lx pr lr).tall ≤ 900000 := (by rw [cnt_tall]; omega); have q2 := lift_L g j tg cs b mb x mx E _ H _ pl (cnt lb lx pr lr) l w5 hg5 hj ⟨b5, ho5, t5⟩ nd2.out MB MB2 (by omega))
        | (go_at_call 276; refine q2.mono ?_; clear q2; rintro e6 w6 ⟨rfl, g6, t6, k6⟩))
       refine bodyPost_ret (results_none rfl _ _ _) rfl ?_
       rw [hlv'.out]
       exact ⟨rfl, g6, t6, (((k1.mono (by simp [Tr.blks])).trans (kr.mono (by simp))).trans (k5.mono hbsub.out)).trans (k6.mono (fun k hk2 => by
        simp only [List.mem_cons, List.not_mem_nil, or_false] at hk2
        rcases hk2 with rfl | rfl | rfl <;> simp [Tr.blks]))⟩
     ·have hL : Hid (lv (.node b x e h l (.node lb lx le lh ll lr)) = cnt lb lx (cnt b x l ll) lr) := (show _ = _ by rw [hlv.out, if_neg hk, if_pos hlt]; exact if_neg hlt2)
      have qC := fun n => tall_any ll (W2.drewN n) (hll3.kept (kept_drewN [] _ n) (by simp))
      have qD := fun n => tall_any lr (W2.drewN n) (hlr3.kept (kept_drewN [] _ n) (by simp))
      have i2 : ¬ (((ll.tall : Nat) : Int) > (lr.tall : Int)) := by omega
      have nd0 : (g :: (Tr.node b x E H l (Tr.node lb lx le lh ll lr)).blks).Nodup := hn
      replace nd0 : Hid _ := nd0
      have hlv' := hL
      clear hlv hc hbs hL
      simp only [ptr_node] at *
      go_wp2_with (first
       | (go_at_call 275; refine qA.mono ?_; clear qA; rintro e5 W2 ⟨rfl, rfl⟩)
       | (go_at_call 275; refine qB.mono ?_; clear qB; rintro e5 W2 ⟨rfl, rfl⟩))
      have wr1 : IntKind.i64.wrap 1 = 1 := rfl
      have wr0 : IntKind.i64.wrap 0 = 0 := rfl
      go_quiet (first
       | (go_at_call_of 275 ll.ptr; exact Calls.quiet_of_same (qC _))
       | (go_at_call_of 275 lr.ptr; exact Calls.quiet_of_same (qD _)))
      replace kr := kr.trans (kept_drewN [] _ nq)
      obtain ⟨W3, hW3⟩ : ∃ W3, W2.drewN nq = W3 := ⟨_, rfl⟩
      rw [hW3] at kr ⊢
      clear hW3 c3 c4 hg3 hb3 hl3 hr3 qC qD hlb3 hll3 hlr3
      have hg4 := hg1.kept kr (by simp)
      have hb4 := b1.kept kr (by simp)
      have hhi4 := hr1.kept kr (by simp)
      have ho4 := hl1.kept kr (by simp)
      have q2 := lift_L g j tg cs b lb x lx E le H lh ll lr l W3 hg4 hj ⟨hb4, ho4, hhi4⟩ nd0.out (by omega) (by omega) (by omega)
      go_wp2_with (go_at_call 276; refine q2.mono ?_; clear q2; rintro e6 w6 ⟨rfl, g6, t6, k6⟩)
      refine bodyPost_ret (results_none rfl _ _ _) rfl ?_
      rw [hlv'.out]
      exact ⟨rfl, g6, t6, ((k1.mono (by simp [Tr.blks])).trans (kr.mono (by simp))).trans (k6.mono (fun k hk2 => by
       simp only [List.mem_cons, List.not_mem_nil, or_false] at hk2
       rcases hk2 with rfl | rfl | rfl <;> simp [Tr.blks]))⟩
   ·have i1 : ((r.tall : Int) ≤ (l.tall : Int) + 1) := by omega
    go_wp2_with (first
     | (go_at_call 275; refine qA.mono ?_; clear qA; rintro e5 W2 ⟨rfl, rfl⟩)
     | (go_at_call 275; refine qB.mono ?_; clear qB; rintro e5 W2 ⟨rfl, rfl⟩))
    go_roundw
    case rel => exact ⟨2, by go_num, .inr (.inr ⟨rfl, hk, hlt⟩), kr⟩
    case measure => simp [RowKit.intOf]
  ·go_wp2
   go_end0
   have hL : lv (.node b x e h l r) = .node b x E H l r := by rw [hlv.out, if_neg hk.1, if_neg hk.2]
   rw [hL]
   refine ⟨rfl, ?_, ⟨hb2, hl2, hr2⟩, (k1.mono (by simp [Tr.blks])).trans (kr.mono (by simp))⟩
   rw [ptr_node, set_same hj]
   exact hg2
def CtxAt (W : World) : List Fr → Value → Prop
 | [], _ => True
 | f :: fs, v => Blk W f.b 265 (nodeC f.x (if f.s then f.t.ptr else v) (if f.s then v else f.t.ptr) f.e f.h) ∧ TrAt W f.t ∧ CtxAt W fs (.pointer (some ⟨f.b, 0, none⟩))
theorem fill_ptr (f : Fr) (u : Tr) : (f.fill u).ptr = .pointer (some ⟨f.b, 0, none⟩) := by
 unfold Fr.fill
 cases f.s <;> rfl
theorem fill_at (W : World) (f : Fr) (u : Tr) : TrAt W (f.fill u) ↔ Blk W f.b 265 (nodeC f.x (if f.s then f.t.ptr else u.ptr) (if f.s then u.ptr else f.t.ptr) f.e f.h) ∧ TrAt W f.t ∧ TrAt W u := by
 unfold Fr.fill
 cases f.s
 ·exact ⟨fun ⟨a, b, c⟩ => ⟨a, c, b⟩, fun ⟨a, b, c⟩ => ⟨a, c, b⟩⟩
 ·exact Iff.rfl
theorem plug_at (W : World) : ∀ (fs : List Fr) (u : Tr), TrAt W (plug fs u) ↔ CtxAt W fs u.ptr ∧ TrAt W u
 | [], u => ⟨fun h => ⟨trivial, h⟩, fun h => h.2⟩
 | f :: fs, u => by
  show TrAt W (plug fs (f.fill u)) ↔ _
  rw [plug_at W fs (f.fill u), fill_at, fill_ptr]
  exact ⟨fun ⟨a, b, c, d⟩ => ⟨⟨b, c, a⟩, d⟩, fun ⟨⟨b, c, a⟩, d⟩ => ⟨a, b, c, d⟩⟩
theorem plug_ptr (f : Fr) : ∀ (fs : List Fr) (u u' : Tr), (plug (f :: fs) u).ptr = (plug (f :: fs) u').ptr := by
 intro fs
 induction fs generalizing f with
 | nil => intro u u'; show (f.fill u).ptr = (f.fill u').ptr; rw [fill_ptr, fill_ptr]
 | cons g fs ih => intro u u'; exact ih g (f.fill u) (f.fill u')
theorem CtxAt.kept {K : List Nat} {A B : World} (hk : Kept K A B) : ∀ {fs : List Fr} {v : Value}, CtxAt A fs v → (∀ k ∈ ctx fs, k ∉ K) → CtxAt B fs v
 | [], _, _, _ => trivial
 | f :: fs, v, ⟨h1, h2, h3⟩, hK => ⟨h1.kept hk (hK f.b (by simp [ctx])), h2.kept hk (fun k hm => hK k (by simp [ctx, hm])), h3.kept hk (fun k hm => hK k (by simp [ctx, hm]))⟩
structure Whole (W : World) (p : Nat) (n : Nat) (t : Tr) : Prop where
 blk : Blk W p 241 #[.bool true, t.ptr, .int .i64 (n : Int)]
 nodes : TrAt W t
 nd : (p :: t.blks).Nodup
theorem Whole.kept {K : List Nat} {A B : World} {p n : Nat} {t : Tr} (h : Whole A p n t) (hk : Kept K A B) (hK : ∀ k ∈ p :: t.blks, k ∉ K) : Whole B p n t :=
 ⟨h.blk.kept hk (hK p (by simp)), h.nodes.kept hk (fun k hm => hK k (by simp [hm])), h.nd⟩
theorem Whole.lt {A : World} {p n : Nat} {t : Tr} (h : Whole A p n t) : ∀ k ∈ p :: t.blks, k < A.heap.size := fun k hk => by
 rcases List.mem_cons.1 hk with rfl | hk
 ·exact h.blk.lt
 ·exact h.nodes.lt k hk
def Ln.blk (p : Nat) : Ln → Nat
 | .root => p
 | .kid b _ => b
def Ln.off : Ln → Nat
 | .root => 1
 | .kid _ s => if s then 4 else 3
def lnV (p : Nat) (l : Ln) : Value := .pointer (some ⟨l.blk p, l.off, none⟩)
theorem nodup_plug {p : Nat} {fs : List Fr} {u : Tr} : (p :: (plug fs u).blks).Nodup ↔ (p :: (ctx fs ++ u.blks)).Nodup := ((plug_blks fs u).cons p).nodup_iff
theorem Whole.place {W : World} {p n : Nat} {fs : List Fr} {u : Tr} (h : Whole W p n (plug fs u)) :
  ∃ tg cs, Blk W ((lnk fs).blk p) tg cs ∧ cs[(lnk fs).off]? = some u.ptr ∧ TrAt W u ∧ ((lnk fs).blk p :: u.blks).Nodup ∧ (lnk fs).blk p ∈ p :: ctx fs ∧
   ∀ W' u', Blk W' ((lnk fs).blk p) tg (cs.setIfInBounds (lnk fs).off u'.ptr) → TrAt W' u' → Kept ((lnk fs).blk p :: u.blks) W W' → (p :: (ctx fs ++ u'.blks)).Nodup → Whole W' p n (plug fs u') := by
 obtain ⟨hc, hu⟩ := (plug_at W fs u).1 h.nodes
 have hnd := nodup_plug.1 h.nd
 cases fs with
 | nil =>
  refine ⟨241, _, h.blk, rfl, hu, hnd, by simp [lnk, Ln.blk], fun W' u' h1 h2 _ h4 => ⟨h1, h2, h4⟩⟩
 | cons f fs =>
  obtain ⟨h1, h2, h3⟩ := hc
  have e : ∀ v, (nodeC f.x (if f.s then f.t.ptr else u.ptr) (if f.s then u.ptr else f.t.ptr) f.e f.h).setIfInBounds (lnk (f :: fs)).off v = nodeC f.x (if f.s then f.t.ptr else v) (if f.s then v else f.t.ptr) f.e f.h := by
   intro v
   show (nodeC f.x (if f.s then f.t.ptr else u.ptr) (if f.s then u.ptr else f.t.ptr) f.e f.h).setIfInBounds (if f.s then 4 else 3) v = _
   cases f.s <;> rfl
  refine ⟨265, _, h1, ?_, hu, ?_, by simp [lnk, Ln.blk, ctx], fun W' u' k1 k2 k3 k4 => ?_⟩
  ·show (nodeC f.x (if f.s then f.t.ptr else u.ptr) (if f.s then u.ptr else f.t.ptr) f.e f.h)[(if f.s then 4 else 3)]? = some u.ptr
   cases f.s <;> rfl
  ·have := (List.nodup_cons.1 hnd).2
   simp only [ctx, List.cons_append] at this
   have h5 := List.nodup_cons.1 this
   have h6 := List.nodup_append.1 h5.2
   exact List.nodup_cons.2 ⟨fun hm => h5.1 (List.mem_append.2 (.inr hm)), h6.2.1⟩
  ·rw [e] at k1
   have hd : ∀ k ∈ p :: (f.t.blks ++ ctx fs), k ∉ f.b :: u.blks := by
    simp only [ctx, List.cons_append] at hnd
    have a1 := List.nodup_cons.1 hnd
    have a2 := List.nodup_cons.1 a1.2
    have a3 := List.nodup_append.1 a2.2
    intro k hk hm
    rcases List.mem_cons.1 hk with rfl | hk
    ·rcases List.mem_cons.1 hm with e1 | hm
     ·exact a1.1 (by simp [e1])
     ·exact a1.1 (by simp [hm])
    ·rcases List.mem_cons.1 hm with rfl | hm
     ·exact a2.1 (List.mem_append.2 (.inl hk))
     ·exact a3.2.2 k hk k hm rfl
   refine ⟨?_, (plug_at W' (f :: fs) u').2 ⟨⟨k1, h2.kept k3 (fun k hm => hd k (by simp [hm])), h3.kept k3 (fun k hm => hd k (by simp [hm]))⟩, k2⟩, nodup_plug.2 k4⟩
   rw [plug_ptr f fs u' u]
   exact h.blk.kept k3 (hd p (by simp))
def Ln.of (t : Tr) : Ln → Prop
 | .root => True
 | .kid b _ => b ∈ t.blks
theorem Ln.of_way {t : Tr} {l : Ln} (h : l.of t) : ∃ fs u, t = plug fs u ∧ lnk fs = l := by
 cases l with
 | root => exact ⟨[], t, rfl, rfl⟩
 | kid b s => exact way_to t b s h
theorem lnks_of : ∀ (fs : List Fr) (u : Tr) (l : Ln), l ∈ lnks fs → l.of (plug fs u)
 | [], u, l, h => by
  simp only [lnks, List.mem_singleton] at h
  subst h
  trivial
 | f :: fs, u, l, h => by
  simp only [lnks, List.mem_append, List.mem_singleton] at h
  rcases h with h | rfl
  ·exact lnks_of fs (f.fill u) l h
  ·show f.b ∈ (plug (f :: fs) u).blks
   rw [(plug_blks (f :: fs) u).mem_iff]
   simp [ctx]
theorem Ln.of_perm {t t' : Tr} {l : Ln} (h : l.of t) (hp : t'.blks.Perm t.blks) : l.of t' := by
 cases l with
 | root => trivial
 | kid b s => exact hp.mem_iff.2 h
set_option maxRecDepth 100000 in
set_option maxHeartbeats 1000000 in
theorem level_at (p n : Nat) (t : Tr) (l : Ln) (w : World) (h : Whole w p n t) (hl : l.of t) (hm : t.most ≤ 800000) :
  (w.cell? ⟨l.blk p, l.off, none⟩ = some (.pointer none) ∧ lvAt l t = t) ∨ ∃ b, w.cell? ⟨l.blk p, l.off, none⟩ = some (.pointer (some ⟨b, 0, none⟩)) ∧
   Calls Tryz.prog 236 #[lnV p l] w fun en w' => en = .returned (.tuple #[]) ∧ Whole w' p n (lvAt l t) ∧ Kept (p :: t.blks) w w' := by
 obtain ⟨fs, u, rfl, rfl⟩ := Ln.of_way hl
 obtain ⟨tg, cs, h1, h2, h3, h4, h5, h6⟩ := h.place
 have hnd := nodup_plug.1 h.nd
 have hcn : (ctx fs).Nodup := (List.nodup_append.1 (List.nodup_cons.1 hnd).2).1
 have hlv := lvAt_plug fs u hcn
 cases u with
 | nil => exact .inl ⟨blk_get h1 h2, by rw [hlv]; rfl⟩
 | node b x e hh l r =>
  refine .inr ⟨b, blk_get h1 h2, ?_⟩
  have hmu : (Tr.node b x e hh l r).most ≤ 800000 := by
   rw [plug_most] at hm
   omega
  refine (level_any _ _ tg cs b x e hh l r w h1 h2 h3 h4 hmu).mono ?_
  rintro en w' ⟨rfl, k1, k2, k3⟩
  have hpm := lv_blks (Tr.node b x e hh l r)
  refine ⟨rfl, ?_, k3.mono ?_⟩
  ·rw [hlv]
   exact h6 w' _ k1 k2 k3 (((hpm.append_left (ctx fs)).cons p).nodup_iff.2 hnd)
  ·intro k hk
   have hpb := (plug_blks fs (Tr.node b x e hh l r)).mem_iff (a := k)
   rcases List.mem_cons.1 hk with rfl | hk
   ·rcases List.mem_cons.1 h5 with e1 | e1
    ·rw [e1]; simp
    ·exact List.mem_cons_of_mem _ ((plug_blks fs (Tr.node b x e hh l r)).mem_iff.2 (List.mem_append.2 (.inl e1)))
   ·exact List.mem_cons_of_mem _ (hpb.2 (List.mem_append.2 (.inr hk)))
end Go.Proofs.YtoaeficfmcncjaaGreat.Itree
