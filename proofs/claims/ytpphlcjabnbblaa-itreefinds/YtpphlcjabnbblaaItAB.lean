/-
  All that have one of the sectors from one place on ahead of another: the walk of between.
-/
import Derived.Test.YtpphlcjabnbblaaItZ
namespace Go.Proofs.Ytpphlcjabnbblaa.Itree
open Go.RowKit

/-- The ids of those that end behind f, and begin ahead of e. -/
def btw (f e : Int) (L : List It) : List Int := (L.filter fun y => decide (f < y.o + y.l ∧ y.o < e)).map (·.i)
theorem btw_append (f e : Int) (A B : List It) : btw f e (A ++ B) = btw f e A ++ btw f e B := by simp [btw]
theorem btw_cons (f e : Int) (x : It) (B : List It) : btw f e (x :: B) = (if f < x.o + x.l ∧ x.o < e then [x.i] else []) ++ btw f e B := by
  unfold btw
  rw [List.filter_cons]
  by_cases h : f < x.o + x.l ∧ x.o < e
  · simp [h]
  · simp [h]
theorem btw_low {f e : Int} {A : List It} (h : ∀ a ∈ A, a.o + a.l ≤ f) : btw f e A = [] := by
  unfold btw
  rw [List.filter_eq_nil_iff.2]
  · rfl
  · intro a ha
    have := h a ha
    simp
    omega
theorem btw_high {f e : Int} {A : List It} (h : ∀ a ∈ A, e ≤ a.o) : btw f e A = [] := by
  unfold btw
  rw [List.filter_eq_nil_iff.2]
  · rfl
  · intro a ha
    have := h a ha
    simp
    omega
theorem btw_length (f e : Int) (A : List It) : (btw f e A).length ≤ A.length := by
  unfold btw
  rw [List.length_map]
  exact List.length_filter_le _ _
theorem ahead_off {a b : It} (h : ahead a b = true) : a.o ≤ b.o := by
  rw [ahead_iff] at h
  omega
/-- What is still to come of a node that was gone down from: itself, and all behind it. -/
def Tr.later : Tr → List It
  | .nil => []
  | .node _ x _ _ _ r => x :: r.toL
def pendS : List Tr → List It
  | [] => []
  | s :: R => s.later ++ pendS R
/-- Nodes in memory, each good. -/
def NodesAt (W : World) (R : List Tr) : Prop := ∀ s ∈ R, s ≠ .nil ∧ Good s ∧ TrAt W s
theorem pendS_length {W : World} : ∀ {R : List Tr}, NodesAt W R → R.length ≤ (pendS R).length
  | [], _ => Nat.zero_le _
  | s :: R, h => by
    have h1 := pendS_length (R := R) (W := W) (fun a ha => h a (by simp [ha]))
    have h2 := (h s (by simp)).1
    cases s with
    | nil => exact absurd rfl h2
    | node b x e hh l r =>
      simp only [pendS, Tr.later, List.length_append, List.length_cons]
      omega
theorem PRow.empty {W : World} {e : TypeId} {base : Nat} {v : Value} (h : PRow W e base v []) : ∃ a cap, v = .slice a 0 cap := by
  rcases h.2 with ⟨rfl, _⟩ | ⟨g, cap, cur, rfl, _⟩
  · exact ⟨none, 0, rfl⟩
  · exact ⟨_, cap, rfl⟩
/-- The last of a row left out. -/
theorem PRow.pop {W : World} {e : TypeId} {base g n cap : Nat} {l : List Value} {u : Value} (h : PRow W e base (.slice (some ⟨g, 0, none⟩) (n + 1) cap) (l ++ [u])) (hn : l.length = n) : PRow W e base (.slice (some ⟨g, 0, none⟩) n cap) l := by
  rcases h.2 with ⟨h0, _⟩ | ⟨g', cap', cur, hv, hb, hg, h1, h2, h3, h4⟩
  · cases h0
  · injection hv with e1 e2 e3
    injection e1 with e1
    injection e1 with e1 _ _
    subst e1 e3
    refine ⟨by simp, .inr ⟨g, cap, cur, by rw [hn], hb, hg, by simp at h1; omega, h2, h3, ?_⟩⟩
    have := congrArg (List.take l.length) h4
    rw [List.take_take, List.take_left] at this
    simpa using this
/-- Rows of unlike things lie apart. -/
theorem rows_apart {W : World} {e e' : TypeId} {b b' z z' n n' : Nat} {v v' : Value} {l l' : List Value} (h : W.ownsRow b e z v n l) (h' : W.ownsRow b' e' z' v' n' l') (hne : e ≠ e') : v.ownBlock = none ∨ v.ownBlock ≠ v'.ownBlock := by
  rcases h.2 with ⟨rfl, _⟩ | ⟨g, cap, cur, rfl, _, hg, _⟩
  · exact .inl rfl
  · right
    rcases h'.2 with ⟨rfl, _⟩ | ⟨g', cap', cur', rfl, _, hg', _⟩
    · simp [Value.ownBlock]
    · intro k
      have k' : g = g' := by simpa [Value.ownBlock] using k
      subst k'
      rw [hg] at hg'
      injection hg' with h1
      injection h1 with _ h2 _
      exact hne h2
set_option maxRecDepth 100000 in
set_option maxHeartbeats 8000000 in
/-- between -/
theorem between_any (w : World) (p : Nat) (t : Tr) (n : Nat) (f e : Int) (h : Whole w p n t) (hG : Good t) (hs : Sorted t.toL) (hl : t.toL.length ≤ 600) :
    Calls Try.prog 33 #[.pointer (some ⟨p, 0, none⟩), .int .i64 f, .int .i64 e] w fun en w' => ∃ v, en = .returned v ∧ IdsAt w' w.heap.size v (btw f e t.toL) ∧ Kept [] w w' := by
  have c1 := (h.blk.cell 1).trans (show _ = some t.ptr from rfl)
  have hbl : Hid (t.toL.length < 601) := (show _ < _ by omega)
  go_enter Try.func33, Try.ntmps33
  go_wp2
  go_step3
  go_wp2
  go_step3
  go_wp2
  go_loopg [7, 8, 9] 601 (fun k v7 v8 v9 wr => ∃ ids R u, v9 = u.ptr ∧ IdsAt wr w.heap.size v7 ids ∧ PRow wr 48 w.heap.size v8 (R.reverse.map Tr.ptr) ∧ Hid (ids ++ btw f e (u.toL ++ pendS R) = btw f e t.toL) ∧ Hid (Sorted (u.toL ++ pendS R)) ∧ Hid (NodesAt w R) ∧ Good u ∧ TrAt w u ∧ Hid ((u.toL ++ pendS R).length < k) ∧ Hid (k ≤ 601) ∧ Kept [] w wr)
  case atStart => exact ⟨[], [], t, rfl, ids_nil _ _, World.ownsRow_nil _ _ _ _, (show _ = _ by simp [pendS]), (show Sorted _ by simpa [pendS] using hs), (show NodesAt w [] from fun a ha => by cases ha), hG, h.nodes, (show _ < _ by simpa [pendS] using hbl.out), Nat.le_refl _, Kept.refl _ _⟩
  case round =>
    obtain ⟨ids, R, u, rfl, hI, hR, heq, hso, hno, hgu, hau, hgk, hk6, hk⟩ := hrel
    obtain ⟨wo, rfl⟩ : ∃ wo, wo = wr := ⟨_, rfl⟩
    obtain ⟨ko, rfl⟩ : ∃ ko, ko = gk := ⟨_, rfl⟩
    go_wp2
    go_loopg [8, 9] (u.blks.length + 1) (fun k v8 v9 wr => ∃ R2 u2, v9 = u2.ptr ∧ IdsAt wr w.heap.size u7 ids ∧ PRow wr 48 w.heap.size v8 (R2.reverse.map Tr.ptr) ∧ Hid (ids ++ btw f e (u2.toL ++ pendS R2) = btw f e t.toL) ∧ Hid (Sorted (u2.toL ++ pendS R2)) ∧ Hid (NodesAt w R2) ∧ Good u2 ∧ TrAt w u2 ∧ Hid ((u2.toL ++ pendS R2).length < ko) ∧ Hid (u2.blks.length < k) ∧ Kept [] w wr)
    case atStart => exact ⟨R, u, rfl, hI, hR, heq, hso, hno, hgu, hau, hgk, Nat.lt_succ_self _, hk⟩
    case round =>
      obtain ⟨R2, u2, rfl, hI2, hR2, heq2, hso2, hno2, hgu2, hau2, hgk2, hik, hk2⟩ := hrel
      have q2 := reaches_any u2 f wr (hau2.kept hk2 (by simp))
      clear hI hR hgu hau hgk hk hno
      cases hre : u2.reach f with
      | true =>
        rw [hre] at q2
        cases u2 with
        | nil => cases hre
        | node b x ee hh l r =>
          obtain ⟨hab, hal, har⟩ := hau2.kept hk2 (by simp)
          obtain ⟨-, d3, -, -, -⟩ := nd_cells hab
          obtain ⟨hgl, -⟩ := id hgu2
          obtain ⟨-, hal0, -⟩ := id hau2
          have k7 := hk2.trans (kept_alloc [] wr (.cells #[.pointer (some ⟨b, 0, none⟩)] 48))
          have hR7 : Hid _ := hR2.kept (kept_alloc [] wr (.cells #[.pointer (some ⟨b, 0, none⟩)] 48)) (by simp)
          have hI7 : Hid _ := hI2.kept (kept_alloc [] wr (.cells #[.pointer (some ⟨b, 0, none⟩)] 48)) (by simp)
          have hq7 : Hid _ := ((blk_new wr 48 #[.pointer (some ⟨b, 0, none⟩)]).cell 0).trans (show _ = some (Value.pointer (some ⟨b, 0, none⟩)) from rfl)
          have hb7 : Hid _ := k7.size
          have hRf : Hid ((R2.reverse.map Tr.ptr).length ≤ 2000000) := (show _ ≤ _ by
            have e1 := pendS_length hno2.out
            have e2 := hgk2.out
            have e3 := hk6.out
            simp only [List.length_append] at e2
            simp
            omega)
          have hno3 : Hid (NodesAt w (.node b x ee hh l r :: R2)) := (show NodesAt w _ from fun a ha => by
            rcases List.mem_cons.1 ha with rfl | ha
            · exact ⟨Tr.noConfusion, hgu2, hau2⟩
            · exact hno2.out a ha)
          have hLL : Hid ((Tr.node b x ee hh l r).toL ++ pendS R2 = l.toL ++ pendS (.node b x ee hh l r :: R2)) := (show _ = _ by simp [Tr.toL, pendS, Tr.later])
          have hRR : Hid (((Tr.node b x ee hh l r) :: R2).reverse.map Tr.ptr = R2.reverse.map Tr.ptr ++ [.pointer (some ⟨b, 0, none⟩)]) := (show _ = _ by simp [ptr_node])
          rw [hLL.out] at heq2 hso2 hgk2
          have hik' : Hid (l.blks.length + 1 < gk) := (show _ < _ by have := hik.out; simp only [Tr.blks, List.length_cons, List.length_append] at this; omega)
          rw [ptr_node] at q2 ⊢
          clear hre
          go_wp2_with (first
            | (go_at_call 36; refine q2.mono ?_; clear q2; rintro e5 wr ⟨rfl, rfl⟩)
            | (at_builtin; refine wpList_append_pn rfl _ _ rfl w.heap.size _ _ (some ⟨b, 0, none⟩) wr.heap.size rfl hR7.out rfl hq7.out hRf.out hb7.out ?_; intro v8 w8 hR8 hg8; have hk8 := kept_grown (n := w.heap.size) hR7.out hg8 w k7 (Nat.le_refl _) rfl; have hI8 : IdsAt w8 w.heap.size u7 ids := World.ownsRow.kept hI7.out hg8 (rows_apart hI7.out hR7.out (by decide)); obtain ⟨-, z3, -, -, -⟩ := nd_cells (hau2.1.kept hk8 (by simp)); rw [← hRR.out] at hR8; clear hg8))
          go_roundg (l.blks.length + 1)
          case measure => exact hik'.out
          case rel => exact ⟨_, l, rfl, hI8, hR8, heq2, hso2, hno3, hgl, hal0, hgk2, Nat.lt_succ_self _, hk8⟩
      | false =>
        rw [hre] at q2
        cases R2 with
        | nil =>
          obtain ⟨a8, cap8, rfl⟩ := PRow.empty (by simpa using hR2)
          have hdone : Hid (ids = btw f e t.toL) := (show _ = _ by
            have := heq2.out
            simp only [pendS, List.append_nil] at this
            rw [btw_low (reach_no hgu2 hre)] at this
            simpa using this)
          clear heq heq2 hre
          go_wp2_with (first
            | (go_at_call 36; refine q2.mono ?_; clear q2; rintro e5 wr ⟨rfl, rfl⟩))
          rw [Exit.noGoto_ret]
          go_ret
          exact ⟨_, rfl, hdone.out ▸ hI2, hk2⟩
        | cons s R2 =>
          obtain ⟨g8, cap8, hv8, hg81, hg82, hcap8, hcs8⟩ := hR2.open (by simp)
          have hl8 : ((s :: R2).reverse.map Tr.ptr).length = R2.length + 1 := by simp
          rw [hl8] at hv8 hcap8
          subst hv8
          have hcl : wr.cell? ⟨g8, R2.length, none⟩ = some s.ptr := hcs8 R2.length _ (by simp)
          have hRf : R2.length ≤ 600 := by
            have e1 := pendS_length hno2.out
            have e2 := hgk2.out
            have e3 := hk6.out
            simp only [List.length_append, List.length_cons] at e1 e2
            omega
          have q3 := lastn_any g8 R2.length cap8 _ wr (by omega) hcl
          have hR3 : PRow wr 48 w.heap.size (.slice (some ⟨g8, 0, none⟩) R2.length cap8) (R2.reverse.map Tr.ptr) := PRow.pop (u := s.ptr) (by simpa using hR2) (by simp)
          obtain ⟨m8, hm8⟩ : ∃ m8, R2.length + 1 = m8 := ⟨_, rfl⟩
          rw [hm8] at q3 hcap8 ⊢
          have e81 : ((m8 : Nat) : Int) - 1 = (R2.length : Int) := by omega
          have e82 : ((m8 : Nat) : Int) ≠ 0 := by omega
          have e83 : (((m8 : Nat) : Int) == 0) = false := by simpa using e82
          have e84 : (R2.length : Int) ≤ (cap8 : Int) := by omega
          have hns := hno2.out s (by simp)
          clear hcs8 hR2 hm8 e82
          cases s with
          | nil => exact absurd rfl hns.1
          | node b x ee hh l r =>
            rw [ptr_node] at q3 hcl
            have has := hns.2.2.kept hk2 (by simp)
            obtain ⟨hgl, hgr, hgx, -⟩ := hns.2.1
            obtain ⟨hab, hal, har⟩ := has
            obtain ⟨⟨d0, d1, d2⟩, d3, d4, d5, d6⟩ := nd_cells hab
            obtain ⟨hx0, -⟩ := good_end hgx
            have hlow : Hid (btw f e u2.toL = []) := (show _ = _ from btw_low (reach_no hgu2 hre))
            have heq3 : Hid (ids ++ btw f e (x :: (r.toL ++ pendS R2)) = btw f e t.toL) := (show _ = _ by
              have := heq2.out
              rw [btw_append, hlow.out] at this
              simpa [pendS, Tr.later] using this)
            have hso3 : Hid (Sorted (x :: (r.toL ++ pendS R2))) := (show Sorted _ from by
              have := (sorted_append.1 hso2.out).2.1
              simpa [pendS, Tr.later] using this)
            by_cases hoe : x.o ≥ e
            · have hdone : Hid (ids = btw f e t.toL) := (show _ = _ by
                have e1 := heq3.out
                rw [btw_high (A := x :: (r.toL ++ pendS R2)) (fun a ha => by
                  rcases List.mem_cons.1 ha with rfl | ha
                  · exact hoe
                  · have := ahead_off ((sorted_cons.1 hso3.out).1 a ha)
                    omega)] at e1
                simpa using e1)
              clear heq heq2 heq3 hso3 hso2 hso
              go_wp2_with (first
                | (go_at_call 36; refine q2.mono ?_; clear q2; rintro e5 wr ⟨rfl, rfl⟩)
                | (go_at_call 44; refine q3.mono ?_; clear q3; rintro e6 wr ⟨rfl, rfl⟩))
              rw [Exit.noGoto_ret]
              go_ret
              exact ⟨_, rfl, hdone.out ▸ hI2, hk2⟩
            · have qE := Span.end_any x.o x.l wr
              rw [hx0] at qE
              have hgk3 : Hid ((r.toL ++ pendS R2).length + 1 < ko) := (show _ < _ by
                have := hgk2.out
                simp only [List.length_append, pendS, Tr.later, List.length_cons] at this ⊢
                omega)
              have hno3 : Hid (NodesAt w R2) := (show NodesAt w R2 from fun a ha => hno2.out a (by simp [ha]))
              have hso4 : Hid (Sorted (r.toL ++ pendS R2)) := (show Sorted _ from (sorted_cons.1 hso3.out).2)
              have har0 := hns.2.2.2.2
              by_cases hfe : f < x.o + x.l
              · have heq4 : Hid ((ids ++ [x.i]) ++ btw f e (r.toL ++ pendS R2) = btw f e t.toL) := (show _ = _ by
                  have := heq3.out
                  rw [btw_cons, if_pos ⟨hfe, by omega⟩] at this
                  simpa using this)
                have hll : Hid (ids.length ≤ 2000000) := (show _ ≤ _ by
                  have e1 := congrArg List.length heq4.out
                  have e2 := btw_length f e t.toL
                  simp only [List.length_append] at e1
                  omega)
                clear heq heq2 heq3 hso3 hso2 hso
                go_wp2_with (first
                  | (go_at_call 36; refine q2.mono ?_; clear q2; rintro e5 wr ⟨rfl, rfl⟩)
                  | (go_at_call 44; refine q3.mono ?_; clear q3; rintro e6 wr ⟨rfl, rfl⟩)
                  | (go_at_call 34; refine qE.mono ?_; clear qE; rintro e7 w7 ⟨rfl, hB7⟩; have k7 := Kept.of_below hB7 []; obtain ⟨⟨x0, x1, x2⟩, x3, x4, -, -⟩ := nd_cells (hab.kept k7 (by simp)); have k8 := k7.trans (kept_alloc [] w7 (.cells #[.int .i64 x.i] 3)); have hn' : Hid _ := ((blk_new w7 3 #[.int .i64 x.i]).cell 0).trans (show _ = some (Value.int .i64 x.i) from rfl); have hIB : Hid _ := hI2.kept k8 (by simp); have hbs : Hid _ := Nat.le_trans hk2.size k8.size)
                  | (at_builtin; refine wpList_append_id rfl _ _ rfl w.heap.size _ ids x.i w7.heap.size rfl hIB.out rfl hn'.out hll.out hbs.out ?_; intro v9 w9 hI9 hg9; have hk9 := kept_grown (n := w.heap.size) hIB.out hg9 w (hk2.trans k8) (Nat.le_refl _) rfl; have hR9 : PRow w9 48 w.heap.size (.slice (some ⟨g8, 0, none⟩) R2.length cap8) (R2.reverse.map Tr.ptr) := World.ownsRow.kept (hR3.kept k8 (by simp)) hg9 (rows_apart (hR3.kept k8 (by simp)) hIB.out (by decide)); obtain ⟨-, -, z4, -, -⟩ := nd_cells ((hns.2.2.1).kept hk9 (by simp)); clear hg9))
                go_roundg ((r.toL ++ pendS R2).length + 1)
                case measure => exact hgk3.out
                case rel => exact ⟨_, R2, r, rfl, hI9, hR9, heq4, hso4, hno3, hgr, har0, Nat.lt_succ_self _, (show _ ≤ _ by have := hgk3.out; have := hk6.out; omega), hk9⟩
              · have heq4 : Hid (ids ++ btw f e (r.toL ++ pendS R2) = btw f e t.toL) := (show _ = _ by
                  have := heq3.out
                  rw [btw_cons, if_neg (by omega)] at this
                  simpa using this)
                clear heq heq2 heq3 hso3 hso2 hso
                go_wp2_with (first
                  | (go_at_call 36; refine q2.mono ?_; clear q2; rintro e5 wr ⟨rfl, rfl⟩)
                  | (go_at_call 44; refine q3.mono ?_; clear q3; rintro e6 wr ⟨rfl, rfl⟩)
                  | (go_at_call 34; refine qE.mono ?_; clear qE; rintro e7 w7 ⟨rfl, hB7⟩; have k7 := Kept.of_below hB7 []; obtain ⟨⟨x0, x1, x2⟩, x3, x4, -, -⟩ := nd_cells (hab.kept k7 (by simp))))
                go_roundg ((r.toL ++ pendS R2).length + 1)
                case measure => exact hgk3.out
                case rel => exact ⟨_, R2, r, rfl, hI2.kept k7 (by simp), hR3.kept k7 (by simp), heq4, hso4, hno3, hgr, har0, Nat.lt_succ_self _, (show _ ≤ _ by have := hgk3.out; have := hk6.out; omega), hk2.trans k7⟩
end Go.Proofs.Ytpphlcjabnbblaa.Itree
