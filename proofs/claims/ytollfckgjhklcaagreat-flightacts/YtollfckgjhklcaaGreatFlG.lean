/-
  The flights in memory: the walk of Add.
-/
import Derived.Test.YtollfckgjhklcaaGreatFlF
namespace Go.Proofs.YtollfckgjhklcaaGreat.Flight
open Go.RowKit Go.Maps Go.Sort
open Table (Rising ins del tks)

theorem ByteRow.mono {hi hi' : Nat} {W : World} {v : Value} {bs : List Nat} (h : ByteRow hi W v bs) (h2 : hi ≤ hi') : ByteRow hi' W v bs := by
  obtain ⟨hb, a, cap, e, hn, h | ⟨g, off, e2, hl, h2', hc⟩⟩ := h
  · exact ⟨hb, a, cap, e, hn, .inl h⟩
  · exact ⟨hb, a, cap, e, hn, .inr ⟨g, off, e2, hl, by omega, hc⟩⟩
/-- Bytes that lie below all blocks of K stay. -/
theorem ByteRow.far {hi : Nat} {A : World} {v : Value} {bs : List Nat} (h : ByteRow hi A v bs) (hh : hi ≤ A.heap.size) {K : List Nat} (hK : ∀ k ∈ K, hi ≤ k) : ∀ W, Kept K A W → ByteRow W.heap.size W v bs := fun _ hk => (h.kept hh hk hK).mono (Nat.le_trans hh hk.size)
/-- Bytes in a block of bytes stay where none of K is one. -/
theorem Byt.far {lo hi : Nat} {A : World} {v : Value} {bs : List Nat} (h : Byt lo hi A v bs) (hh : hi ≤ A.heap.size) {K : List Nat} (hK : ∀ k ∈ K, Off lo hi A k) : ∀ W, Kept K A W → ByteRow W.heap.size W v bs := fun _ hk => (h.kept hk hK).row.mono (Nat.le_trans hh hk.size)
theorem Tree.new {M : List Itree.It} {L : List (Int × Fw)} (h : Tree M L) {t o l : Int} (hn : Table.look L t = none) : Itree.there M ⟨o, l, t⟩ = false := by
  cases e : Itree.there M ⟨o, l, t⟩ with
  | false => rfl
  | true =>
    obtain ⟨w, hw, _⟩ := (h.mem _).1 ((Itree.there_iff h.sorted _).1 e)
    simp only at hw
    rw [hn] at hw
    cases hw
set_option maxRecDepth 100000 in
set_option maxHeartbeats 2000000 in
/-- Add -/
theorem add_any {lo hi f b p : Nat} {F : List Nat} {L : List (Int × Fw)} (t o l : Int) (v : Value) (bs : List Nat) (h0 : -9223372036854775808 ≤ t) (h1 : t ≤ 9223372036854775807) (hO : (Itree.It.mk o l t).Ok) (w : World) (h : FlAt w lo hi f b p F L) (hn : L.length ≤ 600) (hlo : lo ≤ w.heap.size)
    (hv : ∀ W, Kept F w W → ByteRow W.heap.size W v bs) (hlen : bs.length ≤ 140737488351232) :
    Calls Tryz.prog 6 #[.pointer (some ⟨f, 0, none⟩), .int .i64 t, .agg #[.int .i64 o, .int .i64 l], v] w fun e w' => ∃ F', e = .returned (.bool (addOk L t o l)) ∧ FlAt w' lo w'.heap.size f b p F' (addL L t o l bs) ∧ (∀ j ∈ F', j ∈ F ∨ w.heap.size ≤ j) ∧ Kept (b :: F) w w' := by
  have ka := kept_alloc [] w (.cells #[.int .i64 o, .int .i64 l] 24)
  have hb0 := blk_new w 24 #[.int .i64 o, .int .i64 l]
  have hO0 : (Itree.It.mk o l 0).Ok := ⟨hO.o0, hO.o1, hO.l0, hO.l1, by show (_ : Int) ≤ 0; decide, by show (0 : Int) ≤ _; decide⟩
  obtain ⟨W0, hW0⟩ : ∃ W0, w.alloc (.cells #[.int .i64 o, .int .i64 l] 24) = W0 := ⟨_, rfl⟩
  rw [hW0] at ka hb0
  have hT := h.kept0 ka
  have qm := made_any _ hT
  have qh := has_any t h0 h1 _ hT
  have none_ : addOk L t o l = false → ∀ w', Kept [] w w' → ∃ F', Ending.returned (.bool false) = .returned (.bool (addOk L t o l)) ∧ FlAt w' lo w'.heap.size f b p F' (addL L t o l bs) ∧ (∀ j ∈ F', j ∈ F ∨ w.heap.size ≤ j) ∧ Kept (b :: F) w w' := fun hb w' hk => by
    unfold addL
    rw [hb, if_neg (by decide)]
    exact ⟨F, rfl, (h.kept0 hk).up, fun j hj => .inl hj, hk.mono (by simp)⟩
  have shape : ∃ a c, v = .slice a bs.length c := by
    obtain ⟨_, a, c, e, _⟩ := hv w (Kept.refl _ _)
    exact ⟨a, c, e⟩
  obtain ⟨va, vc, hve⟩ := shape
  obtain ⟨vn, hvn⟩ : ∃ vn, bs.length = vn := ⟨_, rfl⟩
  rw [hvn] at hve
  replace hvn : Hid _ := hvn
  subst hve
  by_cases ht : t < 1
  · have hb : addOk L t o l = false := by unfold addOk; rw [decide_eq_false (by omega)]; rfl
    have fin := none_ hb
    clear none_ hb hlen
    go_enter Tryz.func6, Tryz.ntmps6
    go_wp2_with (first
      | (go_at_call 28; refine qm.mono ?_; rintro e W0 ⟨rfl, rfl⟩))
    go_ret
    exact fin _ ka
  · cases hs : (Table.look L t).isSome with
    | true =>
      have hb : addOk L t o l = false := by
        unfold addOk
        cases e : Table.look L t with
        | none => rw [e] at hs; cases hs
        | some r => simp
      have fin := none_ hb
      rw [hs] at qh
      clear none_ hb hlen hs
      go_enter Tryz.func6, Tryz.ntmps6
      go_wp2_with (first
        | (go_at_call 28; refine qm.mono ?_; rintro e W0 ⟨rfl, rfl⟩)
        | (go_at_call 29; refine qh.mono ?_; rintro e w1 ⟨rfl, hk1⟩))
      go_ret
      exact fin _ (ka.trans hk1)
    | false =>
      have hln : Table.look L t = none := by cases e : Table.look L t with | none => rfl | some r => rw [e] at hs; cases hs
      rw [hs] at qh
      clear hs
      cases hbu : busy L o l with
      | true =>
        have hb : addOk L t o l = false := by unfold addOk; rw [hbu]; simp
        have fin := none_ hb
        replace hln : Hid _ := hln
        clear none_ hb hlen
        go_enter Tryz.func6, Tryz.ntmps6
        go_wp2_with (first
          | (go_at_call 28; refine qm.mono ?_; rintro e W0 ⟨rfl, rfl⟩)
          | (go_at_call 29; refine qh.mono ?_; rintro e w1 ⟨rfl, hk1⟩; have hb1 := hb0.kept hk1 (by simp); have c0 := (hb1.cell 0).trans (show _ = some (Value.int .i64 o) from rfl); have c1 := (hb1.cell 1).trans (show _ = some (Value.int .i64 l) from rfl); have qb := busy_any o l hO0 w1 (hT.kept0 hk1) hn; rw [hbu] at qb)
          | (go_at_call 16; refine qb.mono ?_; rintro e w2 ⟨rfl, hk2⟩))
        go_ret
        exact fin _ ((ka.trans hk1).trans hk2)
      | false =>
        obtain ⟨M, t1, t2, t3⟩ := h.tree
        have hM6 : M.length ≤ 600 := by omega
        have hnt : Itree.there M ⟨o, l, t⟩ = false := t2.new hln
        have hio : Itree.insOk M ⟨o, l, t⟩ = (Span.Math.plain o l && decide (1 ≤ l)) := by unfold Itree.insOk Itree.good; rw [hnt]; simp
        have hao : addOk L t o l = (Span.Math.plain o l && decide (1 ≤ l)) := by unfold addOk; rw [hbu, hln, decide_eq_true (by omega)]; simp
        have hFlt := t1.lt
        have hnF : w.heap.size ∉ F := fun hm => by have := hFlt _ hm; omega
        have hT0 := hT
        cases hg : (Span.Math.plain o l && decide (1 ≤ l)) with
        | false =>
          rw [hg] at hio hao
          have hins : Itree.insL M ⟨o, l, t⟩ = M := by unfold Itree.insL; rw [hio]; rfl
          have hadd : addL L t o l bs = L := by unfold addL; rw [hao]; rfl
          have qi := fun W (hk : Kept [] w W) => Itree.insert_any W p F M ⟨o, l, t⟩ (t1.kept hk (by simp)) t2.sorted hM6 hO
          rw [hio, hins] at qi
          rw [hao, hadd]
          replace hln : Hid _ := hln
          replace t3 : Hid _ := t3
          clear none_ hao hadd hio hins hlen hg hnt
          go_enter Tryz.func6, Tryz.ntmps6
          go_wp2_with (first
            | (go_at_call 28; refine qm.mono ?_; rintro e W0 ⟨rfl, rfl⟩)
            | (go_at_call 29; refine qh.mono ?_; rintro e w1 ⟨rfl, hk1⟩; have hb1 := hb0.kept hk1 (by simp); have c0 := (hb1.cell 0).trans (show _ = some (Value.int .i64 o) from rfl); have c1 := (hb1.cell 1).trans (show _ = some (Value.int .i64 l) from rfl); have qb := busy_any o l hO0 w1 (hT.kept0 hk1) hn; rw [hbu] at qb)
            | (go_at_call 16; refine qb.mono ?_; rintro e w2 ⟨rfl, hk2⟩))
          have hkk := ((ka.trans hk1).trans hk2).trans (kept_drew [] w2)
          have hTd := h.kept0 hkk
          have hbd := (hb1.kept hk2 (by simp)).kept (kept_drew [] w2) (by simp)
          have S0 : ∀ W, Kept F w2.drew W → W.cell? ⟨f, 0, none⟩ = some (.pointer (some ⟨p, 0, none⟩)) ∧ W.cell? ⟨w.heap.size, 0, none⟩ = some (.int .i64 o) ∧ W.cell? ⟨w.heap.size, 1, none⟩ = some (.int .i64 l) := fun W hk =>
            have hc := hbd.kept hk hnF
            ⟨((hTd.blk.kept hk hTd.fF).cell 0).trans rfl, (hc.cell 0).trans rfl, (hc.cell 1).trans rfl⟩
          have kd := Kept.refl F w2.drew
          have qi2 := qi w2.drew hkk
          clear hb1 c0 c1 qi
          go_region_held3 (fun W => W.cell? ⟨f, 0, none⟩ = some (.pointer (some ⟨p, 0, none⟩)) ∧ W.cell? ⟨w.heap.size, 0, none⟩ = some (.int .i64 o) ∧ W.cell? ⟨w.heap.size, 1, none⟩ = some (.int .i64 l)) (exact S0 _ kd) (first
            | (go_at_call 30; refine qi2.mono ?_; rintro e w4 ⟨F', rfl, hT4, hF4, hk4⟩; replace kd := kd.trans hk4))
          go_wp2_with fail
          go_ret
          obtain ⟨r1, r2⟩ := hTd.turned (Nat.le_trans hlo hkk.size) hT4 hF4 hk4 (hTd.map.kept hk4 hTd.bF (fun j hj => hTd.off _ _ j (by simp [hj]))) (Kept.refl [b] w4) t2 t3.out h.good h.fit (Nat.le_trans hTd.hih hk4.size)
          exact ⟨F', rfl, r1.up, fun j hj => (hF4 j hj).imp id (fun e => Nat.le_trans hkk.size e), (hkk.mono (by simp)).trans r2⟩
        | true =>
          rw [hg] at hao
          have hgood : Hid (Good (addL L t o l bs)) := h.good.add t o l bs
          have hfit : Hid (Fit (addL L t o l bs)) := h.fit.add h1 hlen
          obtain ⟨hio', htr⟩ := t2.add hao bs
          have hlenM : Hid ((Itree.insL M ⟨o, l, t⟩).length = (addL L t o l bs).length) := by
            show _ = _
            rw [Itree.ins_length, hio', if_pos rfl]
            unfold addL
            rw [hao, if_pos rfl, Table.ins_length, t3]
          have hlook : Hid (∀ j, Table.look (addL L t o l bs) j = if j = t then some (⟨o, l, bs, 0⟩ : Fw) else Table.look L j) := fun j => by
            unfold addL
            rw [hao, if_pos rfl, Table.look_ins hln]
          have qi := fun W (hk : Kept [] w W) => Itree.insert_any W p F M ⟨o, l, t⟩ (t1.kept hk (by simp)) t2.sorted hM6 hO
          rw [hio'] at qi
          rw [hao]
          obtain ⟨L2, hL2⟩ : ∃ L2, addL L t o l bs = L2 := ⟨_, rfl⟩
          rw [hL2] at hgood hfit htr hlenM hlook ⊢
          replace hln : Hid _ := hln
          replace t3 : Hid _ := t3
          replace hlen : Hid _ := hlen
          replace htr : Hid _ := htr
          have hvn' : Hid (∀ W, Kept F w W → ByteRow W.heap.size W (.slice va vn vc) bs) := hv
          clear none_ hao hio hio' hg hnt hL2 hv
          go_enter Tryz.func6, Tryz.ntmps6
          go_wp2_with (first
            | (go_at_call 28; refine qm.mono ?_; rintro e W0 ⟨rfl, rfl⟩)
            | (go_at_call 29; refine qh.mono ?_; rintro e w1 ⟨rfl, hk1⟩; have hb1 := hb0.kept hk1 (by simp); have c0 := (hb1.cell 0).trans (show _ = some (Value.int .i64 o) from rfl); have c1 := (hb1.cell 1).trans (show _ = some (Value.int .i64 l) from rfl); have qb := busy_any o l hO0 w1 (hT.kept0 hk1) hn; rw [hbu] at qb)
            | (go_at_call 16; refine qb.mono ?_; rintro e w2 ⟨rfl, hk2⟩))
          have hkk := ((ka.trans hk1).trans hk2).trans (kept_drew [] w2)
          have hTd := h.kept0 hkk
          have hbd := (hb1.kept hk2 (by simp)).kept (kept_drew [] w2) (by simp)
          have S0 : ∀ W, Kept F w2.drew W → W.cell? ⟨f, 0, none⟩ = some (.pointer (some ⟨p, 0, none⟩)) ∧ W.cell? ⟨w.heap.size, 0, none⟩ = some (.int .i64 o) ∧ W.cell? ⟨w.heap.size, 1, none⟩ = some (.int .i64 l) := fun W hk =>
            have hc := hbd.kept hk hnF
            ⟨((hTd.blk.kept hk hTd.fF).cell 0).trans rfl, (hc.cell 0).trans rfl, (hc.cell 1).trans rfl⟩
          have kd := Kept.refl F w2.drew
          have qi2 := qi w2.drew hkk
          clear hb1 c0 c1 qi
          go_region_held3 (fun W => W.cell? ⟨f, 0, none⟩ = some (.pointer (some ⟨p, 0, none⟩)) ∧ W.cell? ⟨w.heap.size, 0, none⟩ = some (.int .i64 o) ∧ W.cell? ⟨w.heap.size, 1, none⟩ = some (.int .i64 l)) (exact S0 _ kd) (first
            | (go_at_call 30; refine qi2.mono ?_; rintro e w4 ⟨F', rfl, hT4, hF4, hk4⟩; replace kd := kd.trans hk4))
          go_wp2_with fail
          have hk4d := hk4.trans (kept_drew F w4)
          have hmd := hTd.map.kept hk4d hTd.bF (fun j hj => hTd.off _ _ j (by simp [hj]))
          have hlt4 : b < w4.drew.heap.size := hmd.lt
          have hbd4 := hbd.kept hk4d hnF
          have hfd4 := hTd.blk.kept hk4d hTd.fF
          have hv4 : ByteRow w4.drew.heap.size w4.drew (.slice va vn vc) bs := hvn'.out _ ((hkk.mono (by simp)).trans hk4d)
          have qa := apart_any ⟨t, o, l, va, vn, vc, 0, bs⟩ w4.drew.heap.size w4.drew hv4 (Nat.le_refl _) hlen.out
          unfold Fv.val at qa
          dsimp only at qa
          have hbne : w.heap.size ≠ b := fun e => by have := h.map.lt; omega
          have S1 : ∀ W, Kept [b] w4.drew W → W.cell? ⟨f, 1, none⟩ = some (.map (some b)) ∧ W.cell? ⟨w.heap.size, 0, none⟩ = some (.int .i64 o) ∧ W.cell? ⟨w.heap.size, 1, none⟩ = some (.int .i64 l) := fun W hk =>
            have hc := hbd4.kept hk (by simpa using hbne)
            ⟨((hfd4.kept hk (by simpa using fun e => h.ne e.symm)).cell 1).trans rfl, (hc.cell 0).trans rfl, (hc.cell 1).trans rfl⟩
          have kd0 : Hid (Kept [b] w4.drew w4.drew) := Kept.refl _ _
          have hr0 := h.good.rising
          have hf0 := h.fit
          have hhi4 : Hid (hi ≤ w4.drew.heap.size) := Nat.le_trans hTd.hih hk4d.size
          have hlo4 : Hid (lo ≤ w4.drew.heap.size) := Nat.le_trans hlo (Nat.le_trans hkk.size hk4d.size)
          have hn1 : Hid (L.length ≤ 1000) := (show _ ≤ _ by omega)
          clear S0 hbd kd hv4
          go_region_held3 (fun W => W.cell? ⟨f, 1, none⟩ = some (.map (some b)) ∧ W.cell? ⟨w.heap.size, 0, none⟩ = some (.int .i64 o) ∧ W.cell? ⟨w.heap.size, 1, none⟩ = some (.int .i64 l)) (first
            | exact S1 _ kd0.out
            | exact S1 _ k5.out
            | exact S1 _ k6.out) (first
            | (go_at_call 31; refine qa.mono ?_; rintro e w5 ⟨y, rfl, hyt, hyw, hyA, hk5⟩; replace hyw : Hid (y.fw = ⟨o, l, bs, 0⟩) := hyw; replace hyt : Hid (y.t = t) := hyt; have k5 : Hid (Kept [b] w4.drew w5) := hk5.mono (by simp); have hm5 := (hmd.kept hk5 (by simp) (by simp)).mono (Nat.le_refl _) (Nat.le_trans hhi4.out hk5.size); obtain ⟨w6, hr6, hm6, hk6, hs6⟩ := hm5.put_any (L' := L2) hr0 hf0 hn1.out h0 h1 y (hyA.mono hlo4.out (Nat.le_refl _)) hyt.out (by rw [hyw.out]; exact hlook.out); have k6 : Hid (Kept [b] w4.drew w6) := k5.out.trans hk6; replace hs6 : Hid (w6.heap.size = w5.heap.size) := hs6; unfold Fv.val at hr6))
          go_wp2_with fail
          go_ret
          have hm7 : Holds w6 lo w6.heap.size b L2 := by rw [hs6.out]; exact hm6
          obtain ⟨r1, r2⟩ := hTd.turned (Nat.le_trans hlo hkk.size) hT4 hF4 hk4 hm7 (((kept_drew [b] w4).trans k5.out).trans hk6) htr.out hlenM.out hgood.out hfit.out (Nat.le_refl _)
          exact ⟨F', rfl, r1, fun j hj => (hF4 j hj).imp id (fun e => Nat.le_trans hkk.size e), (hkk.mono (by simp)).trans r2⟩
end Go.Proofs.YtollfckgjhklcaaGreat.Flight
