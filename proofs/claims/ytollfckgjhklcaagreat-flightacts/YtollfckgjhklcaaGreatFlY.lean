/-
  The document's flights in memory: the walks of End and Add.
-/
import Derived.Test.YtollfckgjhklcaaGreatFlW
namespace Go.Proofs.YtollfckgjhklcaaGreat.Flight
open Go.RowKit Go.Maps Go.Sort
open Table (Rising ins del tks)

theorem blk_not {W : World} {k : Nat} {t u : TypeId} {c d : Array Value} (h : Blk W k t c) (ht : t ≠ u) : ¬ Blk W k u d := fun h2 => by
  unfold Blk at h h2
  rw [h] at h2
  injection h2 with h2
  injection h2 with _ h2 _
  exact ht h2
theorem owns_kept0 {A B : World} {base : Nat} {e : TypeId} {z n : Nat} {v : Value} {l : List Value} (h : A.ownsRow base e z v n l) (hk : Kept [] A B) : B.ownsRow base e z v n l :=
  h.kept (row := none) ⟨hk.os, hk.tape, hk.output, hk.size, fun j hj _ => hk.block j hj (by simp)⟩ (by cases v.ownBlock <;> simp)
/-- Bytes stay where a row of writes grows. -/
theorem rgrown {A B : World} {lo hi base n : Nat} {y : Fv} {v : Value} {L : List Fv} (h : y.At lo hi A) (hh : hi ≤ A.heap.size) (hr : A.ownsRow base 42 5 v n (cellsL L)) (hg : A.grownBy B v.ownBlock) : y.At lo B.heap.size B := by
  obtain ⟨_, ⟨rfl, h0⟩ | ⟨g, cap, cur, rfl, hb, hgb, h1, h2, h3, h4⟩⟩ := hr
  · exact (h.kept0 (kept_none hg)).mono (Nat.le_refl _) (Nat.le_trans hh hg.size)
  · have hk : Kept [g] A B := ⟨hg.os, hg.tape, hg.output, hg.size, fun j hj hm => hg.block j hj (fun e => by
      simp [Value.ownBlock] at e
      exact hm (by simp [e]))⟩
    have hB : Blk A g 42 cur := hgb
    exact (h.kept hk (fun k hk => by simp at hk; rw [hk]; exact off_blk hB (by decide))).mono (Nat.le_refl _) (Nat.le_trans hh hk.size)
/-- New rows stand in the place of the old. -/
theorem rdone_store {w w5 : World} {lo r base : Nat} {Q : List Fv} {v v0 : Value} (hr : Blk w r 31 #[v0]) (hyo : lo ≤ r) (hk : Kept [] w w5) (n : RAt w5 base v Q) (hb : lo ≤ base) (hg : Good (tl Q)) (hf : Fit (tl Q)) (hbyt : ∀ x ∈ Q, x.At lo w5.heap.size w5) : RDone w (w5.setCell ⟨r, 0, none⟩ v) lo r (tl Q) := by
  have hr5 := hr.kept hk (by simp)
  have hkept := kept_set (L := [r]) (g := r) (by simp) w5 0 v
  refine ⟨Q, rfl, ⟨⟨v, hr5.set 0 v, (n.kept hkept fun k hk cur => ?_).mono hb⟩, fun x hx => ((hbyt x hx).kept hkept fun k hk => ?_).mono (Nat.le_refl _) hkept.size, hg, hf, hyo, Nat.le_refl _⟩, [r], (hk.mono (by simp)).trans hkept, fun k hk => ?_⟩
  · simp at hk
    rw [hk]
    exact blk_not hr5 (by decide)
  · simp at hk
    rw [hk]
    exact off_blk hr5 (by decide)
  · simp at hk
    rw [hk]
    exact ⟨hyo, .inl rfl⟩
set_option maxRecDepth 100000 in
set_option maxHeartbeats 1000000 in
/-- End -/
theorem rend_any {lo hi r : Nat} {P : List Fv} (k : Int) (w : World) (h : RFl w lo hi r P) (hn6 : P.length ≤ 600) :
    Calls Tryz.prog 11 #[.pointer (some ⟨r, 0, none⟩), .int .i64 k] w fun e w' => e = .returned (.bool (endOk (tl P) k)) ∧ RDone w w' lo r (endL (tl P) k) := by
  have q := rplace_any k w h hn6
  have hf := h.fit.endd k
  have hg := h.good.endd k
  unfold endL endOk at *
  cases hk : Table.look (tl P) k with
  | none =>
    rw [hk] at q
    simp only [Option.isSome_none, Bool.false_eq_true, if_false]
    clear hf hg
    generalize Table.place (tl P) k = n at *
    go_enter Tryz.func11, Tryz.ntmps11
    go_wp2_with (first
      | (go_at_call 32; refine q.mono ?_; rintro e w1 ⟨rfl, hk1⟩))
    go_ret
    exact ⟨rfl, rdone_same h hk1⟩
  | some rr =>
    rw [hk] at q hf hg
    have hpl := (List.getElem?_eq_some_iff.1 (Table.look_at h.good.rising hk)).1
    rw [tl_length] at hpl
    simp only [Option.isSome_some, if_true] at hf hg ⊢
    unfold del at hf hg ⊢
    have hih := h.hih
    have hrlt := h.lt
    have hyo := h.young
    have hbyt : Hid (∀ x ∈ P, x.At lo hi w) := h.byt
    obtain ⟨v, hr, hrow⟩ := h.row
    obtain ⟨a, cap, ev, -⟩ := id hrow
    obtain ⟨len, hle⟩ : ∃ len, P.length = len := ⟨_, rfl⟩
    rw [hle] at ev
    subst ev
    generalize Table.place (tl P) k = n at *
    have eT : Hid (tl (P.take n ++ P.drop (n + 1)) = (tl P).take n ++ (tl P).drop (n + 1)) := by show _ = _; rw [tl_append, tl_take, tl_drop]
    have hn : Hid (n ≤ P.length) := by show _ ≤ _; omega
    have hn1 : Hid (n + 1 ≤ P.length) := by show _ ≤ _; omega
    have hl1 : Hid (([] : List Fv).length + (P.take n).length ≤ 2000) := by show _ ≤ _; simp; omega
    have hl2 : Hid ((P.take n).length + (P.drop (n + 1)).length ≤ 2000) := by show _ ≤ _; simp; omega
    have fR : ∀ W, Kept [] w W → W.cell? ⟨r, 0, none⟩ = some (.slice a len cap) := fun W hk => ((hr.kept hk (by simp)).cell 0).trans rfl
    have fI : Hid (∀ W, Kept [] w W → RAt W lo (.slice a len cap) P) := fun W hk => hrow.kept0 hk
    have fr0 : Hid (∀ W : World, (W.alloc (.cells #[] 42)).ownsRow W.heap.size 42 5 (.slice (some ⟨W.heap.size, 0, none⟩) 0 0) ([] : List Fv).length (cellsL [])) := fun W => World.ownsRow_made W #[] 0 (Nat.le_refl _) (by unfold maxLen; omega) rfl
    replace hf : Hid _ := hf
    replace hg : Hid _ := hg
    have hsum : (n : Int) + 1 = ((n + 1 : Nat) : Int) := by omega
    replace hsum : Hid _ := hsum
    clear hk hle hrow h
    go_enter Tryz.func11, Tryz.ntmps11
    go_wp2_with (first
      | (go_at_call 32; refine q.mono ?_; rintro e w1 ⟨rfl, hk1⟩; have ka := kept_alloc [] w1 (.cells #[] 42); have r0 : Hid _ := fr0.out w1; have cR := fR _ (hk1.trans ka); have hs1 := hk1.size)
      | (refine wpList_take rfl _ _ rfl lo (.slice a len cap) P n rfl rfl (fI.out _ (hk1.trans ka)) hn.out ?_; intro u1 hu1; replace hu1 : Hid (RAt _ lo u1 (P.take n)) := hu1)
      | (at_builtin; refine wpList_append_rows rfl _ _ rfl w1.heap.size lo _ _ [] (P.take n) rfl (fr0.out w1) rfl hu1.out hl1.out (by simp) ?_; intro v3 w3 hr3 hg3 hw3; have hk3 : Kept [] w1 w3 := kept_grown (fr0.out w1) hg3 w1 ka (Nat.le_refl _); have cR3 := fR w3 (hk1.trans hk3); clear hg3 hu1 hw3)
      | (refine wpList_drop rfl _ _ rfl lo (.slice a len cap) P (n + 1) rfl (by first | rfl | (simp; done)) (fI.out _ (hk1.trans hk3)) hn1.out ?_; intro u4 hu4; replace hu4 : Hid (RAt _ lo u4 (P.drop (n + 1))) := hu4)
      | (at_builtin; refine wpList_append_rows rfl _ _ rfl w1.heap.size lo _ _ (P.take n) (P.drop (n + 1)) rfl hr3 rfl hu4.out hl2.out hk3.size ?_; intro v5 w5 hr5 hg5 hw5; have hk5 : Kept [] w1 w5 := kept_grown hr3 hg5 w1 hk3 (Nat.le_refl _); have hrr5 := hr.kept (hk1.trans hk5) (by simp); have cR5 := fR w5 (hk1.trans hk5); have f5 := hrr5.frozen 0; have n5 := rat_owns hr5; obtain ⟨a5, cap5, e5, -⟩ := id n5; obtain ⟨m5, hm5⟩ : ∃ m5, (P.take n ++ P.drop (n + 1)).length = m5 := ⟨_, rfl⟩; rw [hm5] at e5; subst e5; replace hm5 : Hid _ := hm5; clear hg5 hu4 hw5))
    go_ret
    have hk05 := hk1.trans hk5
    refine ⟨rfl, ?_⟩
    rw [← eT.out]
    refine rdone_store hr hyo hk05 n5 (by omega) (by rw [eT.out]; exact hg.out) (by rw [eT.out]; exact hf.out) fun x hx => ?_
    have hm : x ∈ P := by
      rcases List.mem_append.1 hx with hp | hp
      · exact List.mem_of_mem_take hp
      · exact List.mem_of_mem_drop hp
    exact ((hbyt.out x hm).kept0 hk05).mono (Nat.le_refl _) (Nat.le_trans hih hk05.size)
set_option maxRecDepth 100000 in
set_option maxHeartbeats 2000000 in
/-- Add -/
theorem radd_any {lo hi r : Nat} {P : List Fv} (t o l : Int) (v : Value) (bs : List Nat) (h1 : t ≤ 9223372036854775807) (w : World) (h : RFl w lo hi r P) (hn6 : P.length ≤ 600)
    (hv : ∀ W, Kept [] w W → ByteRow W.heap.size W v bs) (hlen : bs.length ≤ 140737488351232) :
    Calls Tryz.prog 7 #[.pointer (some ⟨r, 0, none⟩), .int .i64 t, .agg #[.int .i64 o, .int .i64 l], v] w fun e w' => e = .returned (.bool (addOk (tl P) t o l)) ∧ RDone w w' lo r (addL (tl P) t o l bs) := by
  have ka := kept_alloc [] w (.cells #[.int .i64 o, .int .i64 l] 24)
  have hb0 := blk_new w 24 #[.int .i64 o, .int .i64 l]
  obtain ⟨W0, hW0⟩ : ∃ W0, w.alloc (.cells #[.int .i64 o, .int .i64 l] 24) = W0 := ⟨_, rfl⟩
  rw [hW0] at ka hb0
  have hT := h.kept0 ka
  have q := rplace_any t _ hT hn6
  have none_ : addOk (tl P) t o l = false → ∀ w', Kept [] w w' → Ending.returned (.bool false) = .returned (.bool (addOk (tl P) t o l)) ∧ RDone w w' lo r (addL (tl P) t o l bs) := fun hb w' hk => by
    unfold addL
    rw [hb, if_neg (by decide)]
    exact ⟨rfl, rdone_same h hk⟩
  have shape : ∃ a c, v = .slice a bs.length c := by
    obtain ⟨_, a, c, e, _⟩ := hv w (Kept.refl _ _)
    exact ⟨a, c, e⟩
  obtain ⟨va, vc, hve⟩ := shape
  obtain ⟨vn, hvn⟩ : ∃ vn, bs.length = vn := ⟨_, rfl⟩
  rw [hvn] at hve
  replace hvn : Hid _ := hvn
  subst hve
  by_cases ht : t < 1
  · have hb : addOk (tl P) t o l = false := by unfold addOk; rw [decide_eq_false (by omega)]; rfl
    have fin := none_ hb
    clear none_ hb hlen
    generalize (Table.look (tl P) t).isSome = z at *
    generalize Table.place (tl P) t = n at *
    go_enter Tryz.func7, Tryz.ntmps7
    go_wp2_with (first
      | (go_at_call 32; refine q.mono ?_; rintro e w1 ⟨rfl, hk1⟩))
    go_ret
    exact fin _ (ka.trans hk1)
  · cases hs : (Table.look (tl P) t).isSome with
    | true =>
      have hb : addOk (tl P) t o l = false := by
        unfold addOk
        cases e : Table.look (tl P) t with
        | none => rw [e] at hs; cases hs
        | some r => simp
      have fin := none_ hb
      rw [hs] at q
      clear none_ hb hlen hs
      generalize Table.place (tl P) t = n at *
      go_enter Tryz.func7, Tryz.ntmps7
      go_wp2_with (first
        | (go_at_call 32; refine q.mono ?_; rintro e w1 ⟨rfl, hk1⟩))
      go_ret
      exact fin _ (ka.trans hk1)
    | false =>
      have hln : Table.look (tl P) t = none := by cases e : Table.look (tl P) t with | none => rfl | some r => rw [e] at hs; cases hs
      rw [hs] at q
      clear hs
      have qp := fun W => Span.refPlain_any o l W
      have fB : ∀ W, Kept [] W0 W → W.cell? ⟨w.heap.size, 0, none⟩ = some (.int .i64 o) ∧ W.cell? ⟨w.heap.size, 1, none⟩ = some (.int .i64 l) := fun W hk => ⟨((hb0.kept hk (by simp)).cell 0).trans rfl, ((hb0.kept hk (by simp)).cell 1).trans rfl⟩
      cases hp : Span.Math.plain o l with
      | false =>
        have hb : addOk (tl P) t o l = false := by unfold addOk; rw [hp]; simp
        have fin := none_ hb
        rw [hp] at qp
        replace hln : Hid _ := hln
        clear none_ hb hlen
        generalize Table.place (tl P) t = n at *
        go_enter Tryz.func7, Tryz.ntmps7
        go_wp2_with (first
          | (go_at_call 32; refine q.mono ?_; rintro e w1 ⟨rfl, hk1⟩; obtain ⟨c0, c1⟩ := fB w1 hk1)
          | (go_at_call 33; refine (qp _).mono ?_; rintro e w2 ⟨rfl, hb2⟩))
        go_ret
        exact fin _ ((ka.trans hk1).trans (Kept.of_below hb2 []))
      | true =>
        rw [hp] at qp
        by_cases hl1 : l < 1
        · have hb : addOk (tl P) t o l = false := by unfold addOk; rw [decide_eq_false (show ¬ 1 ≤ l by omega)]; simp
          have fin := none_ hb
          replace hln : Hid _ := hln
          clear none_ hb hlen
          generalize Table.place (tl P) t = n at *
          go_enter Tryz.func7, Tryz.ntmps7
          go_wp2_with (first
            | (go_at_call 32; refine q.mono ?_; rintro e w1 ⟨rfl, hk1⟩; obtain ⟨c0, c1⟩ := fB w1 hk1)
            | (go_at_call 33; refine (qp _).mono ?_; rintro e w2 ⟨rfl, hb2⟩; obtain ⟨d0, d1⟩ := fB w2 (hk1.trans (Kept.of_below hb2 []))))
          go_ret
          exact fin _ ((ka.trans hk1).trans (Kept.of_below hb2 []))
        · have qb := fun W (hk : Kept [] w W) => rbusy_any o l W (h.kept0 hk) hn6
          cases hbu : busy (tl P) o l with
          | true =>
            rw [hbu] at qb
            have hb : addOk (tl P) t o l = false := by unfold addOk; rw [hbu]; simp
            have fin := none_ hb
            replace hln : Hid _ := hln
            clear none_ hb hlen hbu
            generalize Table.place (tl P) t = n at *
            go_enter Tryz.func7, Tryz.ntmps7
            go_wp2_with (first
              | (go_at_call 32; refine q.mono ?_; rintro e w1 ⟨rfl, hk1⟩; obtain ⟨c0, c1⟩ := fB w1 hk1)
              | (go_at_call 33; refine (qp _).mono ?_; rintro e w2 ⟨rfl, hb2⟩; obtain ⟨d0, d1⟩ := fB w2 (hk1.trans (Kept.of_below hb2 [])); have hk2 := (ka.trans hk1).trans (Kept.of_below hb2 []); have qb2 := qb w2 hk2)
              | (go_at_call 17; refine qb2.mono ?_; rintro e w3 ⟨rfl, hk3⟩))
            go_ret
            exact fin _ (hk2.trans hk3)
          | false =>
            rw [hbu] at qb
            have hao : addOk (tl P) t o l = true := by unfold addOk; rw [hbu, hln, hp, decide_eq_true (show 1 ≤ t by omega), decide_eq_true (show 1 ≤ l by omega)]; rfl
            have hgood : Good (addL (tl P) t o l bs) := h.good.add t o l bs
            have hfit : Fit (addL (tl P) t o l bs) := h.fit.add h1 hlen
            have hadd : addL (tl P) t o l bs = (tl P).take (Table.place (tl P) t) ++ (t, (⟨o, l, bs, 0⟩ : Fw)) :: (tl P).drop (Table.place (tl P) t) := by unfold addL ins; rw [hao, if_pos rfl]
            rw [hadd] at hgood hfit ⊢
            rw [hao]
            have hpl := Table.place_le (tl P) t
            rw [tl_length] at hpl
            have hih := h.hih
            have hrlt := h.lt
            have hyo := h.young
            have hbyt : Hid (∀ x ∈ P, x.At lo hi w) := h.byt
            obtain ⟨v, hr, hrow⟩ := h.row
            obtain ⟨a, cap, ev, -⟩ := id hrow
            obtain ⟨len, hle⟩ : ∃ len, P.length = len := ⟨_, rfl⟩
            rw [hle] at ev
            subst ev
            generalize Table.place (tl P) t = n at *
            have eT : Hid (∀ y : Fv, y.t = t → y.fw = ⟨o, l, bs, 0⟩ → tl (P.take n ++ [y] ++ P.drop n) = (tl P).take n ++ (t, (⟨o, l, bs, 0⟩ : Fw)) :: (tl P).drop n) := fun y hy1 hy2 => by
              rw [tl_append, tl_append, tl_take, tl_drop]
              show _ ++ [(y.t, y.fw)] ++ _ = _
              rw [hy1, hy2]
              simp
            have hn : Hid (n ≤ P.length) := hpl
            have hl1' : Hid (([] : List Fv).length + (P.take n).length ≤ 2000) := by show _ ≤ _; simp; omega
            have hl2 : Hid (∀ y : Fv, (P.take n).length + [y].length ≤ 2000) := fun y => by simp; omega
            have hl3 : Hid (∀ y : Fv, (P.take n ++ [y]).length + (P.drop n).length ≤ 2000) := fun y => by simp; omega
            have fR : ∀ W, Kept [] w W → W.cell? ⟨r, 0, none⟩ = some (.slice a len cap) := fun W hk => ((hr.kept hk (by simp)).cell 0).trans rfl
            have fI : Hid (∀ W, Kept [] w W → RAt W lo (.slice a len cap) P) := fun W hk => hrow.kept0 hk
            have fr0 : Hid (∀ W : World, (W.alloc (.cells #[] 42)).ownsRow W.heap.size 42 5 (.slice (some ⟨W.heap.size, 0, none⟩) 0 0) ([] : List Fv).length (cellsL [])) := fun W => World.ownsRow_made W #[] 0 (Nat.le_refl _) (by unfold maxLen; omega) rfl
            have qc : Hid (∀ W, Kept [] w W → Calls Tryz.prog 34 #[.agg #[.int .i64 t, .int .i64 o, .int .i64 l, .slice va vn vc, .int .i64 0]] W fun e w' => ∃ y : Fv, e = .returned y.val ∧ y.t = t ∧ y.fw = ⟨o, l, bs, 0⟩ ∧ y.At W.heap.size w'.heap.size w' ∧ Kept [] W w') := fun W hk => rcopied_any ⟨t, o, l, va, vn, vc, 0, bs⟩ W.heap.size W (hv W hk) (Nat.le_refl _) hlen
            replace hgood : Hid _ := hgood
            replace hfit : Hid _ := hfit
            replace hln : Hid _ := hln
            clear none_ hao hadd hbu hlen hle hrow h hv hpl hT
            have fBH : Hid (∀ W, Kept [] W0 W → W.cell? ⟨w.heap.size, 0, none⟩ = some (.int .i64 o) ∧ W.cell? ⟨w.heap.size, 1, none⟩ = some (.int .i64 l)) := fB
            go_enter Tryz.func7, Tryz.ntmps7
            go_wp2_with (first
              | (go_at_call 32; refine q.mono ?_; rintro e w1 ⟨rfl, hk1⟩; obtain ⟨c0, c1⟩ := fB w1 hk1)
              | (go_at_call 33; refine (qp _).mono ?_; rintro e wP ⟨rfl, hbP⟩; have kP : Hid (Kept [] W0 wP) := hk1.trans (Kept.of_below hbP []); obtain ⟨d0, d1⟩ := fB wP kP.out; have qb2 := qb wP (ka.trans kP.out))
              | (go_at_call 17; refine qb2.mono ?_; rintro e w2 ⟨rfl, hkB⟩; have k2 : Hid (Kept [] W0 w2) := kP.out.trans hkB; have hk2 : Kept [] w w2 := ka.trans k2.out; have kA := kept_alloc [] w2 (.cells #[] 42); have cR := fR _ (hk2.trans kA); have hs2 := hk2.size; clear q qp qb qb2 c0 c1 d0 d1 fB)
              | (refine wpList_take rfl _ _ rfl lo (.slice a len cap) P n rfl rfl (fI.out _ (hk2.trans kA)) hn.out ?_; intro u1 hu1; replace hu1 : Hid (RAt _ lo u1 (P.take n)) := hu1)
              | (at_builtin; refine wpList_append_rows rfl _ _ rfl w2.heap.size lo (.slice (some ⟨w2.heap.size, 0, none⟩) 0 0) _ [] (P.take n) rfl (fr0.out w2) rfl hu1.out hl1'.out (by simp) ?_; intro v3 w3 hr3 hg3 hw3; have hk3 : Kept [] w2 w3 := kept_grown (fr0.out w2) hg3 w2 kA (Nat.le_refl _); obtain ⟨b0, b1⟩ := fBH.out w3 (k2.out.trans hk3); have qc3 := qc.out w3 (hk2.trans hk3); clear hg3 hu1)
              | (go_at_call 34; refine qc3.mono ?_; rintro e w4 ⟨y, rfl, hyt, hyw, hyA, hk4⟩; replace hyt : Hid (y.t = t) := hyt; replace hyw : Hid (y.fw = ⟨o, l, bs, 0⟩) := hyw; unfold Fv.val; have k5 := kept_alloc [] w4 (.cells #[.int .i64 y.t, .int .i64 y.o, .int .i64 y.l, .slice y.sa y.len y.cap, .int .i64 y.st] 42); have hk5 := (hk3.trans hk4).trans k5; have hr5 : Hid ((w4.alloc (.cells #[.int .i64 y.t, .int .i64 y.o, .int .i64 y.l, .slice y.sa y.len y.cap, .int .i64 y.st] 42)).ownsRow w2.heap.size 42 5 v3 (P.take n).length (cellsL (P.take n))) := owns_kept0 hr3 (hk4.trans k5); have hu5 : Hid (RAt (w4.alloc (.cells #[.int .i64 y.t, .int .i64 y.o, .int .i64 y.l, .slice y.sa y.len y.cap, .int .i64 y.st] 42)) w4.heap.size (.slice (some ⟨w4.heap.size, 0, none⟩) 1 1) [y]) := rat_one w4 y; have hbig := hk5.size; replace hbig : Hid _ := hbig; replace hyA : Hid (y.At w3.heap.size w4.heap.size w4) := hyA)
              | (at_builtin; refine wpList_append_rows rfl _ _ rfl w2.heap.size w4.heap.size v3 _ (P.take n) [y] rfl hr5.out rfl hu5.out (hl2.out y) hbig.out ?_; intro v6 w6 hr6 hg6 hw6; have hk6 : Kept [] w2 w6 := kept_grown hr5.out hg6 w2 hk5 (Nat.le_refl _); have hy6 : Hid (y.At w3.heap.size w6.heap.size w6) := rgrown (hyA.out.kept0 k5) k5.size hr5.out hg6; have cR6 := fR w6 (hk2.trans hk6); clear hu5 hr5 hw6 hg6)
              | (refine wpList_drop rfl _ _ rfl lo (.slice a len cap) P n rfl rfl (fI.out _ (hk2.trans hk6)) hn.out ?_; intro u7 hu7; replace hu7 : Hid (RAt _ lo u7 (P.drop n)) := hu7)
              | (at_builtin; refine wpList_append_rows rfl _ _ rfl w2.heap.size lo v6 _ (P.take n ++ [y]) (P.drop n) rfl hr6 rfl hu7.out (hl3.out y) hk6.size ?_; intro v8 w8 hr8 hg8 hw8; have hk8 : Kept [] w2 w8 := kept_grown hr6 hg8 w2 hk6 (Nat.le_refl _); have hrr8 := hr.kept (hk2.trans hk8) (by simp); have cR8 := fR w8 (hk2.trans hk8); have f8 := hrr8.frozen 0; have n8 := rat_owns hr8; obtain ⟨a8, cap8, e8, -⟩ := id n8; obtain ⟨m8, hm8⟩ : ∃ m8, (P.take n ++ [y] ++ P.drop n).length = m8 := ⟨_, rfl⟩; rw [hm8] at e8; subst e8; replace hm8 : Hid _ := hm8; have hy8 : Hid (y.At w3.heap.size w8.heap.size w8) := rgrown hy6.out (Nat.le_refl _) hr6 hg8; clear hg8 hu7 hw8))
            go_ret
            have hk08 := hk2.trans hk8
            refine ⟨rfl, ?_⟩
            rw [← eT.out y hyt.out hyw.out] at hgood hfit ⊢
            have hs3 := hk3.size
            refine rdone_store hr hyo hk08 n8 (by omega) hgood.out hfit.out fun x hx => ?_
            have old : ∀ z ∈ P, z.At lo w8.heap.size w8 := fun z hz => ((hbyt.out z hz).kept0 hk08).mono (Nat.le_refl _) (Nat.le_trans hih hk08.size)
            rcases List.mem_append.1 hx with hp | hp
            · rcases List.mem_append.1 hp with hp | hp
              · exact old x (List.mem_of_mem_take hp)
              · simp at hp
                rw [hp]
                exact hy8.out.mono (by omega) (Nat.le_refl _)
            · exact old x (List.mem_of_mem_drop hp)
end Go.Proofs.YtollfckgjhklcaaGreat.Flight
