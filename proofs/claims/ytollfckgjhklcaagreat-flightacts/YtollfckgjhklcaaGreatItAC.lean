import Derived.Test.YtollfckgjhklcaaGreatItAA
import Derived.Test.YtollfckgjhklcaaGreatItAB
/-
  Who overlaps: the walks of Overlaps, Ids and Any; the program's tree does what is asked of one.
-/
namespace Go.Proofs.YtollfckgjhklcaaGreat.Itree
open Go.RowKit

/-- Two rows that have a sector each overlap just if each begins ahead of the other's end. -/
theorem over_iff {x : It} {o m : Int} (hx : good x = true) (hs : good ⟨o, m, 0⟩ = true) : Span.Math.over x.o x.l o m = decide (o < x.o + x.l ∧ x.o < o + m) := by
  unfold good at hx hs
  simp at hx hs
  have h1 := Span.Math.of_plain hx.1
  have h2 := Span.Math.of_plain hs.1
  unfold Span.Math.over
  rw [hx.1, hs.1, Bool.true_and, Bool.true_and, decide_eq_decide]
  omega
theorem ov_btw {L : List It} {o m : Int} (hL : ∀ y ∈ L, good y = true) (hs : good ⟨o, m, 0⟩ = true) : ovL L o m = btw o (o + m) L := by
  unfold ovL btw
  congr 1
  refine List.filter_congr fun y hy => ?_
  rw [over_iff (hL y hy) hs]
theorem ov_bad {L : List It} {o m : Int} (hs : good ⟨o, m, 0⟩ = false) : ovL L o m = [] := by
  cases hp : Span.Math.plain o m with
  | false => exact ov_not_plain hp
  | true =>
    have hm : ¬ 1 ≤ m := by
      unfold good at hs
      simp at hs
      have := hs hp
      omega
    unfold ovL
    rw [List.filter_eq_nil_iff.2]
    · rfl
    · intro a _ ho
      obtain ⟨_, _, h3⟩ := Span.Math.over_plain ho
      omega
theorem ids_btw {L : List It} (hL : ∀ y ∈ L, good y = true) : btw 0 9223372036854775807 L = idsL L := by
  unfold btw idsL
  congr 1
  rw [List.filter_eq_self]
  intro y hy
  have := good_end (hL y hy)
  simp
  omega
theorem any_left {b : Nat} {x : It} {e : Int} {h : Nat} {l r : Tr} {o m : Int} (hg : Good (.node b x e h l r)) (hs : Sorted (Tr.node b x e h l r).toL) (ho : good ⟨o, m, 0⟩ = true) (hr : l.reach o = true) (_hn : Span.Math.over x.o x.l o m = false) :
    ovL (Tr.node b x e h l r).toL o m = [] ↔ ovL l.toL o m = [] := by
  have hgi := good_item hg
  obtain ⟨g1, g2, g3, _⟩ := hg
  obtain ⟨y, hy, hyo⟩ := reach_yes g1 hr
  have hgy := good_item g1 y hy
  simp only [Tr.toL] at hs ⊢
  rw [ov_append]
  by_cases hov : Span.Math.over y.o y.l o m = true
  · have := ov_mem hy hov
    constructor
    · intro k
      exact (List.append_eq_nil_iff.1 k).1
    · intro k
      rw [k] at this
      cases this
  · have hye : o + m ≤ y.o := by
      rw [over_iff hgy ho] at hov
      simp at hov
      exact hov hyo
    rw [ov_none_high (A := x :: r.toL) (fun z hz => by
      have := ahead_off ((sorted_append.1 hs).2.2 y hy z hz)
      omega)]
    simp
theorem any_right {b : Nat} {x : It} {e : Int} {h : Nat} {l r : Tr} {o m : Int} (hg : Good (.node b x e h l r)) (hr : l.reach o = false) (hn : Span.Math.over x.o x.l o m = false) :
    ovL (Tr.node b x e h l r).toL o m = [] ↔ ovL r.toL o m = [] := by
  obtain ⟨g1, g2, g3, _⟩ := hg
  simp only [Tr.toL]
  rw [ov_append, ov_none_low (reach_no g1 hr), ov_cons, hn]
  simp
set_option maxRecDepth 100000 in
set_option maxHeartbeats 4000000 in
/-- Any -/
theorem iany_any (w : World) (p : Nat) (F : List Nat) (L : List It) (o l : Int) (h : TT w p F L) (hs : Sorted L) (hl : L.length ≤ 600) (_hx : (It.mk o l 0).Ok) :
    Calls Tryz.prog 38 #[.pointer (some ⟨p, 0, none⟩), .agg #[.int .i64 o, .int .i64 l]] w fun e w' => e = .returned (.bool (decide (0 < (ovL L o l).length))) ∧ Kept [] w w' := by
  obtain ⟨t, h1, h2, h3, -⟩ := h
  have kA := kept_alloc [] w (.cells #[.int .i64 o, .int .i64 l] 24)
  have bA := blk_new w 24 #[.int .i64 o, .int .i64 l]
  have hT := h1.kept kA (by simp)
  have qm := isMade_any p _ t _ hT
  have qh := fun W => hasSector_any ⟨o, l, 0⟩ W
  dsimp only at qh
  obtain ⟨W0, hW0⟩ : ∃ W0, w.alloc (.cells #[.int .i64 o, .int .i64 l] 24) = W0 := ⟨_, rfl⟩
  rw [hW0] at kA bA qm hT
  have c0 := (bA.cell 0).trans (show _ = some (Value.int .i64 o) from rfl)
  have c1 := (bA.cell 1).trans (show _ = some (Value.int .i64 l) from rfl)
  obtain ⟨D, hD⟩ : ∃ D, decide (0 < (ovL L o l).length) = D := ⟨_, rfl⟩
  rw [hD]
  replace h3 : Hid _ := h3
  cases hg : good ⟨o, l, 0⟩ with
  | false =>
    rw [hg] at qh
    have e1 : Hid (D = false) := (show _ = _ by rw [← hD, ov_bad hg]; rfl)
    clear hg hD
    go_enter Tryz.func38, Tryz.ntmps38
    go_wp2
    go_step3
    go_wp2_with (first
      | (go_at_call 44; refine qm.mono ?_; rintro e W0 ⟨rfl, rfl⟩)
      | (go_at_call 45; refine (qh _).mono ?_; rintro e w2 ⟨rfl, k2⟩))
    rw [Exit.noGoto_ret]
    go_ret
    exact ⟨by rw [e1.out]; rfl, kA.trans k2⟩
  | true =>
    rw [hg] at qh
    replace hD : Hid _ := hD
    replace hg : Hid _ := hg
    have hbl : Hid (t.blks.length < 601) := (show _ < _ by rw [← toL_length, h3.out]; omega)
    go_enter Tryz.func38, Tryz.ntmps38
    go_wp2
    go_step3
    go_wp2_with (first
      | (go_at_call 44; refine qm.mono ?_; rintro e W0 ⟨rfl, rfl⟩)
      | (go_at_call 45; refine (qh _).mono ?_; rintro e w2 ⟨rfl, k2⟩; have b2 := bA.kept k2 (by simp); have hT2 := hT.kept k2 (by simp); have cp := (hT2.blk.cell 1).trans (show _ = some t.ptr from rfl)))
    go_step3
    go_wp2
    go_loopg [5] 601 (fun k v wr => ∃ u, v = u.ptr ∧ Good u ∧ TrAt w2 u ∧ Hid (Sorted u.toL) ∧ Hid (ovL L o l = [] ↔ ovL u.toL o l = []) ∧ Hid (u.blks.length < k) ∧ Kept [] w2 wr)
    case atStart => exact ⟨t, rfl, h2, hT2.nodes, h3.out ▸ hs, (show _ ↔ _ by rw [h3.out]), hbl, Kept.refl _ _⟩
    case round =>
      obtain ⟨u, rfl, hgu, hau, hsu, hiff, hgk, hkr⟩ := hrel
      cases u with
      | nil =>
        have e1 : Hid (D = false) := (show _ = _ by
          have : ovL L o l = [] := hiff.out.2 rfl
          rw [← hD.out, this]
          rfl)
        rw [ptr_nil]
        go_wp2
        rw [Exit.noGoto_ret]
        go_ret
        exact ⟨by rw [e1.out]; rfl, (kA.trans k2).trans hkr⟩
      | node b x ee hh ul ur =>
        have haw := hau.kept hkr (by simp)
        obtain ⟨hab, hal, har⟩ := haw
        rw [ptr_node]
        have hS : ∀ W, Kept [] wr W → (W.cell? ⟨w.heap.size, 0, none⟩ = some (.int .i64 o) ∧ W.cell? ⟨w.heap.size, 1, none⟩ = some (.int .i64 l)) ∧ (W.cell? ⟨b, 0, none⟩ = some (.int .i64 x.o) ∧ W.cell? ⟨b, 1, none⟩ = some (.int .i64 x.l)) ∧ W.cell? ⟨b, 3, none⟩ = some ul.ptr ∧ W.cell? ⟨b, 4, none⟩ = some ur.ptr := fun W hk =>
          have b3 := (b2.kept hkr (by simp)).kept hk (by simp)
          have cc := nd_cells (hab.kept hk (by simp))
          ⟨⟨(b3.cell 0).trans rfl, (b3.cell 1).trans rfl⟩, ⟨cc.1.1, cc.1.2.1⟩, cc.2.1, cc.2.2.1⟩
        have qO := fun W => Span.overlap_any x.o x.l o l W
        have hkd := kept_drew [] wr
        cases hov : Span.Math.over x.o x.l o l with
        | true =>
          rw [hov] at qO
          have e1 : Hid (D = true) := (show _ = _ by
            rw [← hD.out]
            simp only [decide_eq_true_iff]
            rcases Nat.eq_zero_or_pos (ovL L o l).length with e0 | e0
            · have h4 := hiff.out.1 (List.eq_nil_of_length_eq_zero e0)
              have h5 : x.i ∈ ovL (Tr.node b x ee hh ul ur).toL o l := ov_mem (by simp [Tr.toL]) hov
              rw [h4] at h5
              cases h5
            · exact e0)
          clear hov
          go_wp2
          go_region_held3 (fun W => (W.cell? ⟨w.heap.size, 0, none⟩ = some (.int .i64 o) ∧ W.cell? ⟨w.heap.size, 1, none⟩ = some (.int .i64 l)) ∧ (W.cell? ⟨b, 0, none⟩ = some (.int .i64 x.o) ∧ W.cell? ⟨b, 1, none⟩ = some (.int .i64 x.l)) ∧ W.cell? ⟨b, 3, none⟩ = some ul.ptr ∧ W.cell? ⟨b, 4, none⟩ = some ur.ptr) (exact hS _ hkd) (first
            | (go_at_call 52; refine (qO _).mono ?_; rintro e5 w5 ⟨rfl, hB5⟩; replace hkd := hkd.trans (Kept.of_below hB5 [])))
          go_wp2
          rw [Exit.noGoto_ret]
          go_ret
          exact ⟨by rw [e1.out]; rfl, ((kA.trans k2).trans hkr).trans hkd⟩
        | false =>
          rw [hov] at qO
          cases hre : ul.reach o with
          | true =>
            have hiff2 : Hid (ovL L o l = [] ↔ ovL ul.toL o l = []) := (show _ ↔ _ from hiff.out.trans (any_left hgu hsu.out hg.out hre hov))
            have hsu2 : Hid (Sorted ul.toL) := (show Sorted _ from (sorted_append.1 hsu.out).1)
            have hgk2 : Hid (ul.blks.length + 1 < gk) := (show _ < _ by have := hgk.out; simp only [Tr.blks, List.length_cons, List.length_append] at this; omega)
            have hgc : Good ul := hgu.1
            have hac : TrAt w2 ul := hau.2.1
            have qR := fun W (hk : Kept [] wr W) => reaches_any ul o W (hal.kept hk (by simp))
            rw [hre] at qR
            clear hov hre
            go_wp2
            go_region_held3 (fun W => (W.cell? ⟨w.heap.size, 0, none⟩ = some (.int .i64 o) ∧ W.cell? ⟨w.heap.size, 1, none⟩ = some (.int .i64 l)) ∧ (W.cell? ⟨b, 0, none⟩ = some (.int .i64 x.o) ∧ W.cell? ⟨b, 1, none⟩ = some (.int .i64 x.l)) ∧ W.cell? ⟨b, 3, none⟩ = some ul.ptr ∧ W.cell? ⟨b, 4, none⟩ = some ur.ptr) (exact hS _ hkd) (first
              | (go_at_call 52; refine (qO _).mono ?_; rintro e5 w5 ⟨rfl, hB5⟩; replace hkd := hkd.trans (Kept.of_below hB5 [])))
            go_wp2
            obtain ⟨⟨s0, s1⟩, ⟨s2, s3⟩, s4, s5⟩ := hS _ hkd
            go_quiet (first | (go_at_call 53; exact Calls.quiet_of_same (qR _ (hkd.trans (kept_drewN [] _ _)))))
            replace hkd := hkd.trans (kept_drewN [] _ nq)
            obtain ⟨⟨z0, z1⟩, ⟨z2, z3⟩, z4, z5⟩ := hS _ hkd
            go_wp2
            go_roundg (ul.blks.length + 1)
            case measure => exact hgk2.out
            case rel => exact ⟨ul, rfl, hgc, hac, hsu2, hiff2, Nat.lt_succ_self _, hkr.trans hkd⟩
          | false =>
            have hiff2 : Hid (ovL L o l = [] ↔ ovL ur.toL o l = []) := (show _ ↔ _ from hiff.out.trans (any_right hgu hre hov))
            have hsu2 : Hid (Sorted ur.toL) := (show Sorted _ from (sorted_cons.1 (sorted_append.1 hsu.out).2.1).2)
            have hgk2 : Hid (ur.blks.length + 1 < gk) := (show _ < _ by have := hgk.out; simp only [Tr.blks, List.length_cons, List.length_append] at this; omega)
            have hgc : Good ur := hgu.2.1
            have hac : TrAt w2 ur := hau.2.2
            have qR := fun W (hk : Kept [] wr W) => reaches_any ul o W (hal.kept hk (by simp))
            rw [hre] at qR
            clear hov hre
            go_wp2
            go_region_held3 (fun W => (W.cell? ⟨w.heap.size, 0, none⟩ = some (.int .i64 o) ∧ W.cell? ⟨w.heap.size, 1, none⟩ = some (.int .i64 l)) ∧ (W.cell? ⟨b, 0, none⟩ = some (.int .i64 x.o) ∧ W.cell? ⟨b, 1, none⟩ = some (.int .i64 x.l)) ∧ W.cell? ⟨b, 3, none⟩ = some ul.ptr ∧ W.cell? ⟨b, 4, none⟩ = some ur.ptr) (exact hS _ hkd) (first
              | (go_at_call 52; refine (qO _).mono ?_; rintro e5 w5 ⟨rfl, hB5⟩; replace hkd := hkd.trans (Kept.of_below hB5 [])))
            go_wp2
            obtain ⟨⟨s0, s1⟩, ⟨s2, s3⟩, s4, s5⟩ := hS _ hkd
            go_quiet (first | (go_at_call 53; exact Calls.quiet_of_same (qR _ (hkd.trans (kept_drewN [] _ _)))))
            replace hkd := hkd.trans (kept_drewN [] _ nq)
            obtain ⟨⟨z0, z1⟩, ⟨z2, z3⟩, z4, z5⟩ := hS _ hkd
            go_wp2
            go_roundg (ur.blks.length + 1)
            case measure => exact hgk2.out
            case rel => exact ⟨ur, rfl, hgc, hac, hsu2, hiff2, Nat.lt_succ_self _, hkr.trans hkd⟩
end Go.Proofs.YtollfckgjhklcaaGreat.Itree

