/-
 Who overlaps: the walks of Overlaps, Ids and Any; the program's tree does what is asked of one.
-/
import Derived.Test.YtoaeficfmcncjaaGreatM26
import Derived.Test.YtoaeficfmcncjaaGreatM19
namespace Go.Proofs.YtoaeficfmcncjaaGreat.Itree
open Go.RowKit
theorem over_iff {x : It} {o m : Int} (hx : good x = true) (hs : good ⟨o, m, 0⟩ = true) : Span.Math.over x.o x.l o m = decide (o < x.o + x.l ∧ x.o < o + m) := by
 unfold good at hx hs
 simp at hx hs
 have h1 := Span.Math.of_plain hx.1
 have h2 := Span.Math.of_plain hs.1
 unfold Span.Math.over
 rw [hx.1, hs.1, Bool.true_and, Bool.true_and, decide_eq_decide]
 omega
theorem ov_bad {L : List It} {o m : Int} (hs : good ⟨o, m, 0⟩ = false) : ovL L o m = [] := by
 cases hp : Span.Math.plain o m with
 | false => exact ov_not_plain hp
 | true =>
  have hm : ¬ 1 ≤ m := by
   unfold good at hs
   simp at hs
   have := hs hp
   omega
  unfold ovL
  rw [List.filter_eq_nil_iff.2]
  ·rfl
  ·intro a _ ho
   obtain ⟨_, _, h3⟩ := Span.Math.over_plain ho
   omega
theorem any_left {b : Nat} {x : It} {e : Int} {h : Nat} {l r : Tr} {o m : Int} (hg : Good (.node b x e h l r)) (hs : Sorted (Tr.node b x e h l r).toL) (ho : good ⟨o, m, 0⟩ = true) (hr : l.reach o = true) (_hn : Span.Math.over x.o x.l o m = false) :
  ovL (Tr.node b x e h l r).toL o m = [] ↔ ovL l.toL o m = [] := by
 have hgi := good_item hg
 obtain ⟨g1, g2, g3, _⟩ := hg
 obtain ⟨y, hy, hyo⟩ := reach_yes g1 hr
 have hgy := good_item g1 y hy
 simp only [Tr.toL] at hs ⊢
 rw [ov_append]
 by_cases hov : Span.Math.over y.o y.l o m = true
 ·have := ov_mem hy hov
  constructor
  ·intro k
   exact (List.append_eq_nil_iff.1 k).1
  ·intro k
   rw [k] at this
   cases this
 ·have hye : o + m ≤ y.o := by
   rw [over_iff hgy ho] at hov
   simp at hov
   exact hov hyo
  rw [ov_none_high (A := x :: r.toL) (fun z hz => by
   have := ahead_off ((sorted_append.1 hs).2.2 y hy z hz)
   omega)]
  simp
theorem any_right {b : Nat} {x : It} {e : Int} {h : Nat} {l r : Tr} {o m : Int} (hg : Good (.node b x e h l r)) (hr : l.reach o = false) (hn : Span.Math.over x.o x.l o m = false) :
  ovL (Tr.node b x e h l r).toL o m = [] ↔ ovL r.toL o m = [] := by
 obtain ⟨g1, g2, g3, _⟩ := hg
 simp only [Tr.toL]
 rw [ov_append, ov_none_low (reach_no g1 hr), ov_cons, hn]
 simp
set_option maxRecDepth 100000 in
set_option maxHeartbeats 4000000 in
theorem iany_any (w : World) (p : Nat) (F : List Nat) (L : List It) (o l : Int) (h : TT w p F L) (hs : Sorted L) (hl : L.length ≤ 600) (_hx : (It.mk o l 0).Ok) :
  Calls Tryz.prog 120 #[.pointer (some ⟨p, 0, none⟩), .agg #[.int .i64 o, .int .i64 l]] w fun e w' => e = .returned (.bool (decide (0 < (ovL L o l).length))) ∧ Kept [] w w' := by
 obtain ⟨t, h1, h2, h3, -⟩ := h
 have kA := kept_alloc [] w (.cells #[.int .i64 o, .int .i64 l] 44)
 have bA := blk_new w 44 #[.int .i64 o, .int .i64 l]
 have hT := h1.kept kA (by simp)
 have qm := isMade_any p _ t _ hT
 have qh := fun W => hasSector_any ⟨o, l, 0⟩ W
 dsimp only at qh
 obtain ⟨W0, hW0⟩ : ∃ W0, w.alloc (.cells #[.int .i64 o, .int .i64 l] 44) = W0 := ⟨_, rfl⟩
 rw [hW0] at kA bA qm hT
 have c0 := (bA.cell 0).trans (show _ = some (Value.int .i64 o) from rfl)
 have c1 := (bA.cell 1).trans (show _ = some (Value.int .i64 l) from rfl)
 obtain ⟨D, hD⟩ : ∃ D, decide (0 < (ovL L o l).length) = D := ⟨_, rfl⟩
 rw [hD]
 replace h3 : Hid _ := h3
 cases hg : good ⟨o, l, 0⟩ with
 | false =>
  rw [hg] at qh
  have e1 : Hid (D = false) := (show _ = _ by rw [← hD, ov_bad hg]; rfl)
  clear hg hD
  go_enter Tryz.func120, Tryz.ntmps120
  go_wp2
  go_step3
  go_wp2_with (first
   | (go_at_call 176; refine qm.mono ?_; rintro e W0 ⟨rfl, rfl⟩)
   | (go_at_call 177; refine (qh _).mono ?_; rintro e w2 ⟨rfl, k2⟩))
  rw [Exit.noGoto_ret]
  go_ret
  exact ⟨by rw [e1.out]; rfl, kA.trans k2⟩
 | true =>
  rw [hg] at qh
  replace hD : Hid _ := hD
  replace hg : Hid _ := hg
  have hbl : Hid (t.blks.length < 601) := (show _ < _ by rw [← toL_length, h3.out]; omega)
  go_enter Tryz.func120, Tryz.ntmps120
  go_wp2
  go_step3
  go_wp2_with (first
   | (go_at_call 176; refine qm.mono ?_; rintro e W0 ⟨rfl, rfl⟩)
   | (go_at_call 177; refine (qh _).mono ?_; rintro e w2 ⟨rfl, k2⟩; have b2 := bA.kept k2 (by simp); have hT2 := hT.kept k2 (by simp); have cp := (hT2.blk.cell 1).trans (show _ = some t.ptr from rfl)))
  go_step3
  go_wp2
  go_loopg [5] 601 (fun k v wr => ∃ u, v = u.ptr ∧ Good u ∧ TrAt w2 u ∧ Hid (Sorted u.toL) ∧ Hid (ovL L o l = [] ↔ ovL u.toL o l = []) ∧ Hid (u.blks.length < k) ∧ Kept [] w2 wr)
  case atStart => exact ⟨t, rfl, h2, hT2.nodes, h3.out ▸ hs, (show _ ↔ _ by rw [h3.out]), hbl, Kept.refl _ _⟩
  case round =>
   obtain ⟨u, rfl, hgu, hau, hsu, hiff, hgk, hkr⟩ := hrel
   cases u with
   | nil =>
    have e1 : Hid (D = false) := (show _ = _ by
     have : ovL L o l = [] := hiff.out.2 rfl
     rw [← hD.out, this]
     rfl)
    rw [ptr_nil]
    go_wp2
    rw [Exit.noGoto_ret]
    go_ret
    exact ⟨by rw [e1.out]; rfl, (kA.trans k2).trans hkr⟩
   | node b x ee hh ul ur =>
    have haw := hau.kept hkr (by simp)
    obtain ⟨hab, hal, har⟩ := haw
    rw [ptr_node]
    have hS : ∀ W, Kept [] wr W → (W.cell? ⟨w.heap.size, 0, none⟩ = some (.int .i64 o) ∧ W.cell? ⟨w.heap.size, 1, none⟩ = some (.int .i64 l)) ∧ (W.cell? ⟨b, 0, none⟩ = some (.int .i64 x.o) ∧ W.cell? ⟨b, 1, none⟩ = some (.int .i64 x.l)) ∧ W.cell? ⟨b, 3, none⟩ = some ul.ptr ∧ W.cell? ⟨b, 4, none⟩ = some ur.ptr := fun W hk =>
     have b3 := (b2.kept hkr (by simp)).kept hk (by simp)
     have cc := nd_cells (hab.kept hk (by simp))
     ⟨⟨(b3.cell 0).trans rfl, (b3.cell 1).trans rfl⟩, ⟨cc.1.1, cc.1.2.1⟩, cc.2.1, cc.2.2.1⟩
    have qO := fun W => Span.overlap_any x.o x.l o l W
    have hkd := kept_drew [] wr
    cases hov : Span.Math.over x.o x.l o l with
    | true =>
     rw [hov] at qO
     have e1 : Hid (D = true) := (show _ = _ by
      rw [← hD.out]
      simp only [decide_eq_true_iff]
      rcases Nat.eq_zero_or_pos (ovL L o l).length with e0 | e0
      ·have h4 := hiff.out.1 (List.eq_nil_of_length_eq_zero e0)
       have h5 : x.i ∈ ovL (Tr.node b x ee hh ul ur).toL o l := ov_mem (by simp [Tr.toL]) hov
       rw [h4] at h5
       cases h5
      ·exact e0)
     clear hov
     go_wp2
     go_region_held3 (fun W => (W.cell? ⟨w.heap.size, 0, none⟩ = some (.int .i64 o) ∧ W.cell? ⟨w.heap.size, 1, none⟩ = some (.int .i64 l)) ∧ (W.cell? ⟨b, 0, none⟩ = some (.int .i64 x.o) ∧ W.cell? ⟨b, 1, none⟩ = some (.int .i64 x.l)) ∧ W.cell? ⟨b, 3, none⟩ = some ul.ptr ∧ W.cell? ⟨b, 4, none⟩ = some ur.ptr) (exact hS _ hkd) (first
      | (go_at_call 178; refine (qO _).mono ?_; rintro e5 w5 ⟨rfl, hB5⟩; replace hkd := hkd.trans (Kept.of_below hB5 [])))
     go_wp2
     rw [Exit.noGoto_ret]
     go_ret
     exact ⟨by rw [e1.out]; rfl, ((kA.trans k2).trans hkr).trans hkd⟩
    | false =>
     rw [hov] at qO
     cases hre : ul.reach o with
     | true =>
      have hiff2 : Hid (ovL L o l = [] ↔ ovL ul.toL o l = []) := (show _ ↔ _ from hiff.out.trans (any_left hgu hsu.out hg.out hre hov))
      have hsu2 : Hid (Sorted ul.toL) := (show Sorted _ from (sorted_append.1 hsu.out).1)
      have hgk2 : Hid (ul.blks.length + 1 < gk) := (show _ < _ by have := hgk.out; simp only [Tr.blks, List.length_cons, List.length_append] at this; omega)
      have hgc : Good ul := hgu.1
      have hac : TrAt w2 ul := hau.2.1
      have qR := fun W (hk : Kept [] wr W) => reaches_any ul o W (hal.kept hk (by simp))
      rw [hre] at qR
      clear hov hre
      go_wp2
      go_region_held3 (fun W => (W.cell? ⟨w.heap.size, 0, none⟩ = some (.int .i64 o) ∧ W.cell? ⟨w.heap.size, 1, none⟩ = some (.int .i64 l)) ∧ (W.cell? ⟨b, 0, none⟩ = some (.int .i64 x.o) ∧ W.cell? ⟨b, 1, none⟩ = some (.int .i64 x.l)) ∧ W.cell? ⟨b, 3, none⟩ = some ul.ptr ∧ W.cell? ⟨b, 4, none⟩ = some ur.ptr) (exact hS _ hkd) (first
       | (go_at_call 178; refine (qO _).mono ?_; rintro e5 w5 ⟨rfl, hB5⟩; replace hkd := hkd.trans (Kept.of_below hB5 [])))
      go_wp2
      obtain ⟨⟨s0, s1⟩, ⟨s2, s3⟩, s4, s5⟩ := hS _ hkd
      go_quiet (first | (go_at_call 179; exact Calls.quiet_of_same (qR _ (hkd.trans (kept_drewN [] _ _)))))
      replace hkd := hkd.trans (kept_drewN [] _ nq)
      obtain ⟨⟨z0, z1⟩, ⟨z2, z3⟩, z4, z5⟩ := hS _ hkd
      go_wp2
      go_roundg (ul.blks.length + 1)
      case measure => exact hgk2.out
      case rel => exact ⟨ul, rfl, hgc, hac, hsu2, hiff2, Nat.lt_succ_self _, hkr.trans hkd⟩
     | false =>
      have hiff2 : Hid (ovL L o l = [] ↔ ovL ur.toL o l = []) := (show _ ↔ _ from hiff.out.trans (any_right hgu hre hov))
      have hsu2 : Hid (Sorted ur.toL) := (show Sorted _ from (sorted_cons.1 (sorted_append.1 hsu.out).2.1).2)
      have hgk2 : Hid (ur.blks.length + 1 < gk) := (show _ < _ by have := hgk.out; simp only [Tr.blks, List.length_cons, List.length_append] at this; omega)
      have hgc : Good ur := hgu.2.1
      have hac : TrAt w2 ur := hau.2.2
      have qR := fun W (hk : Kept [] wr W) => reaches_any ul o W (hal.kept hk (by simp))
      rw [hre] at qR
      clear hov hre
      go_wp2
      go_region_held3 (fun W => (W.cell? ⟨w.heap.size, 0, none⟩ = some (.int .i64 o) ∧ W.cell? ⟨w.heap.size, 1, none⟩ = some (.int .i64 l)) ∧ (W.cell? ⟨b, 0, none⟩ = some (.int .i64 x.o) ∧ W.cell? ⟨b, 1, none⟩ = some (.int .i64 x.l)) ∧ W.cell? ⟨b, 3, none⟩ = some ul.ptr ∧ W.cell? ⟨b, 4, none⟩ = some ur.ptr) (exact hS _ hkd) (first
       | (go_at_call 178; refine (qO _).mono ?_; rintro e5 w5 ⟨rfl, hB5⟩; replace hkd := hkd.trans (Kept.of_below hB5 [])))
      go_wp2
      obtain ⟨⟨s0, s1⟩, ⟨s2, s3⟩, s4, s5⟩ := hS _ hkd
      go_quiet (first | (go_at_call 179; exact Calls.quiet_of_same (qR _ (hkd.trans (kept_drewN [] _ _)))))
      replace hkd := hkd.trans (kept_drewN [] _ nq)
      obtain ⟨⟨z0, z1⟩, ⟨z2, z3⟩, z4, z5⟩ := hS _ hkd
      go_wp2
      go_roundg (ur.blks.length + 1)
      case measure => exact hgk2.out
      case rel => exact ⟨ur, rfl, hgc, hac, hsu2, hiff2, Nat.lt_succ_self _, hkr.trans hkd⟩
end Go.Proofs.YtoaeficfmcncjaaGreat.Itree
namespace Go.Proofs.YtoaeficfmcncjaaGreat.Flight
open Go.RowKit Go.Maps Go.Sort
open Table (Rising ins del tks)
def rdr : Value → Option (DataW Value × List MemPlace) := fun v => some (.held v, [])
def Has (W : World) (lo hi : Nat) (D : DataW Value) (L : List (Int × Fw)) : Prop :=
 ∀ k : Int, (Lit.int .i64 k).wf = true → Maps.has D (kl k) = (Table.look L k).isSome ∧ ∀ r, Table.look L k = some r → ∃ x : Fv, x.t = k ∧ x.fw = r ∧ x.At lo hi W ∧ ∀ z, D.atKey (kl k) z = .held x.val
def Holds (W : World) (lo hi b : Nat) (L : List (Int × Fw)) : Prop := ∃ n D, W.ownsMap Tryz.prog 225 rdr b n D ∧ Has W lo hi D L
structure Fit (L : List (Int × Fw)) : Prop where
 low : ∀ x ∈ L, 1 ≤ x.1 ∧ x.1 ≤ 9223372036854775807
 short : ∀ x ∈ L, x.2.bs.length ≤ 140737488351232
theorem fit_nil : Fit [] := ⟨by simp, by simp⟩
theorem Fit.add {L : List (Int × Fw)} (h : Fit L) {t o l : Int} {bs : List Nat} (h1 : t ≤ 9223372036854775807) (hb : bs.length ≤ 140737488351232) : Fit (addL L t o l bs) := by
 unfold addL
 split
 ·rename_i ha
  have := (of_addOk ha).1
  refine ⟨fun x hx => ?_, fun x hx => ?_⟩ <;> rcases Table.mem_ins hx with e | e
  ·subst e
   exact ⟨this, h1⟩
  ·exact h.low x e
  ·subst e
   exact hb
  ·exact h.short x e
 ·exact h
theorem Fit.turn {L : List (Int × Fw)} (h : Fit L) (t s : Int) : Fit (turnL L t s) := by
 unfold turnL
 split
 ·refine ⟨fun x hx => ?_, fun x hx => ?_⟩ <;> obtain ⟨y, hy, rfl⟩ := List.mem_map.1 hx <;> split
  ·exact h.low y hy
  ·exact h.low y hy
  ·exact h.short y hy
  ·exact h.short y hy
 ·exact h
theorem Fit.endd {L : List (Int × Fw)} (h : Fit L) (t : Int) : Fit (endL L t) := by
 unfold endL
 split
 ·exact ⟨fun x hx => h.low x (Table.mem_del hx), fun x hx => h.short x (Table.mem_del hx)⟩
 ·exact h
set_option maxRecDepth 100000 in
theorem zeroW (w : World) : (zeroValue 94).run Tryz.prog w = .ok fv0.val w := by kernel_rfl
set_option maxRecDepth 100000 in
theorem key_entries {W : World} {b n : Nat} {D : DataW Value} (hown : W.ownsMap Tryz.prog 225 rdr b n D) : ∃ es, D = .map es ∧ es.Pairwise (fun p q => p.1 ≠ q.1) ∧ ∀ p ∈ es, ∃ x : Int, p.1 = kl x ∧ (Lit.int .i64 x).wf = true := by
 obtain ⟨es, hD, hpw, _⟩ := hown.entries keyedK
 obtain ⟨es', hD', hko⟩ := hown.keysOf
 obtain rfl : es = es' := by rw [hD] at hD'; simpa using hD'
 exact ⟨es, hD, hpw, fun p hp => by obtain ⟨v, hv⟩ := hko p hp; obtain ⟨x, _, hx, hw⟩ := keyOf_inv hv; exact ⟨x, hx, hw⟩⟩
theorem Holds.lt {W : World} {lo hi b : Nat} {L : List (Int × Fw)} (h : Holds W lo hi b L) : b < W.heap.size := by
 obtain ⟨n, D, h, _⟩ := h
 exact h.lt
theorem Holds.isMap {W : World} {lo hi b : Nat} {L : List (Int × Fw)} (h : Holds W lo hi b L) : ∃ es clock, W.heap[b]? = some (.map es clock) := by
 obtain ⟨n, D, ⟨es, clock, h, _⟩, _⟩ := h
 exact ⟨es, clock, h⟩
theorem Holds.off {W : World} {lo hi b : Nat} {L : List (Int × Fw)} (h : Holds W lo hi b L) (lo' hi' : Nat) : Off lo' hi' W b := .inr (.inr fun cur hc => by
 obtain ⟨es, clock, h⟩ := h.isMap
 unfold Blk at hc
 rw [hc] at h
 cases h)
theorem Has.kept {K : List Nat} {A B : World} {lo hi : Nat} {D : DataW Value} {L : List (Int × Fw)} (h : Has A lo hi D L) (hK : Kept K A B) (hL : ∀ k ∈ K, Off lo hi A k) : Has B lo hi D L := fun k hw => ⟨(h k hw).1, fun r hr => by
 obtain ⟨x, ht, hx, ha, hz⟩ := (h k hw).2 r hr
 exact ⟨x, ht, hx, ha.kept hK hL, hz⟩⟩
theorem Has.mono {W : World} {lo hi lo' hi' : Nat} {D : DataW Value} {L : List (Int × Fw)} (h : Has W lo hi D L) (h1 : lo' ≤ lo) (h2 : hi ≤ hi') : Has W lo' hi' D L := fun k hw => ⟨(h k hw).1, fun r hr => by
 obtain ⟨x, ht, hx, ha, hz⟩ := (h k hw).2 r hr
 exact ⟨x, ht, hx, ha.mono h1 h2, hz⟩⟩
theorem Holds.kept {K : List Nat} {A B : World} {lo hi b : Nat} {L : List (Int × Fw)} (h : Holds A lo hi b L) (hK : Kept K A B) (hb : b ∉ K) (hL : ∀ k ∈ K, Off lo hi A k) : Holds B lo hi b L := by
 have hlt := h.lt
 obtain ⟨n, D, ⟨es, clock, h1, h2⟩, h3⟩ := h
 exact ⟨n, D, ⟨es, clock, (hK.block b hlt hb).trans h1, h2⟩, h3.kept hK hL⟩
theorem Holds.mono {W : World} {lo hi lo' hi' b : Nat} {L : List (Int × Fw)} (h : Holds W lo hi b L) (h1 : lo' ≤ lo) (h2 : hi ≤ hi') : Holds W lo' hi' b L := by
 obtain ⟨n, D, h0, h3⟩ := h
 exact ⟨n, D, h0, h3.mono h1 h2⟩
section
set_option maxRecDepth 100000
theorem holds_made (lo hi : Nat) (w : World) : Holds (w.alloc (.map #[] 0)) lo hi w.heap.size [] :=
 ⟨0, .map [], World.ownsMap_made w Tryz.prog 225 rdr, fun k _ => ⟨rfl, fun _ h => by cases h⟩⟩
theorem keys_perm {W : World} {lo hi b n : Nat} {D : DataW Value} {L : List (Int × Fw)} (hown : W.ownsMap Tryz.prog 225 rdr b n D) (hr : Rising L) (hf : Fit L) (hD : Has W lo hi D L) : ∃ es, D = .map es ∧ ((tks L).map kl).Perm (es.map (·.1)) := by
 obtain ⟨es, rfl, hp, hkey⟩ := key_entries hown
 refine ⟨es, rfl, (List.perm_ext_iff_of_nodup ?_ ?_).2 fun x => ?_⟩
 ·refine List.pairwise_map.2 ((Table.tks_nodup hr).imp_of_mem fun {a c} ha hc hne e => hne ?_)
  obtain ⟨u, hu, rfl⟩ := List.mem_map.1 ha
  obtain ⟨v, hv, rfl⟩ := List.mem_map.1 hc
  have h1 := hf.low u hu
  have h2 := hf.low v hv
  exact kl_inj (wf_i64 (by omega) (by omega)) (wf_i64 (by omega) (by omega)) e
 ·exact List.pairwise_map.2 hp
 ·constructor
  ·intro hx
   obtain ⟨k, hk, rfl⟩ := List.mem_map.1 hx
   obtain ⟨u, hu, rfl⟩ := List.mem_map.1 hk
   have h1 := hf.low u hu
   have hh := (hD u.1 (wf_i64 (by omega) (by omega))).1
   rw [Table.mem_tks.1 hk, has_eq, List.any_eq_true] at hh
   obtain ⟨p, hp, hs⟩ := hh
   exact List.mem_map.2 ⟨p, hp, WideAt.sameKey_eq hs⟩
  ·intro hx
   obtain ⟨p, hp', rfl⟩ := List.mem_map.1 hx
   obtain ⟨k, hk, hw⟩ := hkey p hp'
   have hh := (hD k hw).1
   have : Maps.has (.map es) (kl k) = true := by
    rw [has_eq, List.any_eq_true]
    exact ⟨p, hp', by rw [hk]; exact WideAt.sameKey_self (keyedK.key (keyOf_mk hw))⟩
   rw [this] at hh
   exact List.mem_map.2 ⟨k, Table.mem_tks.2 hh.symm, hk.symm⟩
theorem Holds.sized {W : World} {lo hi b : Nat} {L : List (Int × Fw)} (h : Holds W lo hi b L) (hr : Rising L) (hf : Fit L) :
  ∃ D, W.ownsMap Tryz.prog 225 rdr b L.length D ∧ Maps.size D = L.length ∧ Has W lo hi D L := by
 obtain ⟨n, D, hown, hD⟩ := h
 have hs : Maps.size D = L.length := by
  obtain ⟨es, rfl, hp⟩ := keys_perm hown hr hf hD
  have := hp.length_eq
  simp [tks] at this
  rw [this]
  rfl
 refine ⟨D, ?_, hs, hD⟩
 obtain ⟨es', clock, h1, h2, h3, h4⟩ := hown
 refine ⟨es', clock, h1, h2, ?_, h4⟩
 rw [← hs, h4]
 simp [Maps.size, length_sorted]
theorem Holds.seek {W : World} {lo hi b : Nat} {L : List (Int × Fw)} (h : Holds W lo hi b L) {k : Int} (h0 : -9223372036854775808 ≤ k) (h1 : k ≤ 9223372036854775807) :
  ∃ x : Fv, x.t = (if (Table.look L k).isSome then k else 0) ∧ x.fw = ((Table.look L k).getD fw0) ∧ x.At lo hi W ∧ (Instr.lookup 182 (.map (some b)) (.agg #[.int .i64 k]) true).run Tryz.prog W = .ok (.tuple #[x.val, .bool (Table.look L k).isSome]) W := by
 obtain ⟨n, D, hown, hD⟩ := h
 have hw := wf_i64 h0 h1
 obtain ⟨v2, ps2, hr2, hv2⟩ := hown.look_ok keyedK Tryz.underlying182 (zeroW W) (zd := .held fv0.val) (zp := []) rfl (keyOf_mk hw)
 obtain ⟨hh, ha⟩ := hD k hw
 obtain ⟨x, ht, hx, hA, hat⟩ : ∃ x : Fv, x.t = (if (Table.look L k).isSome then k else 0) ∧ x.fw = ((Table.look L k).getD fw0) ∧ x.At lo hi W ∧ D.atKey (kl k) (.held fv0.val) = .held x.val := by
  cases hm : Table.look L k with
  | none => rw [hm] at hh; exact ⟨fv0, rfl, rfl, fv0_at _ _ _, Maps.atKey_of_not_has hh _⟩
  | some r =>
   obtain ⟨x, ht, hx, hA, hz⟩ := ha r hm
   exact ⟨x, ht, hx, hA, hz _⟩
 rw [hat] at hv2
 simp only [rdr, Option.some.injEq, Prod.mk.injEq, DataW.held.injEq] at hv2
 obtain ⟨rfl, _⟩ := hv2
 rw [hh] at hr2
 exact ⟨x, ht, hx, hA, hr2⟩
theorem Holds.put_any {W : World} {lo hi b : Nat} {L L' : List (Int × Fw)} (h : Holds W lo hi b L) (hr : Rising L) (hf : Fit L) (hfew : L.length ≤ 1000) {k : Int} (h0 : -9223372036854775808 ≤ k) (h1 : k ≤ 9223372036854775807) (x : Fv) (hx : x.At lo hi W) (ht : x.t = k) (hL : ∀ j, Table.look L' j = if j = k then some x.fw else Table.look L j) :
  ∃ w', (Instr.mapUpdate 182 (.map (some b)) (.agg #[.int .i64 k]) x.val).run Tryz.prog W = .ok () w' ∧ Holds w' lo hi b L' ∧ Kept [b] W w' ∧ w'.heap.size = W.heap.size := by
 have hoff := h.off lo hi
 obtain ⟨D, hown, hs, hD⟩ := h.sized hr hf
 have hwf := wf_i64 h0 h1
 obtain ⟨w', hrun, ho, htu⟩ := hown.store keyedK Tryz.underlying182 (by unfold maxLen; omega) (keyOf_mk hwf) (val := x.val) (d := .held x.val) (ps := []) rfl
 have hK : Kept [b] W w' := Kept.of_grown htu.grown (by simp)
 have hKo : ∀ j ∈ [b], Off lo hi W j := fun j hj => by simp at hj; rw [hj]; exact hoff
 refine ⟨w', hrun, ⟨_, _, ho, fun j hj => ?_⟩, hK, ?_⟩
 ·rw [hL]
  by_cases e : j = k
  ·subst e
   rw [if_pos rfl]
   refine ⟨Maps.has_put_same hown.isMap (keyedK.key (keyOf_mk hwf)) _, fun r hr => ⟨x, ht, by simpa using hr, hx.kept hK hKo, fun z => ?_⟩⟩
   exact Maps.atKey_put_same hown.isMap (keyedK.key (keyOf_mk hwf)) _ _
  ·have hne : kl j ≠ kl k := fun e' => e (kl_inj hj hwf e')
   rw [if_neg e, Maps.has_put_other hne]
   refine ⟨(hD j hj).1, fun r hr => ?_⟩
   obtain ⟨y, hyt, hy, ha, hz⟩ := (hD j hj).2 r hr
   refine ⟨y, hyt, hy, ha.kept hK hKo, fun z => ?_⟩
   rw [Maps.atKey_put_other hne]
   exact hz z
 ·obtain ⟨_, _, _, _, _, rfl⟩ := htu
  simp [ChangeMaps.setBlock]
theorem Holds.strike {W : World} {lo hi b : Nat} {L : List (Int × Fw)} (h : Holds W lo hi b L) (hr : Rising L) {k : Int} (hk : (Table.look L k).isSome = true) (h0 : -9223372036854775808 ≤ k) (h1 : k ≤ 9223372036854775807) (ty : TypeId) :
  ∃ w', (Builtin.delete_ #[182, 225] ty #[.map (some b), .agg #[.int .i64 k]]).run Tryz.prog W = .ok (.tuple #[]) w' ∧ Holds w' lo hi b (del L k) ∧ Kept [b] W w' ∧ w'.heap.size = W.heap.size := by
 have hoff := h.off lo hi
 obtain ⟨n, D, hown, hD⟩ := h
 have hwf := wf_i64 h0 h1
 obtain ⟨w', hrun, ho, ht⟩ := hown.drop keyedK Tryz.underlying182 (keyOf_mk hwf) ty
 have hK : Kept [b] W w' := Kept.of_grown ht.grown (by simp)
 have hKo : ∀ j ∈ [b], Off lo hi W j := fun j hj => by simp at hj; rw [hj]; exact hoff
 refine ⟨w', hrun, ⟨_, _, ho, fun j hj => ?_⟩, hK, ?_⟩
 ·rw [Table.look_del hr hk]
  by_cases e : j = k
  ·subst e
   rw [if_pos rfl]
   exact ⟨Maps.has_del_same, fun r hr => by cases hr⟩
  ·have hne : kl j ≠ kl k := fun e' => e (kl_inj hj hwf e')
   rw [if_neg e, Maps.has_del_other hne]
   refine ⟨(hD j hj).1, fun r hr => ?_⟩
   obtain ⟨y, hyt, hy, ha, hz⟩ := (hD j hj).2 r hr
   refine ⟨y, hyt, hy, ha.kept hK hKo, fun z => ?_⟩
   rw [Maps.atKey_del_other hne]
   exact hz z
 ·obtain ⟨_, _, _, _, _, rfl⟩ := ht
  simp [ChangeMaps.setBlock]
end
theorem tr_off {W : World} (lo hi : Nat) : ∀ {t : Itree.Tr}, Itree.TrAt W t → ∀ k ∈ t.blks, Off lo hi W k
 | .nil, _, _, hk => by cases hk
 | .node b x e h l r, ⟨h1, h2, h3⟩, k, hk => by
  simp only [Itree.Tr.blks, List.mem_cons, List.mem_append] at hk
  rcases hk with rfl | hk | hk
  ·exact off_blk h1 (by decide)
  ·exact tr_off lo hi h2 k hk
  ·exact tr_off lo hi h3 k hk
theorem tt_off {W : World} {p : Nat} {F : List Nat} {M : List Itree.It} (h : Itree.TT W p F M) (lo hi : Nat) : ∀ k ∈ F, Off lo hi W k := by
 obtain ⟨t, h1, _, _, rfl⟩ := h
 intro k hk
 rcases List.mem_cons.1 hk with rfl | hk
 ·exact off_blk h1.blk (by decide)
 ·exact tr_off lo hi h1.nodes k hk
structure FlAt (W : World) (lo hi f b p : Nat) (F : List Nat) (L : List (Int × Fw)) : Prop where
 blk : Blk W f 186 #[.pointer (some ⟨p, 0, none⟩), .map (some b)]
 map : Holds W lo hi b L
 tree : ∃ M, Itree.TT W p F M ∧ Tree M L ∧ M.length = L.length
 good : Good L
 fit : Fit L
 fF : f ∉ F
 bF : b ∉ F
 young : lo ≤ f ∧ lo ≤ b ∧ ∀ k ∈ F, lo ≤ k
 hih : hi ≤ W.heap.size
theorem FlAt.ne {W : World} {lo hi f b p : Nat} {F : List Nat} {L : List (Int × Fw)} (h : FlAt W lo hi f b p F L) : b ≠ f := fun e => by
 obtain ⟨es, clock, h2⟩ := h.map.isMap
 rw [e, h.blk] at h2
 cases h2
theorem FlAt.kept {K : List Nat} {A B : World} {lo hi f b p : Nat} {F : List Nat} {L : List (Int × Fw)} (h : FlAt A lo hi f b p F L) (hK : Kept K A B) (h1 : f ∉ K) (h2 : b ∉ K) (h3 : ∀ k ∈ F, k ∉ K) (hL : ∀ k ∈ K, Off lo hi A k) : FlAt B lo hi f b p F L := by
 obtain ⟨M, t1, t2, t3⟩ := h.tree
 exact ⟨h.blk.kept hK h1, h.map.kept hK h2 hL, ⟨M, t1.kept hK h3, t2, t3⟩, h.good, h.fit, h.fF, h.bF, h.young, Nat.le_trans h.hih hK.size⟩
theorem FlAt.kept0 {A B : World} {lo hi f b p : Nat} {F : List Nat} {L : List (Int × Fw)} (h : FlAt A lo hi f b p F L) (hK : Kept [] A B) : FlAt B lo hi f b p F L := h.kept hK (by simp) (by simp) (by simp) (by simp)
theorem FlAt.two {W : World} {lo hi f b p : Nat} {F : List Nat} {L : List (Int × Fw)} (h : FlAt W lo hi f b p F L) : W.cell? ⟨f, 0, none⟩ = some (.pointer (some ⟨p, 0, none⟩)) ∧ W.cell? ⟨f, 1, none⟩ = some (.map (some b)) := ⟨h.blk.cell 0, h.blk.cell 1⟩
theorem FlAt.off {W : World} {lo hi f b p : Nat} {F : List Nat} {L : List (Int × Fw)} (h : FlAt W lo hi f b p F L) (lo' hi' : Nat) : ∀ k ∈ f :: b :: F, Off lo' hi' W k := fun k hk => by
 obtain ⟨M, t1, _, _⟩ := h.tree
 rcases List.mem_cons.1 hk with rfl | hk
 ·exact off_blk h.blk (by decide)
 ·rcases List.mem_cons.1 hk with rfl | hk
  ·exact h.map.off _ _
  ·exact tt_off t1 _ _ k hk
end Go.Proofs.YtoaeficfmcncjaaGreat.Flight
namespace Go.Proofs.YtoaeficfmcncjaaGreat.Flight
open Go.RowKit Go.Maps Go.Sort
open Table (Rising ins del tks)
section
set_option maxRecDepth 100000
theorem new_any (w : World) : Calls Tryz.prog 44 #[] w fun e w' => ∃ f b p F, e = .returned (.pointer (some ⟨f, 0, none⟩)) ∧ FlAt w' w.heap.size w'.heap.size f b p F [] ∧ Kept [] w w' := by
 have hmm := @run_makeMap Tryz.prog
 have q := Itree.inew_any w
 go_enter Tryz.func44, Tryz.ntmps44
 go_wp2_with (go_at_call 93; refine q.mono ?_; rintro e w1 ⟨p, F, rfl, hT, hF, hk1⟩)
 go_ret
 have ka := kept_alloc [] w1 (.map #[] 0)
 have kb := kept_alloc [] (w1.alloc (.map #[] 0)) (.cells #[.pointer (some ⟨p, 0, none⟩), .map (some w1.heap.size)] 186)
 have hlt := hT.lt
 have hs := hk1.size
 have hb := blk_new (w1.alloc (.map #[] 0)) 186 #[.pointer (some ⟨p, 0, none⟩), .map (some w1.heap.size)]
 rw [World.size_alloc] at hb
 refine ⟨w1.heap.size + 1, w1.heap.size, p, F, by simp, ⟨hb, (holds_made _ _ w1).kept kb (by simp) (by simp), ⟨[], (hT.kept ka (by simp)).kept kb (by simp), tree_nil, rfl⟩, good_nil, fit_nil, fun hm => ?_, fun hm => ?_, ⟨by omega, by omega, hF⟩, Nat.le_refl _⟩, (hk1.trans ka).trans kb⟩
 ·have := hlt _ hm
  omega
 ·have := hlt _ hm
  omega
theorem made_any {lo hi f b p : Nat} {F : List Nat} {L : List (Int × Fw)} (w : World) (h : FlAt w lo hi f b p F L) :
  Calls Tryz.prog 119 #[.pointer (some ⟨f, 0, none⟩)] w fun e w' => e = .returned (.bool true) ∧ w' = w := by
 have c1 := h.two.2
 have qn : ∀ (w : World) (r : Option Nat), (binOp .neq 182 (.map r) (.map none)).run Tryz.prog w = .ok (.bool (!r.isNone)) w := fun w r => run_neq_map_nil w _ _ _ r Tryz.underlying182
 go_enter Tryz.func119, Tryz.ntmps119
 go_wp2
 go_ret
 exact ⟨rfl, rfl⟩
theorem isState_any (s : Int) (w : World) : Calls Tryz.prog 148 #[.int .i64 s] w fun e w' => e = .returned (.bool (decide (0 ≤ s ∧ s ≤ 2))) ∧ w' = w := by
 go_enter Tryz.func148, Tryz.ntmps148
 go_wp2
 all_goals (go_ret; refine ⟨congrArg (fun b => Ending.returned (.bool b)) (Bool.eq_iff_iff.2 ?_), rfl⟩; simp; omega)
theorem results_write {fn : Func} {p u : Tmp} (h : fn.results = #[.cell p 94, .tmp u]) (tmps : Array Value) (w : World) (g : Nat) (cs : List Value) (hp : tmps.getD p undef = .pointer (some ⟨g, 0, none⟩)) (hg : Blk w g 94 cs.toArray) (hl : cs.length = 5) :
  (results fn tmps).run Tryz.prog w = .ok (.tuple #[.agg cs.toArray, tmps.getD u undef]) w := by
 have hl := run_loadVar_row (P := Tryz.prog) w g 94 94 cs.toArray (0, 0) _ hg Tryz.underlying94 (by rfl) (by rw [List.size_toArray, hl]; exact Tryz.sizeW)
 rw [results_cell_tmp h, hp]
 simp [asAddr, hl, Result.andThen]
end
def Found (L : List (Int × Fw)) (k : Int) (x : Fv) : Prop := x.t = (if (Table.look L k).isSome then k else 0) ∧ x.fw = (Table.look L k).getD fw0
set_option maxRecDepth 100000 in
set_option maxHeartbeats 1000000 in
theorem find_any {lo hi f b p : Nat} {F : List Nat} {L : List (Int × Fw)} (k : Int) (h0 : -9223372036854775808 ≤ k) (h1 : k ≤ 9223372036854775807) (w : World) (h : FlAt w lo hi f b p F L) :
  Calls Tryz.prog 147 #[.pointer (some ⟨f, 0, none⟩), .int .i64 k] w fun e w' => ∃ x : Fv, e = .returned (.tuple #[x.val, .bool (Table.look L k).isSome]) ∧ Found L k x ∧ x.At lo hi w' ∧ Kept [] w w' := by
 have ka := kept_alloc [] w (.cells #[.int .i64 0, .int .i64 0, .int .i64 0, .slice none 0 0, .int .i64 0] 94)
 have hb0 := blk_new w 94 #[.int .i64 0, .int .i64 0, .int .i64 0, .slice none 0 0, .int .i64 0]
 have hT := h.kept0 ka
 have q := made_any _ hT
 have c1 := hT.two.2
 obtain ⟨x, hxt, hx, hxA, hl⟩ := hT.map.seek h0 h1
 have hfd : Found L k x := ⟨hxt, hx⟩
 clear hxt hx
 obtain ⟨ok, hok⟩ : ∃ ok, (Table.look L k).isSome = ok := ⟨_, rfl⟩
 rw [hok] at hl ⊢
 clear hok
 unfold Fv.val at hl
 have kb := kept_alloc [] (w.alloc (.cells #[.int .i64 0, .int .i64 0, .int .i64 0, .slice none 0 0, .int .i64 0] 94)) (.cells #[.int .i64 0, .int .i64 0, .int .i64 0, .slice none 0 0, .int .i64 0] 94)
 have hb1 := blk_new (w.alloc (.cells #[.int .i64 0, .int .i64 0, .int .i64 0, .slice none 0 0, .int .i64 0] 94)) 94 #[.int .i64 0, .int .i64 0, .int .i64 0, .slice none 0 0, .int .i64 0]
 rw [show (w.alloc (.cells #[.int .i64 0, .int .i64 0, .int .i64 0, .slice none 0 0, .int .i64 0] 94)).heap.size = w.heap.size + 1 by simp] at hb1
 have hb01 := hb0.kept kb (by simp)
 go_enter Tryz.func147, Tryz.ntmps147
 go_wp2_with (first
  | (go_at_call 119; refine q.mono ?_; rintro e w1 ⟨rfl, rfl⟩)
  | (refine wpList_store_blk rfl 94 _ _ rfl (w.heap.size + 1) 94 _ [.int .i64 x.t, .int .i64 x.o, .int .i64 x.l, .slice x.sa x.len x.cap, .int .i64 x.st] rfl rfl hb1 rfl Tryz.sizeW (by simp [Value.oneCell']) ?_; intro w2 hb2 hk2 hz2; have hb1' := hb1; clear hb1; have hb02 := hb01.kept hk2 (by simp); have d0 : w2.cell? ⟨w.heap.size + 1, 0, none⟩ = some (.int .i64 x.t) := (hb2.cell 0).trans rfl; have d1 : w2.cell? ⟨w.heap.size + 1, 1, none⟩ = some (.int .i64 x.o) := (hb2.cell 1).trans rfl; have d2 : w2.cell? ⟨w.heap.size + 1, 2, none⟩ = some (.int .i64 x.l) := (hb2.cell 2).trans rfl; have d3 : w2.cell? ⟨w.heap.size + 1, 3, none⟩ = some (.slice x.sa x.len x.cap) := (hb2.cell 3).trans rfl; have d4 : w2.cell? ⟨w.heap.size + 1, 4, none⟩ = some (.int .i64 x.st) := (hb2.cell 4).trans rfl)
  | (refine wpList_store_blk rfl 94 _ _ rfl w.heap.size 94 _ [.int .i64 x.t, .int .i64 x.o, .int .i64 x.l, .slice x.sa x.len x.cap, .int .i64 x.st] rfl rfl hb02 rfl Tryz.sizeW (by simp [Value.oneCell']) ?_; intro w3 hb3 hk3 hz3))
 refine bodyPost_ret (results_write rfl _ _ w.heap.size _ rfl hb3 rfl) rfl ⟨x, rfl, hfd, ((hxA.kept0 kb).kept hk2 (by simp; exact off_blk hb1' (by decide))).kept hk3 (by simp; exact off_blk hb02 (by decide)), ?_⟩
 exact (((ka.trans kb).young hk2 (by omega)).young hk3 (Nat.le_refl _))
end Go.Proofs.YtoaeficfmcncjaaGreat.Flight
namespace Go.Proofs.YtoaeficfmcncjaaGreat.Flight
open Go.RowKit Go.Maps Go.Sort
open Table (Rising ins del tks)
section
set_option maxRecDepth 100000
set_option maxHeartbeats 1000000 in
theorem has_any {lo hi f b p : Nat} {F : List Nat} {L : List (Int × Fw)} (k : Int) (h0 : -9223372036854775808 ≤ k) (h1 : k ≤ 9223372036854775807) (w : World) (h : FlAt w lo hi f b p F L) :
  Calls Tryz.prog 135 #[.pointer (some ⟨f, 0, none⟩), .int .i64 k] w fun e w' => e = .returned (.bool (Table.look L k).isSome) ∧ Kept [] w w' := by
 have q := find_any k h0 h1 w h
 obtain ⟨ok, hok⟩ : ∃ ok, (Table.look L k).isSome = ok := ⟨_, rfl⟩
 rw [hok] at q ⊢
 clear hok
 unfold Fv.val at q
 go_enter Tryz.func135, Tryz.ntmps135
 go_wp2_with (first
  | (go_at_call 147; refine q.mono ?_; rintro e w1 ⟨x, rfl, hfd, hxA, hk1⟩; have hb1 := blk_new w1 94 #[.int .i64 0, .int .i64 0, .int .i64 0, .slice none 0 0, .int .i64 0]; have ka := kept_alloc [] w1 (.cells #[.int .i64 0, .int .i64 0, .int .i64 0, .slice none 0 0, .int .i64 0] 94))
  | (refine wpList_store_blk rfl 94 _ _ rfl w1.heap.size 94 _ [.int .i64 x.t, .int .i64 x.o, .int .i64 x.l, .slice x.sa x.len x.cap, .int .i64 x.st] rfl rfl hb1 rfl Tryz.sizeW (by simp [Value.oneCell']) ?_; intro w2 hb2 hk2 hz2))
 go_ret
 exact ⟨rfl, (hk1.trans ka).young hk2 hk1.size⟩
set_option maxHeartbeats 1000000 in
theorem get_any {lo hi f b p : Nat} {F : List Nat} {L : List (Int × Fw)} (k : Int) (h0 : -9223372036854775808 ≤ k) (h1 : k ≤ 9223372036854775807) (w : World) (h : FlAt w lo hi f b p F L) :
  Calls Tryz.prog 125 #[.pointer (some ⟨f, 0, none⟩), .int .i64 k] w fun e w' => ∃ y : Fv, e = .returned (.tuple #[y.val, .bool (Table.look L k).isSome]) ∧ Found L k y ∧ y.At w.heap.size w'.heap.size w' ∧ Kept [] w w' := by
 have ka := kept_alloc [] w (.cells #[.int .i64 0, .int .i64 0, .int .i64 0, .slice none 0 0, .int .i64 0] 94)
 have hb0 := blk_new w 94 #[.int .i64 0, .int .i64 0, .int .i64 0, .slice none 0 0, .int .i64 0]
 have hT := h.kept0 ka
 have q := find_any k h0 h1 _ hT
 have hlen : Hid (∀ x : Fv, Found L k x → x.bs.length ≤ 140737488351232) := fun x hx => by
  have e : x.bs = ((Table.look L k).getD fw0).bs := congrArg Fw.bs hx.2
  rw [e]
  cases hl : Table.look L k with
  | none => simp [fw0]
  | some r => exact h.fit.short _ (Table.look_mem hl)
 obtain ⟨ok, hok⟩ : ∃ ok, (Table.look L k).isSome = ok := ⟨_, rfl⟩
 rw [hok] at q ⊢
 clear hok
 unfold Fv.val at q
 go_enter Tryz.func125, Tryz.ntmps125
 go_wp2_with (first
  | (go_at_call 147; refine q.mono ?_; rintro e w1 ⟨x, rfl, hfd, hxA, hk1⟩; have hb01 := hb0.kept hk1 (by simp); have hh1 := (hT.kept0 hk1).hih; have hb1 := blk_new w1 94 #[.int .i64 0, .int .i64 0, .int .i64 0, .slice none 0 0, .int .i64 0]; have kb := kept_alloc [] w1 (.cells #[.int .i64 0, .int .i64 0, .int .i64 0, .slice none 0 0, .int .i64 0] 94); have hb02 := hb01.kept kb (by simp); have hxB := hxA.kept0 kb)
  | (refine wpList_store_blk rfl 94 _ _ rfl w1.heap.size 94 _ [.int .i64 x.t, .int .i64 x.o, .int .i64 x.l, .slice x.sa x.len x.cap, .int .i64 x.st] rfl rfl hb1 rfl Tryz.sizeW (by simp [Value.oneCell']) ?_; intro w2 hb2 hk2 hz2; have hne : w.heap.size ∉ [w1.heap.size] := (by have := hb01.lt; simp; omega); have hb03 := hb02.kept hk2 hne; have hxC := hxB.kept hk2 (by simp; exact off_blk hb1 (by decide)); have qa := apart_any x hi w2 hxC.in (Nat.le_trans hh1 (Nat.le_trans kb.size hk2.size)) (hlen.out x hfd); unfold Fv.val at qa; clear hb1 hb01 hb02; have d0 : w2.cell? ⟨w1.heap.size, 0, none⟩ = some (.int .i64 x.t) := (hb2.cell 0).trans rfl; have d1 : w2.cell? ⟨w1.heap.size, 1, none⟩ = some (.int .i64 x.o) := (hb2.cell 1).trans rfl; have d2 : w2.cell? ⟨w1.heap.size, 2, none⟩ = some (.int .i64 x.l) := (hb2.cell 2).trans rfl; have d3 : w2.cell? ⟨w1.heap.size, 3, none⟩ = some (.slice x.sa x.len x.cap) := (hb2.cell 3).trans rfl; have d4 : w2.cell? ⟨w1.heap.size, 4, none⟩ = some (.int .i64 x.st) := (hb2.cell 4).trans rfl)
  | (go_at_call 117; refine qa.mono ?_; rintro e w3 ⟨y, rfl, hyt, hyw, hyA, hk3⟩; replace hyt : Hid _ := hyt; replace hyw : Hid _ := hyw; have hb04 := hb03.kept hk3 (by simp))
  | (refine wpList_store_blk rfl 94 _ _ rfl w.heap.size 94 _ [.int .i64 y.t, .int .i64 y.o, .int .i64 y.l, .slice y.sa y.len y.cap, .int .i64 y.st] rfl rfl hb04 rfl Tryz.sizeW (by simp [Value.oneCell']) ?_; intro w4 hb4 hk4 hz4))
 have z1 := hk1.size
 have z3 := hk2.size
 simp at z1 z3
 refine bodyPost_ret (results_write rfl _ _ w.heap.size _ rfl hb4 rfl) rfl ⟨y, rfl, ⟨hyt.out.trans hfd.1, hyw.out.trans hfd.2⟩, (hyA.kept hk4 (by simp; exact .inl (by omega))).mono (by omega) hk4.size, ?_⟩
 exact ((((ka.trans hk1).trans kb).young hk2 (by omega)).trans hk3).young hk4 (Nat.le_refl _)
set_option maxHeartbeats 1000000 in
theorem busy_any {lo hi f b p : Nat} {F : List Nat} {L : List (Int × Fw)} (o l : Int) (ho : (Itree.It.mk o l 0).Ok) (w : World) (h : FlAt w lo hi f b p F L) (hn : L.length ≤ 600) :
  Calls Tryz.prog 63 #[.pointer (some ⟨f, 0, none⟩), .agg #[.int .i64 o, .int .i64 l]] w fun e w' => e = .returned (.bool (busy L o l)) ∧ Kept [] w w' := by
 have ka := kept_alloc [] w (.cells #[.int .i64 o, .int .i64 l] 44)
 have hb0 := blk_new w 44 #[.int .i64 o, .int .i64 l]
 have hT := h.kept0 ka
 obtain ⟨M, t1, t2, t3⟩ := h.tree
 have hq := fun W (hk : Kept [] w W) => Itree.iany_any W p F M o l (t1.kept hk (by simp)) t2.sorted (by omega) ho
 rw [t2.busy h.good.rising] at hq
 have qm := fun W (hk : Kept [] w W) => made_any W (h.kept0 hk)
 obtain ⟨W0, hW0⟩ : ∃ W0, w.alloc (.cells #[.int .i64 o, .int .i64 l] 44) = W0 := ⟨_, rfl⟩
 rw [hW0] at ka hb0
 have S0 : ∀ W, Kept [] W0 W → W.cell? ⟨f, 0, none⟩ = some (.pointer (some ⟨p, 0, none⟩)) ∧ W.cell? ⟨w.heap.size, 0, none⟩ = some (.int .i64 o) ∧ W.cell? ⟨w.heap.size, 1, none⟩ = some (.int .i64 l) := fun W hk => ⟨(h.kept0 (ka.trans hk)).two.1, ((hb0.kept hk (by simp)).cell 0).trans rfl, ((hb0.kept hk (by simp)).cell 1).trans rfl⟩
 have hkd := kept_drew [] W0
 obtain ⟨B, hB⟩ : ∃ B, busy L o l = B := ⟨_, rfl⟩
 rw [hB] at hq ⊢
 clear hB t1 t2 t3 hT
 go_enter Tryz.func63, Tryz.ntmps63
 go_wp2_with fail
 go_region_held3 (fun W => W.cell? ⟨f, 0, none⟩ = some (.pointer (some ⟨p, 0, none⟩)) ∧ W.cell? ⟨w.heap.size, 0, none⟩ = some (.int .i64 o) ∧ W.cell? ⟨w.heap.size, 1, none⟩ = some (.int .i64 l)) (exact S0 _ hkd) (first
  | (go_at_call 119; refine (qm _ (ka.trans hkd)).mono ?_; rintro e w1 ⟨rfl, rfl⟩)
  | (go_at_call 120; refine (hq _ (ka.trans hkd)).mono ?_; rintro e w2 ⟨rfl, hk2⟩; replace hkd := hkd.trans hk2))
 go_wp2
 go_ret
 exact ⟨rfl, ka.trans hkd⟩
end
end Go.Proofs.YtoaeficfmcncjaaGreat.Flight
