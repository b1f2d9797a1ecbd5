/-
 A write comes from the other node: meet.
-/
import Derived.Test.YtoaeficfmcncjaaGreatN40
import Derived.Test.YtoaeficfmcncjaaGreatN30
namespace Go.Proofs.YtoaeficfmcncjaaGreat.Mirror
open Go.RowKit
open Math
open Flight (Fw Fv FlAt Off)
open Later (Lw Lv QAt Foot RowAt)
open Clash (Ow OwsAt)
open Pack (Ms Mv)
open Resync (MRow)

def mtV (m : Mr) (w : Lw) : Int := Clash.verd m.arb (ownsM m.fly) w.o w.l
def vE (V : Int) (m : Mr) (w : Lw) : Nat := if V = 0 then storeE m.d w else 0
def vP (V : Int) (w : Lw) : List Ms := if V = 0 then [msgOf 3 w] else if V = 1 then [msgOf 4 w] else if V = 2 then [msgOf 5 w] else []
def vS (V : Int) (m : Mr) (w : Lw) : Mr := if V = 0 then { m with d := storeS m.d w } else if V = 3 then { m with lat := m.lat ++ [w] } else m
def mtE (m : Mr) (w : Lw) : Nat := vE (mtV m w) m w
def mtP (m : Mr) (w : Lw) : List Ms := vP (mtV m w) w
def mtS (m : Mr) (w : Lw) : Mr := vS (mtV m w) m w
theorem verd_of (m : Mr) (w : Lw) : mtV m w = 0 ∨ mtV m w = 1 ∨ mtV m w = 2 ∨ mtV m w = 3 := by
 unfold mtV
 cases m.arb with
 | true =>
  show (if _ then (1 : Int) else if _ then 2 else 0) = 0 ∨ _
  split
  ·exact .inr (.inl (by simp_all [Clash.verd]))
  ·split
   ·exact .inr (.inr (.inl (by simp_all [Clash.verd])))
   ·exact .inl rfl
 | false =>
  show (if _ then (3 : Int) else 0) = 0 ∨ _
  split
  ·exact .inr (.inr (.inr (by simp_all [Clash.verd])))
  ·exact .inl rfl
theorem owns_at {W : World} {base : Nat} {v : Value} {L : List (Int × Fw)} (h : Flight.OwnOws 288 W base v (Flight.owsL L)) : ∃ a cap, v = .slice a L.length cap ∧ OwsAt W a L.length cap (ownsM L) := by
 obtain ⟨a, cap, e, hc, h0⟩ := h.open
 have hl : (Flight.owsL L).length = L.length := by simp [Flight.owsL]
 rw [hl] at e hc
 refine ⟨a, cap, e, by simp [ownsM], hc, ?_⟩
 rcases h0 with h0 | ⟨g, e1, _, hg, cur, hb, hcs⟩
 ·left
  rw [← hl, h0]
  rfl
 ·refine .inr ⟨g, 0, e1, hg, fun j x hj => fun c v hv => ?_⟩
  obtain ⟨y, hy, rfl⟩ : ∃ y, L[j]? = some y ∧ (⟨y.2.o, y.2.l, !decide (y.2.st = 1)⟩ : Ow) = x := by simpa [ownsM] using hj
  have hlt : c < 3 := by
   have := (List.getElem?_eq_some_iff.1 hv).1
   simpa [Ow.cells] using this
  have := hcs j ⟨y.2.o, y.2.l, !decide (y.2.st = 1)⟩ (by simp [Flight.owsL, hy]) c hlt
  rw [Nat.zero_add, hb.cell, this]
  exact hv
theorem row_one {W : World} {g base : Nat} {x : Lv} (h : Blk W g 152 #[.int .i64 x.id, .int .i64 x.o, .int .i64 x.l, .slice x.sa x.len x.cap]) (hb : base ≤ g) : RowAt 152 base W (.slice (some ⟨g, 0, none⟩) 1 1) [x] (some g) :=
 ⟨_, 1, rfl, Nat.le_refl _, by unfold maxLen; omega, .inr ⟨g, 0, _, rfl, rfl, hb, h, by simp, fun j y hj c hc => by
  have hj' : j = 0 := by
   have := (List.getElem?_eq_some_iff.1 hj).1
   simp at this
   omega
  subst hj'
  simp at hj
  subst hj
  simp [Lv.cells]⟩⟩
variable {lo m d b1 b2 : Nat} {K : List Nat} {M : Mr}
set_option maxRecDepth 100000 in
set_option maxHeartbeats 8000000 in
theorem meet_any (x : Lv) (w : World) (H : MiAt w lo m d b1 b2 K M) (hx : Bts w (K ++ [d, b1, b2]) (.slice x.sa x.len x.cap) x.bs) (hxl : x.bs.length ≤ 140737488351232) (hF : M.fly.length ≤ 600) (hL : M.lat.length ≤ 999999) (hops : M.d.ops ≤ 900000000000000) :
  Calls Tryz.prog 78 #[.pointer (some ⟨m, 0, none⟩), x.val] w fun e w' => ∃ v Q K', e = .returned (.tuple #[v, .int .i64 (mtE M x.lw : Nat)]) ∧ Told w.heap.size w' v (mtP M x.lw) Q ∧ Goes w w' lo m d b1 b2 K K' (mtS M x.lw) := by
 have HA := H
 obtain ⟨f, b, p, q, h, hi, F, gr, rfl, H⟩ := H
 obtain ⟨xid, xo, xl, xsa, xlen, xcap, xbs⟩ := x
 simp only [Lv.val] at *
 obtain ⟨W0, eW, hB0, k0, z0⟩ : ∃ W0, w.alloc (.cells #[.int .i64 xid, .int .i64 xo, .int .i64 xl, .slice xsa xlen xcap] 152) = W0 ∧ Blk W0 w.heap.size 152 #[.int .i64 xid, .int .i64 xo, .int .i64 xl, .slice xsa xlen xcap] ∧ Kept [] w W0 ∧ Hid (W0.heap.size = w.heap.size + 1) := ⟨_, rfl, blk_new w 152 _, kept_alloc [] w _, (by show _ = _; simp)⟩
 have kD := k0.trans (kept_drew [] W0)
 have H0 := H.kept kD (by simp) (clean_nil _)
 have hlo : lo ≤ w.heap.size := by have := (H.low m (by simp [own])); omega
 have q1 := Flight.own_any W0.drew H0.fly hF
 obtain ⟨N, hN⟩ : ∃ N, w.heap.size = N := ⟨_, rfl⟩
 rw [hN] at hB0
 have hbx := H0.box
 have hS : Hid (∀ (L : List Nat) W, m ∉ L → N ∉ L → Kept L W0.drew W → W.cell? ⟨m, 0, none⟩ = some (.pointer (some ⟨f, 0, none⟩)) ∧ W.cell? ⟨m, 1, none⟩ = some (.pointer (some ⟨q, 0, none⟩)) ∧ W.cell? ⟨m, 4, none⟩ = some (.bool M.arb) ∧ W.cell? ⟨N, 0, none⟩ = some (.int .i64 xid) ∧ W.cell? ⟨N, 1, none⟩ = some (.int .i64 xo) ∧ W.cell? ⟨N, 2, none⟩ = some (.int .i64 xl) ∧ W.cell? ⟨N, 3, none⟩ = some (.slice xsa xlen xcap)) := fun L W hm hn hk => by
  have e1 := hbx.kept hk hm
  have e2 := (hB0.kept (kept_drew [] W0) (by simp)).kept hk hn
  exact ⟨(e1.cell 0).trans rfl, (e1.cell 1).trans rfl, (e1.cell 4).trans rfl, (e2.cell 0).trans rfl, (e2.cell 1).trans rfl, (e2.cell 2).trans rfl, (e2.cell 3).trans rfl⟩
 have HH : Hid (MiAt W0.drew lo m d b1 b2 (own m f b q h F gr) M) := ⟨f, b, p, q, h, hi, F, gr, rfl, H0⟩
 have HO : Hid (MiOp W0.drew lo m d b1 b2 f b p q h hi F gr M) := H0
 have kw : Hid (Kept [] w W0.drew) := kD
 have hxd : Hid (Bts W0.drew (own m f b q h F gr ++ [d, b1, b2]) (.slice xsa xlen xcap) xbs) := hx.kept0 kD
 have hD : m ∉ [d, b1, b2] ∧ N ∉ [d, b1, b2] := by
  have h1 := H.lows.1
  have h2 := H.old
  have h3 := H.disk.lt
  simp
  omega
 have hQ : m ∉ q :: gr.toList ∧ N ∉ q :: gr.toList := by
  refine ⟨fun hm => (H.sepq m hm).1 rfl, fun hm => ?_⟩
  have := (H.low N (by simp only [own, List.mem_cons, List.mem_append, List.cons_append] at hm ⊢; rcases hm with h | h <;> simp [h])).2
  omega
 replace hD : Hid _ := hD
 replace hQ : Hid _ := hQ
 clear H H0 hB0 hbx k0 kD hx HA
 have hV := verd_of M ⟨xid, xo, xl, xbs⟩
 have eV : Clash.verd M.arb (ownsM M.fly) xo xl = mtV M ⟨xid, xo, xl, xbs⟩ := rfl
 show Calls Tryz.prog 78 _ w fun e w' => ∃ v Q K', e = .returned (.tuple #[v, .int .i64 (vE (mtV M ⟨xid, xo, xl, xbs⟩) M ⟨xid, xo, xl, xbs⟩ : Nat)]) ∧ Told w.heap.size w' v (vP (mtV M ⟨xid, xo, xl, xbs⟩) ⟨xid, xo, xl, xbs⟩) Q ∧ Goes w w' lo m d b1 b2 (own m f b q h F gr) K' (vS (mtV M ⟨xid, xo, xl, xbs⟩) M ⟨xid, xo, xl, xbs⟩)
 generalize mtV M ⟨xid, xo, xl, xbs⟩ = V at *
 go_enter Tryz.func78, Tryz.ntmps78
 go_wp2
 refine wp_region_held_drew (S := fun W => Kept [] W0.drew W) (by kernel_rfl) (Kept.refl _ _) (fun hP => ?_)
 have hH := hP
 clear hP
 refine tI (i := 0) (oi := ⟨some 6, _, _, _, _, _⟩) (v := (.pointer (some ⟨m, 0, none⟩))) rfl (fun W hSw => by go_simp) hH ?_
 refine tI (i := 1) (oi := ⟨some 7, _, _, _, _, _⟩) (v := (.pointer (some ⟨m, 0, none⟩))) rfl (fun W hSw => by go_simp) hH ?_
 refine tI (i := 2) (oi := ⟨some 8, _, _, _, _, _⟩) (v := (.pointer (some ⟨m, 4, none⟩))) rfl (fun W hSw => by go_simp) hH ?_
 refine tI (i := 3) (oi := ⟨some 9, _, _, _, _, _⟩) (v := (.bool M.arb)) rfl (fun W hSw => by obtain ⟨c0, c1, c4, s0, s1, s2, s3⟩ := hS.out _ _ (by simp) (by simp) (hSw); go_simp) hH ?_
 refine tI (i := 4) (oi := ⟨some 10, _, _, _, _, _⟩) (v := (.pointer (some ⟨m, 0, none⟩))) rfl (fun W hSw => by go_simp) hH ?_
 refine tI (i := 5) (oi := ⟨some 11, _, _, _, _, _⟩) (v := (.pointer (some ⟨m, 0, none⟩))) rfl (fun W hSw => by go_simp) hH ?_
 refine tI (i := 6) (oi := ⟨some 12, _, _, _, _, _⟩) (v := (.pointer (some ⟨m, 0, none⟩))) rfl (fun W hSw => by go_simp) hH ?_
 refine tI (i := 7) (oi := ⟨some 13, _, _, _, _, _⟩) (v := (.pointer (some ⟨f, 0, none⟩))) rfl (fun W hSw => by obtain ⟨c0, c1, c4, s0, s1, s2, s3⟩ := hS.out _ _ (by simp) (by simp) (hSw); go_simp) hH ?_
 refine tI (i := 9) (oi := ⟨some 15, _, _, _, _, _⟩) (v := (.pointer (some ⟨N, 1, none⟩))) rfl (fun W hSw => by go_simp) hH ?_
 refine tI (i := 10) (oi := ⟨some 16, _, _, _, _, _⟩) (v := (.agg #[.int .i64 xo, .int .i64 xl])) rfl (fun W hSw => by obtain ⟨c0, c1, c4, s0, s1, s2, s3⟩ := hS.out _ _ (by simp) (by simp) (hSw); go_simp) hH ?_
 refine wpAnyH_ready (rs := [8]) (by kernel_rfl) (by simp) ?_
 refine AllReadyH.cons (o := ⟨some 14, _, _, _, _, _⟩) rfl (fun K hK => ?_) AllReadyH.nil
 go_simp
 refine (q1).mono ?_
 rintro e w8 ⟨vo, rfl, hvo, hk1⟩
 go_wp2_with fail
 have hH1 := hH.trans (hk1.mono (by simp))
 refine hK.out _ _ hH1 (fun _ => ?_)
 replace hH := hH1
 clear hK K hH1
 obtain ⟨oa, ocap, rfl, hO⟩ := owns_at hvo
 try simp only [Act.put, List.setIfInBounds_toArray, List.set_cons_zero, List.set_cons_succ]
 refine wpAnyH_ready (rs := [11]) (by kernel_rfl) (by simp) ?_
 refine AllReadyH.cons (o := ⟨some 17, _, _, _, _, _⟩) rfl (fun K hK => ?_) AllReadyH.nil
 go_simp
 refine (Clash.verdict_any M.arb xo xl oa M.fly.length ocap (ownsM M.fly) (by omega) _ hO).mono ?_
 rintro e w11 ⟨rfl, hk2⟩
 go_wp2_with fail
 have hH1 := hH.trans (hk2.mono (by simp))
 refine hK.out _ _ hH1 (fun _ => ?_)
 replace hH := hH1
 clear hK K hH1
 try simp only [Act.put, List.setIfInBounds_toArray, List.set_cons_zero, List.set_cons_succ]
 refine wpAnyH_done (by kernel_rfl) ?_ _
 have kd : Kept [] W0.drew w11.drew := (hk1.trans hk2).trans (kept_drew [] w11)
 have kdd := kept_drew [] w11
 have kww : Hid (Kept [] w w11.drew) := kw.out.trans kd
 clear eV
 have q9 : ∀ (k : Int), k ≠ 2 → ∀ W g, Blk W g 152 #[.int .i64 xid, .int .i64 xo, .int .i64 xl, .slice xsa xlen xcap] → Calls Tryz.prog 72 #[.int .i64 k, .slice (some ⟨g, 0, none⟩) 1 1] W fun e w' => ∃ v Q, e = .returned v ∧ Told W.heap.size w' v ([msgOf k ⟨xid, xo, xl, xbs⟩]) Q ∧ Kept [] W w' := fun k hk W g hB =>
  tell_other k hk _ 1 1 [⟨xid, xo, xl, xsa, xlen, xcap, xbs⟩] 0 _ W (row_one hB (Nat.zero_le _)) (by simp)
 clear hH hvo hO q1 hk1 hk2
 rcases hV with rfl | rfl | rfl | rfl
 ·obtain ⟨E, hE⟩ : ∃ E, storeE M.d ⟨xid, xo, xl, xbs⟩ = E := ⟨_, rfl⟩
  have q10 : ∀ W, Kept [] w11.drew W → Calls Tryz.prog 73 #[.pointer (some ⟨m, 0, none⟩), .agg #[.int .i64 xid, .int .i64 xo, .int .i64 xl, .slice xsa xlen xcap]] W fun e w' => e = .returned (.int .i64 (E : Nat)) ∧ MiAt w' lo m d b1 b2 (own m f b q h F gr) { M with d := storeS M.d ⟨xid, xo, xl, xbs⟩ } ∧ Kept [d, b1, b2] W w' := fun W hk => by
   rw [← hE]
   exact store_any ⟨xid, xo, xl, xsa, xlen, xcap, xbs⟩ (own m f b q h F gr ++ [d, b1, b2]) W (HH.out.kept0 (kd.trans hk)) (fun k hk => List.mem_append.2 (.inr hk)) (hxd.out.kept0 (kd.trans hk)) hops
  have q9' := q9 3 (by decide)
  clear q9
  replace hE : Hid _ := hE
  go_wp2
  refine wp_region_held_drew (S := fun W => Kept [d, b1, b2] w11.drew W) (by kernel_rfl) (Kept.refl _ _) (fun hP => ?_)
  have hH := hP
  clear hP
  refine tI (i := 0) (oi := ⟨some 41, _, _, _, _, _⟩) (v := (.agg #[.int .i64 xid, .int .i64 xo, .int .i64 xl, .slice xsa xlen xcap])) rfl (fun W hSw => by obtain ⟨c0, c1, c4, s0, s1, s2, s3⟩ := hS.out _ _ hD.out.1 hD.out.2 ((kd.mono (by simp)).trans hSw); go_simp) hH ?_
  refine tI (i := 3) (oi := ⟨some 44, _, _, _, _, _⟩) (v := (.pointer (some ⟨m, 0, none⟩))) rfl (fun W hSw => by go_simp) hH ?_
  refine tI (i := 4) (oi := ⟨some 45, _, _, _, _, _⟩) (v := (.agg #[.int .i64 xid, .int .i64 xo, .int .i64 xl, .slice xsa xlen xcap])) rfl (fun W hSw => by obtain ⟨c0, c1, c4, s0, s1, s2, s3⟩ := hS.out _ _ hD.out.1 hD.out.2 ((kd.mono (by simp)).trans hSw); go_simp) hH ?_
  refine wpAnyH_ready (rs := [1]) (by kernel_rfl) (by simp) ?_
  refine AllReadyH.cons (o := ⟨some 42, _, _, _, _, _⟩) rfl (fun K hK => ?_) AllReadyH.nil
  go_simp
  have hH1 := hH.trans ((kept_alloc [] _ (.cells #[.int .i64 xid, .int .i64 xo, .int .i64 xl, .slice xsa xlen xcap] 152)).mono (by simp))
  refine hK.out _ _ hH1 (fun _ => ?_)
  replace hH := hH1
  clear hK K hH1
  have kA := kept_alloc [] w11.drew (.cells #[.int .i64 xid, .int .i64 xo, .int .i64 xl, .slice xsa xlen xcap] 152)
  have hB1 := blk_new w11.drew 152 #[.int .i64 xid, .int .i64 xo, .int .i64 xl, .slice xsa xlen xcap]
  try simp only [Act.put, List.setIfInBounds_toArray, List.set_cons_zero, List.set_cons_succ]
  refine wpAnyH_ready (rs := [2]) (by kernel_rfl) (by simp) ?_
  refine AllReadyH.cons (o := ⟨some 43, _, _, _, _, _⟩) rfl (fun K hK => ?_) AllReadyH.nil
  go_simp
  refine (q9' _ _ hB1).mono ?_
  rintro e w9 ⟨vt, Q9, rfl, hT9, hk9⟩
  go_wp2_with fail
  have hH1 := hH.trans (hk9.mono (by simp))
  refine hK.out _ _ hH1 (fun _ => ?_)
  replace hH := hH1
  clear hK K hH1
  have kB := kA.trans hk9
  try simp only [Act.put, List.setIfInBounds_toArray, List.set_cons_zero, List.set_cons_succ]
  refine wpAnyH_ready (rs := [5]) (by kernel_rfl) (by simp) ?_
  refine AllReadyH.cons (o := ⟨some 46, _, _, _, _, _⟩) rfl (fun K hK => ?_) AllReadyH.nil
  go_simp
  refine (q10 _ kB).mono ?_
  rintro e w10 ⟨rfl, hM10, hk10⟩
  go_wp2_with fail
  have hH1 := hH.trans hk10
  refine hK.out _ _ hH1 (fun _ => ?_)
  replace hH := hH1
  clear hK K hH1
  try simp only [Act.put, List.setIfInBounds_toArray, List.set_cons_zero, List.set_cons_succ]
  refine tI (i := 6) (oi := ⟨some 4, _, _, _, _, _⟩) (v := vt) rfl (fun W hSw => by go_simp) hH ?_
  refine tI (i := 7) (oi := ⟨some 5, _, _, _, _, _⟩) (v := (.int .i64 (E : Nat))) rfl (fun W hSw => by go_simp) hH ?_
  refine wpAnyH_done (by kernel_rfl) ?_ _
  go_wp2
  go_ret2
  have hgo : w.heap.size ≤ w9.heap.size := Nat.le_trans kww.out.size kB.size
  have hT : Told w.heap.size w10 vt [msgOf 3 ⟨xid, xo, xl, xbs⟩] Q9 := by
   refine (hT9.kept hk10 (fun k hk hm => ?_) (disk_clean (HH.out.kept0 (kd.trans kB)).disk)).low (Nat.le_trans kww.out.size kA.size)
   have h1 := (hT9.row.lt k hk).1
   have h2 := kA.size
   have h3 := kww.out.size
   have h4 := HH.out.low.2
   simp at hm
   omega
  have hEE := hE.out
  clear hE
  subst hEE
  exact ⟨vt, Q9, _, rfl, hT, Goes.of hM10 (((kww.out.trans kB).mono (by simp)).trans (hk10.mono fun k hk => List.mem_append.2 (.inr hk)))⟩
 ·obtain ⟨c0, c1, c4, s0, s1, s2, s3⟩ := hS.out [] w11 (by simp) (by simp) ((kd.trans (kept_undrew _)))
  have q9' := q9 4 (by decide) _ _ (blk_new w11 152 #[.int .i64 xid, .int .i64 xo, .int .i64 xl, .slice xsa xlen xcap])
  have kz := kept_alloc [] w11 (.cells #[.int .i64 xid, .int .i64 xo, .int .i64 xl, .slice xsa xlen xcap] 152)
  clear q9
  go_wp2_with (first
   | (go_at_call 72; refine q9'.mono ?_; rintro e w12 ⟨vt, Q12, rfl, hT12, hk12⟩))
  go_ret2
  have hz : Kept [] w w12 := (kww.out.trans (kept_undrew _)).trans (kz.trans hk12)
  exact ⟨vt, Q12, _, rfl, hT12.low (Nat.le_trans (kww.out.trans (kept_undrew _)).size kz.size), Goes.of ((HH.out.kept0 (kd.trans (kept_undrew _))).kept0 (kz.trans hk12)) (hz.mono (by simp))⟩
 ·obtain ⟨c0, c1, c4, s0, s1, s2, s3⟩ := hS.out [] w11 (by simp) (by simp) ((kd.trans (kept_undrew _)))
  have q9' := q9 5 (by decide) _ _ (blk_new w11 152 #[.int .i64 xid, .int .i64 xo, .int .i64 xl, .slice xsa xlen xcap])
  have kz := kept_alloc [] w11 (.cells #[.int .i64 xid, .int .i64 xo, .int .i64 xl, .slice xsa xlen xcap] 152)
  clear q9
  go_wp2_with (first
   | (go_at_call 72; refine q9'.mono ?_; rintro e w12 ⟨vt, Q12, rfl, hT12, hk12⟩))
  go_ret2
  have hz : Kept [] w w12 := (kww.out.trans (kept_undrew _)).trans (kz.trans hk12)
  exact ⟨vt, Q12, _, rfl, hT12.low (Nat.le_trans (kww.out.trans (kept_undrew _)).size kz.size), Goes.of ((HH.out.kept0 (kd.trans (kept_undrew _))).kept0 (kz.trans hk12)) (hz.mono (by simp))⟩
 ·have hOd := HO.out.kept kd (by simp) (clean_nil _)
  have hbd := (hxd.out.kept0 kd).lt
  have q7 := Later.push_any xid xo xl w11.drew hOd.lat hL (.slice xsa xlen xcap) _ xbs hbd (Nat.le_refl _) hxl
  clear q9
  go_wp2
  refine wp_region_held_drew (S := fun W => Kept (q :: gr.toList) w11.drew W) (by kernel_rfl) (Kept.refl _ _) (fun hP => ?_)
  have hH := hP
  clear hP
  refine tI (i := 0) (oi := ⟨some 30, _, _, _, _, _⟩) (v := (.pointer (some ⟨m, 0, none⟩))) rfl (fun W hSw => by go_simp) hH ?_
  refine tI (i := 1) (oi := ⟨some 31, _, _, _, _, _⟩) (v := (.pointer (some ⟨m, 0, none⟩))) rfl (fun W hSw => by go_simp) hH ?_
  refine tI (i := 2) (oi := ⟨some 32, _, _, _, _, _⟩) (v := (.pointer (some ⟨m, 1, none⟩))) rfl (fun W hSw => by go_simp) hH ?_
  refine tI (i := 3) (oi := ⟨some 33, _, _, _, _, _⟩) (v := (.pointer (some ⟨q, 0, none⟩))) rfl (fun W hSw => by obtain ⟨c0, c1, c4, s0, s1, s2, s3⟩ := hS.out _ _ hQ.out.1 hQ.out.2 ((kd.mono (by simp)).trans hSw); go_simp) hH ?_
  refine tI (i := 4) (oi := ⟨some 34, _, _, _, _, _⟩) (v := (.pointer (some ⟨N, 0, none⟩))) rfl (fun W hSw => by go_simp) hH ?_
  refine tI (i := 5) (oi := ⟨some 35, _, _, _, _, _⟩) (v := (.int .i64 xid)) rfl (fun W hSw => by obtain ⟨c0, c1, c4, s0, s1, s2, s3⟩ := hS.out _ _ hQ.out.1 hQ.out.2 ((kd.mono (by simp)).trans hSw); go_simp) hH ?_
  refine tI (i := 6) (oi := ⟨some 36, _, _, _, _, _⟩) (v := (.pointer (some ⟨N, 1, none⟩))) rfl (fun W hSw => by go_simp) hH ?_
  refine tI (i := 7) (oi := ⟨some 37, _, _, _, _, _⟩) (v := (.agg #[.int .i64 xo, .int .i64 xl])) rfl (fun W hSw => by obtain ⟨c0, c1, c4, s0, s1, s2, s3⟩ := hS.out _ _ hQ.out.1 hQ.out.2 ((kd.mono (by simp)).trans hSw); go_simp) hH ?_
  refine tI (i := 8) (oi := ⟨some 38, _, _, _, _, _⟩) (v := (.pointer (some ⟨N, 3, none⟩))) rfl (fun W hSw => by go_simp) hH ?_
  refine tI (i := 9) (oi := ⟨some 39, _, _, _, _, _⟩) (v := (.slice xsa xlen xcap)) rfl (fun W hSw => by obtain ⟨c0, c1, c4, s0, s1, s2, s3⟩ := hS.out _ _ hQ.out.1 hQ.out.2 ((kd.mono (by simp)).trans hSw); go_simp) hH ?_
  refine wpAnyH_ready (rs := [10]) (by kernel_rfl) (by simp) ?_
  refine AllReadyH.cons (o := ⟨some 40, _, _, _, _, _⟩) rfl (fun K hK => ?_) AllReadyH.nil
  go_simp
  refine (q7).mono ?_
  rintro e w10 ⟨rfl, gr7, hQ7, hk7, hn7⟩
  go_wp2_with fail
  have hH1 := hH.trans hk7
  refine hK.out _ _ hH1 (fun _ => ?_)
  replace hH := hH1
  clear hK K hH1
  try simp only [Act.put, List.setIfInBounds_toArray, List.set_cons_zero, List.set_cons_succ]
  refine wpAnyH_done (by kernel_rfl) ?_ _
  go_wp2
  go_ret2
  obtain ⟨g1, g2, g3⟩ := hOd.waits hQ7 hn7 hk7
  exact ⟨_, [], _, rfl, Told.nil _ _, ⟨⟨_, _, _, _, _, _, _, _, rfl, g1⟩, fun k hk => (g2 k hk).imp id fun h => Nat.le_trans kww.out.size h, ((kww.out.mono (by simp)).trans (g3.mono fun k hk => List.mem_append.2 (.inl hk)))⟩⟩
end Go.Proofs.YtoaeficfmcncjaaGreat.Mirror
namespace Go.Proofs.YtoaeficfmcncjaaGreat.Mirror
open Go.RowKit
open Math
open Flight (Fw Fv FlAt Off WAt)
open Later (Lw Lv QAt Foot RowAt kindP)
open Pack (Ms Mv)

variable {lo m d b1 b2 : Nat} {K : List Nat} {M : Mr}
end Go.Proofs.YtoaeficfmcncjaaGreat.Mirror
namespace Go.Proofs.YtoaeficfmcncjaaGreat.Mirror
open Go.RowKit
open Math
open Flight (Fw Fv FlAt Off WAt)
open Later (Lw Lv QAt Foot RowAt kindP)
open Clash (Ow OwsAt)
open Pack (Ms Mv)

variable {lo m d b1 b2 f b p q h hi : Nat} {F : List Nat} {gr : Option Nat} {M : Mr}
end Go.Proofs.YtoaeficfmcncjaaGreat.Mirror
namespace Go.Proofs.YtoaeficfmcncjaaGreat.Mirror
open Go.RowKit
open Math
open Flight (Fw Fv FlAt Off WAt turnL)
open Later (Lw Lv QAt Foot RowAt kindP overL)
open Pack (Ms Mv)

variable {lo m d b1 b2 f b p q h hi : Nat} {F : List Nat} {gr : Option Nat} {M : Mr}
end Go.Proofs.YtoaeficfmcncjaaGreat.Mirror
namespace Go.Proofs.YtoaeficfmcncjaaGreat.Mirror
open Go.RowKit
open Math
open Flight (Fw Fv FlAt Off)
open Later (Lw Lv QAt Foot RowAt)
open Pack (Ms Mv)

theorem heat_ops (M : Mr) (o l : Int) : (heatD M o l).ops ≤ M.d.ops + 2 := by
 have h : ∀ s : Dk, ∀ z, (logS s z).ops ≤ s.ops + 2 := fun s z => by
  unfold logS
  split
  ·omega
  split
  ·omega
  unfold putS
  split
  ·split
   ·omega
   ·unfold putsS
    have h1 := wroteS_ops s (putK s 2 4) (putX s 2 4 z)
    split
    ·unfold flushS
     split
     ·exact Nat.le_trans h1 (by omega)
     ·show (wroteS s (putK s 2 4) (putX s 2 4 z)).ops + 1 ≤ _
      omega
    ·omega
  ·omega
 unfold heatD
 split
 ·exact h _ _
 ·omega
set_option maxRecDepth 100000 in
theorem tell_one (x : Lv) (W : World) (g : Nat) (hB : Blk W g 152 #[.int .i64 x.id, .int .i64 x.o, .int .i64 x.l, .slice x.sa x.len x.cap]) (hb : Later.ByteRow W.heap.size W (.slice x.sa x.len x.cap) x.bs) (hl : x.bs.length ≤ 140737488351232) :
  Calls Tryz.prog 72 #[.int .i64 2, .slice (some ⟨g, 0, none⟩) 1 1] W fun e w' => ∃ sT nT cT Q, e = .returned (.slice sT nT cT) ∧ Told W.heap.size w' (.slice sT nT cT) [msgOf 2 x.lw] Q ∧ Kept [] W w' := by
 have h1 : ∀ y ∈ [x], Later.ByteRow W.heap.size W (.slice y.sa y.len y.cap) y.bs := fun y hy => by
  rw [List.mem_singleton] at hy
  rw [hy]
  exact hb
 have h2 : ∀ y ∈ [x], y.bs.length ≤ 140737488351232 := fun y hy => by
  rw [List.mem_singleton] at hy
  rw [hy]
  exact hl
 have h4 : LRow 0 W (.slice (some ⟨g, 0, none⟩) 1 1) [x] (some g) := ⟨row_one hB (Nat.zero_le _), h1⟩
 have h3 := tell_data (some ⟨g, 0, none⟩) 1 1 [x] 0 (some g) W h4 h2 (by simp)
 simp only [List.map_cons, List.map_nil] at h3
 refine h3.mono ?_
 rintro e w' ⟨v, Q, rfl, hT, hk⟩
 obtain ⟨sT, cT, rfl⟩ := hT.row.form
 exact ⟨sT, _, cT, Q, rfl, hT, hk⟩
variable {lo m d b1 b2 : Nat} {K : List Nat} {M : Mr}
set_option maxRecDepth 100000 in
theorem store_go (t o l : Int) (a : Option Addr) (n cap : Nat) (bs : List Nat) (E2 : Nat) (hE2 : storeE (heatD M o l) ⟨t, o, l, bs⟩ = E2) (w : World) (H : MiAt w lo m d b1 b2 K { M with d := heatD M o l, hot := heatH M o l }) (hx : Bts w (K ++ [d, b1, b2]) (.slice a n cap) bs) (hops : M.d.ops ≤ 800000000000000) : Calls Tryz.prog 73 #[.pointer (some ⟨m, 0, none⟩), .agg #[.int .i64 t, .int .i64 o, .int .i64 l, .slice a n cap]] w fun e w' => e = .returned (.int .i64 (E2 : Nat)) ∧ MiAt w' lo m d b1 b2 K { M with d := storeS (heatD M o l) ⟨t, o, l, bs⟩, hot := heatH M o l } ∧ Kept [d, b1, b2] w w' := by
 have ho : (heatD M o l).ops ≤ 900000000000000 := Nat.le_trans (heat_ops M o l) (by omega)
 subst hE2
 obtain ⟨D, hD⟩ : ∃ D, heatD M o l = D := ⟨_, rfl⟩
 rw [hD] at H ho ⊢
 have h := store_any ⟨t, o, l, a, n, cap, bs⟩ (K ++ [d, b1, b2]) w H (fun k hk => List.mem_append.2 (.inr hk)) hx ho
 exact h
set_option maxRecDepth 100000 in
theorem add_to (t o l : Int) (a : Option Addr) (n cap : Nat) (bs : List Nat) (h0 : -9223372036854775808 ≤ t) (h1 : t ≤ 9223372036854775807) (ht : 1 ≤ t) (hp : Span.Math.plain o l = true) (hl : 1 ≤ l) (n1 : (Table.look M.fly t).isSome = false) (n2 : Flight.busy M.fly o l = false) (w : World) (H : MiAt w lo m d b1 b2 K M) (hx : Bts w (K ++ [d, b1, b2]) (.slice a n cap) bs) (hxl : bs.length ≤ 140737488351232) (hF : M.fly.length ≤ 600) :
  ∃ f, w.cell? ⟨m, 0, none⟩ = some (.pointer (some ⟨f, 0, none⟩)) ∧ ∀ W, Kept [] w W → Calls Tryz.prog 74 #[.pointer (some ⟨f, 0, none⟩), .int .i64 t, .agg #[.int .i64 o, .int .i64 l], .slice a n cap] W fun e w' => ∃ K', e = .returned (.bool true) ∧ w'.cell? ⟨m, 0, none⟩ = some (.pointer (some ⟨f, 0, none⟩)) ∧ Goes W w' lo m d b1 b2 K K' { M with fly := Flight.addL M.fly t o l bs } := by
 obtain ⟨f, b, p, q, h, hi, F, gr, rfl, H⟩ := H
 refine ⟨f, H.five.1, fun W hW => ?_⟩
 replace H := H.kept hW (by simp) (clean_nil _)
 have hlo : lo ≤ W.heap.size := by have := (H.low m (by simp [own])); omega
 have hO : (Itree.It.mk o l t).Ok := Flight.it_ok hp h0 h1
 have hok : Flight.addOk M.fly t o l = true := by
  have e : (Table.look M.fly t).isNone = true := by
   cases hh : Table.look M.fly t <;> simp [hh] at n1 ⊢
  simp [Flight.addOk, e, n2, hp, ht, hl]
 have hX : ∀ k ∈ F, k ∈ own m f b q h F gr ++ [d, b1, b2] := fun k hk => by simp [own, hk]
 have q := Flight.add_any t o l (.slice a n cap) bs h0 h1 hO W H.fly hF hlo (fun V hV => ((hx.kept0 hW).kept (hV.mono hX) (fun _ h => .inl h)).fl) hxl
 rw [hok] at q
 refine q.mono ?_
 rintro e w' ⟨F', rfl, hf, hn, hk⟩
 obtain ⟨h2, h3, h4⟩ := H.flew hf hn hk
 exact ⟨_, rfl, h2.five.1, ⟨⟨_, _, _, _, _, _, _, _, rfl, h2⟩, h3, h4.mono (fun k hk => List.mem_append.2 (.inl hk))⟩⟩
def Six (W : World) (N m : Nat) (fp v : Value) (E : Nat) (o l : Int) : Prop := (W.cell? ⟨N, 0, none⟩ = some (.int .i64 o) ∧ W.cell? ⟨N, 1, none⟩ = some (.int .i64 l)) ∧ W.cell? ⟨N + 1, 0, none⟩ = some v ∧ W.cell? ⟨N + 1 + 1, 0, none⟩ = some (.int .i64 (E : Int)) ∧ W.cell? ⟨m, 0, none⟩ = some fp
theorem Six.of {W : World} {N m : Nat} {fp v : Value} {E : Nat} {o l : Int} (h0 : Blk W N 44 #[.int .i64 o, .int .i64 l]) (h1 : Blk W (N + 1) 76 #[v]) (h2 : Blk W (N + 1 + 1) 28 #[.int .i64 (E : Int)]) (h3 : W.cell? ⟨m, 0, none⟩ = some fp) : Six W N m fp v E o l :=
 ⟨⟨(h0.cell 0).trans rfl, (h0.cell 1).trans rfl⟩, (h1.cell 0).trans rfl, (h2.cell 0).trans rfl, h3⟩
theorem again_set {W : World} {N m g : Nat} {ty : TypeId} {fp v u : Value} {E : Nat} {o l : Int} (h0 : Blk W N 44 #[.int .i64 o, .int .i64 l]) (h1 : Blk W (N + 1) 76 #[v]) (h2 : Blk W (N + 1 + 1) 28 #[.int .i64 (E : Int)]) (h3 : W.cell? ⟨m, 0, none⟩ = some fp) (hg : g = N + 1 ∧ u = v ∨ g = N + 1 + 1 ∧ u = .int .i64 (E : Int)) (hm : m ≠ g) (hb : Blk W g ty #[u]) :
  ∃ V, W.setCell ⟨g, 0, none⟩ u = V ∧ Blk V N 44 #[.int .i64 o, .int .i64 l] ∧ Blk V (N + 1) 76 #[v] ∧ Blk V (N + 1 + 1) 28 #[.int .i64 (E : Int)] ∧ V.cell? ⟨m, 0, none⟩ = some fp ∧ Kept [g] W V := by
 have k : Kept [g] W (W.setCell ⟨g, 0, none⟩ u) := kept_set (by simp) _ _ _
 have c : (W.setCell ⟨g, 0, none⟩ u).cell? ⟨m, 0, none⟩ = some fp := by
  rw [← h3]
  exact World.cell?_setCell_far W ⟨g, 0, none⟩ ⟨m, 0, none⟩ u (fun e => hm e.symm)
 refine ⟨_, rfl, h0.kept k (by simp; omega), ?_, ?_, c, k⟩
 ·rcases hg with ⟨rfl, rfl⟩ | ⟨rfl, rfl⟩
  ·exact h1.set 0 _
  ·exact h1.kept k (by simp)
 ·rcases hg with ⟨rfl, rfl⟩ | ⟨rfl, rfl⟩
  ·exact h2.kept k (by simp)
  ·exact h2.set 0 _
end Go.Proofs.YtoaeficfmcncjaaGreat.Mirror
