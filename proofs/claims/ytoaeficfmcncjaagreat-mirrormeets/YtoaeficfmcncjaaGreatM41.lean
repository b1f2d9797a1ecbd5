/-
 A write comes from the other node: meet.
-/
import Derived.Test.YtoaeficfmcncjaaGreatM40
namespace Go.Proofs.YtoaeficfmcncjaaGreat.Mirror
open Go.RowKit
open Math
open Flight (Fw Fv FlAt Off)
open Later (Lw Lv QAt Foot RowAt)
open Clash (Ow OwsAt)
open Pack (Ms Mv)
open Resync (MRow)
def mtV (m : Mr) (w : Lw) : Int := Clash.verd m.arb (ownsM m.fly) w.o w.l
def vE (V : Int) (m : Mr) (w : Lw) : Nat := if V = 0 then storeE m.d w else 0
def vP (V : Int) (w : Lw) : List Ms := if V = 0 then [msgOf 3 w] else if V = 1 then [msgOf 4 w] else if V = 2 then [msgOf 5 w] else []
def vS (V : Int) (m : Mr) (w : Lw) : Mr := if V = 0 then { m with d := storeS m.d w } else if V = 3 then { m with lat := m.lat ++ [w] } else m
def mtE (m : Mr) (w : Lw) : Nat := vE (mtV m w) m w
def mtP (m : Mr) (w : Lw) : List Ms := vP (mtV m w) w
def mtS (m : Mr) (w : Lw) : Mr := vS (mtV m w) m w
theorem verd_of (m : Mr) (w : Lw) : mtV m w = 0 ∨ mtV m w = 1 ∨ mtV m w = 2 ∨ mtV m w = 3 := by
 unfold mtV
 cases m.arb with
 | true =>
  show (if _ then (1 : Int) else if _ then 2 else 0) = 0 ∨ _
  split
  ·exact .inr (.inl (by simp_all [Clash.verd]))
  ·split
   ·exact .inr (.inr (.inl (by simp_all [Clash.verd])))
   ·exact .inl rfl
 | false =>
  show (if _ then (3 : Int) else 0) = 0 ∨ _
  split
  ·exact .inr (.inr (.inr (by simp_all [Clash.verd])))
  ·exact .inl rfl
theorem owns_at {W : World} {base : Nat} {v : Value} {L : List (Int × Fw)} (h : Flight.OwnOws 288 W base v (Flight.owsL L)) : ∃ a cap, v = .slice a L.length cap ∧ OwsAt W a L.length cap (ownsM L) := by
 obtain ⟨a, cap, e, hc, h0⟩ := h.open
 have hl : (Flight.owsL L).length = L.length := by simp [Flight.owsL]
 rw [hl] at e hc
 refine ⟨a, cap, e, by simp [ownsM], hc, ?_⟩
 rcases h0 with h0 | ⟨g, e1, _, hg, cur, hb, hcs⟩
 ·left
  rw [← hl, h0]
  rfl
 ·refine .inr ⟨g, 0, e1, hg, fun j x hj => fun c v hv => ?_⟩
  obtain ⟨y, hy, rfl⟩ : ∃ y, L[j]? = some y ∧ (⟨y.2.o, y.2.l, !decide (y.2.st = 1)⟩ : Ow) = x := by simpa [ownsM] using hj
  have hlt : c < 3 := by
   have := (List.getElem?_eq_some_iff.1 hv).1
   simpa [Ow.cells] using this
  have := hcs j ⟨y.2.o, y.2.l, !decide (y.2.st = 1)⟩ (by simp [Flight.owsL, hy]) c hlt
  rw [Nat.zero_add, hb.cell, this]
  exact hv
theorem row_one {W : World} {g base : Nat} {x : Lv} (h : Blk W g 152 #[.int .i64 x.id, .int .i64 x.o, .int .i64 x.l, .slice x.sa x.len x.cap]) (hb : base ≤ g) : RowAt 152 base W (.slice (some ⟨g, 0, none⟩) 1 1) [x] (some g) :=
 ⟨_, 1, rfl, Nat.le_refl _, by unfold maxLen; omega, .inr ⟨g, 0, _, rfl, rfl, hb, h, by simp, fun j y hj c hc => by
  have hj' : j = 0 := by
   have := (List.getElem?_eq_some_iff.1 hj).1
   simp at this
   omega
  subst hj'
  simp at hj
  subst hj
  simp [Lv.cells]⟩⟩
variable {lo m d b1 b2 : Nat} {K : List Nat} {M : Mr}
set_option maxRecDepth 100000 in
set_option maxHeartbeats 8000000 in
theorem meet_any (x : Lv) (w : World) (H : MiAt w lo m d b1 b2 K M) (hx : Bts w (K ++ [d, b1, b2]) (.slice x.sa x.len x.cap) x.bs) (hxl : x.bs.length ≤ 140737488351232) (hF : M.fly.length ≤ 600) (hL : M.lat.length ≤ 999999) (hops : M.d.ops ≤ 900000000000000) :
  Calls Tryz.prog 78 #[.pointer (some ⟨m, 0, none⟩), x.val] w fun e w' => ∃ v Q K', e = .returned (.tuple #[v, .int .i64 (mtE M x.lw : Nat)]) ∧ Told w.heap.size w' v (mtP M x.lw) Q ∧ Goes w w' lo m d b1 b2 K K' (mtS M x.lw) := by
 have HA := H
 obtain ⟨f, b, p, q, h, hi, F, gr, rfl, H⟩ := H
 obtain ⟨xid, xo, xl, xsa, xlen, xcap, xbs⟩ := x
 simp only [Lv.val] at *
 obtain ⟨W0, eW, hB0, k0, z0⟩ : ∃ W0, w.alloc (.cells #[.int .i64 xid, .int .i64 xo, .int .i64 xl, .slice xsa xlen xcap] 152) = W0 ∧ Blk W0 w.heap.size 152 #[.int .i64 xid, .int .i64 xo, .int .i64 xl, .slice xsa xlen xcap] ∧ Kept [] w W0 ∧ Hid (W0.heap.size = w.heap.size + 1) := ⟨_, rfl, blk_new w 152 _, kept_alloc [] w _, (by show _ = _; simp)⟩
 have kD := k0.trans (kept_drew [] W0)
 have H0 := H.kept kD (by simp) (clean_nil _)
 have hlo : lo ≤ w.heap.size := by have := (H.low m (by simp [own])); omega
 have q1 := Flight.own_any W0.drew H0.fly hF
 obtain ⟨N, hN⟩ : ∃ N, w.heap.size = N := ⟨_, rfl⟩
 rw [hN] at hB0
 have hbx := H0.box
 have hS : Hid (∀ (L : List Nat) W, m ∉ L → N ∉ L → Kept L W0.drew W → W.cell? ⟨m, 0, none⟩ = some (.pointer (some ⟨f, 0, none⟩)) ∧ W.cell? ⟨m, 1, none⟩ = some (.pointer (some ⟨q, 0, none⟩)) ∧ W.cell? ⟨m, 4, none⟩ = some (.bool M.arb) ∧ W.cell? ⟨N, 0, none⟩ = some (.int .i64 xid) ∧ W.cell? ⟨N, 1, none⟩ = some (.int .i64 xo) ∧ W.cell? ⟨N, 2, none⟩ = some (.int .i64 xl) ∧ W.cell? ⟨N, 3, none⟩ = some (.slice xsa xlen xcap)) := fun L W hm hn hk => by
  have e1 := hbx.kept hk hm
  have e2 := (hB0.kept (kept_drew [] W0) (by simp)).kept hk hn
  exact ⟨(e1.cell 0).trans rfl, (e1.cell 1).trans rfl, (e1.cell 4).trans rfl, (e2.cell 0).trans rfl, (e2.cell 1).trans rfl, (e2.cell 2).trans rfl, (e2.cell 3).trans rfl⟩
 have HH : Hid (MiAt W0.drew lo m d b1 b2 (own m f b q h F gr) M) := ⟨f, b, p, q, h, hi, F, gr, rfl, H0⟩
 have HO : Hid (MiOp W0.drew lo m d b1 b2 f b p q h hi F gr M) := H0
 have kw : Hid (Kept [] w W0.drew) := kD
 have hxd : Hid (Bts W0.drew (own m f b q h F gr ++ [d, b1, b2]) (.slice xsa xlen xcap) xbs) := hx.kept0 kD
 have hD : m ∉ [d, b1, b2] ∧ N ∉ [d, b1, b2] := by
  have h1 := H.lows.1
  have h2 := H.old
  have h3 := H.disk.lt
  simp
  omega
 have hQ : m ∉ q :: gr.toList ∧ N ∉ q :: gr.toList := by
  refine ⟨fun hm => (H.sepq m hm).1 rfl, fun hm => ?_⟩
  have := (H.low N (by simp only [own, List.mem_cons, List.mem_append, List.cons_append] at hm ⊢; rcases hm with h | h <;> simp [h])).2
  omega
 replace hD : Hid _ := hD
 replace hQ : Hid _ := hQ
 clear H H0 hB0 hbx k0 kD hx HA
 have hV := verd_of M ⟨xid, xo, xl, xbs⟩
 have eV : Clash.verd M.arb (ownsM M.fly) xo xl = mtV M ⟨xid, xo, xl, xbs⟩ := rfl
 show Calls Tryz.prog 78 _ w fun e w' => ∃ v Q K', e = .returned (.tuple #[v, .int .i64 (vE (mtV M ⟨xid, xo, xl, xbs⟩) M ⟨xid, xo, xl, xbs⟩ : Nat)]) ∧ Told w.heap.size w' v (vP (mtV M ⟨xid, xo, xl, xbs⟩) ⟨xid, xo, xl, xbs⟩) Q ∧ Goes w w' lo m d b1 b2 (own m f b q h F gr) K' (vS (mtV M ⟨xid, xo, xl, xbs⟩) M ⟨xid, xo, xl, xbs⟩)
 generalize mtV M ⟨xid, xo, xl, xbs⟩ = V at *
 go_enter Tryz.func78, Tryz.ntmps78
 go_wp2
 refine wp_region_held_drew (S := fun W => Kept [] W0.drew W) (by kernel_rfl) (Kept.refl _ _) (fun hP => ?_)
 have hH := hP
 clear hP
 refine tJ 0 ⟨some 6, _, _, _, _, _⟩ (.pointer (some ⟨m, 0, none⟩)) rfl hH ?_
 refine tJ 1 ⟨some 7, _, _, _, _, _⟩ (.pointer (some ⟨m, 0, none⟩)) rfl hH ?_
 refine tJ 2 ⟨some 8, _, _, _, _, _⟩ (.pointer (some ⟨m, 4, none⟩)) rfl hH ?_
 refine tI 3 ⟨some 9, _, _, _, _, _⟩ (.bool M.arb) rfl (fun W hSw => by obtain ⟨c0, c1, c4, s0, s1, s2, s3⟩ := hS.out _ _ (by simp) (by simp) (hSw); go_simp) hH ?_
 refine tJ 4 ⟨some 10, _, _, _, _, _⟩ (.pointer (some ⟨m, 0, none⟩)) rfl hH ?_
 refine tJ 5 ⟨some 11, _, _, _, _, _⟩ (.pointer (some ⟨m, 0, none⟩)) rfl hH ?_
 refine tJ 6 ⟨some 12, _, _, _, _, _⟩ (.pointer (some ⟨m, 0, none⟩)) rfl hH ?_
 refine tI 7 ⟨some 13, _, _, _, _, _⟩ (.pointer (some ⟨f, 0, none⟩)) rfl (fun W hSw => by obtain ⟨c0, c1, c4, s0, s1, s2, s3⟩ := hS.out _ _ (by simp) (by simp) (hSw); go_simp) hH ?_
 refine tJ 9 ⟨some 15, _, _, _, _, _⟩ (.pointer (some ⟨N, 1, none⟩)) rfl hH ?_
 refine tI 10 ⟨some 16, _, _, _, _, _⟩ (.agg #[.int .i64 xo, .int .i64 xl]) rfl (fun W hSw => by obtain ⟨c0, c1, c4, s0, s1, s2, s3⟩ := hS.out _ _ (by simp) (by simp) (hSw); go_simp) hH ?_
 refine tC 8 (o := ⟨some 14, _, _, _, _, _⟩) rfl (fun K hK => ?_)
 go_simp
 refine (q1).mono ?_
 rintro e w8 ⟨vo, rfl, hvo, hk1⟩
 go_wp2_with fail
 refine hK.out _ _ (hH.trans (hk1.mono (by simp))) (fun hH => ?_)
 clear hK K
 obtain ⟨oa, ocap, rfl, hO⟩ := owns_at hvo
 refine tC 11 (o := ⟨some 17, _, _, _, _, _⟩) rfl (fun K hK => ?_)
 go_simp
 refine (Clash.verdict_any M.arb xo xl oa M.fly.length ocap (ownsM M.fly) (by omega) _ hO).mono ?_
 rintro e w11 ⟨rfl, hk2⟩
 go_wp2_with fail
 refine hK.out _ _ (hH.trans (hk2.mono (by simp))) (fun hH => ?_)
 clear hK K
 refine wpAnyH_done (by kernel_rfl) ?_ _
 have kd : Kept [] W0.drew w11.drew := (hk1.trans hk2).trans (kept_drew [] w11)
 have kdd := kept_drew [] w11
 have kww : Hid (Kept [] w w11.drew) := kw.out.trans kd
 clear eV
 have q9 : ∀ (k : Int), k ≠ 2 → ∀ W g, Blk W g 152 #[.int .i64 xid, .int .i64 xo, .int .i64 xl, .slice xsa xlen xcap] → Calls Tryz.prog 72 #[.int .i64 k, .slice (some ⟨g, 0, none⟩) 1 1] W fun e w' => ∃ v Q, e = .returned v ∧ Told W.heap.size w' v ([msgOf k ⟨xid, xo, xl, xbs⟩]) Q ∧ Kept [] W w' := fun k hk W g hB =>
  tell_other k hk _ 1 1 [⟨xid, xo, xl, xsa, xlen, xcap, xbs⟩] 0 _ W (row_one hB (Nat.zero_le _)) (by simp)
 clear hH hvo hO q1 hk1 hk2
 rcases hV with rfl | rfl | rfl | rfl
 ·obtain ⟨E, hE⟩ : ∃ E, storeE M.d ⟨xid, xo, xl, xbs⟩ = E := ⟨_, rfl⟩
  have q10 : ∀ W, Kept [] w11.drew W → Calls Tryz.prog 73 #[.pointer (some ⟨m, 0, none⟩), .agg #[.int .i64 xid, .int .i64 xo, .int .i64 xl, .slice xsa xlen xcap]] W fun e w' => e = .returned (.int .i64 (E : Nat)) ∧ MiAt w' lo m d b1 b2 (own m f b q h F gr) { M with d := storeS M.d ⟨xid, xo, xl, xbs⟩ } ∧ Kept [d, b1, b2] W w' := fun W hk => by
   rw [← hE]
   exact store_any ⟨xid, xo, xl, xsa, xlen, xcap, xbs⟩ (own m f b q h F gr ++ [d, b1, b2]) W (HH.out.kept0 (kd.trans hk)) (fun k hk => List.mem_append.2 (.inr hk)) (hxd.out.kept0 (kd.trans hk)) hops
  have q9' := q9 3 (by decide)
  clear q9
  replace hE : Hid _ := hE
  go_wp2
  refine wp_region_held_drew (S := fun W => Kept [d, b1, b2] w11.drew W) (by kernel_rfl) (Kept.refl _ _) (fun hP => ?_)
  have hH := hP
  clear hP
  refine tI 0 ⟨some 41, _, _, _, _, _⟩ (.agg #[.int .i64 xid, .int .i64 xo, .int .i64 xl, .slice xsa xlen xcap]) rfl (fun W hSw => by obtain ⟨c0, c1, c4, s0, s1, s2, s3⟩ := hS.out _ _ hD.out.1 hD.out.2 ((kd.mono (by simp)).trans hSw); go_simp) hH ?_
  refine tJ 3 ⟨some 44, _, _, _, _, _⟩ (.pointer (some ⟨m, 0, none⟩)) rfl hH ?_
  refine tI 4 ⟨some 45, _, _, _, _, _⟩ (.agg #[.int .i64 xid, .int .i64 xo, .int .i64 xl, .slice xsa xlen xcap]) rfl (fun W hSw => by obtain ⟨c0, c1, c4, s0, s1, s2, s3⟩ := hS.out _ _ hD.out.1 hD.out.2 ((kd.mono (by simp)).trans hSw); go_simp) hH ?_
  refine tC 1 (o := ⟨some 42, _, _, _, _, _⟩) rfl (fun K hK => ?_)
  go_simp
  refine hK.out _ _ (hH.trans ((kept_alloc [] _ (.cells #[.int .i64 xid, .int .i64 xo, .int .i64 xl, .slice xsa xlen xcap] 152)).mono (by simp))) (fun hH => ?_)
  clear hK K
  have kA := kept_alloc [] w11.drew (.cells #[.int .i64 xid, .int .i64 xo, .int .i64 xl, .slice xsa xlen xcap] 152)
  have hB1 := blk_new w11.drew 152 #[.int .i64 xid, .int .i64 xo, .int .i64 xl, .slice xsa xlen xcap]
  refine tC 2 (o := ⟨some 43, _, _, _, _, _⟩) rfl (fun K hK => ?_)
  go_simp
  refine (q9' _ _ hB1).mono ?_
  rintro e w9 ⟨vt, Q9, rfl, hT9, hk9⟩
  go_wp2_with fail
  refine hK.out _ _ (hH.trans (hk9.mono (by simp))) (fun hH => ?_)
  clear hK K
  have kB := kA.trans hk9
  refine tC 5 (o := ⟨some 46, _, _, _, _, _⟩) rfl (fun K hK => ?_)
  go_simp
  refine (q10 _ kB).mono ?_
  rintro e w10 ⟨rfl, hM10, hk10⟩
  go_wp2_with fail
  refine hK.out _ _ (hH.trans hk10) (fun hH => ?_)
  clear hK K
  refine tJ 6 ⟨some 4, _, _, _, _, _⟩ vt rfl hH ?_
  refine tJ 7 ⟨some 5, _, _, _, _, _⟩ (.int .i64 (E : Nat)) rfl hH ?_
  refine wpAnyH_done (by kernel_rfl) ?_ _
  go_wp2
  go_ret2
  have hgo : w.heap.size ≤ w9.heap.size := Nat.le_trans kww.out.size kB.size
  have hT : Told w.heap.size w10 vt [msgOf 3 ⟨xid, xo, xl, xbs⟩] Q9 := by
   refine (hT9.kept hk10 (fun k hk hm => ?_) (disk_clean (HH.out.kept0 (kd.trans kB)).disk)).low (Nat.le_trans kww.out.size kA.size)
   have h1 := (hT9.row.lt k hk).1
   have h2 := kA.size
   have h3 := kww.out.size
   have h4 := HH.out.low.2
   simp at hm
   omega
  have hEE := hE.out
  clear hE
  subst hEE
  exact ⟨vt, Q9, _, rfl, hT, Goes.of hM10 (((kww.out.trans kB).mono (by simp)).trans (hk10.mono fun k hk => List.mem_append.2 (.inr hk)))⟩
 ·obtain ⟨c0, c1, c4, s0, s1, s2, s3⟩ := hS.out [] w11 (by simp) (by simp) ((kd.trans (kept_undrew _)))
  have q9' := q9 4 (by decide) _ _ (blk_new w11 152 #[.int .i64 xid, .int .i64 xo, .int .i64 xl, .slice xsa xlen xcap])
  have kz := kept_alloc [] w11 (.cells #[.int .i64 xid, .int .i64 xo, .int .i64 xl, .slice xsa xlen xcap] 152)
  clear q9
  go_wp2_with (first
   | (go_at_call 72; refine q9'.mono ?_; rintro e w12 ⟨vt, Q12, rfl, hT12, hk12⟩))
  go_ret2
  have hz : Kept [] w w12 := (kww.out.trans (kept_undrew _)).trans (kz.trans hk12)
  exact ⟨vt, Q12, _, rfl, hT12.low (Nat.le_trans (kww.out.trans (kept_undrew _)).size kz.size), Goes.of ((HH.out.kept0 (kd.trans (kept_undrew _))).kept0 (kz.trans hk12)) (hz.mono (by simp))⟩
 ·obtain ⟨c0, c1, c4, s0, s1, s2, s3⟩ := hS.out [] w11 (by simp) (by simp) ((kd.trans (kept_undrew _)))
  have q9' := q9 5 (by decide) _ _ (blk_new w11 152 #[.int .i64 xid, .int .i64 xo, .int .i64 xl, .slice xsa xlen xcap])
  have kz := kept_alloc [] w11 (.cells #[.int .i64 xid, .int .i64 xo, .int .i64 xl, .slice xsa xlen xcap] 152)
  clear q9
  go_wp2_with (first
   | (go_at_call 72; refine q9'.mono ?_; rintro e w12 ⟨vt, Q12, rfl, hT12, hk12⟩))
  go_ret2
  have hz : Kept [] w w12 := (kww.out.trans (kept_undrew _)).trans (kz.trans hk12)
  exact ⟨vt, Q12, _, rfl, hT12.low (Nat.le_trans (kww.out.trans (kept_undrew _)).size kz.size), Goes.of ((HH.out.kept0 (kd.trans (kept_undrew _))).kept0 (kz.trans hk12)) (hz.mono (by simp))⟩
 ·have hOd := HO.out.kept kd (by simp) (clean_nil _)
  have hbd := (hxd.out.kept0 kd).lt
  have q7 := Later.push_any xid xo xl w11.drew hOd.lat hL (.slice xsa xlen xcap) _ xbs hbd (Nat.le_refl _) hxl
  clear q9
  go_wp2
  refine wp_region_held_drew (S := fun W => Kept (q :: gr.toList) w11.drew W) (by kernel_rfl) (Kept.refl _ _) (fun hP => ?_)
  have hH := hP
  clear hP
  refine tJ 0 ⟨some 30, _, _, _, _, _⟩ (.pointer (some ⟨m, 0, none⟩)) rfl hH ?_
  refine tJ 1 ⟨some 31, _, _, _, _, _⟩ (.pointer (some ⟨m, 0, none⟩)) rfl hH ?_
  refine tJ 2 ⟨some 32, _, _, _, _, _⟩ (.pointer (some ⟨m, 1, none⟩)) rfl hH ?_
  refine tI 3 ⟨some 33, _, _, _, _, _⟩ (.pointer (some ⟨q, 0, none⟩)) rfl (fun W hSw => by obtain ⟨c0, c1, c4, s0, s1, s2, s3⟩ := hS.out _ _ hQ.out.1 hQ.out.2 ((kd.mono (by simp)).trans hSw); go_simp) hH ?_
  refine tJ 4 ⟨some 34, _, _, _, _, _⟩ (.pointer (some ⟨N, 0, none⟩)) rfl hH ?_
  refine tI 5 ⟨some 35, _, _, _, _, _⟩ (.int .i64 xid) rfl (fun W hSw => by obtain ⟨c0, c1, c4, s0, s1, s2, s3⟩ := hS.out _ _ hQ.out.1 hQ.out.2 ((kd.mono (by simp)).trans hSw); go_simp) hH ?_
  refine tJ 6 ⟨some 36, _, _, _, _, _⟩ (.pointer (some ⟨N, 1, none⟩)) rfl hH ?_
  refine tI 7 ⟨some 37, _, _, _, _, _⟩ (.agg #[.int .i64 xo, .int .i64 xl]) rfl (fun W hSw => by obtain ⟨c0, c1, c4, s0, s1, s2, s3⟩ := hS.out _ _ hQ.out.1 hQ.out.2 ((kd.mono (by simp)).trans hSw); go_simp) hH ?_
  refine tJ 8 ⟨some 38, _, _, _, _, _⟩ (.pointer (some ⟨N, 3, none⟩)) rfl hH ?_
  refine tI 9 ⟨some 39, _, _, _, _, _⟩ (.slice xsa xlen xcap) rfl (fun W hSw => by obtain ⟨c0, c1, c4, s0, s1, s2, s3⟩ := hS.out _ _ hQ.out.1 hQ.out.2 ((kd.mono (by simp)).trans hSw); go_simp) hH ?_
  refine tC 10 (o := ⟨some 40, _, _, _, _, _⟩) rfl (fun K hK => ?_)
  go_simp
  refine (q7).mono ?_
  rintro e w10 ⟨rfl, gr7, hQ7, hk7, hn7⟩
  go_wp2_with fail
  refine hK.out _ _ (hH.trans hk7) (fun hH => ?_)
  clear hK K
  refine wpAnyH_done (by kernel_rfl) ?_ _
  go_wp2
  go_ret2
  obtain ⟨g1, g2, g3⟩ := hOd.waits hQ7 hn7 hk7
  exact ⟨_, [], _, rfl, Told.nil _ _, ⟨⟨_, _, _, _, _, _, _, _, rfl, g1⟩, fun k hk => (g2 k hk).imp id fun h => Nat.le_trans kww.out.size h, ((kww.out.mono (by simp)).trans (g3.mono fun k hk => List.mem_append.2 (.inl hk)))⟩⟩
end Go.Proofs.YtoaeficfmcncjaaGreat.Mirror
namespace Go.Proofs.YtoaeficfmcncjaaGreat.Mirror
open Go.RowKit
open Math
open Flight (Fw Fv FlAt Off WAt Listed)
open Later (Lw Lv QAt Foot RowAt kindP)
open Pack (Ms Mv)
structure ORow (base : Nat) (W : World) (v : Value) (P : List Lv) (gr : Option Nat) : Prop where
 row : RowAt 152 base W v P gr
 byt : ∀ x ∈ P, Later.Byt W (.slice x.sa x.len x.cap) x.bs
theorem ORow.nil (base : Nat) (W : World) : ORow base W (.slice none 0 0) [] none := ⟨Later.row_nil _ _ _, by simp⟩
theorem ORow.kept {base : Nat} {A B : World} {v : Value} {P : List Lv} {gr : Option Nat} {X : List Nat} (h : ORow base A v P gr) (hk : Kept X A B) (hX : ∀ g, gr = some g → g ∉ X) (hc : Clean A X) : ORow base B v P gr :=
 ⟨h.row.kept hk hX, fun x hx => hc.byt hk (h.byt x hx)⟩
theorem ORow.kept0 {base : Nat} {A B : World} {v : Value} {P : List Lv} {gr : Option Nat} (h : ORow base A v P gr) (hk : Kept [] A B) : ORow base B v P gr := h.kept hk (by simp) (clean_nil _)
theorem ORow.lrow {base : Nat} {W : World} {v : Value} {P : List Lv} {gr : Option Nat} (h : ORow base W v P gr) : LRow base W v P gr := ⟨h.row, fun x hx => (h.byt x hx).row⟩
theorem row_clean {base : Nat} {W : World} {v : Value} {P : List Lv} {gr : Option Nat} (h : RowAt 152 base W v P gr) : Clean W gr.toList := fun k hk => by
 obtain ⟨_, _, c, hc⟩ := h.low k (by simpa using hk)
 exact clean_of hc (by decide) (by decide)
theorem wat_range {ty : TypeId} {W : World} {base : Nat} {a : Option Addr} {n cap : Nat} {xs : List Fv} (h : WAt ty W base (.slice a n cap) xs) {j : Nat} {x : Fv} (hj : xs[j]? = some x) :
  ∃ g off, a = some ⟨g, off, none⟩ ∧ base ≤ g ∧ W.rangeAt g (off + j * 5) x.cells := by
 rcases h with ⟨e, h0⟩ | ⟨g, off, cap', e, hb, _, cur, hB, _, hc⟩
 ·subst h0
  simp at hj
 ·injection e with e1 _ _
  refine ⟨g, off, e1, hb, fun c v hv => ?_⟩
  have hlt : c < 5 := by
   have := (List.getElem?_eq_some_iff.1 hv).1
   simpa [Fv.cells] using this
  rw [hB.cell, hc j x hj c hlt]
  exact hv
theorem againL_snoc (L : List (Int × Fw)) (j : Nat) (c : Int × Fw) (h : L[j]? = some c) : againL (L.take (j + 1)) = againL (L.take j) ++ (if c.2.st = 1 then [lwOf c] else []) := by
 rw [List.take_add_one, h]
 unfold againL
 by_cases e : c.2.st = 1 <;> simp [e]
variable {lo m d b1 b2 : Nat} {K : List Nat} {M : Mr}
set_option maxRecDepth 100000 in
set_option maxHeartbeats 8000000 in
theorem again_any (w : World) (H : MiAt w lo m d b1 b2 K M) (hF : M.fly.length ≤ 600) :
  Calls Tryz.prog 84 #[.pointer (some ⟨m, 0, none⟩)] w fun e w' => ∃ v P gr, e = .returned v ∧ ORow w.heap.size w' v P gr ∧ P.map Lv.lw = againL M.fly ∧ Kept [] w w' := by
 obtain ⟨f, b, p, q, h, hi, F, gr, rfl, H⟩ := H
 have c0 := H.five.1
 have q1 := Flight.list_any w H.fly hF
 obtain ⟨L, hL⟩ : ∃ L, M.fly = L := ⟨_, rfl⟩
 rw [hL] at q1 hF ⊢
 clear hL H
 go_enter Tryz.func84, Tryz.ntmps84
 go_upto_region 3 with (first
  | (go_at_call 60; refine q1.mono ?_; clear q1; rintro e w1 ⟨vl, rfl, ⟨xs, hxs, hat, hwat⟩, hk1⟩; obtain ⟨la, lcap, rfl, hlc, -⟩ := id hwat.open))
 have hlen : xs.length = L.length := by rw [← hxs]; simp
 obtain ⟨N, hN⟩ : ∃ N, xs.length = N := ⟨_, rfl⟩
 rw [hN] at hlc hlen hwat ⊢
 replace hN : Hid _ := hN
 have hN6 : N ≤ 600 := by omega
 replace hlen : Hid _ := hlen
 go_loopw [12, 3] (fun i t wr => ∃ (j : Nat) (ta : Option Addr) (tn tc : Nat) (P : List Lv) (gr : Option Nat), j ≤ N ∧ i = .int .i64 j ∧ t = .slice ta tn tc ∧ ORow w1.heap.size wr (.slice ta tn tc) P gr ∧ P.map Lv.lw = againL (L.take j) ∧ P.length ≤ j ∧ Kept [] w1 wr) (fun i _ _ => N - (RowKit.intOf i).toNat)
 case atStart => exact ⟨0, none, 0, 0, [], none, Nat.zero_le _, rfl, rfl, ORow.nil _ _, rfl, Nat.le_refl _, Kept.refl _ _⟩
 case round =>
  obtain ⟨j, ta, tn, tc, P, gr, hj, rfl, rfl, hO, hP, hPl, hK⟩ := hrel
  by_cases hlt : j < N
  ·obtain ⟨x, hx⟩ : ∃ x, xs[j]? = some x := ⟨_, List.getElem?_eq_getElem (by have := hN.out; omega)⟩
   obtain ⟨g, off, rfl, hg, hr⟩ := wat_range (hwat.kept hK (by simp)) hx
   have hLj : L[j]? = some (x.t, x.fw) := Flight.fv_at_list hxs hx
   have hbx := (clean_nil w1).byt hK (later_flight (hat x (List.mem_of_getElem? hx)))
   have hnext : Hid (againL (L.take (j + 1)) = againL (L.take j) ++ (if x.st = 1 then [lwOf (x.t, x.fw)] else [])) := againL_snoc L j _ hLj
   have kk : (j : Int) < (N : Int) := by omega
   have kc : (j : Int) < (lcap : Int) := by omega
   have hm1 : Hid (N - (j + 1) < N - j) := by show _ < _; omega
   have hP9 : Hid (P.length + 1 ≤ 1000000) := by show _ ≤ _; omega
   have hw1 : Hid (w1.heap.size ≤ wr.heap.size) := hK.size
   have h0 := write_zero wr
   have ka := kept_alloc [] wr (.cells #[.int .i64 0, .int .i64 0, .int .i64 0, .slice none 0 0, .int .i64 0] 94)
   clear hx hLj
   replace hr : Hid _ := hr
   obtain ⟨xt, xo, xl, xsa, xlen, xcap, xst, xbs⟩ := x
   simp only [Fv.cells, Fv.fw] at hr hbx hnext
   by_cases h1 : xst = 1
   ·subst h1
    go_wp2_with (first
     | refine wpList_load_mid rfl 94 _ rfl g (off + j * 5) rfl [.int .i64 xt, .int .i64 xo, .int .i64 xl, .slice xsa xlen xcap, .int .i64 1] _ hr.out Tryz.underlying94 rfl Flight.Tryz.sizeW ?_
     | (refine wpList_store_blk rfl 94 _ _ rfl wr.heap.size 94 _ [.int .i64 xt, .int .i64 xo, .int .i64 xl, .slice xsa xlen xcap, .int .i64 1] rfl rfl h0 rfl Flight.Tryz.sizeW (by simp [Value.oneCell']) ?_; intro w3 hB3 hk3 hz3; have hk3' : Kept [] wr w3 := ka.young hk3 (Nat.le_refl _); have x0 := (hB3.cell 0).trans (show _ = some (Value.int .i64 xt) from rfl); have x1 := (hB3.cell 1).trans (show _ = some (Value.int .i64 xo) from rfl); have x2 := (hB3.cell 2).trans (show _ = some (Value.int .i64 xl) from rfl); have x3 := (hB3.cell 3).trans (show _ = some (Value.slice xsa xlen xcap) from rfl); have x4 := (hB3.cell 4).trans (show _ = some (Value.int .i64 1) from rfl); have hBn := blk_new w3 152 #[.int .i64 xt, .int .i64 xo, .int .i64 xl, .slice xsa xlen xcap]; have kb := hk3'.trans (kept_alloc [] w3 (.cells #[.int .i64 xt, .int .i64 xo, .int .i64 xl, .slice xsa xlen xcap] 152)))
     | (refine Later.wpList_append_row kindP rfl (.tmp 19) (.tmp 27) rfl w1.heap.size (.slice ta tn tc) P [⟨xt, xo, xl, xsa, xlen, xcap, xbs⟩] gr ⟨w3.heap.size, 0, none⟩ 1 1 rfl rfl rfl (hO.row.kept0 kb) (Later.one_lies hBn) hP9.out (Nat.le_trans hw1.out kb.size) ?_; intro sa6 n6 cap6 w6 gr6 hr6 hk6 hn6))
    have hlow := fun y (hy : y ∈ gr.toList) => (hO.row.low y (by simpa using hy)).1
    have hK6 : Kept [] w1 w6 := (hK.trans kb).youngs hk6 (fun y hy => .inr (hlow y hy))
    have hcl := row_clean (hO.row.kept0 kb)
    have hO6 : ORow w1.heap.size w6 (.slice sa6 n6 cap6) (P ++ [⟨xt, xo, xl, xsa, xlen, xcap, xbs⟩]) gr6 := by
     refine ⟨hr6, fun y hy => ?_⟩
     rcases List.mem_append.1 hy with h2 | h2
     ·exact hcl.byt hk6 ((hO.kept0 kb).byt y h2)
     ·rw [List.mem_singleton] at h2
      subst h2
      exact hcl.byt hk6 ((clean_nil _).byt kb hbx)
    go_round
    case rel => exact ⟨j + 1, sa6, n6, cap6, _, gr6, by omega, by go_num, rfl, hO6, by rw [hnext.out, List.map_append, hP]; rfl, by simp; omega, hK6⟩
    case measure => simp [RowKit.intOf]; omega
   ·have h1' : ¬ xst = (1 : Int) := h1
    go_wp2_with (first
     | refine wpList_load_mid rfl 94 _ rfl g (off + j * 5) rfl [.int .i64 xt, .int .i64 xo, .int .i64 xl, .slice xsa xlen xcap, .int .i64 xst] _ hr.out Tryz.underlying94 rfl Flight.Tryz.sizeW ?_
     | (refine wpList_store_blk rfl 94 _ _ rfl wr.heap.size 94 _ [.int .i64 xt, .int .i64 xo, .int .i64 xl, .slice xsa xlen xcap, .int .i64 xst] rfl rfl h0 rfl Flight.Tryz.sizeW (by simp [Value.oneCell']) ?_; intro w3 hB3 hk3 hz3; have hk3' : Kept [] wr w3 := ka.young hk3 (Nat.le_refl _); have x4 := (hB3.cell 4).trans (show _ = some (Value.int .i64 xst) from rfl)))
    go_round
    case rel => exact ⟨j + 1, ta, tn, tc, P, gr, by omega, by go_num, rfl, hO.kept0 hk3', by rw [hnext.out, if_neg h1, List.append_nil, hP], by omega, hK.trans hk3'⟩
    case measure => simp [RowKit.intOf]; omega
  ·obtain rfl : j = N := by omega
   go_wp2
   go_ret
   refine ⟨_, P, gr, rfl, ⟨hO.row.mono hk1.size, hO.byt⟩, ?_, hk1.trans hK⟩
   rw [hP, hlen.out, List.take_length]
end Go.Proofs.YtoaeficfmcncjaaGreat.Mirror
namespace Go.Proofs.YtoaeficfmcncjaaGreat.Mirror
open Go.RowKit
open Math
open Flight (Fw Fv FlAt Off WAt Listed)
open Later (Lw Lv QAt Foot RowAt kindP wentB wentW leftL)
open Clash (Ow OwsAt)
open Pack (Ms Mv)
def lenV : Value → Nat
 | .slice _ n _ => n
 | _ => 0
theorem storeS_ops {s : Dk} (hs : s.size ≤ 1024) (w : Lw) : (storeS s w).ops ≤ s.ops + 1030 ∧ (storeS s w).size = s.size := by
 have h1 := putS_ops s hs w.o w.l w.bs
 have h2 := putS_size s w.o w.l w.bs
 unfold storeS
 split
 ·unfold flushS
  split
  ·exact ⟨by show (areaS s w.o w.l w.bs).ops ≤ _; omega, h2⟩
  ·exact ⟨by show (areaS s w.o w.l w.bs).ops + 1 ≤ _; omega, h2⟩
 ·exact ⟨by omega, h2⟩
theorem owns_far {W : World} {base : Nat} {v : Value} {L : List (Int × Fw)} (h : Flight.OwnOws 288 W base v (Flight.owsL L)) : ∃ a cap, v = .slice a L.length cap ∧ ∀ X V, Kept X W V → (∀ x ∈ X, x < base) → OwsAt V a L.length cap (ownsM L) := by
 obtain ⟨a, cap, e, hc, h0⟩ := h.open
 have hl : (Flight.owsL L).length = L.length := by simp [Flight.owsL]
 rw [hl] at e hc
 refine ⟨a, cap, e, fun X V hk hX => ⟨by simp [ownsM], hc, ?_⟩⟩
 rcases h0 with h0 | ⟨g, e1, hb0, hg, cur, hb, hcs⟩
 ·left
  rw [← hl, h0]
  rfl
 ·have hb' := hb.kept hk (fun hm => by have := hX g hm; omega)
  refine .inr ⟨g, 0, e1, hb'.lt, fun j x hj => fun c v hv => ?_⟩
  obtain ⟨y, hy, rfl⟩ : ∃ y, L[j]? = some y ∧ (⟨y.2.o, y.2.l, !decide (y.2.st = 1)⟩ : Ow) = x := by simpa [ownsM] using hj
  have hlt : c < 3 := by
   have := (List.getElem?_eq_some_iff.1 hv).1
   simpa [Ow.cells] using this
  have := hcs j ⟨y.2.o, y.2.l, !decide (y.2.st = 1)⟩ (by simp [Flight.owsL, hy]) c hlt
  rw [Nat.zero_add, hb'.cell, this]
  exact hv
theorem left_none {O : List Ow} {q : List Lw} (h : wentB O q = false) : leftL O q = q := by
 unfold wentB at h
 unfold leftL
 cases hp : Later.pick O q with
 | none => rfl
 | some k => rw [hp] at h; cases h
theorem left_len {O : List Ow} {q : List Lw} (h : wentB O q = true) : (leftL O q).length + 1 = q.length := by
 unfold wentB at h
 unfold leftL
 cases hp : Later.pick O q with
 | none => rw [hp] at h; cases h
 | some k =>
  obtain ⟨hk, _⟩ := List.findIdx?_eq_some_iff_getElem.1 hp
  simp [Later.gone]
  omega
theorem apply_false {O : List Ow} {n : Nat} {d : Dk} {q acc : List Lw} (h : wentB O q = false) : applyR O n d q acc = (d, q, acc, 0) := by
 cases n with
 | zero => rfl
 | succ n =>
  unfold applyR
  rw [h]
  rfl
variable {lo m d b1 b2 f b p q h hi : Nat} {F : List Nat} {gr : Option Nat} {M : Mr}
theorem MiOp.all_lt {w : World} (H : MiOp w lo m d b1 b2 f b p q h hi F gr M) : ∀ k ∈ own m f b q h F gr ++ [d, b1, b2], k < w.heap.size := fun k hk => by
 rcases List.mem_append.1 hk with h1 | h1
 ·exact (H.low k h1).2
 ·have := H.disk.lt
  simp at h1
  omega
set_option maxRecDepth 100000 in
set_option maxHeartbeats 8000000 in
theorem apply_op (w : World) (H : MiOp w lo m d b1 b2 f b p q h hi F gr M) (hF : M.fly.length ≤ 600) (hL : M.lat.length ≤ 900000) (hops : M.d.ops + 1030 * M.lat.length ≤ 900000000000000) :
  Calls Tryz.prog 82 #[.pointer (some ⟨m, 0, none⟩)] w fun e w' => ∃ v P gp, e = .returned (.tuple #[v, .int .i64 ((appR M).2.2.2 : Nat)]) ∧ ORow w.heap.size w' v P gp ∧ P.map Lv.lw = (appR M).2.2.1 ∧ MiOp w' lo m d b1 b2 f b p q h hi F gr { M with d := (appR M).1, lat := (appR M).2.1 } ∧ Kept (own m f b q h F gr ++ [d, b1, b2]) w w' ∧ P.length ≤ M.lat.length := by
 have c0 := H.five.1
 have q1 := Flight.own_any w H.fly hF
 have hlt := H.all_lt
 have hsz : M.d.size ≤ 1024 := H.disk.valid.top
 obtain ⟨A, hA⟩ : ∃ A, own m f b q h F gr ++ [d, b1, b2] = A := ⟨_, rfl⟩
 have hqA : ∀ k ∈ q :: gr.toList, k ∈ A := fun k hk => by
  rw [← hA]
  refine List.mem_append.2 (.inl ?_)
  simp only [own, List.mem_cons, List.mem_append, List.cons_append] at hk ⊢
  rcases hk with h | h <;> simp [h]
 have hdA : ∀ k ∈ [d, b1, b2], k ∈ A := fun k hk => by rw [← hA]; exact List.mem_append.2 (.inr hk)
 rw [hA] at hlt ⊢
 obtain ⟨R, hR⟩ : ∃ R, appR M = R := ⟨_, rfl⟩
 rw [hR]
 replace hA : Hid _ := hA
 have HH : Hid (MiOp w lo m d b1 b2 f b p q h hi F gr M) := H
 clear H
 go_enter Tryz.func82, Tryz.ntmps82
 go_upto_region 3 with (first
  | (go_at_call 144; refine q1.mono ?_; clear q1; rintro e w1 ⟨vo, rfl, hvo, hk1⟩; obtain ⟨oa, ocap, rfl, hO⟩ := owns_far hvo; have H1 := HH.out.kept hk1 (by simp) (clean_nil _); have c1 := H1.five.2.1; have q2 := Later.next_any oa M.fly.length ocap (ownsM M.fly) w1 H1.lat (by omega) (hO [] w1 (Kept.refl _ _) (by simp)) (by omega)))
 have hm0 := H1.box
 replace H1 : Hid (MiOp w1 lo m d b1 b2 f b p q h hi F gr M) := H1
 replace hO : Hid (∀ X V, Kept X w1 V → (∀ x ∈ X, x < w.heap.size) → OwsAt V oa M.fly.length ocap (ownsM M.fly)) := hO
 obtain ⟨O, hOe⟩ : ∃ O, ownsM M.fly = O := ⟨_, rfl⟩
 rw [hOe] at q2
 go_upto_region 4 with (first
  | (go_at_call 149; refine q2.mono ?_; clear q2; rintro e w2 ⟨y, rfl, hy, hyA, hQ2, hk2⟩; have h20 := zero_lw w2; have ka := kept_alloc [] w2 (.cells #[.int .i64 0, .int .i64 0, .int .i64 0, .slice none 0 0] 152))
  | (refine wpList_store_blk rfl 152 _ _ rfl w2.heap.size 152 _ [.int .i64 y.id, .int .i64 y.o, .int .i64 y.l, .slice y.sa y.len y.cap] rfl rfl h20 rfl size_lw (by simp [Value.oneCell']) ?_; intro w3 hB3 hk3 hz3))
 have k23 : Kept [] w2 w3 := ka.young hk3 (Nat.le_refl _)
 have k13 : Kept A w1 w3 := (hk2.mono hqA).trans (k23.mono (by simp))
 have H3 := ((H1.out.waits hQ2 (fun g hg => .inl hg) hk2).1).kept k23 (by simp) (clean_nil _)
 have hy3 := (clean_nil _).byt k23 hyA
 have hge3 : w1.heap.size ≤ w2.heap.size := hk2.size
 have hW1 : Hid (w.heap.size ≤ w1.heap.size) := hk1.size
 have hk01 : Hid (Kept [] w w1) := hk1
 replace hlt : Hid (∀ k ∈ A, k < w.heap.size) := hlt
 replace hqA : Hid (∀ k ∈ q :: gr.toList, k ∈ A) := hqA
 replace hdA : Hid (∀ k ∈ [d, b1, b2], k ∈ A) := hdA
 replace hR : Hid _ := hR
 have hRR : appR M = applyR O M.lat.length M.d M.lat [] := by unfold appR; rw [hOe]
 clear hQ2 hk2 ka hk3 hz3 h20 k23 hyA hm0 hvo c0 c1 hk1
 go_loopw [4, 6, 7] (fun t pw ok wr => ∃ (k : Nat) (dd : Dk) (qq : List Lw) (P : List Lv) (gp : Option Nat) (y : Lv) (g6 : Nat) (ta : Option Addr) (tn tc : Nat), t = .slice ta tn tc ∧ pw = .pointer (some ⟨g6, 0, none⟩) ∧ ok = .bool (wentB O qq) ∧ Blk wr g6 152 #[.int .i64 y.id, .int .i64 y.o, .int .i64 y.l, .slice y.sa y.len y.cap] ∧ w1.heap.size ≤ g6 ∧ y.lw = Later.wentW O qq ∧ y.At wr ∧ MiOp wr lo m d b1 b2 f b p q h hi F gr { M with d := dd, lat := leftL O qq } ∧ ORow w1.heap.size wr t P gp ∧ (∀ g, gp = some g → g ≠ g6) ∧ applyR O k dd qq (P.map Lv.lw) = R ∧ qq.length ≤ k ∧ P.length + qq.length = M.lat.length ∧ dd.ops ≤ M.d.ops + 1030 * P.length ∧ dd.size ≤ 1024 ∧ Kept A w1 wr) (fun t _ _ _ => M.lat.length - lenV t)
 case atStart => exact ⟨M.lat.length, M.d, M.lat, [], none, y, w2.heap.size, none, 0, 0, rfl, rfl, rfl, hB3, hge3, hy, hy3, H3, ORow.nil _ _, by simp, by rw [← hR.out, hRR]; rfl, Nat.le_refl _, by simp, by omega, hsz, k13⟩
 case round =>
  clear hy hB3 H3 hy3 k13 hge3
  obtain ⟨k, dd, qq, P, gp, y, g6, ta, tn, tc, rfl, rfl, rfl, hB, hg6, hy, hyA, hH, hO4, hne, hap, hqk, hPq, hdo, hds, hK⟩ := hrel
  cases hw : wentB O qq with
  | false =>
   rw [apply_false hw] at hap
   rw [left_none hw] at hH
   replace hap : Hid _ := hap
   replace hH : Hid _ := hH
   go_wp2
   go_ret2
   rw [← hap.out]
   exact ⟨_, P, gp, rfl, ⟨hO4.row.mono hW1.out, hO4.byt⟩, rfl, hH.out, (hk01.out.mono (by simp)).trans hK, by omega⟩
  | true =>
   have hll := left_len hw
   obtain ⟨k', rfl⟩ : ∃ k', k = k' + 1 := ⟨k - 1, by omega⟩
   unfold applyR at hap
   rw [if_pos hw, ← hy] at hap
   have hclA : Clean wr A := by
    rw [← hA.out]
    exact hH.clean.app (disk_clean hH.disk)
   have q3 := store_op y A wr hH hdA.out (bts_later hyA hclA) (by show dd.ops ≤ _; omega)
   have so := storeS_ops hds y.lw
   have hg6A : g6 ∉ A := fun hm => by
    have := hlt.out g6 hm
    have := hW1.out
    omega
   have hgpA : ∀ g, gp = some g → g ∉ A := fun g hg hm => by
    have := hlt.out g hm
    have := hW1.out
    have := (hO4.row.low g hg).1
    omega
   have y0 := (hB.cell 0).trans (show _ = some (Value.int .i64 y.id) from rfl)
   have y1 := (hB.cell 1).trans (show _ = some (Value.int .i64 y.o) from rfl)
   have y2 := (hB.cell 2).trans (show _ = some (Value.int .i64 y.l) from rfl)
   have y3 := (hB.cell 3).trans (show _ = some (Value.slice y.sa y.len y.cap) from rfl)
   have hP9 : Hid (P.length + 1 ≤ 1000000) := by show _ ≤ _; omega
   unfold Lv.val at q3
   simp only [] at q3 so
   by_cases hE : storeE dd y.lw = 0
   ·rw [if_pos hE] at hap
    rw [hE] at q3
    go_wp2_with (first
     | (go_at_call 73; refine q3.mono ?_; clear q3; rintro e w4 ⟨rfl, H4, hk4⟩; have hkA4 := hk4.mono hdA.out; have hB4 := hB.kept hkA4 hg6A; have z0 := (hB4.cell 0).trans (show _ = some (Value.int .i64 y.id) from rfl); have z1 := (hB4.cell 1).trans (show _ = some (Value.int .i64 y.o) from rfl); have z2 := (hB4.cell 2).trans (show _ = some (Value.int .i64 y.l) from rfl); have z3 := (hB4.cell 3).trans (show _ = some (Value.slice y.sa y.len y.cap) from rfl); have hO5 := hO4.kept hkA4 hgpA hclA; have hBn := blk_new w4 152 #[.int .i64 y.id, .int .i64 y.o, .int .i64 y.l, .slice y.sa y.len y.cap]; have kb := kept_alloc [] w4 (.cells #[.int .i64 y.id, .int .i64 y.o, .int .i64 y.l, .slice y.sa y.len y.cap] 152); have hsz4 := hK.trans hkA4)
     | (refine Later.wpList_append_row kindP rfl (.tmp 40) (.tmp 42) rfl w1.heap.size (.slice ta tn tc) P [y] gp ⟨w4.heap.size, 0, none⟩ 1 1 rfl rfl rfl (hO5.row.kept0 kb) (Later.one_lies hBn) hP9.out (Nat.le_trans hsz4.size kb.size) ?_; intro sa6 n6 cap6 w6 gr6 hr6 hk6 hn6; have hgpl : ∀ g ∈ gp.toList, w1.heap.size ≤ g := (fun g hg => (hO4.row.low g (by simpa using hg)).1); have hcl6 := row_clean (hO5.row.kept0 kb); have kA6 : Kept A w1 w6 := (hsz4.trans (kb.mono (by simp))).youngs hk6 (fun g hg => .inr (hgpl g hg)); have hB6 := (hB4.kept kb (by simp)).kept hk6 (by simp; exact fun g => hne g6 g rfl); have v0 := (hB6.cell 0).trans (show _ = some (Value.int .i64 y.id) from rfl); have v1 := (hB6.cell 1).trans (show _ = some (Value.int .i64 y.o) from rfl); have v2 := (hB6.cell 2).trans (show _ = some (Value.int .i64 y.l) from rfl); have v3 := (hB6.cell 3).trans (show _ = some (Value.slice y.sa y.len y.cap) from rfl); have H6 := (H4.kept kb (by simp) (clean_nil _)).kept hk6 (by rw [hA.out]; exact fun g hg hm => by { have h1 := hlt.out g hg; have h2 := hW1.out; have h3 := hgpl g hm; omega }) hcl6; have h60 := zero_lw w6; have k6a := kept_alloc [] w6 (.cells #[.int .i64 0, .int .i64 0, .int .i64 0, .slice none 0 0] 152))
     | (refine wpList_store_blk rfl 152 _ _ rfl w6.heap.size 152 _ [.int .i64 y.id, .int .i64 y.o, .int .i64 y.l, .slice y.sa y.len y.cap] rfl rfl h60 rfl size_lw (by simp [Value.oneCell']) ?_; intro w7 hB7 hk7 hz7; have k67 : Kept [] w6 w7 := k6a.young hk7 (Nat.le_refl _); have H7 := H6.kept k67 (by simp) (clean_nil _); have kA7 := kA6.trans (k67.mono (by simp)); have d1 := H7.five.2.1; have q5 := Later.next_any oa M.fly.length ocap O w7 H7.lat (by show (leftL O qq).length ≤ _; omega) (by rw [← hOe]; exact hO.out A w7 kA7 hlt.out) (by omega))
     | (go_at_call 149; refine q5.mono ?_; clear q5; rintro e w8 ⟨y', rfl, hy', hyA', hQ8, hk8⟩; have hkA8 := hk8.mono hqA.out; have hn7 : w6.heap.size ∉ q :: gr.toList := (fun hm => by { have h1 := hlt.out _ (hqA.out _ hm); have h2 := hW1.out; have h3 := kA6.size; omega }); have hB8 := hB7.kept hk8 hn7)
     | (refine wpList_store_blk rfl 152 _ _ rfl w6.heap.size 152 _ [.int .i64 y'.id, .int .i64 y'.o, .int .i64 y'.l, .slice y'.sa y'.len y'.cap] rfl rfl hB8 rfl size_lw (by simp [Value.oneCell']) ?_; intro w9 hB9 hk9 hz9))
    have hcq : Clean w7 (q :: gr.toList) := H7.clean.mono (fun k hk => by simp only [own, List.mem_cons, List.mem_append, List.cons_append] at hk ⊢; rcases hk with h | h <;> simp [h])
    have hc9 : Clean w8 [w6.heap.size] := fun k hk => by
     rw [List.mem_singleton] at hk
     subst hk
     exact clean_of hB8 (by decide) (by decide)
    have h6A : w6.heap.size ∉ A := fun hm => by
     have h1 := hlt.out _ hm
     have h2 := hW1.out
     have h3 := kA6.size
     omega
    have H9 := ((H7.waits hQ8 (fun g hg => .inl hg) hk8).1).kept hk9 (by rw [hA.out]; exact fun k hk hm => h6A (by rw [List.mem_singleton] at hm; rw [← hm]; exact hk)) hc9
    have hgr6 : ∀ g, gr6 = some g → w1.heap.size ≤ g ∧ g < w6.heap.size := fun g hg => ⟨(hr6.low g hg).1, (hr6.low g hg).2.1⟩
    have hO6 : ORow w1.heap.size w6 (.slice sa6 n6 cap6) (P ++ [y]) gr6 := by
     refine ⟨hr6, fun x hx => ?_⟩
     rcases List.mem_append.1 hx with h2 | h2
     ·exact hcl6.byt hk6 ((hO5.kept0 kb).byt x h2)
     ·rw [List.mem_singleton] at h2
      subst h2
      exact hcl6.byt hk6 ((clean_nil _).byt kb (hclA.byt hkA4 hyA))
    have hO9 := ((hO6.kept0 k67).kept hk8 (fun g hg hm => by
     have h1 := hlt.out _ (hqA.out _ hm)
     have h2 := hW1.out
     have h3 := (hgr6 g hg).1
     omega) hcq).kept hk9 (fun g hg hm => by
     rw [List.mem_singleton] at hm
     have := (hgr6 g hg).2
     omega) hc9
    have hyA9 := hc9.byt hk9 hyA'
    have hKA9 : Kept A w1 w9 := (kA7.trans hkA8).youngs hk9 (fun g hg => .inr (by rw [List.mem_singleton] at hg; rw [hg]; exact kA6.size))
    have hn6 : n6 = P.length + 1 := by
     obtain ⟨_, _, e, _⟩ := hr6
     injection e with _ e _
     simpa using e
    have hlr := H9.disk.valid.top
    have htn : tn = P.length := by
     obtain ⟨_, _, e, _⟩ := hO4.row
     injection e
    go_round
    case rel => exact ⟨k', storeS dd y.lw, leftL O qq, P ++ [y], gr6, y', w6.heap.size, sa6, n6, cap6, rfl, rfl, rfl, hB9, kA6.size, hy', hyA9, H9, hO9, fun g hg => by have := (hgr6 g hg).2; omega, by rw [List.map_append]; exact hap, by omega, by simp; omega, by simp; omega, hlr, hKA9⟩
    case measure => simp [lenV]; omega
   ·rw [if_neg hE] at hap
    obtain ⟨E, hEE⟩ : ∃ E, storeE dd y.lw = E := ⟨_, rfl⟩
    rw [hEE] at q3 hap
    have hE0 : ¬ E = 0 := by rw [← hEE]; exact hE
    have hE1 : ¬ ((E : Int) = 0) := by omega
    replace hap : Hid _ := hap
    clear hE
    go_wp2_with (first
     | (go_at_call 73; refine q3.mono ?_; clear q3; rintro e w4 ⟨rfl, H4, hk4⟩; have hkA4 := hk4.mono hdA.out))
    go_ret2
    rw [← hap.out]
    refine ⟨_, P, gp, rfl, ?_, rfl, H4, (hk01.out.mono (by simp)).trans (hK.trans hkA4), by omega⟩
    exact ⟨(hO4.kept hkA4 hgpA hclA).row.mono hW1.out, (hO4.kept hkA4 hgpA hclA).byt⟩
end Go.Proofs.YtoaeficfmcncjaaGreat.Mirror
