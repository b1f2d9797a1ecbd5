/-
 The walks of a mirror's half: heat, store, land, look, writeOf.
-/
import Derived.Test.YtoaeficfmcncjaaGreatD38
import Derived.Test.YtoaeficfmcncjaaGreatD30
namespace Go.Proofs.YtoaeficfmcncjaaGreat.Mirror
open Go.RowKit
open Math
open Flight (Fw Fv FlAt Off)
open Later (Lw Lv QAt Foot)
open Pack (Ms Mv)

variable {lo m d b1 b2 : Nat} {K : List Nat} {M : Mr}
theorem kept_undrew (w : World) : Kept [] w.drew w := ⟨rfl, rfl, rfl, Nat.le_refl _, fun _ _ _ => rfl⟩
theorem ne_nat (a b : Nat) : (((a : Nat) : Int) != ((b : Nat) : Int)) = decide (a ≠ b) := by
 by_cases e : a = b
 ·simp [e]
 ·have : (a : Int) ≠ (b : Int) := by omega
  simp [e, this]
set_option maxRecDepth 100000 in
set_option maxHeartbeats 4000000 in
theorem heat_any (o l : Int) (w : World) (H : MiAt w lo m d b1 b2 K M) (hfit : Hot.fits M.most (Span.Math.ext o l) (Flight.exts M.fly) M.hot = true) (hops : M.d.ops ≤ 900000000000000) :
  Calls Tryz.prog 71 #[.pointer (some ⟨m, 0, none⟩), .agg #[.int .i64 o, .int .i64 l]] w fun e w' => e = .returned (.int .i64 (heatE M o l : Nat)) ∧ MiAt w' lo m d b1 b2 K { M with d := heatD M o l, hot := heatH M o l } ∧ Kept (K ++ [d, b1, b2]) w w' := by
 obtain ⟨f, b, p, q, h, hi, F, gr, rfl, H⟩ := H
 obtain ⟨W0, eW, hB0, k0, z0⟩ : ∃ W0, w.alloc (.cells #[.int .i64 o, .int .i64 l] 44) = W0 ∧ Blk W0 w.heap.size 44 #[.int .i64 o, .int .i64 l] ∧ Kept [] w W0 ∧ Hid (W0.heap.size = w.heap.size + 1) := ⟨_, rfl, blk_new w 44 _, kept_alloc [] w _, (by show _ = _; simp)⟩
 have H0 := H.kept (k0.trans (kept_drew [] W0)) (by simp) (clean_nil _)
 have kD := kept_drew [] W0
 have q3 := fun W => Span.extents_any o l W
 have q4 := fun W (hk : Kept [] W0.drew W) => Flight.extents_any W (H0.fly.kept0 hk)
 have q5 : ∀ W, Kept [] W0.drew W → Calls Tryz.prog 130 #[.pointer (some ⟨h, 0, none⟩), .int .u64 (Span.Math.ext o l : Nat), .int .u64 (Flight.exts M.fly : Nat)] W fun e w' => e = .returned (.tuple #[.bool (heatT M o l), .bool true]) ∧ HotAt w' h M.most (heatH M o l) ∧ Kept [h] W w' := fun W hk => by
  obtain ⟨v, hv⟩ := H0.hot.kept hk (by simp) (clean_nil _)
  refine (Hot.use_ok h (h + 1) M.most v M.hot _ _ (Span.Math.ext_lt o l) (Flight.exts_lt M.fly) W hv hfit).mono ?_
  rintro e w' ⟨rfl, h1, h2⟩
  refine ⟨?_, h1, of_hot h2⟩
  rw [ne_nat]
  rfl
 obtain ⟨N, hN⟩ : ∃ N, w.heap.size = N := ⟨_, rfl⟩
 rw [hN] at hB0
 have hbx := H0.box
 have hmN : m ∉ [h] ∧ N ∉ [h] := ⟨by simpa using Ne.symm H.seph, by have := H.hot.lt; simp; omega⟩
 have hS : Hid (∀ W, Kept [h] W0.drew W → W.cell? ⟨m, 0, none⟩ = some (.pointer (some ⟨f, 0, none⟩)) ∧ W.cell? ⟨m, 2, none⟩ = some (.pointer (some ⟨h, 0, none⟩)) ∧ W.cell? ⟨N, 0, none⟩ = some (.int .i64 o) ∧ W.cell? ⟨N, 1, none⟩ = some (.int .i64 l)) := fun W hk => by
  have e1 := hbx.kept hk hmN.1
  have e2 := (hB0.kept kD (by simp)).kept hk hmN.2
  exact ⟨(e1.cell 0).trans rfl, (e1.cell 2).trans rfl, (e2.cell 0).trans rfl, (e2.cell 1).trans rfl⟩
 have HH : Hid (MiOp W0.drew lo m d b1 b2 f b p q h hi F gr M) := H0
 have kw : Hid (Kept [] w W0.drew) := k0.trans kD
 unfold heatE heatD
 have hT : Hid (heatT M o l = heatT M o l) := rfl
 obtain ⟨T, eT⟩ : ∃ T, heatT M o l = T := ⟨_, rfl⟩
 obtain ⟨hH', eH⟩ : ∃ hH', heatH M o l = hH' := ⟨_, rfl⟩
 rw [eT, eH] at q5 ⊢
 clear H H0 hB0 hbx hT k0 z0 hfit kD
 go_enter Tryz.func71, Tryz.ntmps71
 go_wp2
 refine wp_region_held_drew (S := fun W => Kept [h] W0.drew W) (by kernel_rfl) (Kept.refl _ _) (fun hP => ?_)
 have hH := hP
 clear hP
 refine tI (i := 0) (oi := ⟨some 8, _, _, _, _, _⟩) (v := (.pointer (some ⟨m, 0, none⟩))) rfl (fun W hSw => by go_simp) hH ?_
 refine tI (i := 1) (oi := ⟨some 9, _, _, _, _, _⟩) (v := (.pointer (some ⟨m, 0, none⟩))) rfl (fun W hSw => by go_simp) hH ?_
 refine tI (i := 2) (oi := ⟨some 10, _, _, _, _, _⟩) (v := (.pointer (some ⟨m, 2, none⟩))) rfl (fun W hSw => by go_simp) hH ?_
 refine tI (i := 3) (oi := ⟨some 11, _, _, _, _, _⟩) (v := (.pointer (some ⟨h, 0, none⟩))) rfl (fun W hSw => by obtain ⟨c0, c2, s0, s1⟩ := hS.out _ hSw; go_simp) hH ?_
 refine tI (i := 4) (oi := ⟨some 12, _, _, _, _, _⟩) (v := (.agg #[.int .i64 o, .int .i64 l])) rfl (fun W hSw => by obtain ⟨c0, c2, s0, s1⟩ := hS.out _ hSw; go_simp) hH ?_
 refine tI (i := 6) (oi := ⟨some 14, _, _, _, _, _⟩) (v := (.pointer (some ⟨m, 0, none⟩))) rfl (fun W hSw => by go_simp) hH ?_
 refine tI (i := 7) (oi := ⟨some 15, _, _, _, _, _⟩) (v := (.pointer (some ⟨m, 0, none⟩))) rfl (fun W hSw => by go_simp) hH ?_
 refine tI (i := 8) (oi := ⟨some 16, _, _, _, _, _⟩) (v := (.pointer (some ⟨m, 0, none⟩))) rfl (fun W hSw => by go_simp) hH ?_
 refine tI (i := 9) (oi := ⟨some 17, _, _, _, _, _⟩) (v := (.pointer (some ⟨f, 0, none⟩))) rfl (fun W hSw => by obtain ⟨c0, c2, s0, s1⟩ := hS.out _ hSw; go_simp) hH ?_
 refine wpAnyH_ready (rs := [5]) (by kernel_rfl) (by simp) ?_
 refine AllReadyH.cons (o := ⟨some 13, _, _, _, _, _⟩) rfl (fun K hK => ?_) AllReadyH.nil
 go_simp
 refine (q3 _).mono ?_
 rintro e w5 ⟨rfl, hB⟩
 go_wp2_with fail
 have hH1 := hH.trans ((of_below hB).mono (by simp))
 refine hK.out _ _ hH1 (fun _ => ?_)
 replace hH := hH1
 clear hK K hH1
 try simp only [Act.put, List.setIfInBounds_toArray, List.set_cons_zero, List.set_cons_succ]
 refine wpAnyH_ready (rs := [10]) (by kernel_rfl) (by simp) ?_
 refine AllReadyH.cons (o := ⟨some 18, _, _, _, _, _⟩) rfl (fun K hK => ?_) AllReadyH.nil
 go_simp
 refine (q4 _ (of_below hB)).mono ?_
 rintro e w10 ⟨rfl, hk2⟩
 go_wp2_with fail
 have hH1 := hH.trans (hk2.mono (by simp))
 refine hK.out _ _ hH1 (fun _ => ?_)
 replace hH := hH1
 clear hK K hH1
 try simp only [Act.put, List.setIfInBounds_toArray, List.set_cons_zero, List.set_cons_succ]
 refine wpAnyH_ready (rs := [11]) (by kernel_rfl) (by simp) ?_
 refine AllReadyH.cons (o := ⟨some 19, _, _, _, _, _⟩) rfl (fun K hK => ?_) AllReadyH.nil
 go_simp
 refine (q5 _ ((of_below hB).trans hk2)).mono ?_
 rintro e w11 ⟨rfl, hA4, hk4⟩
 go_wp2_with fail
 have hH1 := hH.trans hk4
 refine hK.out _ _ hH1 (fun _ => ?_)
 replace hH := hH1
 clear hK K hH1
 try simp only [Act.put, List.setIfInBounds_toArray, List.set_cons_zero, List.set_cons_succ]
 refine tI (i := 12) (oi := ⟨some 7, _, _, _, _, _⟩) (v := (.tuple #[.bool T, .bool true])) rfl (fun W hSw => by go_simp) hH ?_
 refine tI (i := 13) (oi := ⟨some 20, _, _, _, _, _⟩) (v := (.bool T)) rfl (fun W hSw => by go_simp) hH ?_
 refine tI (i := 14) (oi := ⟨some 21, _, _, _, _, _⟩) (v := (.bool true)) rfl (fun W hSw => by go_simp) hH ?_
 refine tI (i := 15) (oi := ⟨some 5, _, _, _, _, _⟩) (v := (.bool T)) rfl (fun W hSw => by go_simp) hH ?_
 refine tI (i := 16) (oi := ⟨some 6, _, _, _, _, _⟩) (v := (.bool true)) rfl (fun W hSw => by go_simp) hH ?_
 refine wpAnyH_done (by kernel_rfl) ?_ _
 have k1 : Kept [] W0.drew w10 := (of_below hB).trans hk2
 have H1 := ((HH.out.kept k1 (by simp) (clean_nil _)).heated hA4 hk4).kept (kept_drew [] w11) (by simp) (clean_nil _)
 have kw1 : Hid (Kept [h] w w11) := ((kw.out.trans k1).mono (by simp)).trans hk4
 clear hS q3 q4 q5 hH kw HH hA4 hk4 hB hk2 k1
 have hx : ∀ k ∈ [h], k ∈ own m f b q h F gr ++ [d, b1, b2] := fun k hk => by
  rw [List.mem_singleton] at hk
  subst hk
  simp [own]
 have hy : ∀ k ∈ [d, b1, b2], k ∈ own m f b q h F gr ++ [d, b1, b2] := fun k hk => List.mem_append.2 (.inr hk)
 cases T with
 | false =>
  go_wp2
  go_ret
  exact ⟨rfl, ⟨f, b, p, q, _, hi, F, gr, rfl, H1.kept (kept_undrew _) (by simp) (clean_nil _)⟩, kw1.out.mono hx⟩
 | true =>
  have q6 : ∀ W, Kept [] w11.drew W → Calls Tryz.prog 57 #[.pointer (some ⟨h, 0, none⟩)] W fun e w' => e = .returned (.int .u64 (Hot.mask hH' : Nat)) ∧ Below W.heap.size W w' := fun W hk => by
   obtain ⟨v, hv⟩ := H1.hot.kept hk (by simp) (clean_nil _)
   exact Hot.mask_any h (h + 1) M.most v hH' W hv
  have q7 := fun W (hk : Kept [] w11.drew W) => logPut_any d b1 b2 M.d (Hot.mask hH') (Hot.mask_lt hH') (by omega) W (H1.disk.kept hk (by simp) (by simp) (by simp))
  have hmd : m ∉ [d, b1, b2] := fun hm => by
   have h1 := H1.lows.1
   have h2 := H1.old
   simp at hm
   omega
  have hbx := H1.box
  have hS : Hid (∀ W, Kept [d, b1, b2] w11.drew W → W.cell? ⟨m, 2, none⟩ = some (.pointer (some ⟨h, 0, none⟩)) ∧ W.cell? ⟨m, 3, none⟩ = some (.pointer (some ⟨d, 0, none⟩))) := fun W hk => ⟨((hbx.kept hk hmd).cell 2).trans rfl, ((hbx.kept hk hmd).cell 3).trans rfl⟩
  obtain ⟨E, hE⟩ : ∃ E, logE M.d (Hot.mask hH') = E := ⟨_, rfl⟩
  rw [hE] at q7
  replace hE : Hid _ := hE
  replace H1 : Hid _ := H1
  clear hbx hmd
  go_wp2
  refine wp_region_held_drew (S := fun W => Kept [d, b1, b2] w11.drew W) (by kernel_rfl) (Kept.refl _ _) (fun hP => ?_)
  have hH := hP
  clear hP
  refine tI (i := 0) (oi := ⟨some 24, _, _, _, _, _⟩) (v := (.pointer (some ⟨m, 0, none⟩))) rfl (fun W hSw => by go_simp) hH ?_
  refine tI (i := 1) (oi := ⟨some 25, _, _, _, _, _⟩) (v := (.pointer (some ⟨m, 0, none⟩))) rfl (fun W hSw => by go_simp) hH ?_
  refine tI (i := 2) (oi := ⟨some 26, _, _, _, _, _⟩) (v := (.pointer (some ⟨m, 3, none⟩))) rfl (fun W hSw => by go_simp) hH ?_
  refine tI (i := 3) (oi := ⟨some 27, _, _, _, _, _⟩) (v := (.pointer (some ⟨d, 0, none⟩))) rfl (fun W hSw => by obtain ⟨c2, c3⟩ := hS.out _ hSw; go_simp) hH ?_
  refine tI (i := 4) (oi := ⟨some 28, _, _, _, _, _⟩) (v := (.pointer (some ⟨m, 0, none⟩))) rfl (fun W hSw => by go_simp) hH ?_
  refine tI (i := 5) (oi := ⟨some 29, _, _, _, _, _⟩) (v := (.pointer (some ⟨m, 0, none⟩))) rfl (fun W hSw => by go_simp) hH ?_
  refine tI (i := 6) (oi := ⟨some 30, _, _, _, _, _⟩) (v := (.pointer (some ⟨m, 2, none⟩))) rfl (fun W hSw => by go_simp) hH ?_
  refine tI (i := 7) (oi := ⟨some 31, _, _, _, _, _⟩) (v := (.pointer (some ⟨h, 0, none⟩))) rfl (fun W hSw => by obtain ⟨c2, c3⟩ := hS.out _ hSw; go_simp) hH ?_
  refine wpAnyH_ready (rs := [8]) (by kernel_rfl) (by simp) ?_
  refine AllReadyH.cons (o := ⟨some 32, _, _, _, _, _⟩) rfl (fun K hK => ?_) AllReadyH.nil
  go_simp
  refine (q6 _ (Kept.refl _ _)).mono ?_
  rintro e w8 ⟨rfl, hB6⟩
  go_wp2_with fail
  have hH1 := hH.trans ((of_below hB6).mono (by simp))
  refine hK.out _ _ hH1 (fun _ => ?_)
  replace hH := hH1
  clear hK K hH1
  try simp only [Act.put, List.setIfInBounds_toArray, List.set_cons_zero, List.set_cons_succ]
  refine wpAnyH_ready (rs := [9]) (by kernel_rfl) (by simp) ?_
  refine AllReadyH.cons (o := ⟨some 33, _, _, _, _, _⟩) rfl (fun K hK => ?_) AllReadyH.nil
  go_simp
  refine (q7 _ (of_below hB6)).mono ?_
  rintro e w9 ⟨rfl, hD7, hk7⟩
  go_wp2_with fail
  have hH1 := hH.trans hk7
  refine hK.out _ _ hH1 (fun _ => ?_)
  replace hH := hH1
  clear hK K hH1
  try simp only [Act.put, List.setIfInBounds_toArray, List.set_cons_zero, List.set_cons_succ]
  refine tI (i := 10) (oi := ⟨some 4, _, _, _, _, _⟩) (v := (.int .i64 (E : Nat))) rfl (fun W hSw => by go_simp) hH ?_
  refine wpAnyH_done (by kernel_rfl) ?_ _
  go_wp2
  go_ret
  refine ⟨by rw [← hE.out]; rfl, ⟨f, b, p, q, _, hi, F, gr, rfl, (H1.out.kept (of_below hB6) (by simp) (clean_nil _)).turned hD7 hk7⟩, ?_⟩
  exact (((kw1.out.trans (kept_drew [h] w11)).trans ((of_below hB6).mono (by simp))).mono hx).trans (hk7.mono hy)
set_option maxRecDepth 100000 in
set_option maxHeartbeats 4000000 in
theorem store_op {f b p q h hi : Nat} {F : List Nat} {gr : Option Nat} (x : Lv) (X : List Nat) (w : World) (H : MiOp w lo m d b1 b2 f b p q h hi F gr M) (hX : ∀ k ∈ [d, b1, b2], k ∈ X) (hx : Bts w X (.slice x.sa x.len x.cap) x.bs) (hops : M.d.ops ≤ 900000000000000) :
  Calls Tryz.prog 73 #[.pointer (some ⟨m, 0, none⟩), x.val] w fun e w' => e = .returned (.int .i64 (storeE M.d x.lw : Nat)) ∧ MiOp w' lo m d b1 b2 f b p q h hi F gr { M with d := storeS M.d x.lw } ∧ Kept [d, b1, b2] w w' := by
 obtain ⟨xid, xo, xl, xsa, xlen, xcap, xbs⟩ := x
 simp only [Lv.val, Lv.lw] at *
 obtain ⟨W0, eW, hB0, k0, z0⟩ : ∃ W0, w.alloc (.cells #[.int .i64 xid, .int .i64 xo, .int .i64 xl, .slice xsa xlen xcap] 152) = W0 ∧ Blk W0 w.heap.size 152 #[.int .i64 xid, .int .i64 xo, .int .i64 xl, .slice xsa xlen xcap] ∧ Kept [] w W0 ∧ Hid (W0.heap.size = w.heap.size + 1) := ⟨_, rfl, blk_new w 152 _, kept_alloc [] w _, (by show _ = _; simp)⟩
 have kD := k0.trans (kept_drew [] W0)
 have H0 := H.kept kD (by simp) (clean_nil _)
 obtain ⟨lo', hi', r1, r2, r3⟩ := (hx.kept0 kD).da
 have q1 := dWrite_any d b1 b2 M.d xo xl (.slice xsa xlen xcap) xbs lo' hi' W0.drew H0.disk hops r1 r2 (fun k hk => r3 k (hX k hk))
 obtain ⟨N, hN⟩ : ∃ N, w.heap.size = N := ⟨_, rfl⟩
 rw [hN] at hB0
 have hmd : m ∉ [d, b1, b2] ∧ N ∉ [d, b1, b2] := by
  have h1 := H.lows.1
  have h2 := H.old
  have h3 := H.disk.lt
  simp
  omega
 have hbx := H0.box
 have hS : Hid (∀ W, Kept [d, b1, b2] W0.drew W → W.cell? ⟨m, 3, none⟩ = some (.pointer (some ⟨d, 0, none⟩)) ∧ W.cell? ⟨N, 1, none⟩ = some (.int .i64 xo) ∧ W.cell? ⟨N, 2, none⟩ = some (.int .i64 xl) ∧ W.cell? ⟨N, 3, none⟩ = some (.slice xsa xlen xcap)) := fun W hk => by
  have e1 := hbx.kept hk hmd.1
  have e2 := (hB0.kept (kept_drew [] W0) (by simp)).kept hk hmd.2
  exact ⟨(e1.cell 3).trans rfl, (e2.cell 1).trans rfl, (e2.cell 2).trans rfl, (e2.cell 3).trans rfl⟩
 have HH : Hid (MiOp W0.drew lo m d b1 b2 f b p q h hi F gr M) := H0
 have kw : Hid (Kept [] w W0.drew) := kD
 have hsz : M.d.size ≤ 1024 := H.disk.valid.top
 unfold storeE storeS
 simp only [] at *
 have ho2 : (areaS M.d xo xl xbs).ops ≤ 1000000000000000 := Nat.le_trans (putS_ops M.d hsz xo xl xbs) (by omega)
 clear H H0 hB0 hbx r1 r2 r3 hx k0 z0 kD
 obtain ⟨E, hE⟩ : ∃ E, areaE M.d xo xl xbs = E := ⟨_, rfl⟩
 obtain ⟨D, hD⟩ : ∃ D, areaS M.d xo xl xbs = D := ⟨_, rfl⟩
 rw [hE, hD] at q1 ⊢
 rw [hD] at ho2
 go_enter Tryz.func73, Tryz.ntmps73
 go_wp2
 refine wp_region_held_drew (S := fun W => Kept [d, b1, b2] W0.drew W) (by kernel_rfl) (Kept.refl _ _) (fun hP => ?_)
 have hH := hP
 clear hP
 refine tI (i := 0) (oi := ⟨some 6, _, _, _, _, _⟩) (v := (.pointer (some ⟨m, 0, none⟩))) rfl (fun W hSw => by go_simp) hH ?_
 refine tI (i := 1) (oi := ⟨some 7, _, _, _, _, _⟩) (v := (.pointer (some ⟨m, 0, none⟩))) rfl (fun W hSw => by go_simp) hH ?_
 refine tI (i := 2) (oi := ⟨some 8, _, _, _, _, _⟩) (v := (.pointer (some ⟨m, 3, none⟩))) rfl (fun W hSw => by go_simp) hH ?_
 refine tI (i := 3) (oi := ⟨some 9, _, _, _, _, _⟩) (v := (.pointer (some ⟨d, 0, none⟩))) rfl (fun W hSw => by obtain ⟨c3, s0, s1, s2⟩ := hS.out _ hSw; go_simp) hH ?_
 refine tI (i := 4) (oi := ⟨some 10, _, _, _, _, _⟩) (v := (.pointer (some ⟨N, 1, none⟩))) rfl (fun W hSw => by go_simp) hH ?_
 refine tI (i := 5) (oi := ⟨some 11, _, _, _, _, _⟩) (v := (.agg #[.int .i64 xo, .int .i64 xl])) rfl (fun W hSw => by obtain ⟨c3, s0, s1, s2⟩ := hS.out _ hSw; go_simp) hH ?_
 refine tI (i := 6) (oi := ⟨some 12, _, _, _, _, _⟩) (v := (.pointer (some ⟨N, 3, none⟩))) rfl (fun W hSw => by go_simp) hH ?_
 refine tI (i := 7) (oi := ⟨some 13, _, _, _, _, _⟩) (v := (.slice xsa xlen xcap)) rfl (fun W hSw => by obtain ⟨c3, s0, s1, s2⟩ := hS.out _ hSw; go_simp) hH ?_
 refine wpAnyH_ready (rs := [8]) (by kernel_rfl) (by simp) ?_
 refine AllReadyH.cons (o := ⟨some 14, _, _, _, _, _⟩) rfl (fun K hK => ?_) AllReadyH.nil
 go_simp
 refine (q1).mono ?_
 rintro e w8 ⟨rfl, hD1, hk1⟩
 go_wp2_with fail
 have hH1 := hH.trans hk1
 refine hK.out _ _ hH1 (fun _ => ?_)
 replace hH := hH1
 clear hK K hH1
 try simp only [Act.put, List.setIfInBounds_toArray, List.set_cons_zero, List.set_cons_succ]
 refine tI (i := 9) (oi := ⟨some 5, _, _, _, _, _⟩) (v := (.int .i64 (E : Nat))) rfl (fun W hSw => by go_simp) hH ?_
 refine wpAnyH_done (by kernel_rfl) ?_ _
 have H1 := HH.out.turned hD1 hk1
 have kw1 : Hid (Kept [d, b1, b2] w w8) := (kw.out.mono (by simp)).trans hk1
 have c3 := (H1.box.cell 3).trans (show _ = some (Value.pointer (some ⟨d, 0, none⟩)) from rfl)
 by_cases e0 : E = 0
 ·subst e0
  have q2 := flush_any d b1 b2 D ho2 w8 hD1
  replace H1 : Hid _ := H1
  go_wp2_with (go_at_call 134; refine q2.mono ?_; rintro e w9 ⟨rfl, hD9, hk9⟩)
  go_ret
  exact ⟨rfl, H1.out.turned hD9 hk9, kw1.out.trans hk9⟩
 ·have e1 : ¬ ((E : Int) = 0) := by omega
  replace H1 : Hid _ := H1
  go_wp2
  go_ret
  exact ⟨rfl, H1.out, kw1.out⟩
set_option maxRecDepth 100000 in
theorem store_any (x : Lv) (X : List Nat) (w : World) (H : MiAt w lo m d b1 b2 K M) (hX : ∀ k ∈ [d, b1, b2], k ∈ X) (hx : Bts w X (.slice x.sa x.len x.cap) x.bs) (hops : M.d.ops ≤ 900000000000000) :
  Calls Tryz.prog 73 #[.pointer (some ⟨m, 0, none⟩), x.val] w fun e w' => e = .returned (.int .i64 (storeE M.d x.lw : Nat)) ∧ MiAt w' lo m d b1 b2 K { M with d := storeS M.d x.lw } ∧ Kept [d, b1, b2] w w' := by
 obtain ⟨f, b, p, q, h, hi, F, gr, rfl, H⟩ := H
 refine (store_op x X w H hX hx hops).mono ?_
 rintro e w' ⟨h1, h2, h3⟩
 exact ⟨h1, ⟨f, b, p, q, h, hi, F, gr, rfl, h2⟩, h3⟩
def IRow (base : Nat) (W : World) (v : Value) (l : List Int) : Prop := W.ownsRow base 3 1 v l.length (l.map fun x => .int .i64 x)
theorem IRow.nil (base : Nat) (W : World) : IRow base W (.slice none 0 0) [] := World.ownsRow_nil W base 3 1
theorem IRow.one {base : Nat} {W : World} {g : Nat} {x : Int} (h : Blk W g 3 #[.int .i64 x]) (hb : base ≤ g) : IRow base W (.slice (some ⟨g, 0, none⟩) 1 1) [x] :=
 ⟨by simp, .inr ⟨g, 1, _, rfl, hb, h, Nat.le_refl _, by unfold maxLen; omega, rfl, rfl⟩⟩
theorem IRow.kept {base : Nat} {L : List Nat} {A B : World} {v : Value} {l : List Int} (h : IRow base A v l) (hk : Kept L A B) (hL : ∀ k, v.ownBlock = some k → k ∉ L) : IRow base B v l := by
 refine ⟨h.1, ?_⟩
 rcases h.2 with h0 | ⟨g, cap, cur, rfl, hb, hg, h1⟩
 ·exact .inl h0
 ·exact .inr ⟨g, cap, cur, rfl, hb, (hk.block g (Array.getElem?_eq_some_iff.1 hg).1 (hL g rfl)).trans hg, h1⟩
structure Goes (w w' : World) (lo m d b1 b2 : Nat) (K K' : List Nat) (M : Mr) : Prop where
 at_ : MiAt w' lo m d b1 b2 K' M
 new : ∀ k ∈ K', k ∈ K ∨ w.heap.size ≤ k
 kept : Kept (K ++ [d, b1, b2]) w w'
theorem Goes.trans {a b c : World} {K K1 K2 : List Nat} {M1 M2 : Mr} (h : Goes a b lo m d b1 b2 K K1 M1) (k : Goes b c lo m d b1 b2 K1 K2 M2) : Goes a c lo m d b1 b2 K K2 M2 := by
 refine ⟨k.at_, fun j hj => ?_, h.kept.youngs k.kept fun j hj => ?_⟩
 ·rcases k.new j hj with h1 | h1
  ·exact h.new j h1
  ·exact .inr (Nat.le_trans h.kept.size h1)
 ·rcases List.mem_append.1 hj with h1 | h1
  ·exact (h.new j h1).imp (fun h => List.mem_append.2 (.inl h)) id
  ·exact .inl (List.mem_append.2 (.inr h1))
theorem Goes.of {a b : World} (h : MiAt b lo m d b1 b2 K M) (hk : Kept (K ++ [d, b1, b2]) a b) : Goes a b lo m d b1 b2 K K M := ⟨h, fun _ h => .inl h, hk⟩
theorem Goes.apart {a b : World} {K' : List Nat} {k : Nat} (h : Goes a b lo m d b1 b2 K K' M) (hk : k < a.heap.size) (hn : k ∉ K ++ [d, b1, b2]) : k ∉ K' ++ [d, b1, b2] := fun hm => by
 rcases List.mem_append.1 hm with h1 | h1
 ·rcases h.new k h1 with h2 | h2
  ·exact hn (List.mem_append.2 (.inl h2))
  ·omega
 ·exact hn (List.mem_append.2 (.inr h1))
set_option maxRecDepth 100000 in
set_option maxHeartbeats 4000000 in
theorem land_any (t : Int) (h0 : -9223372036854775808 ≤ t) (h1 : t ≤ 9223372036854775807) (w : World) (H : MiAt w lo m d b1 b2 K M) (hF : M.fly.length ≤ 600) :
  Calls Tryz.prog 80 #[.pointer (some ⟨m, 0, none⟩), .int .i64 t] w fun e w' => ∃ v K', e = .returned v ∧ IRow w.heap.size w' v (if Flight.endOk M.fly t then [t] else []) ∧ Goes w w' lo m d b1 b2 K K' { M with fly := Flight.endL M.fly t } := by
 obtain ⟨f, b, p, q, h, hi, F, gr, rfl, H⟩ := H
 have c0 := H.five.1
 have hlo : lo ≤ w.heap.size := by have := (H.low m (by simp [own])); omega
 have q1 := Flight.end_any t h0 h1 w H.fly hF hlo
 obtain ⟨E, hE⟩ : ∃ E, Flight.endOk M.fly t = E := ⟨_, rfl⟩
 rw [hE] at q1 ⊢
 have HH : Hid (MiOp w lo m d b1 b2 f b p q h hi F gr M) := H
 clear H
 cases E with
 | true =>
  go_enter Tryz.func80, Tryz.ntmps80
  go_wp2_with (go_at_call 146; refine q1.mono ?_; rintro e w1 ⟨F', rfl, hF1, hn1, hk1⟩)
  obtain ⟨h2, h3, h4⟩ := HH.out.flew hF1 hn1 hk1
  have hb := blk_new w1 3 #[.int .i64 t]
  have ka := kept_alloc [] w1 (.cells #[.int .i64 t] 3)
  replace h2 : Hid _ := h2
  go_wp2
  go_ret
  exact ⟨_, rfl, IRow.one hb hk1.size, _, ⟨⟨_, _, _, _, _, _, _, _, rfl, h2.out.kept ka (by simp) (clean_nil _)⟩, h3, (h4.trans (ka.mono (by simp))).mono (fun k hk => List.mem_append.2 (.inl hk))⟩⟩
 | false =>
  go_enter Tryz.func80, Tryz.ntmps80
  go_wp2_with (go_at_call 146; refine q1.mono ?_; rintro e w1 ⟨F', rfl, hF1, hn1, hk1⟩)
  obtain ⟨h2, h3, h4⟩ := HH.out.flew hF1 hn1 hk1
  replace h2 : Hid _ := h2
  go_wp2
  go_ret
  exact ⟨_, rfl, IRow.nil _ _, _, ⟨⟨_, _, _, _, _, _, _, _, rfl, h2.out⟩, h3, h4.mono (fun k hk => List.mem_append.2 (.inl hk))⟩⟩
set_option maxRecDepth 100000 in
theorem look_deferred (g k : Nat) (v : Value) (E : Nat) (u : FrameMode) (w : World) (hg : Blk w g 76 #[v]) (hk : Blk w k 28 #[.int .i64 (E : Int)]) :
  CallsD Tryz.prog 70 #[.pointer (some ⟨g, 0, none⟩), .pointer (some ⟨k, 0, none⟩)] u w fun e u' w' => u' = u ∧ (e = .returned (.tuple #[]) ∧ Blk w' g 76 #[if E = 0 then v else .slice none 0 0] ∧ Kept [g] w w') := by
 have c0 := (hk.cell 0).trans (show _ = some (Value.int .i64 (E : Int)) from rfl)
 have f0 := hg.frozen 0
 have c1 := (hg.cell 0).trans (show _ = some v from rfl)
 by_cases e0 : E = 0
 ·subst e0
  go_enter_d Tryz.func70, Tryz.ntmps70
  go_wp2
  go_end0
  exact ⟨rfl, hg, Kept.refl _ _⟩
 ·have e1 : ¬ ((E : Int) = 0) := by omega
  go_enter_d Tryz.func70, Tryz.ntmps70
  go_wp2
  go_end0
  exact ⟨rfl, hg.set 0 _, kept_set (by simp) _ _ _⟩
end Go.Proofs.YtoaeficfmcncjaaGreat.Mirror
