/-
 Go.
-/
import Derived.Test.YtoaeficfmcncjaaGreatD46
import Derived.Test.YtoaeficfmcncjaaGreatD30
namespace Go.Proofs.YtoaeficfmcncjaaGreat.Mirror
open Go.RowKit
open Math
open Flight (Fw Fv FlAt Off)
open Later (Lw Lv QAt Foot RowAt)
open Pack (Ms Mv)
open Resync

variable {lo m d b1 b2 : Nat} {K : List Nat} {M : Mr}
theorem clean_pair {W : World} {N : Nat} {v0 e0 : Array Value} (h1 : Blk W N 76 v0) (h2 : Blk W (N + 1) 28 e0) : Clean W [N, N + 1] := fun k hk => by
 simp only [List.mem_cons, List.not_mem_nil, or_false] at hk
 rcases hk with rfl | rfl
 ·exact clean_of h1 (by decide) (by decide)
 ·exact clean_of h2 (by decide) (by decide)
set_option maxRecDepth 100000 in
set_option maxHeartbeats 8000000 in
theorem go_any (w : World) (H : MiAt w lo m d b1 b2 K M) (hF : M.fly.length ≤ 600) (hL : M.lat.length ≤ 900000) (hops : M.d.ops + 1030 * M.lat.length + 1030 * M.fly.length ≤ 900000000000000) :
  Calls Tryz.prog 35 #[.pointer (some ⟨m, 0, none⟩)] w fun e w' => ∃ v Q K', e = .returned (.tuple #[v, .int .i64 (goE M : Nat)]) ∧ Told w.heap.size w' v (goO M) Q ∧ Goes w w' lo m d b1 b2 K K' (goS M) := by
 obtain ⟨N, hN⟩ : ∃ N, w.heap.size = N := ⟨_, rfl⟩
 obtain ⟨W0, eW, hB1, hB2, k0⟩ : ∃ W0, (w.alloc (.cells #[.slice none 0 0] 76)).alloc (.cells #[.int .i64 0] 28) = W0 ∧ Blk W0 N 76 #[.slice none 0 0] ∧ Blk W0 (N + 1) 28 #[.int .i64 0] ∧ Kept [] w W0 := by
  refine ⟨_, rfl, ?_, ?_, (kept_alloc [] w _).trans (kept_alloc [] _ _)⟩
  ·subst hN
   exact (blk_new w 76 _).kept (kept_alloc [] _ _) (by simp)
  ·have := blk_new (w.alloc (.cells #[.slice none 0 0] 76)) 28 #[.int .i64 0]
   subst hN
   simpa using this
 have q1 : Calls Tryz.prog 56 #[.pointer (some ⟨m, 0, none⟩)] W0 fun e w' => e = .returned (.bool true) ∧ W0 = w' := (made_any W0 (H.kept0 k0)).mono (fun _ _ h => ⟨h.1, h.2.symm⟩)
 obtain ⟨f, b, p, q, h, hi, F, gr, rfl, HO⟩ := H
 have hbs : ∀ c ∈ M.fly, c.2.bs.length ≤ 140737488351232 := HO.fly.fit.short
 have hKN : ∀ k ∈ own m f b q h F gr ++ [d, b1, b2], k < N := by rw [← hN]; exact HO.all_lt
 replace HO := HO.kept k0 (by simp) (clean_nil _)
 have hsz : M.d.size ≤ 1024 := HO.disk.valid.top
 obtain ⟨a1, a2, a3⟩ := applyR_ops (ownsM M.fly) M.lat.length M.d M.lat [] hsz
 have q2 := apply_op W0 HO hF hL (by omega)
 have hS0 : N + 1 < W0.heap.size := hB2.lt
 have hN1 : N ∉ own m f b q h F gr ++ [d, b1, b2] ∧ N + 1 ∉ own m f b q h F gr ++ [d, b1, b2] := ⟨fun hm => by have := hKN _ hm; omega, fun hm => by have := hKN _ hm; omega⟩
 have hKn : ∀ k ∈ own m f b q h F gr ++ [d, b1, b2], k ∉ [N, N + 1] := fun k hk => by have := hKN k hk; simp; omega
 have hKe : ∀ k ∈ own m f b q h F gr ++ [d, b1, b2], k ∉ [N + 1] := fun k hk => by have := hKN k hk; simp; omega
 obtain ⟨A, hA⟩ : ∃ A, appR M = A := ⟨_, rfl⟩
 have hA' : Hid (appR M = A) := hA
 rw [hA] at q2
 change (appR M).1.ops ≤ _ at a1
 change (appR M).1.size = _ at a2
 change (appR M).2.1.length ≤ _ at a3
 rw [hA] at a1 a2 a3
 clear hA
 obtain ⟨D1, L1, G1, E1⟩ := A
 simp only at q2 a1 a2 a3
 have q2' : Calls Tryz.prog 82 #[.pointer (some ⟨m, 0, none⟩)] W0 fun e w' => ∃ p1 pn1 pc1 P1 gp1, e = .returned (.tuple #[.slice p1 pn1 pc1, .int .i64 (E1 : Nat)]) ∧ ORow W0.heap.size w' (.slice p1 pn1 pc1) P1 gp1 ∧ P1.map Lv.lw = G1 ∧ MiOp w' lo m d b1 b2 f b p q h hi F gr { M with d := D1, lat := L1 } ∧ Kept (own m f b q h F gr ++ [d, b1, b2]) W0 w' ∧ P1.length ≤ M.lat.length := by
  refine q2.mono ?_
  rintro e w' ⟨v, P, gp, rfl, hO, hr⟩
  obtain ⟨sa, n, cap, rfl⟩ := orow_form hO
  exact ⟨sa, n, cap, P, gp, rfl, hO, hr⟩
 clear q2
 replace HO : Hid (MiOp W0 lo m d b1 b2 f b p q h hi F gr M) := HO
 have kw : Hid (Kept [] w W0) := k0
 clear k0
 replace hB1 : Hid (Blk W0 N 76 #[.slice none 0 0]) := hB1
 replace hB2 : Hid (Blk W0 (N + 1) 28 #[.int .i64 0]) := hB2
 by_cases hE1 : E1 = 0
 ·subst hE1
  obtain ⟨R, hR⟩ : ∃ R, resendR L1 (againL M.fly) D1 M.fly [] = R := ⟨_, rfl⟩
  have hsub : ∀ y ∈ R.2.2.1, y.bs.length ≤ 140737488351232 := fun y hy => by
   rw [← hR] at hy
   rcases resend_sub _ _ _ _ y hy with h1 | h1
   ·simp at h1
   ·obtain ⟨c, hc, rfl⟩ := again_sub y h1
    exact hbs c hc
  have hR' : Hid (resendR L1 (againL M.fly) D1 M.fly [] = R) := hR
  clear hR
  obtain ⟨D2, F2, G2, E2⟩ := R
  simp only at hsub
  have q5 : ∀ W, MiOp W lo m d b1 b2 f b p q h hi F gr { M with d := D1, lat := L1 } → Calls Tryz.prog 83 #[.pointer (some ⟨m, 0, none⟩)] W fun e w' => ∃ p2 pn2 pc2 P2 gp2, e = .returned (.tuple #[.slice p2 pn2 pc2, .int .i64 (E2 : Nat)]) ∧ ORow W.heap.size w' (.slice p2 pn2 pc2) P2 gp2 ∧ P2.map Lv.lw = G2 ∧ MiOp w' lo m d b1 b2 f b p q h hi F gr { M with d := D2, lat := L1, fly := F2 } ∧ Kept (own m f b q h F gr ++ [d, b1, b2]) W w' ∧ P2.length ≤ M.fly.length := fun W hW => by
   have q5 := resend_op W hW hF (show L1.length ≤ 900000 by omega) (show D1.ops + 1030 * M.fly.length ≤ 900000000000000 by omega)
   simp only [hR'.out] at q5
   refine q5.mono ?_
   rintro e w' ⟨v, P, gp, rfl, hO, hr⟩
   obtain ⟨sa, n, cap, rfl⟩ := orow_form hO
   exact ⟨sa, n, cap, P, gp, rfl, hO, hr⟩
  have q2z : Calls Tryz.prog 82 #[.pointer (some ⟨m, 0, none⟩)] W0 fun e w' => ∃ p1 pn1 pc1 P1 gp1, e = .returned (.tuple #[.slice p1 pn1 pc1, .int .i64 0]) ∧ ORow W0.heap.size w' (.slice p1 pn1 pc1) P1 gp1 ∧ P1.map Lv.lw = G1 ∧ MiOp w' lo m d b1 b2 f b p q h hi F gr { M with d := D1, lat := L1 } ∧ Kept (own m f b q h F gr ++ [d, b1, b2]) W0 w' ∧ P1.length ≤ M.lat.length := q2'
  clear q2'
  go_enter_defers Tryz.func35, Tryz.ntmps35
  go_wp2_with (first
   | (go_at_call 56; refine q1.mono ?_; clear q1; rintro e w1 ⟨rfl, rfl⟩)
   | (go_at_call 82; refine q2z.mono ?_; clear q2z; rintro e w1 ⟨p1, pn1, pc1, P1, gp1, rfl, hO1, hP1, hM1, hk1, hn1⟩; have xx1 := hB1.out.kept hk1 hN1.1; have xx2 := hB2.out.kept hk1 hN1.2; have f2 := xx2.frozen 0; have c2 := (xx2.cell 0).trans (show _ = some (Value.int .i64 0) from rfl); obtain ⟨w2, hw2, k2, x2⟩ := same_set xx2; have x1 := xx1.kept k2 (by simp); have f1 := x1.frozen 0; have f3 := x2.frozen 0; have c1 := (x1.cell 0).trans (show _ = some (Value.slice none 0 0) from rfl); have c3 := (x2.cell 0).trans (show _ = some (Value.int .i64 0) from rfl); have hM2 := hM1.kept k2 hKe ((clean_pair xx1 xx2).mono (by simp)); replace q5 := q5 w2 hM2)
   | (go_at_call 83; refine q5.mono ?_; clear q5; rintro e w3 ⟨p2, pn2, pc2, P2, gp2, rfl, hO2, hP2, hM3, hk3, hn2⟩; have xy1 := x1.kept hk3 hN1.1; have xy2 := x2.kept hk3 hN1.2; have f4 := xy2.frozen 0; have c4 := (xy2.cell 0).trans (show _ = some (Value.int .i64 0) from rfl); obtain ⟨w4, hw4, k4, y1, y2⟩ : ∃ V, w3.setCell ⟨N + 1, 0, none⟩ (.int .i64 (E2 : Int)) = V ∧ Kept [N + 1] w3 V ∧ Blk V N 76 #[.slice none 0 0] ∧ Blk V (N + 1) 28 #[.int .i64 (E2 : Int)] := ⟨_, rfl, kept_set (by simp) _ _ _, xy1.kept (kept_set (g := N + 1) (L := [N + 1]) (by simp) _ _ _) (by simp), xy2.set 0 _⟩))
  have hn3 := y1.kept (kept_drew [] w4) (by simp)
  have he3 := y2.kept (kept_drew [] w4) (by simp)
  have k34 : Kept [N + 1] w3 w4.drew := k4.trans (kept_drew _ w4)
  have hM4 := hM3.kept k34 hKe ((clean_pair xy1 xy2).mono (by simp))
  obtain ⟨B, hB⟩ : ∃ B, w4.drew.heap.size = B := ⟨_, rfl⟩
  have hNB : Hid (N + 1 < B) := by
   have := he3.lt
   rw [hB] at this
   exact this
  have r1 : ∀ g, gp1 = some g → W0.heap.size ≤ g := fun g hg => orow_lt hO1 g hg
  have r2 : ∀ g, gp2 = some g → w2.heap.size ≤ g := fun g hg => orow_lt hO2 g hg
  have z1 := hk1.size
  have z2 := k2.size
  have oA := hO1.kept k2 (fun g hg hm => by have := r1 g hg; simp at hm; omega) ((clean_pair xx1 xx2).mono (by simp))
  have oB := oA.kept hk3 (fun g hg hm => by have := r1 g hg; have := hKN _ hm; omega) hM2.all
  have oC := oB.kept k34 (fun g hg hm => by have := r1 g hg; simp at hm; omega) ((clean_pair xy1 xy2).mono (by simp))
  have oD := hO2.kept k34 (fun g hg hm => by have := r2 g hg; simp at hm; omega) ((clean_pair xy1 xy2).mono (by simp))
  have q3 := tell_row 3 (.inr rfl) p1 pn1 pc1 P1 _ gp1 w4.drew oC (fun e => by cases e) (by omega)
  rw [hP1, hB] at q3
  have q4 := fun W (hk : Kept [] w4.drew W) => tell_row 2 (.inl rfl) p2 pn2 pc2 P2 _ gp2 W (oD.kept0 hk) (fun _ x hx => hsub x.lw (by rw [← hP2]; exact List.mem_map.2 ⟨x, hx, rfl⟩)) (by omega)
  rw [hP2] at q4
  have l1 : G1.length ≤ 900000 := by rw [← hP1, List.length_map]; omega
  have l2 : G2.length ≤ 600 := by rw [← hP2, List.length_map]; omega
  have kA : Kept (own m f b q h F gr ++ [d, b1, b2]) w w4.drew := (((((kw.out.mono (by simp)).trans hk1).youngs k2 (fun k hk => by simp at hk; omega)).trans hk3).youngs k34 (fun k hk => by simp at hk; omega))
  replace hn1 : Hid (G1.length ≤ 900000) := l1
  replace hn2 : Hid (G2.length ≤ 600) := l2
  replace hM4 : Hid (MiOp w4.drew lo m d b1 b2 f b p q h hi F gr { M with d := D2, lat := L1, fly := F2 }) := hM4
  clear hO1 hO2 oA oB oC oD hM1 hM2 hM3 hP1 hP2 f1 f2 f3 f4 c1 c2 c3 c4 xx1 xx2 xy1 xy2 r1 r2 hsub l1 l2
  refine wp_region_noPanic ?_
  refine wp_region_held_drew (S := fun W => Blk W (N + 1) 28 #[.int .i64 (E2 : Int)]) (by kernel_rfl) he3 (fun hP => ?_)
  have hH := hP
  clear hP
  refine tI (i := 0) (oi := ⟨some 26, _, _, _, _, _⟩) (v := (.slice p1 pn1 pc1)) rfl (fun W hSw => by go_simp) hH ?_
  refine tI (i := 2) (oi := ⟨some 28, _, _, _, _, _⟩) (v := (.slice p2 pn2 pc2)) rfl (fun W hSw => by go_simp) hH ?_
  refine tI (i := 5) (oi := ⟨some 31, _, _, _, _, _⟩) (v := (.int .i64 (E2 : Int))) rfl (fun W hSw => by have s1 := (hSw.cell 0).trans (show _ = some (.int .i64 (E2 : Int)) from rfl); go_simp) hH ?_
  refine wpAnyH_ready (rs := [1]) (by kernel_rfl) (by simp) ?_
  refine AllReadyH.cons (o := ⟨some 27, _, _, _, _, _⟩) rfl (fun K hK => ?_) AllReadyH.nil
  go_simp
  refine (q3).mono ?_
  rintro e w5 ⟨sT, nT, cT, Q1, rfl, hT1, hk5⟩
  go_wp2_with fail
  have hH1 := hH.kept hk5 (by simp)
  refine hK.out _ _ hH1 (fun _ => ?_)
  replace hH := hH1
  clear hK K hH1
  have x4 := hn3.kept hk5 (by simp)
  have x4e := he3.kept hk5 (by simp)
  try simp only [Act.put, List.setIfInBounds_toArray, List.set_cons_zero, List.set_cons_succ]
  refine wpAnyH_ready (rs := [3]) (by kernel_rfl) (by simp) ?_
  refine AllReadyH.cons (o := ⟨some 29, _, _, _, _, _⟩) rfl (fun K hK => ?_) AllReadyH.nil
  go_simp
  refine (q4 w5 hk5).mono ?_
  rintro e w6 ⟨sU, nU, cU, Q2, rfl, hT2, hk6⟩
  go_wp2_with fail
  have hH1 := hH.kept hk6 (by simp)
  refine hK.out _ _ hH1 (fun _ => ?_)
  replace hH := hH1
  clear hK K hH1
  have x5 := x4.kept hk6 (by simp)
  have x5e := x4e.kept hk6 (by simp)
  have hT1b := hT1.kept0 hk6
  try simp only [Act.put, List.setIfInBounds_toArray, List.set_cons_zero, List.set_cons_succ]
  refine wpAnyH_ready (rs := [4]) (by kernel_rfl) (by simp) ?_
  refine AllReadyH.cons (o := ⟨some 30, _, _, _, _, _⟩) rfl (fun K hK => ?_) AllReadyH.nil
  refine step_append_msgs rfl (.tmp 27) (.tmp 29) rfl B (.slice sT nT cT) (.slice sU nU cU) Q1 Q2 (by simp [Act.eval]) (by simp [Act.eval]) hT1b.row hT2.row.lies (by have h1 := told_len hT1; have h2 := told_len hT2; simp at h1 h2; have := hn1.out; have := hn2.out; omega) (by rw [← hB]; exact Nat.le_trans hk5.size hk6.size) ?_
  intro sV nV cV w7 hV hk7 _
  have hown : ∀ k ∈ (Value.slice sT nT cT).ownBlock.toList, B ≤ k := fun k hk => (hT1b.row.lt k (by simpa using hk)).1
  have hc7 := mrow_clean hT1b.row
  have x6 := x5.kept hk7 (fun hm => by have := hown _ hm; have := hNB.out; omega)
  have x6e := x5e.kept hk7 (fun hm => by have := hown _ hm; have := hNB.out; omega)
  have hH1 := x6e
  refine hK.out _ _ hH1 (fun _ => ?_)
  replace hH := hH1
  clear hK K hH1
  try simp only [Act.put, List.setIfInBounds_toArray, List.set_cons_zero, List.set_cons_succ]
  refine wpAnyH_ready (rs := [6]) (by kernel_rfl) (by simp) ?_
  refine AllReadyH.cons (o := ⟨none, _, _, _, _, _⟩) rfl (fun K hK => ?_) AllReadyH.nil
  have f1 := x6.frozen 0
  have c1 := (x6.cell 0).trans (show _ = some (Value.slice none 0 0) from rfl)
  obtain ⟨w8, hw8, k8, y1, y2⟩ : ∃ V, w7.setCell ⟨N, 0, none⟩ (.slice sV nV cV) = V ∧ Kept [N] w7 V ∧ Blk V N 76 #[.slice sV nV cV] ∧ Blk V (N + 1) 28 #[.int .i64 (E2 : Int)] := ⟨_, rfl, kept_set (by simp) _ _ _, x6.set 0 _, x6e.kept (kept_set (g := N) (L := [N]) (by simp) _ _ _) (by simp only [List.mem_singleton]; omega)⟩
  go_simp
  have hH1 := y2
  refine hK.out _ _ hH1 (fun _ => ?_)
  replace hH := hH1
  clear hK K hH1
  try simp only [Act.put, List.setIfInBounds_toArray, List.set_cons_zero, List.set_cons_succ]
  refine wpAnyH_ready (rs := [7]) (by kernel_rfl) (by simp) ?_
  refine AllReadyH.cons (o := ⟨none, _, _, _, _, _⟩) rfl (fun K hK => ?_) AllReadyH.nil
  have f2 := y2.frozen 0
  have c2 := (y2.cell 0).trans (show _ = some (.int .i64 (E2 : Int)) from rfl)
  obtain ⟨w9, hw9, k9, z1, z2⟩ : ∃ V, w8.setCell ⟨N + 1, 0, none⟩ (.int .i64 (E2 : Int)) = V ∧ Kept [N + 1] w8 V ∧ Blk V N 76 #[.slice sV nV cV] ∧ Blk V (N + 1) 28 #[.int .i64 (E2 : Int)] := ⟨_, rfl, kept_set (by simp) _ _ _, y1.kept (kept_set (g := N + 1) (L := [N + 1]) (by simp) _ _ _) (by simp only [List.mem_singleton]; omega), y2.set 0 _⟩
  go_simp
  have hH1 := z2
  refine hK.out _ _ hH1 (fun _ => ?_)
  replace hH := hH1
  clear hK K hH1
  try simp only [Act.put, List.setIfInBounds_toArray, List.set_cons_zero, List.set_cons_succ]
  refine wpAnyH_done (by kernel_rfl) ?_ _
  refine NoPanic.normal ?_
  clear hH
  go_wp2
  refine leaves_cons (f := 70) (args := #[.pointer (some ⟨N, 0, none⟩), .pointer (some ⟨N + 1, 0, none⟩)]) (by simp) (by simp [go_sem]) ?_
  refine (look_deferred N (N + 1) _ E2 .returning _ z1 z2).mono ?_
  rintro e u' w'' ⟨rfl, rfl, hb, hk⟩
  have k7e : Kept [N, N + 1] w7 w'' := ((k8.mono (by simp)).trans (k9.mono (by simp))).trans (hk.mono (by simp))
  have hM6 := hM4.out.kept (hk5.trans hk6) (by simp) (clean_nil _)
  have hM7 := hM6.kept hk7 (fun k hk hm => by have h1 := hown k hm; have h2 := hKN k hk; have := hNB.out; omega) hc7
  have hMe := hM7.kept k7e hKn (clean_pair x6 x6e)
  have kB : Kept (own m f b q h F gr ++ [d, b1, b2]) w w7 := ((kA.trans ((hk5.trans hk6).mono (by simp))).youngs hk7 (fun k hk => by have h1 := hown k hk; have := hNB.out; omega))
  have hG := Goes.of ⟨f, b, p, q, h, hi, F, gr, rfl, hMe⟩ (kB.youngs k7e (fun k hk => by simp at hk; omega))
  have hTT := told_append hT1b hT2 hV hk7
  have hTe := (hTT.kept k7e (fun k hk hm => by have := (hV.lt k hk).1; have := hNB.out; simp at hm; omega) (clean_pair x6 x6e)).low (show w.heap.size ≤ B by have := hNB.out; omega)
  have eE : goE M = E2 := by unfold goE; rw [if_pos (by rw [hA'.out])]; unfold resR; rw [hA'.out]; simp only [hR'.out]
  have eS : goS M = { M with d := D2, lat := L1, fly := F2 } := by unfold goS; rw [if_pos (by rw [hA'.out])]; unfold resR; rw [hA'.out]; simp only [hR'.out]
  have eO : goO M = if E2 = 0 then G1.map (msgOf 3) ++ G2.map (msgOf 2) else [] := by unfold goO; rw [eE]; unfold resR; rw [hA'.out]; simp only [hR'.out]
  rw [eE, eO, eS]
  by_cases hz : E2 = 0
  ·rw [if_pos hz] at hb ⊢
   exact ⟨_, results_two rfl _ _ N (N + 1) _ _ rfl rfl hb (z2.kept hk (by simp)), .slice sV nV cV, Q1 ++ Q2, _, rfl, hTe, hG⟩
  ·rw [if_neg hz] at hb ⊢
   exact ⟨_, results_two rfl _ _ N (N + 1) _ _ rfl rfl hb (z2.kept hk (by simp)), .slice none 0 0, [], _, rfl, Told.nil _ _, hG⟩
 ·have hE1n : ¬ ((E1 : Int) = 0) := by omega
  go_enter_defers Tryz.func35, Tryz.ntmps35
  go_wp2_with (first
   | (go_at_call 56; refine q1.mono ?_; clear q1; rintro e w1 ⟨rfl, rfl⟩)
   | (go_at_call 82; refine q2'.mono ?_; clear q2'; rintro e w1 ⟨p1, pn1, pc1, P1, gp1, rfl, hO1, hP1, hM1, hk1, hn1⟩; have f2 := (hB2.out.kept hk1 hN1.2).frozen 0; have c2 := ((hB2.out.kept hk1 hN1.2).cell 0).trans (show _ = some (Value.int .i64 0) from rfl); obtain ⟨w2, hw2, k2, x1, x2⟩ : ∃ V, w1.setCell ⟨N + 1, 0, none⟩ (.int .i64 (E1 : Int)) = V ∧ Kept [N + 1] w1 V ∧ Blk V N 76 #[.slice none 0 0] ∧ Blk V (N + 1) 28 #[.int .i64 (E1 : Int)] := ⟨_, rfl, kept_set (by simp) _ _ _, (hB1.out.kept hk1 hN1.1).kept (kept_set (g := N + 1) (L := [N + 1]) (by simp) _ _ _) (by simp only [List.mem_singleton]; omega), (hB2.out.kept hk1 hN1.2).set 0 _⟩; have f1 := x1.frozen 0; have f3 := x2.frozen 0; have c1 := (x1.cell 0).trans (show _ = some (Value.slice none 0 0) from rfl); have c3 := (x2.cell 0).trans (show _ = some (Value.int .i64 (E1 : Int)) from rfl); obtain ⟨w3, hw3, k3, y1⟩ := same_set x1; have y2 := x2.kept k3 (by simp only [List.mem_singleton]; omega); have f4 := y2.frozen 0; have c4 := (y2.cell 0).trans (show _ = some (Value.int .i64 (E1 : Int)) from rfl); obtain ⟨w4, hw4, k4, z2⟩ := same_set y2; have z1 := y1.kept k4 (by simp only [List.mem_singleton]; omega)))
  have y1' := hB1.out.kept hk1 hN1.1
  have y2' := hB2.out.kept hk1 hN1.2
  refine leaves_cons (f := 70) (args := #[.pointer (some ⟨N, 0, none⟩), .pointer (some ⟨N + 1, 0, none⟩)]) (by simp) (by simp [go_sem]) ?_
  refine (look_deferred N (N + 1) _ E1 .returning _ z1 z2).mono ?_
  rintro e u' w'' ⟨rfl, rfl, hb, hk⟩
  have k1e : Kept [N, N + 1] w1 w'' := (((k2.mono (by simp)).trans (k3.mono (by simp))).trans (k4.mono (by simp))).trans (hk.mono (by simp))
  have hMe := hM1.kept k1e hKn (clean_pair y1' y2')
  have hG := Goes.of ⟨f, b, p, q, h, hi, F, gr, rfl, hMe⟩ (((kw.out.mono (by simp)).trans hk1).youngs k1e (fun k hk => by simp at hk; omega))
  rw [if_neg hE1] at hb
  have eE : goE M = E1 := by unfold goE; rw [hA'.out]; simp [hE1]
  have eO : goO M = [] := by unfold goO; rw [eE, if_neg hE1]
  have eS : goS M = { M with d := D1, lat := L1 } := by unfold goS; rw [hA'.out]; simp [hE1]
  rw [eE, eO, eS]
  exact ⟨_, results_two rfl _ _ N (N + 1) _ _ rfl rfl hb (z2.kept hk (by simp)), .slice none 0 0, [], _, rfl, Told.nil _ _, hG⟩
end Go.Proofs.YtoaeficfmcncjaaGreat.Mirror
namespace Go.Proofs.YtoaeficfmcncjaaGreat.Mirror
open Go.RowKit
open Math
open Flight (Fw Fv FlAt Off turnL)
open Later (Lw Lv QAt Foot RowAt)
open Pack (Ms Mv)

variable {lo m d b1 b2 : Nat} {K : List Nat} {M : Mr}
set_option maxRecDepth 100000 in
set_option maxHeartbeats 8000000 in
theorem hold_any (w : World) (H : MiAt w lo m d b1 b2 K M) (hF : M.fly.length ≤ 600) (hops : M.d.ops + 1030 * M.fly.length ≤ 900000000000000) :
  Calls Tryz.prog 36 #[.pointer (some ⟨m, 0, none⟩)] w fun e w' => ∃ K', e = .returned (.int .i64 (hoE M : Nat)) ∧ Goes w w' lo m d b1 b2 K K' (hoS M) := by
 have q1 : Calls Tryz.prog 56 #[.pointer (some ⟨m, 0, none⟩)] w fun e w' => e = .returned (.bool true) ∧ w = w' := (made_any w H).mono (fun _ _ h => ⟨h.1, h.2.symm⟩)
 obtain ⟨f, b, p, q, h, hi, F, gr, rfl, H⟩ := H
 have hsz : M.d.size ≤ 1024 := H.disk.valid.top
 have hlow := H.fly.fit.low
 have hlt0 : ∀ k ∈ own m f b q h F gr ++ [d, b1, b2], k < w.heap.size := H.all_lt
 have qn := Later.new_any w
 have HH : Hid (MiOp w lo m d b1 b2 f b p q h hi F gr M) := H
 obtain ⟨AL, hAL⟩ : ∃ AL, againL M.fly = AL := ⟨_, rfl⟩
 have hALl : AL.length ≤ M.fly.length := by rw [← hAL]; unfold againL; rw [List.length_map]; exact List.length_filter_le _ _
 obtain ⟨R, hR⟩ : ∃ R, layR AL M.d = R := ⟨_, rfl⟩
 have hoe : Hid (hoE M = R.2 ∧ hoS M = if R.2 = 0 then { M with d := R.1, lat := [], fly := holdF M.fly } else { M with d := R.1, lat := [] }) := by
  show _ ∧ _
  unfold hoS hoE
  rw [hAL, hR]
  exact ⟨rfl, rfl⟩
 clear H
 go_enter Tryz.func36, Tryz.ntmps36
 go_upto_region 6 with (first
  | (go_at_call 56; refine q1.mono ?_; clear q1; rintro e w1 ⟨rfl, rfl⟩)
  | (go_at_call 45; refine qn.mono ?_; clear qn; rintro e w1 ⟨rfl, hq1, hs1, hk1⟩; obtain ⟨w2, hw2, H2, k2, hnew⟩ := HH.out.renew hq1 hk1; have hb1 := HH.out.box.kept hk1 (by simp); have f1 := hb1.frozen 1; have c1 := (hb1.cell 1).trans (show _ = some (Value.pointer (some ⟨q, 0, none⟩)) from rfl); have qa := again_any w2 ⟨f, b, p, _, h, hi, F, none, rfl, H2⟩ hF)
  | (go_at_call 84; refine qa.mono ?_; clear qa; rintro e w3 ⟨vs, PS, gs, rfl, hOs, hPS, hk3⟩; obtain ⟨sa, sn, scap, rfl, hsn⟩ : ∃ sa sn scap, vs = .slice sa sn scap ∧ Hid (sn = PS.length) := (by obtain ⟨a, c, e, _⟩ := hOs.row; exact ⟨a, _, c, e, rfl⟩)))
 obtain ⟨q', hq'⟩ : ∃ Q, w.heap.size = Q := ⟨_, rfl⟩
 obtain ⟨A, hA⟩ : ∃ A, own m f b q' h F none ++ [d, b1, b2] = A := ⟨_, rfl⟩
 have hdA : Hid (∀ k ∈ [d, b1, b2], k ∈ A) := fun k hk => by rw [← hA]; exact List.mem_append.2 (.inr hk)
 have hbA : Hid (b ∈ A) := by
  show b ∈ A
  rw [← hA]; simp [own]
 have hsc : sn ≤ scap := by
  obtain ⟨a, c, e, h1, _⟩ := hOs.row
  have := hsn.out
  injection e with _ e2 e3
  omega
 rw [hq'] at H2 hnew
 have H3 := H2.kept hk3 (by simp) (clean_nil _)
 rw [hAL] at hPS
 have hPl : Hid (PS.length = AL.length) := by show _ = _; rw [← hPS, List.length_map]
 have hsn6 : sn ≤ M.fly.length := by have := hsn.out; have := hPl.out; omega
 have hAlt : Hid (∀ k ∈ A, k < w2.heap.size) := by
  show ∀ k ∈ A, k < w2.heap.size
  rw [← hA]
  exact H2.all_lt
 have hown : Hid (∀ k ∈ A, k ∈ own m f b q h F gr ++ [d, b1, b2] ∨ w.heap.size ≤ k) := fun k hk => by
  rw [← hA] at hk
  rcases List.mem_append.1 hk with h1 | h1
  ·rw [hq']
   exact (hnew k h1).imp (fun h => List.mem_append.2 (.inl h)) id
  ·exact .inl (List.mem_append.2 (.inr h1))
 have hK03 : Hid (Kept (own m f b q h F gr ++ [d, b1, b2]) w w3) := ((hk1.mono (by simp)).trans (k2.mono (by simp [own]))).trans (hk3.mono (by simp))
 replace hA : Hid _ := hA
 replace hq' : Hid (w.heap.size = q') := hq'
 have h23 : Hid (w2.heap.size ≤ w3.heap.size) := hk3.size
 have hH3 : Hid (MiOp w3 lo m d b1 b2 f b p q' h hi F none { M with lat := [] }) := H3
 replace hlt0 : Hid _ := hlt0
 replace hAL : Hid _ := hAL
 replace hR : Hid _ := hR
 replace hnew : Hid _ := hnew
 clear H2 HH hq1 hk1 hs1 k2 hk3 hb1 f1 c1 hw2 hALl H3
 go_loopw [22] (fun i wr => ∃ (j : Nat) (dd : Dk), j ≤ sn ∧ i = .int .i64 j ∧ MiOp wr lo m d b1 b2 f b p q' h hi F none { M with d := dd, lat := [] } ∧ layR (AL.drop j) dd = R ∧ dd.ops ≤ M.d.ops + 1030 * j ∧ dd.size ≤ 1024 ∧ Kept A w3 wr) (fun i _ => sn - (RowKit.intOf i).toNat)
 case atStart => exact ⟨0, M.d, Nat.zero_le _, rfl, hH3.out, hR.out, by omega, hsz, Kept.refl _ _⟩
 case round =>
  obtain ⟨j, dd, hj, rfl, hMi, hap, hdo, hds, hK⟩ := hrel
  by_cases hlt2 : j < sn
  ·obtain ⟨x, hx⟩ : ∃ x, PS[j]? = some x := ⟨_, List.getElem?_eq_getElem (by have := hsn.out; omega)⟩
   have hgs : ∀ g, gs = some g → g ∉ A := fun g hg hm => by
    have h1 := hAlt.out g hm
    have h2 := (hOs.row.low g hg).1
    omega
   have hclA1 : Clean w3 A := by
    rw [← hA.out]
    exact hH3.out.clean.app (disk_clean hH3.out.disk)
   have hOr := hOs.kept hK hgs hclA1
   obtain ⟨g, off, rfl, hg, hr⟩ := row_range hOr.row hx
   have hxm := List.mem_of_getElem? hx
   have hxA : AL[j]? = some x.lw := by rw [← hPS, List.getElem?_map, hx]; rfl
   have hdrop : AL.drop j = x.lw :: AL.drop (j + 1) := by
    have hl := (List.getElem?_eq_some_iff.1 hxA)
    rw [List.drop_eq_getElem_cons hl.1, hl.2]
   rw [hdrop] at hap
   have kk : (j : Int) < (sn : Int) := by omega
   have kc : (j : Int) < (scap : Int) := by omega
   have hm1 : Hid (sn - (j + 1) < sn - j) := by show _ < _; omega
   have hbx := hOr.byt x hxm
   have h0 := zero_lw wr
   have ka := kept_alloc [] wr (.cells #[.int .i64 0, .int .i64 0, .int .i64 0, .slice none 0 0] 152)
   replace hr : Hid _ := hr
   clear hx hdrop hxm hxA
   obtain ⟨xid, xo, xl, xsa, xlen, xcap, xbs⟩ := x
   simp only [Lv.cells] at hr
   simp only [Lv.lw] at hap
   have so := storeS_ops hds ⟨xid, xo, xl, xbs⟩
   have hclA : Clean wr A := by
    rw [← hA.out]
    exact hMi.clean.app (disk_clean hMi.disk)
   have q6 := fun W (hk : Kept [] wr W) => store_op ⟨xid, xo, xl, xsa, xlen, xcap, xbs⟩ A W (hMi.kept hk (by simp) (clean_nil _)) hdA.out (bts_later ((clean_nil _).byt hk hbx) (by rw [← hA.out]; exact (hMi.kept hk (by simp) (clean_nil _)).all)) (by show dd.ops ≤ _; omega)
   unfold Lv.val Lv.lw at q6
   simp only [] at q6 so
   by_cases hE : storeE dd ⟨xid, xo, xl, xbs⟩ = 0
   ·rw [lay_goes hE] at hap
    rw [hE] at q6
    replace hap : Hid _ := hap
    go_wp2_with (first
     | refine wpList_load_mid rfl 152 _ rfl g (off + j * 4) rfl [.int .i64 xid, .int .i64 xo, .int .i64 xl, .slice xsa xlen xcap] _ hr.out Tryz.underlying152 rfl size_lw ?_
     | (refine wpList_store_blk rfl 152 _ _ rfl wr.heap.size 152 _ [.int .i64 xid, .int .i64 xo, .int .i64 xl, .slice xsa xlen xcap] rfl rfl h0 rfl size_lw (by simp [Value.oneCell']) ?_; intro w4 hB3 hk4 hz3; have k4 : Kept [] wr w4 := ka.young hk4 (Nat.le_refl _); have s0 := (hB3.cell 0).trans (show _ = some (Value.int .i64 xid) from rfl); have s1 := (hB3.cell 1).trans (show _ = some (Value.int .i64 xo) from rfl); have s2 := (hB3.cell 2).trans (show _ = some (Value.int .i64 xl) from rfl); have s3 := (hB3.cell 3).trans (show _ = some (Value.slice xsa xlen xcap) from rfl))
     | (go_at_call 73; refine (q6 _ k4).mono ?_; clear q6; rintro e w7 ⟨rfl, H7, hk7⟩))
    have hK7 : Kept A w3 w7 := (hK.trans (k4.mono (by simp))).trans (hk7.mono hdA.out)
    have hds7 := H7.disk.valid.top
    go_round
    case rel => exact ⟨j + 1, storeS dd ⟨xid, xo, xl, xbs⟩, by omega, by go_num, H7, hap.out, by omega, hds7, hK7⟩
    case measure => simp [RowKit.intOf]; omega
   ·rw [lay_fails hE] at hap
    obtain ⟨E, hEE⟩ : ∃ E, storeE dd ⟨xid, xo, xl, xbs⟩ = E := ⟨_, rfl⟩
    rw [hEE] at q6 hap hE
    have hE1 : ¬ ((E : Int) = 0) := by omega
    replace hap : Hid _ := hap
    go_wp2_with (first
     | refine wpList_load_mid rfl 152 _ rfl g (off + j * 4) rfl [.int .i64 xid, .int .i64 xo, .int .i64 xl, .slice xsa xlen xcap] _ hr.out Tryz.underlying152 rfl size_lw ?_
     | (refine wpList_store_blk rfl 152 _ _ rfl wr.heap.size 152 _ [.int .i64 xid, .int .i64 xo, .int .i64 xl, .slice xsa xlen xcap] rfl rfl h0 rfl size_lw (by simp [Value.oneCell']) ?_; intro w4 hB3 hk4 hz3; have k4 : Kept [] wr w4 := ka.young hk4 (Nat.le_refl _); have s0 := (hB3.cell 0).trans (show _ = some (Value.int .i64 xid) from rfl); have s1 := (hB3.cell 1).trans (show _ = some (Value.int .i64 xo) from rfl); have s2 := (hB3.cell 2).trans (show _ = some (Value.int .i64 xl) from rfl); have s3 := (hB3.cell 3).trans (show _ = some (Value.slice xsa xlen xcap) from rfl))
     | (go_at_call 73; refine (q6 _ k4).mono ?_; clear q6; rintro e w7 ⟨rfl, H7, hk7⟩))
    have hK7 : Kept A w3 w7 := (hK.trans (k4.mono (by simp))).trans (hk7.mono hdA.out)
    go_ret
    rw [hoe.out.1, hoe.out.2, ← hap.out]
    simp only [hE, if_false]
    exact ⟨_, rfl, ⟨⟨_, _, _, _, _, _, _, _, rfl, H7⟩, fun k hk => by rw [hq'.out]; exact hnew.out k hk, hK03.out.youngs hK7 hown.out⟩⟩
  ·obtain rfl : j = sn := by omega
   have hd0 : AL.drop j = [] := List.drop_of_length_le (by have := hsn.out; have := hPl.out; omega)
   rw [hd0] at hap
   have hap2 : (dd, 0) = R := hap
   clear hap
   have hkA : Kept (own m f b q h F gr ++ [d, b1, b2]) w wr := hK03.out.youngs hK hown.out
   have hszr := hK.size
   have c0 := hMi.five.1
   have qL := Flight.list_any wr hMi.fly hF
   have hMi' : Hid (MiOp wr lo m d b1 b2 f b p q' h hi F none { M with d := dd, lat := [] }) := hMi
   replace hap2 : Hid _ := hap2
   clear hMi hH3 hOs hR
   go_upto_region 13 with (first
    | (go_at_call 60; refine qL.mono ?_; clear qL; rintro e w5 ⟨vl, rfl, ⟨xs, hxs, hat, hwat⟩, hk5⟩; obtain ⟨la, lcap, rfl, hlc, -⟩ := id hwat.open))
   have hM5 := hMi'.out.kept hk5 (by simp) (clean_nil _)
   have hlen : xs.length = M.fly.length := by rw [← hxs]; simp
   obtain ⟨N, hN⟩ : ∃ N, xs.length = N := ⟨_, rfl⟩
   rw [hN] at hlc hlen hwat ⊢
   replace hN : Hid (xs.length = N) := hN
   have hN6 : N ≤ 600 := by omega
   replace hlen : Hid (N = M.fly.length) := hlen
   have hA5 : Hid (∀ k ∈ A, k < w5.heap.size) := fun k hk => by
    have h1 := hAlt.out k hk
    have h2 := h23.out
    have h3 := hk5.size
    omega
   have hA4 : Hid (∀ k ∈ A, k < wr.heap.size) := fun k hk => by
    have h1 := hAlt.out k hk
    have h2 := h23.out
    omega
   have hkA5 : Hid (Kept (own m f b q h F gr ++ [d, b1, b2]) w w5) := hkA.trans (hk5.mono (by simp))
   clear hkA hk5 hMi' c0
   go_loopw [39] (fun i ws => ∃ (j : Nat) (FF : List (Int × Fw)), j ≤ N ∧ i = .int .i64 j ∧ MiOp ws lo m d b1 b2 f b p q' h hi F none { M with d := dd, lat := [], fly := FF } ∧ ((M.fly.drop j).map (·.1)).foldl (fun G t => turnL G t 2) FF = holdF M.fly ∧ FF.length = M.fly.length ∧ Kept A w5 ws) (fun i _ => N - (RowKit.intOf i).toNat)
   case atStart => exact ⟨0, M.fly, Nat.zero_le _, rfl, hM5, rfl, rfl, Kept.refl _ _⟩
   case round =>
    clear hM5
    obtain ⟨j, FF, hj, rfl, hMs, hfo, hFF, hKs⟩ := hrel
    by_cases hlt : j < N
    ·obtain ⟨x, hx⟩ : ∃ x, xs[j]? = some x := ⟨_, List.getElem?_eq_getElem (by have := hN.out; omega)⟩
     obtain ⟨g, off, rfl, hg, hr⟩ := wat_range (hwat.kept hKs hA4.out) hx
     have hLj : M.fly[j]? = some (x.t, x.fw) := Flight.fv_at_list hxs hx
     have hlw := hlow _ (List.mem_of_getElem? hLj)
     have hdrop : M.fly.drop j = (x.t, x.fw) :: M.fly.drop (j + 1) := by
      have hl := (List.getElem?_eq_some_iff.1 hLj)
      rw [List.drop_eq_getElem_cons hl.1, hl.2]
     rw [hdrop, List.map_cons, List.foldl_cons] at hfo
     have kk : (j : Int) < (N : Int) := by omega
     have kc : (j : Int) < (lcap : Int) := by omega
     have hm1 : Hid (N - (j + 1) < N - j) := by show _ < _; omega
     have h0 := write_zero wr
     have ka := kept_alloc [] wr (.cells #[.int .i64 0, .int .i64 0, .int .i64 0, .slice none 0 0, .int .i64 0] 94)
     replace hr : Hid _ := hr
     clear hx hLj hdrop
     obtain ⟨xt, xo, xl, xsa, xlen, xcap, xst, xbs⟩ := x
     simp only [Fv.cells] at hr
     simp only at hfo hlw
     replace hfo : Hid _ := hfo
     go_upto_region 15 with (first
      | refine wpList_load_mid rfl 94 _ rfl g (off + j * 5) rfl [.int .i64 xt, .int .i64 xo, .int .i64 xl, .slice xsa xlen xcap, .int .i64 xst] _ hr.out Tryz.underlying94 rfl Flight.Tryz.sizeW ?_
      | (refine wpList_store_blk rfl 94 _ _ rfl wr.heap.size 94 _ [.int .i64 xt, .int .i64 xo, .int .i64 xl, .slice xsa xlen xcap, .int .i64 xst] rfl rfl h0 rfl Flight.Tryz.sizeW (by simp [Value.oneCell']) ?_; intro w7 hB7 hk7 hz7))
     have k7 : Kept [] wr w7.drew := (ka.young hk7 (Nat.le_refl _)).trans (kept_drew [] w7)
     have hM7 := hMs.kept k7 (by simp) (clean_nil _)
     obtain ⟨N8, hN8⟩ : ∃ N8, wr.heap.size = N8 := ⟨_, rfl⟩
     rw [hN8] at hB7 ⊢
     have hbA8 : Hid (b ≠ N8 ∧ m ≠ b) := by
      show _ ∧ _
      have h1 := hA5.out b hbA.out
      have h2 := hKs.size
      exact ⟨by omega, fun e => (hM7.sepF b (by simp)).1 e.symm⟩
     replace hN8 : Hid (wr.heap.size = N8) := hN8
     have hbox := hM7.box
     have hS : Hid (∀ W, Kept [b] w7.drew W → W.cell? ⟨m, 0, none⟩ = some (.pointer (some ⟨f, 0, none⟩)) ∧ W.cell? ⟨N8, 0, none⟩ = some (.int .i64 xt)) := fun W hk => by
      have e1 := hbox.kept hk (by have := hbA8.out.2; simpa using this)
      have e2 := (hB7.kept (kept_drew [] w7) (by simp)).kept hk (by have := hbA8.out.1; simpa using Ne.symm this)
      exact ⟨(e1.cell 0).trans rfl, (e2.cell 0).trans rfl⟩
     have q9 := Flight.turn_any xt 2 (by omega) hlw.2 w7.drew hM7.fly (by show FF.length ≤ _; omega)
     simp only [] at q9
     replace hM7 : Hid (MiOp w7.drew lo m d b1 b2 f b p q' h hi F none { M with d := dd, lat := [], fly := FF }) := hM7
     clear hB7 hk7 hz7 ka h0 hbox hr hMs
     refine wp_region_held_drew (S := fun W => Kept [b] w7.drew W) (by kernel_rfl) (Kept.refl _ _) (fun hP => ?_)
     have hH := hP
     clear hP
     refine tI (i := 0) (oi := ⟨some 43, _, _, _, _, _⟩) (v := (.pointer (some ⟨m, 0, none⟩))) rfl (fun W hSw => by go_simp) hH ?_
     refine tI (i := 1) (oi := ⟨some 44, _, _, _, _, _⟩) (v := (.pointer (some ⟨m, 0, none⟩))) rfl (fun W hSw => by go_simp) hH ?_
     refine tI (i := 2) (oi := ⟨some 45, _, _, _, _, _⟩) (v := (.pointer (some ⟨m, 0, none⟩))) rfl (fun W hSw => by go_simp) hH ?_
     refine tI (i := 3) (oi := ⟨some 46, _, _, _, _, _⟩) (v := (.pointer (some ⟨f, 0, none⟩))) rfl (fun W hSw => by obtain ⟨c0, s0⟩ := hS.out _ hSw; go_simp) hH ?_
     refine tI (i := 4) (oi := ⟨some 47, _, _, _, _, _⟩) (v := (.pointer (some ⟨N8, 0, none⟩))) rfl (fun W hSw => by go_simp) hH ?_
     refine tI (i := 5) (oi := ⟨some 48, _, _, _, _, _⟩) (v := (.int .i64 xt)) rfl (fun W hSw => by obtain ⟨c0, s0⟩ := hS.out _ hSw; go_simp) hH ?_
     refine wpAnyH_ready (rs := [6]) (by kernel_rfl) (by simp) ?_
     refine AllReadyH.cons (o := ⟨some 49, _, _, _, _, _⟩) rfl (fun K hK => ?_) AllReadyH.nil
     go_simp
     refine (q9).mono ?_
     rintro e w9 ⟨rfl, hF9, hk9⟩
     go_wp2_with fail
     have hH1 := hH.trans hk9
     refine hK.out _ _ hH1 (fun _ => ?_)
     replace hH := hH1
     clear hK K hH1
     try simp only [Act.put, List.setIfInBounds_toArray, List.set_cons_zero, List.set_cons_succ]
     refine wpAnyH_done (by kernel_rfl) ?_ _
     have H9 := (hM7.out.flew hF9 (fun j h => .inl h) (hk9.mono (by simp))).1
     have hK9 : Kept A w5 w9 := (hKs.trans (k7.mono (by simp))).trans (hk9.mono (fun k hk => by rw [List.mem_singleton] at hk; rw [hk]; exact hbA.out))
     have hTl := turnL_length FF xt 2
     clear hH
     go_wp2
     go_round
     case rel => exact ⟨j + 1, turnL FF xt 2, by omega, by go_num, H9, hfo.out, by omega, hK9⟩
     case measure => simp [RowKit.intOf]; omega
    ·obtain rfl : j = N := by omega
     have hd2 : M.fly.drop j = [] := List.drop_of_length_le (by have := hlen.out; omega)
     rw [hd2] at hfo
     have hfo2 : FF = holdF M.fly := hfo
     subst hfo2
     go_wp2
     go_ret
     rw [hoe.out.1, hoe.out.2, ← hap2.out]
     simp only [if_true]
     exact ⟨_, rfl, ⟨⟨_, _, _, _, _, _, _, _, rfl, hMs⟩, fun k hk => by rw [hq'.out]; exact hnew.out k hk, hkA5.out.youngs hKs hown.out⟩⟩
end Go.Proofs.YtoaeficfmcncjaaGreat.Mirror
