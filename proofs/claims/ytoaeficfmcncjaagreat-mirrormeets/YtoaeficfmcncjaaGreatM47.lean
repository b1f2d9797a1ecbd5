/-
 Go.
-/
import Derived.Test.YtoaeficfmcncjaaGreatM46
namespace Go.Proofs.YtoaeficfmcncjaaGreat.Mirror
open Go.RowKit
open Math
open Flight (Fw Fv FlAt Off)
open Later (Lw Lv QAt Foot RowAt)
open Pack (Ms Mv)
open Resync
variable {lo m d b1 b2 : Nat} {K : List Nat} {M : Mr}
theorem clean_pair {W : World} {N : Nat} {v0 e0 : Array Value} (h1 : Blk W N 76 v0) (h2 : Blk W (N + 1) 28 e0) : Clean W [N, N + 1] := fun k hk => by
 simp only [List.mem_cons, List.not_mem_nil, or_false] at hk
 rcases hk with rfl | rfl
 ·exact clean_of h1 (by decide) (by decide)
 ·exact clean_of h2 (by decide) (by decide)
set_option maxRecDepth 100000 in
set_option maxHeartbeats 8000000 in
theorem go_any (w : World) (H : MiAt w lo m d b1 b2 K M) (hF : M.fly.length ≤ 600) (hL : M.lat.length ≤ 900000) (hops : M.d.ops + 1030 * M.lat.length + 1030 * M.fly.length ≤ 900000000000000) :
  Calls Tryz.prog 35 #[.pointer (some ⟨m, 0, none⟩)] w fun e w' => ∃ v Q K', e = .returned (.tuple #[v, .int .i64 (goE M : Nat)]) ∧ Told w.heap.size w' v (goO M) Q ∧ Goes w w' lo m d b1 b2 K K' (goS M) := by
 obtain ⟨N, hN⟩ : ∃ N, w.heap.size = N := ⟨_, rfl⟩
 obtain ⟨W0, eW, hB1, hB2, k0⟩ : ∃ W0, (w.alloc (.cells #[.slice none 0 0] 76)).alloc (.cells #[.int .i64 0] 28) = W0 ∧ Blk W0 N 76 #[.slice none 0 0] ∧ Blk W0 (N + 1) 28 #[.int .i64 0] ∧ Kept [] w W0 := by
  refine ⟨_, rfl, ?_, ?_, (kept_alloc [] w _).trans (kept_alloc [] _ _)⟩
  ·subst hN
   exact (blk_new w 76 _).kept (kept_alloc [] _ _) (by simp)
  ·have := blk_new (w.alloc (.cells #[.slice none 0 0] 76)) 28 #[.int .i64 0]
   subst hN
   simpa using this
 have q1 : Calls Tryz.prog 56 #[.pointer (some ⟨m, 0, none⟩)] W0 fun e w' => e = .returned (.bool true) ∧ W0 = w' := (made_any W0 (H.kept0 k0)).mono (fun _ _ h => ⟨h.1, h.2.symm⟩)
 obtain ⟨f, b, p, q, h, hi, F, gr, rfl, HO⟩ := H
 have hbs : ∀ c ∈ M.fly, c.2.bs.length ≤ 140737488351232 := HO.fly.fit.short
 have hKN : ∀ k ∈ own m f b q h F gr ++ [d, b1, b2], k < N := by rw [← hN]; exact HO.all_lt
 replace HO := HO.kept k0 (by simp) (clean_nil _)
 have hsz : M.d.size ≤ 1024 := HO.disk.valid.top
 obtain ⟨a1, a2, a3⟩ := applyR_ops (ownsM M.fly) M.lat.length M.d M.lat [] hsz
 have q2 := apply_op W0 HO hF hL (by omega)
 have hS0 : N + 1 < W0.heap.size := hB2.lt
 have hN1 : N ∉ own m f b q h F gr ++ [d, b1, b2] ∧ N + 1 ∉ own m f b q h F gr ++ [d, b1, b2] := ⟨fun hm => by have := hKN _ hm; omega, fun hm => by have := hKN _ hm; omega⟩
 have hKn : ∀ k ∈ own m f b q h F gr ++ [d, b1, b2], k ∉ [N, N + 1] := fun k hk => by have := hKN k hk; simp; omega
 have hKe : ∀ k ∈ own m f b q h F gr ++ [d, b1, b2], k ∉ [N + 1] := fun k hk => by have := hKN k hk; simp; omega
 obtain ⟨A, hA⟩ : ∃ A, appR M = A := ⟨_, rfl⟩
 have hA' : Hid (appR M = A) := hA
 rw [hA] at q2
 change (appR M).1.ops ≤ _ at a1
 change (appR M).1.size = _ at a2
 change (appR M).2.1.length ≤ _ at a3
 rw [hA] at a1 a2 a3
 clear hA
 obtain ⟨D1, L1, G1, E1⟩ := A
 simp only at q2 a1 a2 a3
 have q2' : Calls Tryz.prog 82 #[.pointer (some ⟨m, 0, none⟩)] W0 fun e w' => ∃ p1 pn1 pc1 P1 gp1, e = .returned (.tuple #[.slice p1 pn1 pc1, .int .i64 (E1 : Nat)]) ∧ ORow W0.heap.size w' (.slice p1 pn1 pc1) P1 gp1 ∧ P1.map Lv.lw = G1 ∧ MiOp w' lo m d b1 b2 f b p q h hi F gr { M with d := D1, lat := L1 } ∧ Kept (own m f b q h F gr ++ [d, b1, b2]) W0 w' ∧ P1.length ≤ M.lat.length := by
  refine q2.mono ?_
  rintro e w' ⟨v, P, gp, rfl, hO, hr⟩
  obtain ⟨sa, n, cap, rfl⟩ := orow_form hO
  exact ⟨sa, n, cap, P, gp, rfl, hO, hr⟩
 clear q2
 replace HO : Hid (MiOp W0 lo m d b1 b2 f b p q h hi F gr M) := HO
 have kw : Hid (Kept [] w W0) := k0
 clear k0
 replace hB1 : Hid (Blk W0 N 76 #[.slice none 0 0]) := hB1
 replace hB2 : Hid (Blk W0 (N + 1) 28 #[.int .i64 0]) := hB2
 by_cases hE1 : E1 = 0
 ·subst hE1
  obtain ⟨R, hR⟩ : ∃ R, resendR L1 (againL M.fly) D1 M.fly [] = R := ⟨_, rfl⟩
  have hsub : ∀ y ∈ R.2.2.1, y.bs.length ≤ 140737488351232 := fun y hy => by
   rw [← hR] at hy
   rcases resend_sub _ _ _ _ y hy with h1 | h1
   ·simp at h1
   ·obtain ⟨c, hc, rfl⟩ := again_sub y h1
    exact hbs c hc
  have hR' : Hid (resendR L1 (againL M.fly) D1 M.fly [] = R) := hR
  clear hR
  obtain ⟨D2, F2, G2, E2⟩ := R
  simp only at hsub
  have q5 : ∀ W, MiOp W lo m d b1 b2 f b p q h hi F gr { M with d := D1, lat := L1 } → Calls Tryz.prog 83 #[.pointer (some ⟨m, 0, none⟩)] W fun e w' => ∃ p2 pn2 pc2 P2 gp2, e = .returned (.tuple #[.slice p2 pn2 pc2, .int .i64 (E2 : Nat)]) ∧ ORow W.heap.size w' (.slice p2 pn2 pc2) P2 gp2 ∧ P2.map Lv.lw = G2 ∧ MiOp w' lo m d b1 b2 f b p q h hi F gr { M with d := D2, lat := L1, fly := F2 } ∧ Kept (own m f b q h F gr ++ [d, b1, b2]) W w' ∧ P2.length ≤ M.fly.length := fun W hW => by
   have q5 := resend_op W hW hF (show L1.length ≤ 900000 by omega) (show D1.ops + 1030 * M.fly.length ≤ 900000000000000 by omega)
   simp only [hR'.out] at q5
   refine q5.mono ?_
   rintro e w' ⟨v, P, gp, rfl, hO, hr⟩
   obtain ⟨sa, n, cap, rfl⟩ := orow_form hO
   exact ⟨sa, n, cap, P, gp, rfl, hO, hr⟩
  have q2z : Calls Tryz.prog 82 #[.pointer (some ⟨m, 0, none⟩)] W0 fun e w' => ∃ p1 pn1 pc1 P1 gp1, e = .returned (.tuple #[.slice p1 pn1 pc1, .int .i64 0]) ∧ ORow W0.heap.size w' (.slice p1 pn1 pc1) P1 gp1 ∧ P1.map Lv.lw = G1 ∧ MiOp w' lo m d b1 b2 f b p q h hi F gr { M with d := D1, lat := L1 } ∧ Kept (own m f b q h F gr ++ [d, b1, b2]) W0 w' ∧ P1.length ≤ M.lat.length := q2'
  clear q2'
  go_enter_defers Tryz.func35, Tryz.ntmps35
  go_wp2_with (first
   | (go_at_call 56; refine q1.mono ?_; clear q1; rintro e w1 ⟨rfl, rfl⟩)
   | (go_at_call 82; refine q2z.mono ?_; clear q2z; rintro e w1 ⟨p1, pn1, pc1, P1, gp1, rfl, hO1, hP1, hM1, hk1, hn1⟩; have xx1 := hB1.out.kept hk1 hN1.1; have xx2 := hB2.out.kept hk1 hN1.2; have f2 := xx2.frozen 0; have c2 := (xx2.cell 0).trans (show _ = some (Value.int .i64 0) from rfl); obtain ⟨w2, hw2, k2, x2⟩ := same_set xx2; have x1 := xx1.kept k2 (by simp); have f1 := x1.frozen 0; have f3 := x2.frozen 0; have c1 := (x1.cell 0).trans (show _ = some (Value.slice none 0 0) from rfl); have c3 := (x2.cell 0).trans (show _ = some (Value.int .i64 0) from rfl); have hM2 := hM1.kept k2 hKe ((clean_pair xx1 xx2).mono (by simp)); replace q5 := q5 w2 hM2)
   | (go_at_call 83; refine q5.mono ?_; clear q5; rintro e w3 ⟨p2, pn2, pc2, P2, gp2, rfl, hO2, hP2, hM3, hk3, hn2⟩; have xy1 := x1.kept hk3 hN1.1; have xy2 := x2.kept hk3 hN1.2; have f4 := xy2.frozen 0; have c4 := (xy2.cell 0).trans (show _ = some (Value.int .i64 0) from rfl); obtain ⟨w4, hw4, k4, y1, y2⟩ : ∃ V, w3.setCell ⟨N + 1, 0, none⟩ (.int .i64 (E2 : Int)) = V ∧ Kept [N + 1] w3 V ∧ Blk V N 76 #[.slice none 0 0] ∧ Blk V (N + 1) 28 #[.int .i64 (E2 : Int)] := ⟨_, rfl, kept_set (by simp) _ _ _, xy1.kept (kept_set (g := N + 1) (L := [N + 1]) (by simp) _ _ _) (by simp), xy2.set 0 _⟩))
  have hn3 := y1.kept (kept_drew [] w4) (by simp)
  have he3 := y2.kept (kept_drew [] w4) (by simp)
  have k34 : Kept [N + 1] w3 w4.drew := k4.trans (kept_drew _ w4)
  have hM4 := hM3.kept k34 hKe ((clean_pair xy1 xy2).mono (by simp))
  obtain ⟨B, hB⟩ : ∃ B, w4.drew.heap.size = B := ⟨_, rfl⟩
  have hNB : Hid (N + 1 < B) := by
   have := he3.lt
   rw [hB] at this
   exact this
  have r1 : ∀ g, gp1 = some g → W0.heap.size ≤ g := fun g hg => orow_lt hO1 g hg
  have r2 : ∀ g, gp2 = some g → w2.heap.size ≤ g := fun g hg => orow_lt hO2 g hg
  have z1 := hk1.size
  have z2 := k2.size
  have oA := hO1.kept k2 (fun g hg hm => by have := r1 g hg; simp at hm; omega) ((clean_pair xx1 xx2).mono (by simp))
  have oB := oA.kept hk3 (fun g hg hm => by have := r1 g hg; have := hKN _ hm; omega) hM2.all
  have oC := oB.kept k34 (fun g hg hm => by have := r1 g hg; simp at hm; omega) ((clean_pair xy1 xy2).mono (by simp))
  have oD := hO2.kept k34 (fun g hg hm => by have := r2 g hg; simp at hm; omega) ((clean_pair xy1 xy2).mono (by simp))
  have q3 := tell_row 3 (.inr rfl) p1 pn1 pc1 P1 _ gp1 w4.drew oC (fun e => by cases e) (by omega)
  rw [hP1, hB] at q3
  have q4 := fun W (hk : Kept [] w4.drew W) => tell_row 2 (.inl rfl) p2 pn2 pc2 P2 _ gp2 W (oD.kept0 hk) (fun _ x hx => hsub x.lw (by rw [← hP2]; exact List.mem_map.2 ⟨x, hx, rfl⟩)) (by omega)
  rw [hP2] at q4
  have l1 : G1.length ≤ 900000 := by rw [← hP1, List.length_map]; omega
  have l2 : G2.length ≤ 600 := by rw [← hP2, List.length_map]; omega
  have kA : Kept (own m f b q h F gr ++ [d, b1, b2]) w w4.drew := (((((kw.out.mono (by simp)).trans hk1).youngs k2 (fun k hk => by simp at hk; omega)).trans hk3).youngs k34 (fun k hk => by simp at hk; omega))
  replace hn1 : Hid (G1.length ≤ 900000) := l1
  replace hn2 : Hid (G2.length ≤ 600) := l2
  replace hM4 : Hid (MiOp w4.drew lo m d b1 b2 f b p q h hi F gr { M with d := D2, lat := L1, fly := F2 }) := hM4
  clear hO1 hO2 oA oB oC oD hM1 hM2 hM3 hP1 hP2 f1 f2 f3 f4 c1 c2 c3 c4 xx1 xx2 xy1 xy2 r1 r2 hsub l1 l2
  refine wp_region_noPanic ?_
  refine wp_region_held_drew (S := fun W => Blk W (N + 1) 28 #[.int .i64 (E2 : Int)]) (by kernel_rfl) he3 (fun hP => ?_)
  have hH := hP
  clear hP
  refine tJ 0 ⟨some 26, _, _, _, _, _⟩ (.slice p1 pn1 pc1) rfl hH ?_
  refine tJ 2 ⟨some 28, _, _, _, _, _⟩ (.slice p2 pn2 pc2) rfl hH ?_
  refine tI 5 ⟨some 31, _, _, _, _, _⟩ (.int .i64 (E2 : Int)) rfl (fun W hSw => by have s1 := (hSw.cell 0).trans (show _ = some (.int .i64 (E2 : Int)) from rfl); go_simp) hH ?_
  refine tC 1 (o := ⟨some 27, _, _, _, _, _⟩) rfl (fun K hK => ?_)
  go_simp
  refine (q3).mono ?_
  rintro e w5 ⟨sT, nT, cT, Q1, rfl, hT1, hk5⟩
  go_wp2_with fail
  have hH1 := (hH.kept hk5 (by simp))
  refine hK.out _ _ hH1 (fun hH => ?_)
  clear hH1
  clear hK K
  have x4 := hn3.kept hk5 (by simp)
  have x4e := he3.kept hk5 (by simp)
  refine tC 3 (o := ⟨some 29, _, _, _, _, _⟩) rfl (fun K hK => ?_)
  go_simp
  refine (q4 w5 hk5).mono ?_
  rintro e w6 ⟨sU, nU, cU, Q2, rfl, hT2, hk6⟩
  go_wp2_with fail
  have hH1 := (hH.kept hk6 (by simp))
  refine hK.out _ _ hH1 (fun hH => ?_)
  clear hH1
  clear hK K
  have x5 := x4.kept hk6 (by simp)
  have x5e := x4e.kept hk6 (by simp)
  have hT1b := hT1.kept0 hk6
  refine tC 4 (o := ⟨some 30, _, _, _, _, _⟩) rfl (fun K hK => ?_)
  refine step_append_msgs rfl (.tmp 27) (.tmp 29) rfl B (.slice sT nT cT) (.slice sU nU cU) Q1 Q2 (by simp [Act.eval]) (by simp [Act.eval]) hT1b.row hT2.row.lies (by have h1 := told_len hT1; have h2 := told_len hT2; simp at h1 h2; have := hn1.out; have := hn2.out; omega) (by rw [← hB]; exact Nat.le_trans hk5.size hk6.size) ?_
  intro sV nV cV w7 hV hk7 _
  have hown : ∀ k ∈ (Value.slice sT nT cT).ownBlock.toList, B ≤ k := fun k hk => (hT1b.row.lt k (by simpa using hk)).1
  have hc7 := mrow_clean hT1b.row
  have x6 := x5.kept hk7 (fun hm => by have := hown _ hm; have := hNB.out; omega)
  have x6e := x5e.kept hk7 (fun hm => by have := hown _ hm; have := hNB.out; omega)
  refine hK.out _ _ x6e (fun hH => ?_)
  clear hK K
  refine tC 6 (o := ⟨none, _, _, _, _, _⟩) rfl (fun K hK => ?_)
  have f1 := x6.frozen 0
  have c1 := (x6.cell 0).trans (show _ = some (Value.slice none 0 0) from rfl)
  obtain ⟨w8, hw8, k8, y1, y2⟩ : ∃ V, w7.setCell ⟨N, 0, none⟩ (.slice sV nV cV) = V ∧ Kept [N] w7 V ∧ Blk V N 76 #[.slice sV nV cV] ∧ Blk V (N + 1) 28 #[.int .i64 (E2 : Int)] := ⟨_, rfl, kept_set (by simp) _ _ _, x6.set 0 _, x6e.kept (kept_set (g := N) (L := [N]) (by simp) _ _ _) (by simp only [List.mem_singleton]; omega)⟩
  go_simp
  refine hK.out _ _ y2 (fun hH => ?_)
  clear hK K
  refine tC 7 (o := ⟨none, _, _, _, _, _⟩) rfl (fun K hK => ?_)
  have f2 := y2.frozen 0
  have c2 := (y2.cell 0).trans (show _ = some (.int .i64 (E2 : Int)) from rfl)
  obtain ⟨w9, hw9, k9, z1, z2⟩ : ∃ V, w8.setCell ⟨N + 1, 0, none⟩ (.int .i64 (E2 : Int)) = V ∧ Kept [N + 1] w8 V ∧ Blk V N 76 #[.slice sV nV cV] ∧ Blk V (N + 1) 28 #[.int .i64 (E2 : Int)] := ⟨_, rfl, kept_set (by simp) _ _ _, y1.kept (kept_set (g := N + 1) (L := [N + 1]) (by simp) _ _ _) (by simp only [List.mem_singleton]; omega), y2.set 0 _⟩
  go_simp
  refine hK.out _ _ z2 (fun hH => ?_)
  clear hK K
  refine wpAnyH_done (by kernel_rfl) ?_ _
  refine NoPanic.normal ?_
  clear hH
  go_wp2
  refine leaves_cons (f := 70) (args := #[.pointer (some ⟨N, 0, none⟩), .pointer (some ⟨N + 1, 0, none⟩)]) (by simp) (by simp [go_sem]) ?_
  refine (look_deferred N (N + 1) _ E2 .returning _ z1 z2).mono ?_
  rintro e u' w'' ⟨rfl, rfl, hb, hk⟩
  have k7e : Kept [N, N + 1] w7 w'' := ((k8.mono (by simp)).trans (k9.mono (by simp))).trans (hk.mono (by simp))
  have hM6 := hM4.out.kept (hk5.trans hk6) (by simp) (clean_nil _)
  have hM7 := hM6.kept hk7 (fun k hk hm => by have h1 := hown k hm; have h2 := hKN k hk; have := hNB.out; omega) hc7
  have hMe := hM7.kept k7e hKn (clean_pair x6 x6e)
  have kB : Kept (own m f b q h F gr ++ [d, b1, b2]) w w7 := ((kA.trans ((hk5.trans hk6).mono (by simp))).youngs hk7 (fun k hk => by have h1 := hown k hk; have := hNB.out; omega))
  have hG := Goes.of ⟨f, b, p, q, h, hi, F, gr, rfl, hMe⟩ (kB.youngs k7e (fun k hk => by simp at hk; omega))
  have hTT := told_append hT1b hT2 hV hk7
  have hTe := (hTT.kept k7e (fun k hk hm => by have := (hV.lt k hk).1; have := hNB.out; simp at hm; omega) (clean_pair x6 x6e)).low (show w.heap.size ≤ B by have := hNB.out; omega)
  have eE : goE M = E2 := by unfold goE; rw [if_pos (by rw [hA'.out])]; unfold resR; rw [hA'.out]; simp only [hR'.out]
  have eS : goS M = { M with d := D2, lat := L1, fly := F2 } := by unfold goS; rw [if_pos (by rw [hA'.out])]; unfold resR; rw [hA'.out]; simp only [hR'.out]
  have eO : goO M = if E2 = 0 then G1.map (msgOf 3) ++ G2.map (msgOf 2) else [] := by unfold goO; rw [eE]; unfold resR; rw [hA'.out]; simp only [hR'.out]
  rw [eE, eO, eS]
  by_cases hz : E2 = 0
  ·rw [if_pos hz] at hb ⊢
   exact ⟨_, results_two rfl _ _ N (N + 1) _ _ rfl rfl hb (z2.kept hk (by simp)), .slice sV nV cV, Q1 ++ Q2, _, rfl, hTe, hG⟩
  ·rw [if_neg hz] at hb ⊢
   exact ⟨_, results_two rfl _ _ N (N + 1) _ _ rfl rfl hb (z2.kept hk (by simp)), .slice none 0 0, [], _, rfl, Told.nil _ _, hG⟩
 ·have hE1n : ¬ ((E1 : Int) = 0) := by omega
  go_enter_defers Tryz.func35, Tryz.ntmps35
  go_wp2_with (first
   | (go_at_call 56; refine q1.mono ?_; clear q1; rintro e w1 ⟨rfl, rfl⟩)
   | (go_at_call 82; refine q2'.mono ?_; clear q2'; rintro e w1 ⟨p1, pn1, pc1, P1, gp1, rfl, hO1, hP1, hM1, hk1, hn1⟩; have f2 := (hB2.out.kept hk1 hN1.2).frozen 0; have c2 := ((hB2.out.kept hk1 hN1.2).cell 0).trans (show _ = some (Value.int .i64 0) from rfl); obtain ⟨w2, hw2, k2, x1, x2⟩ : ∃ V, w1.setCell ⟨N + 1, 0, none⟩ (.int .i64 (E1 : Int)) = V ∧ Kept [N + 1] w1 V ∧ Blk V N 76 #[.slice none 0 0] ∧ Blk V (N + 1) 28 #[.int .i64 (E1 : Int)] := ⟨_, rfl, kept_set (by simp) _ _ _, (hB1.out.kept hk1 hN1.1).kept (kept_set (g := N + 1) (L := [N + 1]) (by simp) _ _ _) (by simp only [List.mem_singleton]; omega), (hB2.out.kept hk1 hN1.2).set 0 _⟩; have f1 := x1.frozen 0; have f3 := x2.frozen 0; have c1 := (x1.cell 0).trans (show _ = some (Value.slice none 0 0) from rfl); have c3 := (x2.cell 0).trans (show _ = some (Value.int .i64 (E1 : Int)) from rfl); obtain ⟨w3, hw3, k3, y1⟩ := same_set x1; have y2 := x2.kept k3 (by simp only [List.mem_singleton]; omega); have f4 := y2.frozen 0; have c4 := (y2.cell 0).trans (show _ = some (Value.int .i64 (E1 : Int)) from rfl); obtain ⟨w4, hw4, k4, z2⟩ := same_set y2; have z1 := y1.kept k4 (by simp only [List.mem_singleton]; omega)))
  have y1' := hB1.out.kept hk1 hN1.1
  have y2' := hB2.out.kept hk1 hN1.2
  refine leaves_cons (f := 70) (args := #[.pointer (some ⟨N, 0, none⟩), .pointer (some ⟨N + 1, 0, none⟩)]) (by simp) (by simp [go_sem]) ?_
  refine (look_deferred N (N + 1) _ E1 .returning _ z1 z2).mono ?_
  rintro e u' w'' ⟨rfl, rfl, hb, hk⟩
  have k1e : Kept [N, N + 1] w1 w'' := (((k2.mono (by simp)).trans (k3.mono (by simp))).trans (k4.mono (by simp))).trans (hk.mono (by simp))
  have hMe := hM1.kept k1e hKn (clean_pair y1' y2')
  have hG := Goes.of ⟨f, b, p, q, h, hi, F, gr, rfl, hMe⟩ (((kw.out.mono (by simp)).trans hk1).youngs k1e (fun k hk => by simp at hk; omega))
  rw [if_neg hE1] at hb
  have eE : goE M = E1 := by unfold goE; rw [hA'.out]; simp [hE1]
  have eO : goO M = [] := by unfold goO; rw [eE, if_neg hE1]
  have eS : goS M = { M with d := D1, lat := L1 } := by unfold goS; rw [hA'.out]; simp [hE1]
  rw [eE, eO, eS]
  exact ⟨_, results_two rfl _ _ N (N + 1) _ _ rfl rfl hb (z2.kept hk (by simp)), .slice none 0 0, [], _, rfl, Told.nil _ _, hG⟩
end Go.Proofs.YtoaeficfmcncjaaGreat.Mirror
namespace Go.Proofs.YtoaeficfmcncjaaGreat.Mirror
open Go.RowKit
open Math
open Resync (MRow)
open Pack (Ms Mv)
structure Ad where
 lo : Nat
 m : Nat
 d : Nat
 b1 : Nat
 b2 : Nat
def Ad.ds (x : Ad) : List Nat := [x.d, x.b1, x.b2]
abbrev Ad.At (x : Ad) (W : World) (K : List Nat) (M : Mr) : Prop := MiAt W x.lo x.m x.d x.b1 x.b2 K M
def cells7 (who po pt dO dt : Nat) (vo vt : Value) : Array Value :=
 if who = 0 then #[.pointer (some ⟨po, 0, none⟩), .pointer (some ⟨pt, 0, none⟩), .pointer (some ⟨dO, 0, none⟩), .pointer (some ⟨dt, 0, none⟩), vo, vt, .bool false]
 else #[.pointer (some ⟨pt, 0, none⟩), .pointer (some ⟨po, 0, none⟩), .pointer (some ⟨dt, 0, none⟩), .pointer (some ⟨dO, 0, none⟩), vt, vo, .bool false]
structure PairIn (W : World) (base g who : Nat) (x y : Ad) (K L : List Nat) (vo vt : Value) (M N : Mr) (wo wt : List Ms) (P Q : List Mv) : Prop where
 box : Blk W g 79 (cells7 who x.m y.m x.d y.d vo vt)
 own : x.At W K M
 oth : y.At W L N
 ro : Told base W vo wo P
 rt : Told base W vt wt Q
 low : base ≤ g ∧ (∀ k ∈ K ++ x.ds, base ≤ k) ∧ ∀ k ∈ L ++ y.ds, base ≤ k
 xy : ∀ k ∈ K ++ x.ds, k ∉ L ++ y.ds
 gs : g ∉ K ++ x.ds ∧ g ∉ L ++ y.ds
 os : ∀ k, vo.ownBlock = some k → k ∉ K ++ x.ds ∧ k ∉ L ++ y.ds ∧ k ≠ g ∧ vt.ownBlock ≠ some k
 ts : ∀ k, vt.ownBlock = some k → k ∉ K ++ x.ds ∧ k ∉ L ++ y.ds ∧ k ≠ g
section
variable {W V : World} {base g who : Nat} {x y : Ad} {K L K' : List Nat} {vo vt : Value} {M N M' : Mr} {wo wt : List Ms} {P Q : List Mv}
theorem cells_swap (hw : who = 0 ∨ who = 1) (po pt dO dt : Nat) (vo vt : Value) : cells7 who po pt dO dt vo vt = cells7 (1 - who) pt po dt dO vt vo := by
 rcases hw with rfl | rfl <;> rfl
theorem PairIn.swap (hw : who = 0 ∨ who = 1) (h : PairIn W base g who x y K L vo vt M N wo wt P Q) : PairIn W base g (1 - who) y x L K vt vo N M wt wo Q P := by
 refine ⟨by rw [← cells_swap hw]; exact h.box, h.oth, h.own, h.rt, h.ro, ⟨h.low.1, h.low.2.2, h.low.2.1⟩, fun k h1 h2 => h.xy k h2 h1, ⟨h.gs.2, h.gs.1⟩, fun k hk => ?_, fun k hk => ?_⟩
 ·obtain ⟨a, b, c⟩ := h.ts k hk
  exact ⟨b, a, c, fun e => (h.os k e).2.2.2 hk⟩
 ·obtain ⟨a, b, c, _⟩ := h.os k hk
  exact ⟨b, a, c⟩
theorem PairIn.kept0 (h : PairIn W base g who x y K L vo vt M N wo wt P Q) (hk : Kept [] W V) : PairIn V base g who x y K L vo vt M N wo wt P Q :=
 ⟨h.box.kept hk (by simp), h.own.kept0 hk, h.oth.kept0 hk, h.ro.kept0 hk, h.rt.kept0 hk, h.low, h.xy, h.gs, h.os, h.ts⟩
theorem PairIn.goes (h : PairIn W base g who x y K L vo vt M N wo wt P Q) (hb : base ≤ W.heap.size) (G : Goes W V x.lo x.m x.d x.b1 x.b2 K K' M') : PairIn V base g who x y K' L vo vt M' N wo wt P Q := by
 have hc := h.own.clean
 have hmem : ∀ k ∈ K' ++ x.ds, k ∈ K ++ x.ds ∨ W.heap.size ≤ k := fun k hk => by
  rcases List.mem_append.1 hk with e | e
  ·exact (G.new k e).imp (fun e => List.mem_append.2 (.inl e)) id
  ·exact .inl (List.mem_append.2 (.inr e))
 have hbl : ∀ k, vo.ownBlock = some k → k < W.heap.size := fun k hk => (h.ro.row.lt k hk).2
 have htl : ∀ k, vt.ownBlock = some k → k < W.heap.size := fun k hk => (h.rt.row.lt k hk).2
 refine ⟨h.box.kept G.kept h.gs.1, G.at_, h.oth.kept G.kept (fun k hk hm => h.xy k hm hk) hc, h.ro.kept G.kept (fun k hk => (h.os k hk).1) hc, h.rt.kept G.kept (fun k hk => (h.ts k hk).1) hc, ⟨h.low.1, fun k hk => ?_, h.low.2.2⟩, fun k hk => ?_, ⟨fun hm => ?_, h.gs.2⟩, fun k hk => ⟨fun hm => ?_, (h.os k hk).2⟩, fun k hk => ⟨fun hm => ?_, (h.ts k hk).2⟩⟩
 ·rcases hmem k hk with e | e
  ·exact h.low.2.1 k e
  ·omega
 ·rcases hmem k hk with e | e
  ·exact h.xy k e
  ·exact fun hm => by have := h.oth.lt k hm; omega
 ·rcases hmem g hm with e | e
  ·exact h.gs.1 e
  ·have := h.box.lt
   omega
 ·rcases hmem k hm with e | e
  ·exact (h.os k hk).1 e
  ·have := hbl k hk
   omega
 ·rcases hmem k hm with e | e
  ·exact (h.ts k hk).1 e
  ·have := htl k hk
   omega
theorem box_clean {c : Array Value} (h : Blk W g 79 c) : Clean W [g] := fun k hk => by
 rw [List.mem_singleton] at hk
 subst hk
 exact clean_of h (by decide) (by decide)
theorem PairIn.grown {A : World} {v : Value} {wt' : List Ms} {Q' : List Mv} (h : PairIn W base g who x y K L vo vt M N wo wt P Q) (hk : Kept vt.ownBlock.toList W A) (hT : Told base A v wt' Q') (hn : ∀ k, v.ownBlock = some k → vt.ownBlock = some k ∨ W.heap.size ≤ k)
  (hV : Kept [g] A V) (hB : Blk V g 79 (cells7 who x.m y.m x.d y.d vo v)) : PairIn V base g who x y K L vo v M N wo wt' P Q' := by
 have hc : Clean W vt.ownBlock.toList := mrow_clean h.rt.row
 have hboxA := h.box.kept hk (fun hm => (h.ts g (by simpa using hm)).2.2 rfl)
 have hcg := box_clean hboxA
 have k1 := h.own.kept hk (fun k hk1 hm => (h.ts k (by simpa using hm)).1 hk1) hc
 have k2 := h.oth.kept hk (fun k hk1 hm => (h.ts k (by simpa using hm)).2.1 hk1) hc
 have k3 := h.ro.kept hk (fun k hk1 hm => (h.os k hk1).2.2.2 (by simpa using hm)) hc
 have hsep : ∀ k, v.ownBlock = some k → k ∉ K ++ x.ds ∧ k ∉ L ++ y.ds ∧ k ≠ g ∧ ∀ j, vo.ownBlock = some j → j ≠ k := fun k hk1 => by
  rcases hn k hk1 with e | e
  ·obtain ⟨a, b, c⟩ := h.ts k e
   exact ⟨a, b, c, fun j hj hjk => (h.os j hj).2.2.2 (hjk ▸ e)⟩
  ·refine ⟨fun hm => ?_, fun hm => ?_, fun hm => ?_, fun j hj hjk => ?_⟩
   ·have := h.own.lt k hm
    omega
   ·have := h.oth.lt k hm
    omega
   ·have := h.box.lt
    omega
   ·have := (h.ro.row.lt j hj).2
    omega
 refine ⟨hB, k1.kept hV (fun k hk1 hm => by rw [List.mem_singleton.1 hm] at hk1; exact h.gs.1 hk1) hcg, k2.kept hV (fun k hk1 hm => by rw [List.mem_singleton.1 hm] at hk1; exact h.gs.2 hk1) hcg, k3.kept hV (fun k hk1 hm => (h.os k hk1).2.2.1 (List.mem_singleton.1 hm)) hcg, hT.kept hV (fun k hk1 hm => (hsep k hk1).2.2.1 (List.mem_singleton.1 hm)) hcg, h.low, h.xy, h.gs, fun k hk1 => ?_, fun k hk1 => ⟨(hsep k hk1).1, (hsep k hk1).2.1, (hsep k hk1).2.2.1⟩⟩
 obtain ⟨a, b, c, _⟩ := h.os k hk1
 exact ⟨a, b, c, fun e => (hsep k e).2.2.2 k hk1 rfl⟩
theorem PairIn.bts (h : PairIn W base g who x y K L vo vt M N wo wt P Q) {z : Mv} (hz : z ∈ P) : Bts W (K ++ [x.d, x.b1, x.b2]) (.slice z.sa z.len z.cap) z.d := bts_later (h.ro.byt z hz) h.own.clean
end
end Go.Proofs.YtoaeficfmcncjaaGreat.Mirror
namespace Go.Proofs.YtoaeficfmcncjaaGreat.Mirror
open Go.RowKit
open Math
open Resync (MRow)
open Pack (Ms Mv)
variable {base g : Nat} {x y : Ad} {K L : List Nat} {vo vt : Value} {M N : Mr} {wo wt : List Ms} {P Q : List Mv}
set_option maxRecDepth 100000 in
set_option maxHeartbeats 4000000 in
theorem went0 (u : Value) (out : List Ms) (R : List Mv) (b' : Nat) (w : World) (H : PairIn w base g 0 x y K L vo vt M N wo wt P Q) (hU : Told b' w u out R) (hgu : ∀ k, u.ownBlock = some k → k ≠ g) (hb : base ≤ w.heap.size) (hlen : wt.length + out.length ≤ 1000000) :
  Calls Tryz.prog 32 #[.pointer (some ⟨g, 0, none⟩), .int .i64 0, u, .int .i64 0] w fun e w' => e = .returned (.tuple #[]) ∧ ∃ v', PairIn w' base g 0 x y K L vo v' M N wo (wt ++ out) P (Q ++ R) ∧ Kept (g :: vt.ownBlock.toList) w w' ∧ ∀ k, v'.ownBlock = some k → vt.ownBlock = some k ∨ w.heap.size ≤ k := by
 obtain ⟨ta, tc, hvt⟩ := H.rt.row.form
 obtain ⟨ua, uc, hu⟩ := hU.row.form
 obtain ⟨tn, htn⟩ : ∃ n, Q.length = n := ⟨_, rfl⟩
 obtain ⟨un, hun⟩ : ∃ n, R.length = n := ⟨_, rfl⟩
 rw [htn] at hvt
 rw [hun] at hu
 subst hvt hu
 have hl : Q.length + R.length ≤ 1000000 := by rw [told_len H.rt, told_len hU]; exact hlen
 replace hlen : Hid (Q.length + R.length ≤ 1000000) := hl
 clear hl htn hun
 have hB := H.box
 have f6 := hB.frozen 6
 have c6 := (hB.cell 6).trans (show _ = some (Value.bool false) from rfl)
 obtain ⟨W1, eW, k1, hB1⟩ : ∃ W1, w.setCell ⟨g, 6, none⟩ (.bool false) = W1 ∧ Kept [g] w W1 ∧ Blk W1 g 79 (cells7 0 x.m y.m x.d y.d vo (.slice ta tn tc)) := ⟨_, rfl, kept_set (by simp) _ _ _, hB.set 6 _⟩
 have H1 := H.grown (Kept.refl _ _) H.rt (fun k hk => .inl hk) k1 hB1
 have hTd := (H1.kept0 (kept_drew [] W1)).rt
 have hBd := (H1.kept0 (kept_drew [] W1)).box
 have hUd := (hU.kept k1 (fun k hk hm => hgu k hk (List.mem_singleton.1 hm)) (box_clean hB)).kept0 (kept_drew [] W1)
 have hts : Hid (∀ k, (Value.slice ta tn tc).ownBlock = some k → k ∉ K ++ x.ds ∧ k ∉ L ++ y.ds ∧ k ≠ g) := H1.ts
 have hbs : Hid (base ≤ W1.drew.heap.size) := Nat.le_trans hb (k1.trans ((kept_drew [] W1).mono (by simp))).size
 have hHd : Hid (PairIn W1.drew base g 0 x y K L vo (.slice ta tn tc) M N wo wt P Q) := H1.kept0 (kept_drew [] W1)
 have k1h : Hid (Kept [g] w W1.drew) := k1.trans ((kept_drew [] W1).mono (by simp))
 clear H H1 hU hB hB1 k1 hb
 have hwr : IntKind.i64.wrap 1 = 1 := by decide
 go_enter Tryz.func32, Tryz.ntmps32
 go_upto_region 1 with fail
 refine wp_region_held_drew (S := fun _ => True) (by kernel_rfl) trivial (fun hP => ?_)
 have hH := hP
 clear hP
 refine tJ 0 ⟨some 19, _, _, _, _, _⟩ (.pointer (some ⟨g, 0, none⟩)) rfl hH ?_
 refine tJ 1 ⟨some 20, _, _, _, _, _⟩ (.int .i64 0) rfl hH ?_
 refine tJ 2 ⟨some 21, _, _, _, _, _⟩ (.int .i64 1) rfl hH ?_
 refine tJ 3 ⟨some 22, _, _, _, _, _⟩ (.pointer (some ⟨g, 0, none⟩)) rfl hH ?_
 refine tJ 4 ⟨some 23, _, _, _, _, _⟩ (.int .i64 0) rfl hH ?_
 refine tJ 5 ⟨some 24, _, _, _, _, _⟩ (.int .i64 1) rfl hH ?_
 refine tJ 6 ⟨some 25, _, _, _, _, _⟩ (.pointer (some ⟨g, 0, none⟩)) rfl hH ?_
 refine tJ 7 ⟨some 26, _, _, _, _, _⟩ (.pointer (some ⟨g, 4, none⟩)) rfl hH ?_
 refine tJ 8 ⟨some 27, _, _, _, _, _⟩ (.pointer (some ⟨g, 5, none⟩)) rfl hH ?_
 refine tJ 10 ⟨some 29, _, _, _, _, _⟩ (.slice ua un uc) rfl hH ?_
 refine tJ 12 ⟨some 31, _, _, _, _, _⟩ (.pointer (some ⟨g, 0, none⟩)) rfl hH ?_
 refine tJ 13 ⟨some 32, _, _, _, _, _⟩ (.pointer (some ⟨g, 4, none⟩)) rfl hH ?_
 refine tC 9 (o := ⟨some 28, _, _, _, _, _⟩) rfl (fun K hK => ?_)
 have s0 := (hBd.cell 5).trans (show _ = some (Value.slice ta tn tc) from rfl)
 go_simp
 refine hK.out _ _ trivial (fun hH => ?_)
 clear hK K
 refine tC 11 (o := ⟨some 30, _, _, _, _, _⟩) rfl (fun K hK => ?_)
 refine Resync.step_append_msgs rfl (.tmp 28) (.tmp 29) rfl base (.slice ta tn tc) (.slice ua un uc) Q R (by simp [Act.eval]) (by simp [Act.eval]) hTd.row hUd.row.lies hlen.out hbs.out ?_
 intro sV nV cV w9 hV hk9 ho9
 refine hK.out _ _ trivial (fun hH => ?_)
 clear hK K
 have hb9 := hBd.kept hk9 (fun hm => (hts.out g (by simpa using hm)).2.2 rfl)
 refine tJ 14 ⟨some 33, _, _, _, _, _⟩ (.pointer (some ⟨g, 5, none⟩)) rfl hH ?_
 refine tC 15 (o := ⟨none, _, _, _, _, _⟩) rfl (fun K hK => ?_)
 have f9 := hb9.frozen 5
 have x9 := (hb9.cell 5).trans (show _ = some (Value.slice ta tn tc) from rfl)
 obtain ⟨wV, eV, kV, hBV⟩ : ∃ V, w9.setCell ⟨g, 5, none⟩ (.slice sV nV cV) = V ∧ Kept [g] w9 V ∧ Blk V g 79 (cells7 0 x.m y.m x.d y.d vo (.slice sV nV cV)) := ⟨_, rfl, kept_set (by simp) _ _ _, hb9.set 5 _⟩
 go_simp
 refine hK.out _ _ trivial (fun hH => ?_)
 clear hK K
 refine wpAnyH_done (by kernel_rfl) ?_ _
 go_wp2_with fail
 go_end0
 have hT' := told_append hTd hUd hV hk9
 have kk : Kept (g :: (Value.slice ta tn tc).ownBlock.toList) w wV := ((k1h.out.mono (by simp)).trans (hk9.mono (fun k hk => List.mem_cons_of_mem _ hk))).trans (kV.mono (by simp))
 exact ⟨rfl, .slice sV nV cV, hHd.out.grown hk9 hT' ho9.out kV hBV, kk, fun k hk => (ho9.out k hk).imp id fun h => Nat.le_trans k1h.out.size h⟩
set_option maxRecDepth 100000 in
set_option maxHeartbeats 4000000 in
theorem went1 (u : Value) (out : List Ms) (R : List Mv) (b' : Nat) (w : World) (H : PairIn w base g 1 x y K L vo vt M N wo wt P Q) (hU : Told b' w u out R) (hgu : ∀ k, u.ownBlock = some k → k ≠ g) (hb : base ≤ w.heap.size) (hlen : wt.length + out.length ≤ 1000000) :
  Calls Tryz.prog 32 #[.pointer (some ⟨g, 0, none⟩), .int .i64 1, u, .int .i64 0] w fun e w' => e = .returned (.tuple #[]) ∧ ∃ v', PairIn w' base g 1 x y K L vo v' M N wo (wt ++ out) P (Q ++ R) ∧ Kept (g :: vt.ownBlock.toList) w w' ∧ ∀ k, v'.ownBlock = some k → vt.ownBlock = some k ∨ w.heap.size ≤ k := by
 obtain ⟨ta, tc, hvt⟩ := H.rt.row.form
 obtain ⟨ua, uc, hu⟩ := hU.row.form
 obtain ⟨tn, htn⟩ : ∃ n, Q.length = n := ⟨_, rfl⟩
 obtain ⟨un, hun⟩ : ∃ n, R.length = n := ⟨_, rfl⟩
 rw [htn] at hvt
 rw [hun] at hu
 subst hvt hu
 have hl : Q.length + R.length ≤ 1000000 := by rw [told_len H.rt, told_len hU]; exact hlen
 replace hlen : Hid (Q.length + R.length ≤ 1000000) := hl
 clear hl htn hun
 have hB := H.box
 have f6 := hB.frozen 6
 have c6 := (hB.cell 6).trans (show _ = some (Value.bool false) from rfl)
 obtain ⟨W1, eW, k1, hB1⟩ : ∃ W1, w.setCell ⟨g, 6, none⟩ (.bool false) = W1 ∧ Kept [g] w W1 ∧ Blk W1 g 79 (cells7 1 x.m y.m x.d y.d vo (.slice ta tn tc)) := ⟨_, rfl, kept_set (by simp) _ _ _, hB.set 6 _⟩
 have H1 := H.grown (Kept.refl _ _) H.rt (fun k hk => .inl hk) k1 hB1
 have hTd := (H1.kept0 (kept_drew [] W1)).rt
 have hBd := (H1.kept0 (kept_drew [] W1)).box
 have hUd := (hU.kept k1 (fun k hk hm => hgu k hk (List.mem_singleton.1 hm)) (box_clean hB)).kept0 (kept_drew [] W1)
 have hts : Hid (∀ k, (Value.slice ta tn tc).ownBlock = some k → k ∉ K ++ x.ds ∧ k ∉ L ++ y.ds ∧ k ≠ g) := H1.ts
 have hbs : Hid (base ≤ W1.drew.heap.size) := Nat.le_trans hb (k1.trans ((kept_drew [] W1).mono (by simp))).size
 have hHd : Hid (PairIn W1.drew base g 1 x y K L vo (.slice ta tn tc) M N wo wt P Q) := H1.kept0 (kept_drew [] W1)
 have k1h : Hid (Kept [g] w W1.drew) := k1.trans ((kept_drew [] W1).mono (by simp))
 clear H H1 hU hB hB1 k1 hb
 have hwr : IntKind.i64.wrap 0 = 0 := by decide
 go_enter Tryz.func32, Tryz.ntmps32
 go_upto_region 1 with fail
 refine wp_region_held_drew (S := fun _ => True) (by kernel_rfl) trivial (fun hP => ?_)
 have hH := hP
 clear hP
 refine tJ 0 ⟨some 19, _, _, _, _, _⟩ (.pointer (some ⟨g, 0, none⟩)) rfl hH ?_
 refine tJ 1 ⟨some 20, _, _, _, _, _⟩ (.int .i64 1) rfl hH ?_
 refine tJ 2 ⟨some 21, _, _, _, _, _⟩ (.int .i64 0) rfl hH ?_
 refine tJ 3 ⟨some 22, _, _, _, _, _⟩ (.pointer (some ⟨g, 0, none⟩)) rfl hH ?_
 refine tJ 4 ⟨some 23, _, _, _, _, _⟩ (.int .i64 1) rfl hH ?_
 refine tJ 5 ⟨some 24, _, _, _, _, _⟩ (.int .i64 0) rfl hH ?_
 refine tJ 6 ⟨some 25, _, _, _, _, _⟩ (.pointer (some ⟨g, 0, none⟩)) rfl hH ?_
 refine tJ 7 ⟨some 26, _, _, _, _, _⟩ (.pointer (some ⟨g, 4, none⟩)) rfl hH ?_
 refine tJ 8 ⟨some 27, _, _, _, _, _⟩ (.pointer (some ⟨g, 4, none⟩)) rfl hH ?_
 refine tJ 10 ⟨some 29, _, _, _, _, _⟩ (.slice ua un uc) rfl hH ?_
 refine tJ 12 ⟨some 31, _, _, _, _, _⟩ (.pointer (some ⟨g, 0, none⟩)) rfl hH ?_
 refine tJ 13 ⟨some 32, _, _, _, _, _⟩ (.pointer (some ⟨g, 4, none⟩)) rfl hH ?_
 refine tC 9 (o := ⟨some 28, _, _, _, _, _⟩) rfl (fun K hK => ?_)
 have s0 := (hBd.cell 4).trans (show _ = some (Value.slice ta tn tc) from rfl)
 go_simp
 refine hK.out _ _ trivial (fun hH => ?_)
 clear hK K
 refine tC 11 (o := ⟨some 30, _, _, _, _, _⟩) rfl (fun K hK => ?_)
 refine Resync.step_append_msgs rfl (.tmp 28) (.tmp 29) rfl base (.slice ta tn tc) (.slice ua un uc) Q R (by simp [Act.eval]) (by simp [Act.eval]) hTd.row hUd.row.lies hlen.out hbs.out ?_
 intro sV nV cV w9 hV hk9 ho9
 refine hK.out _ _ trivial (fun hH => ?_)
 clear hK K
 have hb9 := hBd.kept hk9 (fun hm => (hts.out g (by simpa using hm)).2.2 rfl)
 refine tJ 14 ⟨some 33, _, _, _, _, _⟩ (.pointer (some ⟨g, 4, none⟩)) rfl hH ?_
 refine tC 15 (o := ⟨none, _, _, _, _, _⟩) rfl (fun K hK => ?_)
 have f9 := hb9.frozen 4
 have x9 := (hb9.cell 4).trans (show _ = some (Value.slice ta tn tc) from rfl)
 obtain ⟨wV, eV, kV, hBV⟩ : ∃ V, w9.setCell ⟨g, 4, none⟩ (.slice sV nV cV) = V ∧ Kept [g] w9 V ∧ Blk V g 79 (cells7 1 x.m y.m x.d y.d vo (.slice sV nV cV)) := ⟨_, rfl, kept_set (by simp) _ _ _, hb9.set 4 _⟩
 go_simp
 refine hK.out _ _ trivial (fun hH => ?_)
 clear hK K
 refine wpAnyH_done (by kernel_rfl) ?_ _
 go_wp2_with fail
 go_end0
 have hT' := told_append hTd hUd hV hk9
 have kk : Kept (g :: (Value.slice ta tn tc).ownBlock.toList) w wV := ((k1h.out.mono (by simp)).trans (hk9.mono (fun k hk => List.mem_cons_of_mem _ hk))).trans (kV.mono (by simp))
 exact ⟨rfl, .slice sV nV cV, hHd.out.grown hk9 hT' ho9.out kV hBV, kk, fun k hk => (ho9.out k hk).imp id fun h => Nat.le_trans k1h.out.size h⟩
end Go.Proofs.YtoaeficfmcncjaaGreat.Mirror
