/-
 Take.
-/
import Derived.Test.YtoaeficfmcncjaaGreatM44
namespace Go.Proofs.YtoaeficfmcncjaaGreat.Mirror
open Go.RowKit
open Math
open Flight (Fw Fv FlAt Off)
open Later (Lw Lv QAt Foot RowAt)
open Pack (Ms Mv)
variable {lo m d b1 b2 : Nat} {K : List Nat} {M : Mr}
theorem apart2 {w W : World} {N : Nat} {v0 e0 : Array Value} {K' : List Nat} (g : Goes w W lo m d b1 b2 K K' M) (h1 : Blk w (N + 1) 76 v0) (h2 : Blk w (N + 1 + 1) 28 e0) (hN : N + 1 ∉ K ++ [d, b1, b2] ∧ N + 1 + 1 ∉ K ++ [d, b1, b2]) : ∀ k ∈ K' ++ [d, b1, b2], k ∉ [N + 1, N + 1 + 1] := fun k hk hm => by
 simp only [List.mem_cons, List.not_mem_nil, or_false] at hm
 rcases hm with rfl | rfl
 ·exact g.apart h1.lt hN.1 hk
 ·exact g.apart h2.lt hN.2 hk
set_option maxRecDepth 100000 in
set_option maxHeartbeats 8000000 in
theorem take_any (x : Mv) (hi0 : -9223372036854775808 ≤ x.i) (hi1 : x.i ≤ 9223372036854775807) (w : World) (H : MiAt w lo m d b1 b2 K M) (hx : Bts w (K ++ [d, b1, b2]) (.slice x.sa x.len x.cap) x.d) (hxl : x.d.length ≤ 140737488351232) (hF : M.fly.length ≤ 600) (hL : M.lat.length ≤ 999999) (hops : M.d.ops ≤ 900000000000000) :
  Calls Tryz.prog 34 #[.pointer (some ⟨m, 0, none⟩), x.val] w fun e w' => ∃ vi v Q K', e = .returned (.tuple #[vi, v, .int .i64 (tkE M x.ms : Nat)]) ∧ IRow w.heap.size w' vi (tkT M x.ms) ∧ Told w.heap.size w' v (tkO M x.ms) Q ∧ Goes w w' lo m d b1 b2 K K' (tkS M x.ms) := by
 obtain ⟨N, hN⟩ : ∃ N, w.heap.size = N := ⟨_, rfl⟩
 have hlen : x.len = x.d.length := hx.len
 have hlv := lv_of x hlen
 have q4 := fun W => writeOf_any x (by omega) W
 have q2 := fun W => Pack.good_any x hlen (by omega) W
 obtain ⟨fb, hfb⟩ : ∃ fb, Pack.good x.ms = fb := ⟨_, rfl⟩
 rw [hfb] at q2
 obtain ⟨E2, hE2⟩ : ∃ E2, mtE M (wOf x.ms) = E2 := ⟨_, rfl⟩
 have q5 : ∀ W, MiAt W lo m d b1 b2 K M → Bts W (K ++ [d, b1, b2]) (.slice x.sa x.len x.cap) x.d → Calls Tryz.prog 78 #[.pointer (some ⟨m, 0, none⟩), (lvOf x).val] W fun e w' => ∃ sT nT cT Q K', e = .returned (.tuple #[.slice sT nT cT, .int .i64 (E2 : Nat)]) ∧ Told W.heap.size w' (.slice sT nT cT) (mtP M (wOf x.ms)) Q ∧ Goes W w' lo m d b1 b2 K K' (mtS M (wOf x.ms)) := fun W h1 h2 => by
  refine (meet_any (lvOf x) W h1 h2 hxl hF hL hops).mono ?_
  rintro e w' ⟨v, Q, K', rfl, hT, hG⟩
  obtain ⟨sT, cT, rfl⟩ := hT.row.form
  rw [hlv, hE2] at *
  exact ⟨sT, _, cT, Q, K', rfl, hT, hG⟩
 have q6 : ∀ W, MiAt W lo m d b1 b2 K M → Calls Tryz.prog 80 #[.pointer (some ⟨m, 0, none⟩), .int .i64 x.i] W fun e w' => ∃ sI nI cI K', e = .returned (.slice sI nI cI) ∧ IRow W.heap.size w' (.slice sI nI cI) (if Flight.endOk M.fly x.i then [x.i] else []) ∧ Goes W w' lo m d b1 b2 K K' { M with fly := Flight.endL M.fly x.i } := fun W h1 => by
  refine (land_any x.i hi0 hi1 W h1 hF).mono ?_
  rintro e w' ⟨v, K', rfl, hI, hG⟩
  obtain ⟨sa, cap, rfl⟩ := irow_form hI
  exact ⟨sa, _, cap, K', rfl, hI, hG⟩
 have hdt := dt_is M x.ms
 rw [hE2] at hdt
 obtain ⟨t1, t2, t3⟩ := hdt
 clear hE2 hlv hlen
 obtain ⟨xk, xi, xo, xm, xs, xa, xlen, xcap, xd⟩ := x
 obtain ⟨mP, hmP⟩ : ∃ P, mtP M (wOf (Mv.ms ⟨xk, xi, xo, xm, xs, xa, xlen, xcap, xd⟩)) = P := ⟨_, rfl⟩
 obtain ⟨mS, hmS⟩ : ∃ P, mtS M (wOf (Mv.ms ⟨xk, xi, xo, xm, xs, xa, xlen, xcap, xd⟩)) = P := ⟨_, rfl⟩
 rw [hmP] at q5 t3
 rw [hmS] at q5 t2
 clear hmP hmS
 replace t1 : Hid _ := t1
 replace t2 : Hid _ := t2
 replace t3 : Hid _ := t3
 replace hfb : Hid _ := hfb
 simp only [Mv.val, Lv.val, lvOf] at *
 obtain ⟨W0, eW, hB0, hB1, hB2, k0⟩ : ∃ W0, ((w.alloc (.cells #[.int .i64 xk, .int .i64 xi, .int .i64 xo, .int .u64 (xm : Int), .bool xs, .slice xa xlen xcap] 47)).alloc (.cells #[.slice none 0 0] 76)).alloc (.cells #[.int .i64 0] 28) = W0 ∧ Blk W0 N 47 #[.int .i64 xk, .int .i64 xi, .int .i64 xo, .int .u64 (xm : Int), .bool xs, .slice xa xlen xcap] ∧ Blk W0 (N + 1) 76 #[.slice none 0 0] ∧ Blk W0 (N + 1 + 1) 28 #[.int .i64 0] ∧ Kept [] w W0 := by
  refine ⟨_, rfl, ?_, ?_, ?_, ((kept_alloc [] w _).trans (kept_alloc [] _ _)).trans (kept_alloc [] _ _)⟩
  ·subst hN
   exact ((blk_new w 47 _).kept (kept_alloc [] _ _) (by simp)).kept (kept_alloc [] _ _) (by simp)
  ·have := (blk_new (w.alloc (.cells #[.int .i64 xk, .int .i64 xi, .int .i64 xo, .int .u64 (xm : Int), .bool xs, .slice xa xlen xcap] 47)) 76 #[.slice none 0 0]).kept (kept_alloc [] _ (.cells #[.int .i64 0] 28)) (by simp)
   subst hN
   simpa using this
  ·have := blk_new ((w.alloc (.cells #[.int .i64 xk, .int .i64 xi, .int .i64 xo, .int .u64 (xm : Int), .bool xs, .slice xa xlen xcap] 47)).alloc (.cells #[.slice none 0 0] 76)) 28 #[.int .i64 0]
   subst hN
   simpa using this
 have q1 : Calls Tryz.prog 56 #[.pointer (some ⟨m, 0, none⟩)] W0 fun e w' => e = .returned (.bool true) ∧ W0 = w' := (made_any W0 (H.kept0 k0)).mono (fun _ _ h => ⟨h.1, h.2.symm⟩)
 replace q2 := fun W (_ : Kept [] W0 W) => q2 W
 have hHd : Hid (MiAt W0 lo m d b1 b2 K M) := H.kept0 k0
 have hxd : Hid (Bts W0 (K ++ [d, b1, b2]) (.slice xa xlen xcap) xd) := hx.kept0 k0
 replace q5 := fun W (hk : Kept [] W0 W) => q5 W (hHd.out.kept0 hk) (hxd.out.kept0 hk)
 replace q6 := fun W (hk : Kept [] W0 W) => q6 W (hHd.out.kept0 hk)
 have kw : Hid (Kept [] w W0) := k0
 have hKN : ∀ k ∈ K ++ [d, b1, b2], k < N := by rw [← hN]; exact H.lt
 have hN0 : N ∉ K ++ [d, b1, b2] := fun hm => by have := hKN _ hm; omega
 have hN1 : N + 1 ∉ K ++ [d, b1, b2] ∧ N + 1 + 1 ∉ K ++ [d, b1, b2] := ⟨fun hm => by have := hKN _ hm; omega, fun hm => by have := hKN _ hm; omega⟩
 have hKn : ∀ k ∈ K ++ [d, b1, b2], k ∉ [N + 1, N + 1 + 1] := fun k hk => by have := hKN k hk; simp; omega
 replace hB0 : Hid (Blk W0 N 47 #[.int .i64 xk, .int .i64 xi, .int .i64 xo, .int .u64 (xm : Int), .bool xs, .slice xa xlen xcap]) := hB0
 replace hB1 : Hid (Blk W0 (N + 1) 76 #[.slice none 0 0]) := hB1
 replace hB2 : Hid (Blk W0 (N + 1 + 1) 28 #[.int .i64 0]) := hB2
 have q7 := fun W (hk : Kept [] W0 W) => turn_to xi 1 hi0 hi1 W (hHd.out.kept0 hk) hF
 replace hN0 : Hid _ := hN0
 clear H hx k0 hKN
 replace hN0 := hN0.out
 cases fb with
 | false =>
  go_enter_defers Tryz.func34, Tryz.ntmps34
  go_wp2_with (first
   | (go_at_call 56; refine q1.mono ?_; clear q1; rintro e w1 ⟨rfl, rfl⟩; obtain ⟨s0, s1, s2, s3, s4, s5⟩ := msg_cells hB0.out)
   | (go_at_call 77; refine (q2 _ (Kept.refl _ _)).mono ?_; clear q2; rintro e w1 ⟨rfl, hk1⟩; clear s0 s1 s2 s3 s4 s5; have hg0 := hB0.out.kept hk1 (by simp); have hg1 := hB1.out.kept hk1 (by simp); have hg2 := hB2.out.kept hk1 (by simp); have f1 := hg1.frozen 0; have f2 := hg2.frozen 0; have g1 := (hg1.cell 0).trans (show _ = some (Value.slice none 0 0) from rfl); have g2 := (hg2.cell 0).trans (show _ = some (Value.int .i64 0) from rfl); obtain ⟨s0, s1, s2, s3, s4, s5⟩ := msg_cells hg0))
  have kd := hk1.trans (kept_drew [] w1)
  have hx0 := hg0.kept (kept_drew [] w1) (by simp)
  have hx1 := hg1.kept (kept_drew [] w1) (by simp)
  have hx2 := hg2.kept (kept_drew [] w1) (by simp)
  obtain ⟨V, hV, v1, v2, kV⟩ := early hg1 hg2 (.slice none 0 0) (.int .i64 2)
  rw [hV]
  have hG := goes_back hg1 hg2 hN (Goes.of (hHd.out.kept0 hk1) ((kw.out.trans hk1).mono (by simp))) hKn kV
  have hV2 := kept_drew [] V
  simp only [tkE, tkO, tkT, tkS, hfb.out]
  exact ⟨_, results_three rfl _ _ (N + 1) (N + 1 + 1) _ _ _ rfl rfl rfl v1 v2, .slice none 0 0, .slice none 0 0, [], K, rfl, IRow.nil _ _, Told.nil _ _, hG⟩
 | true =>
  by_cases h2 : xk = 2
  ·subst h2
   go_enter_defers Tryz.func34, Tryz.ntmps34
   go_wp2_with (first
    | (go_at_call 56; refine q1.mono ?_; clear q1; rintro e w1 ⟨rfl, rfl⟩; obtain ⟨s0, s1, s2, s3, s4, s5⟩ := msg_cells hB0.out)
    | (go_at_call 77; refine (q2 _ (Kept.refl _ _)).mono ?_; clear q2; rintro e w1 ⟨rfl, hk1⟩; clear s0 s1 s2 s3 s4 s5; have hg0 := hB0.out.kept hk1 (by simp); have hg1 := hB1.out.kept hk1 (by simp); have hg2 := hB2.out.kept hk1 (by simp); have f1 := hg1.frozen 0; have f2 := hg2.frozen 0; have g1 := (hg1.cell 0).trans (show _ = some (Value.slice none 0 0) from rfl); have g2 := (hg2.cell 0).trans (show _ = some (Value.int .i64 0) from rfl); obtain ⟨s0, s1, s2, s3, s4, s5⟩ := msg_cells hg0))
   have kd := hk1.trans (kept_drew [] w1)
   have hx0 := hg0.kept (kept_drew [] w1) (by simp)
   have hx1 := hg1.kept (kept_drew [] w1) (by simp)
   have hx2 := hg2.kept (kept_drew [] w1) (by simp)
   clear g1 g2 s0 s1 s2 s3 s4 s5 f1 f2
   go_wp2
   refine wp_region_noPanic ?_
   refine wp_region_held_drew (S := fun W => Blk W N 47 #[.int .i64 2, .int .i64 xi, .int .i64 xo, .int .u64 (xm : Int), .bool xs, .slice xa xlen xcap]) (by kernel_rfl) hx0 (fun hP => ?_)
   have hH := hP
   clear hP
   refine tJ 0 ⟨some 18, _, _, _, _, _⟩ (.pointer (some ⟨m, 0, none⟩)) rfl hH ?_
   refine tJ 1 ⟨some 19, _, _, _, _, _⟩ (.pointer (some ⟨m, 0, none⟩)) rfl hH ?_
   refine tJ 2 ⟨some 20, _, _, _, _, _⟩ (.pointer (some ⟨m, 0, none⟩)) rfl hH ?_
   refine tI 3 ⟨some 21, _, _, _, _, _⟩ (.agg #[.int .i64 2, .int .i64 xi, .int .i64 xo, .int .u64 (xm : Int), .bool xs, .slice xa xlen xcap]) rfl (fun W hSw => by obtain ⟨s0, s1, s2, s3, s4, s5⟩ := msg_cells hSw; go_simp) hH ?_
   refine tC 4 (o := ⟨some 22, _, _, _, _, _⟩) rfl (fun K hK => ?_)
   go_simp
   refine (q4 w1.drew).mono ?_
   rintro e w2 ⟨rfl, hk2⟩
   go_wp2_with fail
   have hH1 := (hH.kept hk2 (by simp))
   refine hK.out _ _ hH1 (fun hH => ?_)
   clear hH1
   clear hK K
   have y0 := hx0.kept hk2 (by simp)
   have y1 := hx1.kept hk2 (by simp)
   have y2 := hx2.kept hk2 (by simp)
   have kd2 := kd.trans hk2
   refine tC 5 (o := ⟨some 23, _, _, _, _, _⟩) rfl (fun K hK => ?_)
   go_simp
   refine (q5 w2 kd2).mono ?_
   rintro e w3 ⟨sT, nT, cT, Q5, K2, rfl, hT, hG⟩
   go_wp2_with fail
   have hH1 := (hH.kept hG.kept hN0)
   refine hK.out _ _ hH1 (fun hH => ?_)
   clear hH1
   clear hK K
   have z0 := y0.kept hG.kept hN0
   have z1 := y1.kept hG.kept hN1.1
   have z2 := y2.kept hG.kept hN1.2
   refine tJ 6 ⟨some 17, _, _, _, _, _⟩ (.tuple #[.slice sT nT cT, .int .i64 (E2 : Int)]) rfl hH ?_
   refine tJ 7 ⟨some 24, _, _, _, _, _⟩ (.slice sT nT cT) rfl hH ?_
   refine tJ 8 ⟨some 25, _, _, _, _, _⟩ (.int .i64 (E2 : Int)) rfl hH ?_
   refine tC 9 (o := ⟨none, _, _, _, _, _⟩) rfl (fun K hK => ?_)
   have f1 := z1.frozen 0
   have c1 := (z1.cell 0).trans (show _ = some (Value.slice none 0 0) from rfl)
   obtain ⟨w4, hw4, k4, u0, u1, u2⟩ : ∃ V, w3.setCell ⟨N + 1, 0, none⟩ (.slice sT nT cT) = V ∧ Kept [N + 1] w3 V ∧ Blk V N 47 #[.int .i64 2, .int .i64 xi, .int .i64 xo, .int .u64 (xm : Int), .bool xs, .slice xa xlen xcap] ∧ Blk V (N + 1) 76 #[.slice sT nT cT] ∧ Blk V (N + 1 + 1) 28 #[.int .i64 0] := ⟨_, rfl, kept_set (by simp) _ _ _, z0.kept (kept_set (g := N + 1) (L := [N + 1]) (by simp) _ _ _) (by simp only [List.mem_singleton]; omega), z1.set 0 _, z2.kept (kept_set (g := N + 1) (L := [N + 1]) (by simp) _ _ _) (by simp only [List.mem_singleton]; omega)⟩
   go_simp
   refine hK.out _ _ u0 (fun hH => ?_)
   clear hK K
   refine tC 10 (o := ⟨none, _, _, _, _, _⟩) rfl (fun K hK => ?_)
   have f2 := u2.frozen 0
   have c2 := (u2.cell 0).trans (show _ = some (Value.int .i64 0) from rfl)
   obtain ⟨w5, hw5, k5, v0, v1, v2⟩ : ∃ V, w4.setCell ⟨N + 1 + 1, 0, none⟩ (.int .i64 (E2 : Int)) = V ∧ Kept [N + 1 + 1] w4 V ∧ Blk V N 47 #[.int .i64 2, .int .i64 xi, .int .i64 xo, .int .u64 (xm : Int), .bool xs, .slice xa xlen xcap] ∧ Blk V (N + 1) 76 #[.slice sT nT cT] ∧ Blk V (N + 1 + 1) 28 #[.int .i64 (E2 : Int)] := ⟨_, rfl, kept_set (by simp) _ _ _, u0.kept (kept_set (g := N + 1 + 1) (L := [N + 1 + 1]) (by simp) _ _ _) (by simp only [List.mem_singleton]; omega), u1.kept (kept_set (g := N + 1 + 1) (L := [N + 1 + 1]) (by simp) _ _ _) (by simp only [List.mem_singleton]; omega), u2.set 0 _⟩
   go_simp
   refine hK.out _ _ v0 (fun hH => ?_)
   clear hK K
   refine wpAnyH_done (by kernel_rfl) ?_ _
   refine NoPanic.normal ?_
   clear hH
   go_wp2
   have t1' := v1.kept (kept_drew [] w5) (by simp)
   have t2' := v2.kept (kept_drew [] w5) (by simp)
   refine wp_region_noPanic ?_
   refine wp_region_held_drew (S := fun W => W.cell? ⟨N + 1, 0, none⟩ = some (.slice sT nT cT) ∧ W.cell? ⟨N + 1 + 1, 0, none⟩ = some (.int .i64 (E2 : Int))) (by kernel_rfl) ⟨(t1'.cell 0).trans rfl, (t2'.cell 0).trans rfl⟩ (fun hP => ?_)
   have hH := hP
   clear hP
   refine tJ 0 ⟨some 45, _, _, _, _, _⟩ (.slice none 0 0) rfl hH ?_
   refine tI 1 ⟨some 46, _, _, _, _, _⟩ (.slice sT nT cT) rfl (fun W hSw => by have s1 := hSw.1; go_simp) hH ?_
   refine tI 2 ⟨some 47, _, _, _, _, _⟩ (.int .i64 (E2 : Int)) rfl (fun W hSw => by have s2 := hSw.2; go_simp) hH ?_
   refine tJ 3 ⟨some 4, _, _, _, _, _⟩ (.slice none 0 0) rfl hH ?_
   refine tC 4 (o := ⟨none, _, _, _, _, _⟩) rfl (fun K hK => ?_)
   have f1 := t1'.frozen 0
   have c1 := (t1'.cell 0).trans (show _ = some (.slice sT nT cT) from rfl)
   obtain ⟨wa, hwa, kwa, a1⟩ := same_set t1'
   have a2 := t2'.kept kwa (by simp)
   go_simp
   have hH1 := (And.intro ((a1.cell 0).trans (show _ = some (.slice sT nT cT) from rfl)) ((a2.cell 0).trans (show _ = some (.int .i64 (E2 : Int)) from rfl)))
   refine hK.out _ _ hH1 (fun hH => ?_)
   clear hH1
   clear hK K
   refine tC 5 (o := ⟨none, _, _, _, _, _⟩) rfl (fun K hK => ?_)
   have f2 := a2.frozen 0
   have c2 := (a2.cell 0).trans (show _ = some (.int .i64 (E2 : Int)) from rfl)
   obtain ⟨wb, hwb, kwb, d2⟩ := same_set a2
   have d1 := a1.kept kwb (by simp)
   go_simp
   have hH1 := (And.intro ((d1.cell 0).trans (show _ = some (.slice sT nT cT) from rfl)) ((d2.cell 0).trans (show _ = some (.int .i64 (E2 : Int)) from rfl)))
   refine hK.out _ _ hH1 (fun hH => ?_)
   clear hH1
   clear hK K
   refine wpAnyH_done (by kernel_rfl) ?_ _
   refine NoPanic.normal ?_
   clear hH
   go_wp2
   refine leaves_cons (f := 70) (args := #[.pointer (some ⟨N + 1, 0, none⟩), .pointer (some ⟨N + 1 + 1, 0, none⟩)]) (by simp) (by simp [go_sem]) ?_
   refine (look_deferred (N + 1) (N + 1 + 1) (.slice sT nT cT) E2 .returning _ d1 d2).mono ?_
   rintro e u' w'' ⟨rfl, rfl, hb, hk⟩
   have kse := ((kwa.mono (L' := [N + 1, N + 1 + 1]) (by simp)).trans (kwb.mono (by simp))).trans (hk.mono (by simp))
   have hbE := d2.kept hk (by simp)
   have k35 : Kept [N + 1, N + 1 + 1] w3 w5.drew := ((k4.mono (by simp)).trans (k5.mono (by simp))).trans (kept_drew _ w5)
   have hgw := goes_back z1 z2 hN ((Goes.of (hHd.out.kept0 kd2) ((kw.out.trans kd2).mono (by simp))).trans hG) (apart2 hG y1 y2 hN1) (k35.trans kse)
   have hlt : N + 1 + 1 < w2.heap.size := y2.lt
   have hTe := (hT.kept (k35.trans kse) (fun k hk hm => by have := (hT.row.lt k hk).1; simp at hm; omega) (clean_two z1 z2)).low (show w.heap.size ≤ w2.heap.size by omega)
   have eE : tkE M (Mv.ms ⟨2, xi, xo, xm, xs, xa, xlen, xcap, xd⟩) = E2 := by unfold tkE; rw [if_pos hfb.out, if_pos (show (_ : Int) = 2 by rfl)]; exact t1.out
   have eO : tkO M (Mv.ms ⟨2, xi, xo, xm, xs, xa, xlen, xcap, xd⟩) = if E2 = 0 then mP else [] := by unfold tkO; rw [if_pos hfb.out, if_pos (show (_ : Int) = 2 by rfl)]; exact t3.out
   have eT : tkT M (Mv.ms ⟨2, xi, xo, xm, xs, xa, xlen, xcap, xd⟩) = [] := by unfold tkT; rw [if_pos hfb.out, if_neg (by simp [Mv.ms])]
   have eS : tkS M (Mv.ms ⟨2, xi, xo, xm, xs, xa, xlen, xcap, xd⟩) = mS := by unfold tkS; rw [if_pos hfb.out, if_pos (show (_ : Int) = 2 by rfl)]; exact t2.out
   rw [eE, eO, eT, eS]
   by_cases hz : E2 = 0
   ·rw [if_pos hz] at hb ⊢
    exact ⟨_, results_three rfl _ _ (N + 1) (N + 1 + 1) _ _ _ rfl rfl rfl hb hbE, .slice none 0 0, .slice sT nT cT, Q5, K2, rfl, IRow.nil _ _, hTe, hgw⟩
   ·rw [if_neg hz] at hb ⊢
    exact ⟨_, results_three rfl _ _ (N + 1) (N + 1 + 1) _ _ _ rfl rfl rfl hb hbE, .slice none 0 0, .slice none 0 0, [], K2, rfl, IRow.nil _ _, Told.nil _ _, hgw⟩
  ·by_cases h3 : xk = 3
   ·subst h3
    go_enter_defers Tryz.func34, Tryz.ntmps34
    go_wp2_with (first
     | (go_at_call 56; refine q1.mono ?_; clear q1; rintro e w1 ⟨rfl, rfl⟩; obtain ⟨s0, s1, s2, s3, s4, s5⟩ := msg_cells hB0.out)
     | (go_at_call 77; refine (q2 _ (Kept.refl _ _)).mono ?_; clear q2; rintro e w1 ⟨rfl, hk1⟩; clear s0 s1 s2 s3 s4 s5; have hg0 := hB0.out.kept hk1 (by simp); have hg1 := hB1.out.kept hk1 (by simp); have hg2 := hB2.out.kept hk1 (by simp); have f1 := hg1.frozen 0; have f2 := hg2.frozen 0; have g1 := (hg1.cell 0).trans (show _ = some (Value.slice none 0 0) from rfl); have g2 := (hg2.cell 0).trans (show _ = some (Value.int .i64 0) from rfl); obtain ⟨s0, s1, s2, s3, s4, s5⟩ := msg_cells hg0))
    have kd := hk1.trans (kept_drew [] w1)
    have hx0 := hg0.kept (kept_drew [] w1) (by simp)
    have hx1 := hg1.kept (kept_drew [] w1) (by simp)
    have hx2 := hg2.kept (kept_drew [] w1) (by simp)
    clear g1 g2 s0 s1 s2 s3 s4 s5 f1 f2
    go_wp2
    refine wp_region_noPanic ?_
    refine wp_region_held_drew (S := fun W => Blk W N 47 #[.int .i64 3, .int .i64 xi, .int .i64 xo, .int .u64 (xm : Int), .bool xs, .slice xa xlen xcap]) (by kernel_rfl) hx0 (fun hP => ?_)
    have hH := hP
    clear hP
    refine tJ 0 ⟨some 29, _, _, _, _, _⟩ (.pointer (some ⟨m, 0, none⟩)) rfl hH ?_
    refine tJ 1 ⟨some 30, _, _, _, _, _⟩ (.pointer (some ⟨m, 0, none⟩)) rfl hH ?_
    refine tJ 2 ⟨some 31, _, _, _, _, _⟩ (.pointer (some ⟨m, 0, none⟩)) rfl hH ?_
    refine tJ 3 ⟨some 32, _, _, _, _, _⟩ (.pointer (some ⟨N, 1, none⟩)) rfl hH ?_
    refine tI 4 ⟨some 33, _, _, _, _, _⟩ (.int .i64 xi) rfl (fun W hSw => by obtain ⟨s0, s1, s2, s3, s4, s5⟩ := msg_cells hSw; go_simp) hH ?_
    refine tC 5 (o := ⟨some 34, _, _, _, _, _⟩) rfl (fun K hK => ?_)
    go_simp
    refine (q6 w1.drew kd).mono ?_
    rintro e w3 ⟨sI, nI, cI, K2, rfl, hI, hG⟩
    go_wp2_with fail
    have hH1 := (hH.kept hG.kept hN0)
    refine hK.out _ _ hH1 (fun hH => ?_)
    clear hH1
    clear hK K
    have z0 := hx0.kept hG.kept hN0
    have z1 := hx1.kept hG.kept hN1.1
    have z2 := hx2.kept hG.kept hN1.2
    refine tJ 6 ⟨some 4, _, _, _, _, _⟩ (.slice sI nI cI) rfl hH ?_
    refine wpAnyH_done (by kernel_rfl) ?_ _
    refine NoPanic.normal ?_
    clear hH
    have f1 := z1.frozen 0
    go_wp2
    have t1' := z1.kept (kept_drew [] w3) (by simp)
    have t2' := z2.kept (kept_drew [] w3) (by simp)
    refine wp_region_noPanic ?_
    refine wp_region_held_drew (S := fun W => W.cell? ⟨N + 1, 0, none⟩ = some (.slice none 0 0) ∧ W.cell? ⟨N + 1 + 1, 0, none⟩ = some (.int .i64 0)) (by kernel_rfl) ⟨(t1'.cell 0).trans rfl, (t2'.cell 0).trans rfl⟩ (fun hP => ?_)
    have hH := hP
    clear hP
    refine tJ 0 ⟨some 45, _, _, _, _, _⟩ (.slice sI nI cI) rfl hH ?_
    refine tI 1 ⟨some 46, _, _, _, _, _⟩ (.slice none 0 0) rfl (fun W hSw => by have s1 := hSw.1; go_simp) hH ?_
    refine tI 2 ⟨some 47, _, _, _, _, _⟩ (.int .i64 0) rfl (fun W hSw => by have s2 := hSw.2; go_simp) hH ?_
    refine tJ 3 ⟨some 4, _, _, _, _, _⟩ (.slice sI nI cI) rfl hH ?_
    refine tC 4 (o := ⟨none, _, _, _, _, _⟩) rfl (fun K hK => ?_)
    have f1 := t1'.frozen 0
    have c1 := (t1'.cell 0).trans (show _ = some (.slice none 0 0) from rfl)
    obtain ⟨wa, hwa, kwa, a1⟩ := same_set t1'
    have a2 := t2'.kept kwa (by simp)
    go_simp
    have hH1 := (And.intro ((a1.cell 0).trans (show _ = some (.slice none 0 0) from rfl)) ((a2.cell 0).trans (show _ = some (.int .i64 0) from rfl)))
    refine hK.out _ _ hH1 (fun hH => ?_)
    clear hH1
    clear hK K
    refine tC 5 (o := ⟨none, _, _, _, _, _⟩) rfl (fun K hK => ?_)
    have f2 := a2.frozen 0
    have c2 := (a2.cell 0).trans (show _ = some (.int .i64 0) from rfl)
    obtain ⟨wb, hwb, kwb, d2⟩ := same_set a2
    have d1 := a1.kept kwb (by simp)
    go_simp
    have hH1 := (And.intro ((d1.cell 0).trans (show _ = some (.slice none 0 0) from rfl)) ((d2.cell 0).trans (show _ = some (.int .i64 0) from rfl)))
    refine hK.out _ _ hH1 (fun hH => ?_)
    clear hH1
    clear hK K
    refine wpAnyH_done (by kernel_rfl) ?_ _
    refine NoPanic.normal ?_
    clear hH
    go_wp2
    refine leaves_cons (f := 70) (args := #[.pointer (some ⟨N + 1, 0, none⟩), .pointer (some ⟨N + 1 + 1, 0, none⟩)]) (by simp) (by simp [go_sem]) ?_
    refine (look_deferred (N + 1) (N + 1 + 1) (.slice none 0 0) 0 .returning _ d1 d2).mono ?_
    rintro e u' w'' ⟨rfl, rfl, hb, hk⟩
    have kse := ((kwa.mono (L' := [N + 1, N + 1 + 1]) (by simp)).trans (kwb.mono (by simp))).trans (hk.mono (by simp))
    have hbE := d2.kept hk (by simp)
    have hgw := goes_back z1 z2 hN ((Goes.of (hHd.out.kept0 kd) ((kw.out.trans kd).mono (by simp))).trans hG) (apart2 hG hx1 hx2 hN1) ((kept_drew _ w3).trans kse)
    have hlt : N + 1 + 1 < w1.drew.heap.size := hx2.lt
    have hIf := irow_low (hI.kept ((kept_drew [N + 1, N + 1 + 1] w3).trans kse) (fun k hk hm => by have := (irow_lt hI k hk).1; simp at hm; omega)) (show w.heap.size ≤ w1.drew.heap.size by omega)
    have eE : tkE M (Mv.ms ⟨3, xi, xo, xm, xs, xa, xlen, xcap, xd⟩) = 0 := by unfold tkE; rw [if_pos hfb.out, if_neg (show ¬ (_ : Int) = 2 by first | exact h2 | decide)]
    have eO : tkO M (Mv.ms ⟨3, xi, xo, xm, xs, xa, xlen, xcap, xd⟩) = [] := by unfold tkO; rw [if_pos hfb.out, if_neg (show ¬ (_ : Int) = 2 by first | exact h2 | decide)]
    have eT : tkT M (Mv.ms ⟨3, xi, xo, xm, xs, xa, xlen, xcap, xd⟩) = if Flight.endOk M.fly xi then [xi] else [] := by unfold tkT; rw [if_pos hfb.out, if_pos (show (_ : Int) = 3 ∨ (_ : Int) = 4 by first | exact .inl rfl | exact .inr rfl)]; rfl
    have eS : tkS M (Mv.ms ⟨3, xi, xo, xm, xs, xa, xlen, xcap, xd⟩) = { M with fly := Flight.endL M.fly xi } := by unfold tkS; rw [if_pos hfb.out, if_neg (show ¬ (_ : Int) = 2 by first | exact h2 | decide), if_pos (show (_ : Int) = 3 ∨ (_ : Int) = 4 by first | exact .inl rfl | exact .inr rfl)]; rfl
    rw [eE, eO, eT, eS]
    exact ⟨_, results_three rfl _ _ (N + 1) (N + 1 + 1) _ _ _ rfl rfl rfl hb hbE, .slice sI nI cI, .slice none 0 0, [], K2, rfl, hIf, Told.nil _ _, hgw⟩
   ·by_cases h4 : xk = 4
    ·subst h4
     go_enter_defers Tryz.func34, Tryz.ntmps34
     go_wp2_with (first
      | (go_at_call 56; refine q1.mono ?_; clear q1; rintro e w1 ⟨rfl, rfl⟩; obtain ⟨s0, s1, s2, s3, s4, s5⟩ := msg_cells hB0.out)
      | (go_at_call 77; refine (q2 _ (Kept.refl _ _)).mono ?_; clear q2; rintro e w1 ⟨rfl, hk1⟩; clear s0 s1 s2 s3 s4 s5; have hg0 := hB0.out.kept hk1 (by simp); have hg1 := hB1.out.kept hk1 (by simp); have hg2 := hB2.out.kept hk1 (by simp); have f1 := hg1.frozen 0; have f2 := hg2.frozen 0; have g1 := (hg1.cell 0).trans (show _ = some (Value.slice none 0 0) from rfl); have g2 := (hg2.cell 0).trans (show _ = some (Value.int .i64 0) from rfl); obtain ⟨s0, s1, s2, s3, s4, s5⟩ := msg_cells hg0))
     have kd := hk1.trans (kept_drew [] w1)
     have hx0 := hg0.kept (kept_drew [] w1) (by simp)
     have hx1 := hg1.kept (kept_drew [] w1) (by simp)
     have hx2 := hg2.kept (kept_drew [] w1) (by simp)
     clear g1 g2 s0 s1 s2 s3 s4 s5 f1 f2
     go_wp2
     refine wp_region_noPanic ?_
     refine wp_region_held_drew (S := fun W => Blk W N 47 #[.int .i64 4, .int .i64 xi, .int .i64 xo, .int .u64 (xm : Int), .bool xs, .slice xa xlen xcap]) (by kernel_rfl) hx0 (fun hP => ?_)
     have hH := hP
     clear hP
     refine tJ 0 ⟨some 29, _, _, _, _, _⟩ (.pointer (some ⟨m, 0, none⟩)) rfl hH ?_
     refine tJ 1 ⟨some 30, _, _, _, _, _⟩ (.pointer (some ⟨m, 0, none⟩)) rfl hH ?_
     refine tJ 2 ⟨some 31, _, _, _, _, _⟩ (.pointer (some ⟨m, 0, none⟩)) rfl hH ?_
     refine tJ 3 ⟨some 32, _, _, _, _, _⟩ (.pointer (some ⟨N, 1, none⟩)) rfl hH ?_
     refine tI 4 ⟨some 33, _, _, _, _, _⟩ (.int .i64 xi) rfl (fun W hSw => by obtain ⟨s0, s1, s2, s3, s4, s5⟩ := msg_cells hSw; go_simp) hH ?_
     refine tC 5 (o := ⟨some 34, _, _, _, _, _⟩) rfl (fun K hK => ?_)
     go_simp
     refine (q6 w1.drew kd).mono ?_
     rintro e w3 ⟨sI, nI, cI, K2, rfl, hI, hG⟩
     go_wp2_with fail
     have hH1 := (hH.kept hG.kept hN0)
     refine hK.out _ _ hH1 (fun hH => ?_)
     clear hH1
     clear hK K
     have z0 := hx0.kept hG.kept hN0
     have z1 := hx1.kept hG.kept hN1.1
     have z2 := hx2.kept hG.kept hN1.2
     refine tJ 6 ⟨some 4, _, _, _, _, _⟩ (.slice sI nI cI) rfl hH ?_
     refine wpAnyH_done (by kernel_rfl) ?_ _
     refine NoPanic.normal ?_
     clear hH
     have f1 := z1.frozen 0
     go_wp2
     have t1' := z1.kept (kept_drew [] w3) (by simp)
     have t2' := z2.kept (kept_drew [] w3) (by simp)
     refine wp_region_noPanic ?_
     refine wp_region_held_drew (S := fun W => W.cell? ⟨N + 1, 0, none⟩ = some (.slice none 0 0) ∧ W.cell? ⟨N + 1 + 1, 0, none⟩ = some (.int .i64 0)) (by kernel_rfl) ⟨(t1'.cell 0).trans rfl, (t2'.cell 0).trans rfl⟩ (fun hP => ?_)
     have hH := hP
     clear hP
     refine tJ 0 ⟨some 45, _, _, _, _, _⟩ (.slice sI nI cI) rfl hH ?_
     refine tI 1 ⟨some 46, _, _, _, _, _⟩ (.slice none 0 0) rfl (fun W hSw => by have s1 := hSw.1; go_simp) hH ?_
     refine tI 2 ⟨some 47, _, _, _, _, _⟩ (.int .i64 0) rfl (fun W hSw => by have s2 := hSw.2; go_simp) hH ?_
     refine tJ 3 ⟨some 4, _, _, _, _, _⟩ (.slice sI nI cI) rfl hH ?_
     refine tC 4 (o := ⟨none, _, _, _, _, _⟩) rfl (fun K hK => ?_)
     have f1 := t1'.frozen 0
     have c1 := (t1'.cell 0).trans (show _ = some (.slice none 0 0) from rfl)
     obtain ⟨wa, hwa, kwa, a1⟩ := same_set t1'
     have a2 := t2'.kept kwa (by simp)
     go_simp
     have hH1 := (And.intro ((a1.cell 0).trans (show _ = some (.slice none 0 0) from rfl)) ((a2.cell 0).trans (show _ = some (.int .i64 0) from rfl)))
     refine hK.out _ _ hH1 (fun hH => ?_)
     clear hH1
     clear hK K
     refine tC 5 (o := ⟨none, _, _, _, _, _⟩) rfl (fun K hK => ?_)
     have f2 := a2.frozen 0
     have c2 := (a2.cell 0).trans (show _ = some (.int .i64 0) from rfl)
     obtain ⟨wb, hwb, kwb, d2⟩ := same_set a2
     have d1 := a1.kept kwb (by simp)
     go_simp
     have hH1 := (And.intro ((d1.cell 0).trans (show _ = some (.slice none 0 0) from rfl)) ((d2.cell 0).trans (show _ = some (.int .i64 0) from rfl)))
     refine hK.out _ _ hH1 (fun hH => ?_)
     clear hH1
     clear hK K
     refine wpAnyH_done (by kernel_rfl) ?_ _
     refine NoPanic.normal ?_
     clear hH
     go_wp2
     refine leaves_cons (f := 70) (args := #[.pointer (some ⟨N + 1, 0, none⟩), .pointer (some ⟨N + 1 + 1, 0, none⟩)]) (by simp) (by simp [go_sem]) ?_
     refine (look_deferred (N + 1) (N + 1 + 1) (.slice none 0 0) 0 .returning _ d1 d2).mono ?_
     rintro e u' w'' ⟨rfl, rfl, hb, hk⟩
     have kse := ((kwa.mono (L' := [N + 1, N + 1 + 1]) (by simp)).trans (kwb.mono (by simp))).trans (hk.mono (by simp))
     have hbE := d2.kept hk (by simp)
     have hgw := goes_back z1 z2 hN ((Goes.of (hHd.out.kept0 kd) ((kw.out.trans kd).mono (by simp))).trans hG) (apart2 hG hx1 hx2 hN1) ((kept_drew _ w3).trans kse)
     have hlt : N + 1 + 1 < w1.drew.heap.size := hx2.lt
     have hIf := irow_low (hI.kept ((kept_drew [N + 1, N + 1 + 1] w3).trans kse) (fun k hk hm => by have := (irow_lt hI k hk).1; simp at hm; omega)) (show w.heap.size ≤ w1.drew.heap.size by omega)
     have eE : tkE M (Mv.ms ⟨4, xi, xo, xm, xs, xa, xlen, xcap, xd⟩) = 0 := by unfold tkE; rw [if_pos hfb.out, if_neg (show ¬ (_ : Int) = 2 by first | exact h2 | decide)]
     have eO : tkO M (Mv.ms ⟨4, xi, xo, xm, xs, xa, xlen, xcap, xd⟩) = [] := by unfold tkO; rw [if_pos hfb.out, if_neg (show ¬ (_ : Int) = 2 by first | exact h2 | decide)]
     have eT : tkT M (Mv.ms ⟨4, xi, xo, xm, xs, xa, xlen, xcap, xd⟩) = if Flight.endOk M.fly xi then [xi] else [] := by unfold tkT; rw [if_pos hfb.out, if_pos (show (_ : Int) = 3 ∨ (_ : Int) = 4 by first | exact .inl rfl | exact .inr rfl)]; rfl
     have eS : tkS M (Mv.ms ⟨4, xi, xo, xm, xs, xa, xlen, xcap, xd⟩) = { M with fly := Flight.endL M.fly xi } := by unfold tkS; rw [if_pos hfb.out, if_neg (show ¬ (_ : Int) = 2 by first | exact h2 | decide), if_pos (show (_ : Int) = 3 ∨ (_ : Int) = 4 by first | exact .inl rfl | exact .inr rfl)]; rfl
     rw [eE, eO, eT, eS]
     exact ⟨_, results_three rfl _ _ (N + 1) (N + 1 + 1) _ _ _ rfl rfl rfl hb hbE, .slice sI nI cI, .slice none 0 0, [], K2, rfl, hIf, Told.nil _ _, hgw⟩
    ·by_cases h5 : xk = 5
     ·subst h5
      go_enter_defers Tryz.func34, Tryz.ntmps34
      go_wp2_with (first
       | (go_at_call 56; refine q1.mono ?_; clear q1; rintro e w1 ⟨rfl, rfl⟩; obtain ⟨s0, s1, s2, s3, s4, s5⟩ := msg_cells hB0.out)
       | (go_at_call 77; refine (q2 _ (Kept.refl _ _)).mono ?_; clear q2; rintro e w1 ⟨rfl, hk1⟩; clear s0 s1 s2 s3 s4 s5; have hg0 := hB0.out.kept hk1 (by simp); have hg1 := hB1.out.kept hk1 (by simp); have hg2 := hB2.out.kept hk1 (by simp); have f1 := hg1.frozen 0; have f2 := hg2.frozen 0; have g1 := (hg1.cell 0).trans (show _ = some (Value.slice none 0 0) from rfl); have g2 := (hg2.cell 0).trans (show _ = some (Value.int .i64 0) from rfl); obtain ⟨s0, s1, s2, s3, s4, s5⟩ := msg_cells hg0))
      have kd := hk1.trans (kept_drew [] w1)
      have hx0 := hg0.kept (kept_drew [] w1) (by simp)
      have hx1 := hg1.kept (kept_drew [] w1) (by simp)
      have hx2 := hg2.kept (kept_drew [] w1) (by simp)
      clear g1 g2 s0 s1 s2 s3 s4 s5 f1 f2
      obtain ⟨f, hcm, q7⟩ := q7 w1.drew kd
      go_wp2
      refine wp_region_noPanic ?_
      refine wp_region_held_drew (S := fun W => Blk W N 47 #[.int .i64 5, .int .i64 xi, .int .i64 xo, .int .u64 (xm : Int), .bool xs, .slice xa xlen xcap] ∧ W.cell? ⟨m, 0, none⟩ = some (.pointer (some ⟨f, 0, none⟩))) (by kernel_rfl) ⟨hx0, hcm⟩ (fun hP => ?_)
      have hH := hP
      clear hP
      refine tJ 0 ⟨some 37, _, _, _, _, _⟩ (.pointer (some ⟨m, 0, none⟩)) rfl hH ?_
      refine tJ 1 ⟨some 38, _, _, _, _, _⟩ (.pointer (some ⟨m, 0, none⟩)) rfl hH ?_
      refine tJ 2 ⟨some 39, _, _, _, _, _⟩ (.pointer (some ⟨m, 0, none⟩)) rfl hH ?_
      refine tJ 3 ⟨some 40, _, _, _, _, _⟩ (.pointer (some ⟨m, 0, none⟩)) rfl hH ?_
      refine tI 4 ⟨some 41, _, _, _, _, _⟩ (.pointer (some ⟨f, 0, none⟩)) rfl (fun W hSw => by have cm := hSw.2; go_simp) hH ?_
      refine tJ 5 ⟨some 42, _, _, _, _, _⟩ (.pointer (some ⟨N, 1, none⟩)) rfl hH ?_
      refine tI 6 ⟨some 43, _, _, _, _, _⟩ (.int .i64 xi) rfl (fun W hSw => by obtain ⟨s0, s1, s2, s3, s4, s5⟩ := msg_cells hSw.1; go_simp) hH ?_
      refine tC 7 (o := ⟨some 44, _, _, _, _, _⟩) rfl (fun K hK => ?_)
      go_simp
      refine (q7 w1.drew (Kept.refl _ _)).mono ?_
      rintro e w3 ⟨rfl, hm3, hG⟩
      go_wp2_with fail
      have hH1 := (And.intro (hH.1.kept hG.kept hN0) hm3)
      refine hK.out _ _ hH1 (fun hH => ?_)
      clear hH1
      clear hK K
      have z0 := hx0.kept hG.kept hN0
      have z1 := hx1.kept hG.kept hN1.1
      have z2 := hx2.kept hG.kept hN1.2
      refine wpAnyH_done (by kernel_rfl) ?_ _
      refine NoPanic.normal ?_
      clear hH
      have f1 := z1.frozen 0
      go_wp2
      have t1' := z1.kept (kept_drew [] w3) (by simp)
      have t2' := z2.kept (kept_drew [] w3) (by simp)
      refine wp_region_noPanic ?_
      refine wp_region_held_drew (S := fun W => W.cell? ⟨N + 1, 0, none⟩ = some (.slice none 0 0) ∧ W.cell? ⟨N + 1 + 1, 0, none⟩ = some (.int .i64 0)) (by kernel_rfl) ⟨(t1'.cell 0).trans rfl, (t2'.cell 0).trans rfl⟩ (fun hP => ?_)
      have hH := hP
      clear hP
      refine tJ 0 ⟨some 45, _, _, _, _, _⟩ (.slice none 0 0) rfl hH ?_
      refine tI 1 ⟨some 46, _, _, _, _, _⟩ (.slice none 0 0) rfl (fun W hSw => by have s1 := hSw.1; go_simp) hH ?_
      refine tI 2 ⟨some 47, _, _, _, _, _⟩ (.int .i64 0) rfl (fun W hSw => by have s2 := hSw.2; go_simp) hH ?_
      refine tJ 3 ⟨some 4, _, _, _, _, _⟩ (.slice none 0 0) rfl hH ?_
      refine tC 4 (o := ⟨none, _, _, _, _, _⟩) rfl (fun K hK => ?_)
      have f1 := t1'.frozen 0
      have c1 := (t1'.cell 0).trans (show _ = some (.slice none 0 0) from rfl)
      obtain ⟨wa, hwa, kwa, a1⟩ := same_set t1'
      have a2 := t2'.kept kwa (by simp)
      go_simp
      have hH1 := (And.intro ((a1.cell 0).trans (show _ = some (.slice none 0 0) from rfl)) ((a2.cell 0).trans (show _ = some (.int .i64 0) from rfl)))
      refine hK.out _ _ hH1 (fun hH => ?_)
      clear hH1
      clear hK K
      refine tC 5 (o := ⟨none, _, _, _, _, _⟩) rfl (fun K hK => ?_)
      have f2 := a2.frozen 0
      have c2 := (a2.cell 0).trans (show _ = some (.int .i64 0) from rfl)
      obtain ⟨wb, hwb, kwb, d2⟩ := same_set a2
      have d1 := a1.kept kwb (by simp)
      go_simp
      have hH1 := (And.intro ((d1.cell 0).trans (show _ = some (.slice none 0 0) from rfl)) ((d2.cell 0).trans (show _ = some (.int .i64 0) from rfl)))
      refine hK.out _ _ hH1 (fun hH => ?_)
      clear hH1
      clear hK K
      refine wpAnyH_done (by kernel_rfl) ?_ _
      refine NoPanic.normal ?_
      clear hH
      go_wp2
      refine leaves_cons (f := 70) (args := #[.pointer (some ⟨N + 1, 0, none⟩), .pointer (some ⟨N + 1 + 1, 0, none⟩)]) (by simp) (by simp [go_sem]) ?_
      refine (look_deferred (N + 1) (N + 1 + 1) (.slice none 0 0) 0 .returning _ d1 d2).mono ?_
      rintro e u' w'' ⟨rfl, rfl, hb, hk⟩
      have kse := ((kwa.mono (L' := [N + 1, N + 1 + 1]) (by simp)).trans (kwb.mono (by simp))).trans (hk.mono (by simp))
      have hbE := d2.kept hk (by simp)
      have hgw := goes_back z1 z2 hN ((Goes.of (hHd.out.kept0 kd) ((kw.out.trans kd).mono (by simp))).trans hG) (apart2 hG hx1 hx2 hN1) ((kept_drew _ w3).trans kse)
      have eE : tkE M (Mv.ms ⟨5, xi, xo, xm, xs, xa, xlen, xcap, xd⟩) = 0 := by unfold tkE; rw [if_pos hfb.out, if_neg (show ¬ (_ : Int) = 2 by first | exact h2 | decide)]
      have eO : tkO M (Mv.ms ⟨5, xi, xo, xm, xs, xa, xlen, xcap, xd⟩) = [] := by unfold tkO; rw [if_pos hfb.out, if_neg (show ¬ (_ : Int) = 2 by first | exact h2 | decide)]
      have eT : tkT M (Mv.ms ⟨5, xi, xo, xm, xs, xa, xlen, xcap, xd⟩) = [] := by unfold tkT; rw [if_pos hfb.out, if_neg (show ¬ ((_ : Int) = 3 ∨ (_ : Int) = 4) by first | decide | (rintro (e | e); exact h3 e; exact h4 e))]
      have eS : tkS M (Mv.ms ⟨5, xi, xo, xm, xs, xa, xlen, xcap, xd⟩) = { M with fly := Flight.turnL M.fly xi 1 } := by unfold tkS; rw [if_pos hfb.out, if_neg (show ¬ (_ : Int) = 2 by first | exact h2 | decide), if_neg (show ¬ ((_ : Int) = 3 ∨ (_ : Int) = 4) by first | decide | (rintro (e | e); exact h3 e; exact h4 e)), if_pos (show (_ : Int) = 5 by rfl)]; rfl
      rw [eE, eO, eT, eS]
      exact ⟨_, results_three rfl _ _ (N + 1) (N + 1 + 1) _ _ _ rfl rfl rfl hb hbE, .slice none 0 0, .slice none 0 0, [], K, rfl, IRow.nil _ _, Told.nil _ _, hgw⟩
     ·skip
      go_enter_defers Tryz.func34, Tryz.ntmps34
      go_wp2_with (first
       | (go_at_call 56; refine q1.mono ?_; clear q1; rintro e w1 ⟨rfl, rfl⟩; obtain ⟨s0, s1, s2, s3, s4, s5⟩ := msg_cells hB0.out)
       | (go_at_call 77; refine (q2 _ (Kept.refl _ _)).mono ?_; clear q2; rintro e w1 ⟨rfl, hk1⟩; clear s0 s1 s2 s3 s4 s5; have hg0 := hB0.out.kept hk1 (by simp); have hg1 := hB1.out.kept hk1 (by simp); have hg2 := hB2.out.kept hk1 (by simp); have f1 := hg1.frozen 0; have f2 := hg2.frozen 0; have g1 := (hg1.cell 0).trans (show _ = some (Value.slice none 0 0) from rfl); have g2 := (hg2.cell 0).trans (show _ = some (Value.int .i64 0) from rfl); obtain ⟨s0, s1, s2, s3, s4, s5⟩ := msg_cells hg0))
      have kd := hk1.trans (kept_drew [] w1)
      have hx0 := hg0.kept (kept_drew [] w1) (by simp)
      have hx1 := hg1.kept (kept_drew [] w1) (by simp)
      have hx2 := hg2.kept (kept_drew [] w1) (by simp)
      clear g1 g2 s0 s1 s2 s3 s4 s5 f1 f2
      go_wp2
      refine wp_region_noPanic ?_
      refine wp_region_held_drew (S := fun W => W.cell? ⟨N + 1, 0, none⟩ = some (.slice none 0 0) ∧ W.cell? ⟨N + 1 + 1, 0, none⟩ = some (.int .i64 0)) (by kernel_rfl) ⟨(hx1.cell 0).trans rfl, (hx2.cell 0).trans rfl⟩ (fun hP => ?_)
      have hH := hP
      clear hP
      refine tJ 0 ⟨some 45, _, _, _, _, _⟩ (.slice none 0 0) rfl hH ?_
      refine tI 1 ⟨some 46, _, _, _, _, _⟩ (.slice none 0 0) rfl (fun W hSw => by have s1 := hSw.1; go_simp) hH ?_
      refine tI 2 ⟨some 47, _, _, _, _, _⟩ (.int .i64 0) rfl (fun W hSw => by have s2 := hSw.2; go_simp) hH ?_
      refine tJ 3 ⟨some 4, _, _, _, _, _⟩ (.slice none 0 0) rfl hH ?_
      refine tC 4 (o := ⟨none, _, _, _, _, _⟩) rfl (fun K hK => ?_)
      have f1 := hx1.frozen 0
      have c1 := (hx1.cell 0).trans (show _ = some (.slice none 0 0) from rfl)
      obtain ⟨wa, hwa, kwa, a1⟩ := same_set hx1
      have a2 := hx2.kept kwa (by simp)
      go_simp
      have hH1 := (And.intro ((a1.cell 0).trans (show _ = some (.slice none 0 0) from rfl)) ((a2.cell 0).trans (show _ = some (.int .i64 0) from rfl)))
      refine hK.out _ _ hH1 (fun hH => ?_)
      clear hH1
      clear hK K
      refine tC 5 (o := ⟨none, _, _, _, _, _⟩) rfl (fun K hK => ?_)
      have f2 := a2.frozen 0
      have c2 := (a2.cell 0).trans (show _ = some (.int .i64 0) from rfl)
      obtain ⟨wb, hwb, kwb, d2⟩ := same_set a2
      have d1 := a1.kept kwb (by simp)
      go_simp
      have hH1 := (And.intro ((d1.cell 0).trans (show _ = some (.slice none 0 0) from rfl)) ((d2.cell 0).trans (show _ = some (.int .i64 0) from rfl)))
      refine hK.out _ _ hH1 (fun hH => ?_)
      clear hH1
      clear hK K
      refine wpAnyH_done (by kernel_rfl) ?_ _
      refine NoPanic.normal ?_
      clear hH
      go_wp2
      refine leaves_cons (f := 70) (args := #[.pointer (some ⟨N + 1, 0, none⟩), .pointer (some ⟨N + 1 + 1, 0, none⟩)]) (by simp) (by simp [go_sem]) ?_
      refine (look_deferred (N + 1) (N + 1 + 1) (.slice none 0 0) 0 .returning _ d1 d2).mono ?_
      rintro e u' w'' ⟨rfl, rfl, hb, hk⟩
      have kse := ((kwa.mono (L' := [N + 1, N + 1 + 1]) (by simp)).trans (kwb.mono (by simp))).trans (hk.mono (by simp))
      have hbE := d2.kept hk (by simp)
      have hgw := goes_back hx1 hx2 hN (Goes.of (hHd.out.kept0 kd) ((kw.out.trans kd).mono (by simp))) hKn kse
      have eE : tkE M (Mv.ms ⟨xk, xi, xo, xm, xs, xa, xlen, xcap, xd⟩) = 0 := by unfold tkE; rw [if_pos hfb.out, if_neg (show ¬ (_ : Int) = 2 by first | exact h2 | decide)]
      have eO : tkO M (Mv.ms ⟨xk, xi, xo, xm, xs, xa, xlen, xcap, xd⟩) = [] := by unfold tkO; rw [if_pos hfb.out, if_neg (show ¬ (_ : Int) = 2 by first | exact h2 | decide)]
      have eT : tkT M (Mv.ms ⟨xk, xi, xo, xm, xs, xa, xlen, xcap, xd⟩) = [] := by unfold tkT; rw [if_pos hfb.out, if_neg (show ¬ ((_ : Int) = 3 ∨ (_ : Int) = 4) by first | decide | (rintro (e | e); exact h3 e; exact h4 e))]
      have eS : tkS M (Mv.ms ⟨xk, xi, xo, xm, xs, xa, xlen, xcap, xd⟩) = M := by unfold tkS; rw [if_pos hfb.out, if_neg (show ¬ (_ : Int) = 2 by first | exact h2 | decide), if_neg (show ¬ ((_ : Int) = 3 ∨ (_ : Int) = 4) by first | decide | (rintro (e | e); exact h3 e; exact h4 e)), if_neg (show ¬ (_ : Int) = 5 by first | exact h5 | decide)]
      rw [eE, eO, eT, eS]
      exact ⟨_, results_three rfl _ _ (N + 1) (N + 1 + 1) _ _ _ rfl rfl rfl hb hbE, .slice none 0 0, .slice none 0 0, [], K, rfl, IRow.nil _ _, Told.nil _ _, hgw⟩
end Go.Proofs.YtoaeficfmcncjaaGreat.Mirror
