/-
 The walks of a mirror's half: made, fits, free, heat, store, land, look, writeOf.
-/
import Derived.Deep.CutBlock
import Derived.Test.YtoaeficfmcncjaaGreatM38
namespace Go.Proofs.YtoaeficfmcncjaaGreat.Mirror
open Go.RowKit
open Math
open Flight (Fw Fv FlAt Off)
open Later (Lw Lv QAt Foot)
open Pack (Ms Mv)
variable {lo m d b1 b2 : Nat} {K : List Nat} {M : Mr}
set_option maxRecDepth 100000 in
theorem made_any (w : World) (H : MiAt w lo m d b1 b2 K M) : Calls Tryz.prog 56 #[.pointer (some ⟨m, 0, none⟩)] w fun e w' => e = .returned (.bool true) ∧ w' = w := by
 obtain ⟨f, b, p, q, h, hi, F, gr, rfl, H⟩ := H
 have c0 := H.five.1
 go_enter Tryz.func56, Tryz.ntmps56
 go_wp2
 go_ret
 exact ⟨rfl, rfl⟩
set_option maxRecDepth 100000 in
set_option maxHeartbeats 2000000 in
theorem fits_any (o l : Int) (a : Option Addr) (n cap : Nat) (w : World) (H : MiAt w lo m d b1 b2 K M) :
  Calls Tryz.prog 68 #[.pointer (some ⟨m, 0, none⟩), .agg #[.int .i64 o, .int .i64 l], .slice a n cap] w fun e w' => e = .returned (.bool (fitsB M o l n)) ∧ Kept [] w w' := by
 obtain ⟨W0, eW, hB0, k0⟩ : ∃ W0, w.alloc (.cells #[.int .i64 o, .int .i64 l] 44) = W0 ∧ Blk W0 w.heap.size 44 #[.int .i64 o, .int .i64 l] ∧ Kept [] w W0 := ⟨_, rfl, blk_new w 44 _, kept_alloc [] w _⟩
 obtain ⟨f, b, p, q, h, hi, F, gr, rfl, H⟩ := H
 obtain ⟨N, hN⟩ : ∃ N, w.heap.size = N := ⟨_, rfl⟩
 rw [hN] at hB0
 have hd := (H.disk.kept k0 (by simp) (by simp) (by simp)).drew
 have hbx := H.box.kept k0 (by simp)
 have kd := kept_drew [] W0
 have hS : Hid (∀ W, Kept [] W0.drew W → W.cell? ⟨m, 3, none⟩ = some (.pointer (some ⟨d, 0, none⟩)) ∧ W.cell? ⟨N, 0, none⟩ = some (.int .i64 o) ∧ W.cell? ⟨N, 1, none⟩ = some (.int .i64 l)) := fun W hk =>
  ⟨((hbx.kept (kd.trans hk) (by simp)).cell 3).trans rfl, ((hB0.kept (kd.trans hk) (by simp)).cell 0).trans rfl, ((hB0.kept (kd.trans hk) (by simp)).cell 1).trans rfl⟩
 have q1 := fun W (hk : Kept [] W0.drew W) => dSectors_any d b1 b2 M.d W (hd.kept hk (by simp) (by simp) (by simp))
 have q2 := fun W => Span.good_any o l (dataN M.d : Nat) W
 unfold fitsB
 clear hB0 hbx hd
 generalize dataN M.d = D at *
 obtain ⟨g, hg⟩ : ∃ g, Span.Math.good o l (D : Nat) = g := ⟨_, rfl⟩
 have e1 : g = true → IntKind.i64.wrap (l * 16) = l * 16 := fun e => by
  rw [e] at hg
  have := good_of hg
  rw [IntKind.wrap_i64]
  omega
 rw [hg] at q2 ⊢
 go_enter Tryz.func68, Tryz.ntmps68
 go_wp2
 cases g with
 | false =>
  refine wp_region_held_drew (S := fun W => Kept [] W0.drew W) (by kernel_rfl) (Kept.refl [] _) (fun hP => ?_)
  have hH := hP
  clear hP
  refine tI 0 ⟨some 7, _, _, _, _, _⟩ (.agg #[.int .i64 o, .int .i64 l]) rfl (fun W hSw => by obtain ⟨c3, c0, c1⟩ := hS.out _ hSw; go_simp) hH ?_
  refine tJ 1 ⟨some 8, _, _, _, _, _⟩ (.pointer (some ⟨m, 0, none⟩)) rfl hH ?_
  refine tJ 2 ⟨some 9, _, _, _, _, _⟩ (.pointer (some ⟨m, 0, none⟩)) rfl hH ?_
  refine tJ 3 ⟨some 10, _, _, _, _, _⟩ (.pointer (some ⟨m, 3, none⟩)) rfl hH ?_
  refine tI 4 ⟨some 11, _, _, _, _, _⟩ (.pointer (some ⟨d, 0, none⟩)) rfl (fun W hSw => by obtain ⟨c3, c0, c1⟩ := hS.out _ hSw; go_simp) hH ?_
  refine tC 5 (o := ⟨some 12, _, _, _, _, _⟩) rfl (fun K hK => ?_)
  go_simp
  refine (q1 _ hH).mono ?_
  rintro e w5 ⟨rfl, rfl⟩
  go_wp2_with fail
  refine hK.out _ _ hH (fun hH => ?_)
  clear hK K
  refine tC 6 (o := ⟨some 13, _, _, _, _, _⟩) rfl (fun K hK => ?_)
  go_simp
  refine (q2 _).mono ?_
  rintro e w6 ⟨rfl, hB⟩
  go_wp2_with fail
  refine hK.out _ _ (hH.trans (Kept.of_below hB [])) (fun hH => ?_)
  clear hK K
  refine tJ 7 ⟨some 14, _, _, _, _, _⟩ (.bool false) rfl hH ?_
  refine tO 8 ⟨some 15, _, _, _, _, _⟩ rfl hH ?_
  refine tO 9 ⟨some 16, _, _, _, _, _⟩ rfl hH ?_
  refine tO 10 ⟨some 17, _, _, _, _, _⟩ rfl hH ?_
  refine tO 11 ⟨some 18, _, _, _, _, _⟩ rfl hH ?_
  refine tO 12 ⟨some 19, _, _, _, _, _⟩ rfl hH ?_
  refine tO 13 ⟨some 20, _, _, _, _, _⟩ rfl hH ?_
  refine tJ 14 ⟨some 21, _, _, _, _, _⟩ (.bool false) rfl hH ?_
  refine tJ 15 ⟨some 6, _, _, _, _, _⟩ (.bool false) rfl hH ?_
  refine wpAnyH_done (by kernel_rfl) ?_ _
  go_wp2
  go_ret
  exact ⟨by simp, (k0.trans kd).trans hH⟩
 | true =>
  have hg2 := e1 rfl
  clear e1
  refine wp_region_held_drew (S := fun W => Kept [] W0.drew W) (by kernel_rfl) (Kept.refl [] _) (fun hP => ?_)
  have hH := hP
  clear hP
  refine tI 0 ⟨some 7, _, _, _, _, _⟩ (.agg #[.int .i64 o, .int .i64 l]) rfl (fun W hSw => by obtain ⟨c3, c0, c1⟩ := hS.out _ hSw; go_simp) hH ?_
  refine tJ 1 ⟨some 8, _, _, _, _, _⟩ (.pointer (some ⟨m, 0, none⟩)) rfl hH ?_
  refine tJ 2 ⟨some 9, _, _, _, _, _⟩ (.pointer (some ⟨m, 0, none⟩)) rfl hH ?_
  refine tJ 3 ⟨some 10, _, _, _, _, _⟩ (.pointer (some ⟨m, 3, none⟩)) rfl hH ?_
  refine tI 4 ⟨some 11, _, _, _, _, _⟩ (.pointer (some ⟨d, 0, none⟩)) rfl (fun W hSw => by obtain ⟨c3, c0, c1⟩ := hS.out _ hSw; go_simp) hH ?_
  refine tC 5 (o := ⟨some 12, _, _, _, _, _⟩) rfl (fun K hK => ?_)
  go_simp
  refine (q1 _ hH).mono ?_
  rintro e w5 ⟨rfl, rfl⟩
  go_wp2_with fail
  refine hK.out _ _ hH (fun hH => ?_)
  clear hK K
  refine tC 6 (o := ⟨some 13, _, _, _, _, _⟩) rfl (fun K hK => ?_)
  go_simp
  refine (q2 _).mono ?_
  rintro e w6 ⟨rfl, hB⟩
  go_wp2_with fail
  refine hK.out _ _ (hH.trans (Kept.of_below hB [])) (fun hH => ?_)
  clear hK K
  refine tJ 7 ⟨some 14, _, _, _, _, _⟩ (.bool true) rfl hH ?_
  refine tJ 8 ⟨some 15, _, _, _, _, _⟩ (.slice a n cap) rfl hH ?_
  refine tJ 9 ⟨some 16, _, _, _, _, _⟩ (.int .i64 (n : Int)) rfl hH ?_
  refine tJ 10 ⟨some 17, _, _, _, _, _⟩ (.pointer (some ⟨N, 1, none⟩)) rfl hH ?_
  refine tI 11 ⟨some 18, _, _, _, _, _⟩ (.int .i64 l) rfl (fun W hSw => by obtain ⟨c3, c0, c1⟩ := hS.out _ hSw; go_simp) hH ?_
  refine tI 12 ⟨some 19, _, _, _, _, _⟩ (.int .i64 (l * 16)) rfl (fun W hSw => by have e2 := hg2; go_simp) hH ?_
  refine tJ 13 ⟨some 20, _, _, _, _, _⟩ (.bool ((n : Int) == l * 16)) rfl hH ?_
  refine tJ 14 ⟨some 21, _, _, _, _, _⟩ (.bool ((n : Int) == l * 16)) rfl hH ?_
  refine tJ 15 ⟨some 6, _, _, _, _, _⟩ (.bool ((n : Int) == l * 16)) rfl hH ?_
  refine wpAnyH_done (by kernel_rfl) ?_ _
  go_wp2
  go_ret
  exact ⟨by simp [Bool.beq_eq_decide_eq], (k0.trans kd).trans hH⟩
theorem write_zero (w : World) : Blk (w.alloc (.cells #[.int .i64 0, .int .i64 0, .int .i64 0, .slice none 0 0, .int .i64 0] 94)) w.heap.size 94 #[.int .i64 0, .int .i64 0, .int .i64 0, .slice none 0 0, .int .i64 0] := blk_new w 94 _
set_option maxRecDepth 100000 in
set_option maxHeartbeats 4000000 in
theorem free_any (t o l : Int) (h0 : -9223372036854775808 ≤ t) (h1 : t ≤ 9223372036854775807) (hp : Span.Math.plain o l = true) (w : World) (H : MiAt w lo m d b1 b2 K M) (hF : M.fly.length ≤ 600) (hL : M.lat.length ≤ 1000000) :
  Calls Tryz.prog 69 #[.pointer (some ⟨m, 0, none⟩), .int .i64 t, .agg #[.int .i64 o, .int .i64 l]] w fun e w' => e = .returned (.bool (freeB M t o l)) ∧ Kept [] w w' := by
 obtain ⟨f, b, p, q, h, hi, F, gr, rfl, H⟩ := H
 obtain ⟨W0, eW, hB0, k0, z0⟩ : ∃ W0, w.alloc (.cells #[.int .i64 o, .int .i64 l] 44) = W0 ∧ Blk W0 w.heap.size 44 #[.int .i64 o, .int .i64 l] ∧ Kept [] w W0 ∧ Hid (W0.heap.size = w.heap.size + 1) := ⟨_, rfl, blk_new w 44 _, kept_alloc [] w _, (by show _ = _; simp)⟩
 have c0 := ((H.box.kept k0 (by simp)).cell 0).trans (show _ = some (Value.pointer (some ⟨f, 0, none⟩)) from rfl)
 have q0 := Flight.get_any t h0 h1 W0 (H.fly.kept0 k0)
 have hO : (Itree.It.mk o l 0).Ok := Flight.it_ok hp (by decide) (by decide)
 have q1 := fun W (hk : Kept [] w W) => Flight.busy_any o l hO W (H.fly.kept0 hk) hF
 have q2 := fun W (hk : Kept [] w W) => Later.over_any o l W (H.lat.kept0 hk) hL
 have q3 := fun W => Span.extents_any o l W
 have q4 := fun W (hk : Kept [] w W) => Flight.extents_any W (H.fly.kept0 hk)
 have q5 : ∀ W, Kept [] w W → Calls Tryz.prog 127 #[.pointer (some ⟨h, 0, none⟩), .int .u64 (Span.Math.ext o l : Nat), .int .u64 (Flight.exts M.fly : Nat)] W fun e w' => e = .returned (.bool (Hot.fits M.most (Span.Math.ext o l) (Flight.exts M.fly) M.hot)) ∧ Below W.heap.size W w' := fun W hk => by
  obtain ⟨v, hv⟩ := H.hot.kept hk (by simp) (clean_nil _)
  exact Hot.fits_any h (h + 1) M.most v M.hot _ _ (Span.Math.ext_lt o l) (Flight.exts_lt M.fly) W hv
 have hbx := H.box
 unfold freeB
 generalize (Table.look M.fly t).isSome = c1 at *
 generalize Flight.busy M.fly o l = c2 at *
 generalize Later.overL M.lat o l = c3 at *
 generalize Hot.fits M.most (Span.Math.ext o l) (Flight.exts M.fly) M.hot = z at *
 generalize Span.Math.ext o l = eX at *
 generalize Flight.exts M.fly = eY at *
 clear H
 unfold Fv.val at q0
 go_enter Tryz.func69, Tryz.ntmps69
 go_upto_region 2 with (first
  | (go_at_call 125; refine q0.mono ?_; clear q0; rintro e wa ⟨x, rfl, -, -, ka⟩; have hz := write_zero wa; have kb := kept_alloc [] wa (.cells #[.int .i64 0, .int .i64 0, .int .i64 0, .slice none 0 0, .int .i64 0] 94))
  | (refine wpList_store_blk rfl 94 _ _ rfl wa.heap.size 94 _ [.int .i64 x.t, .int .i64 x.o, .int .i64 x.l, .slice x.sa x.len x.cap, .int .i64 x.st] rfl rfl hz rfl Flight.Tryz.sizeW (by simp [Value.oneCell']) ?_; intro w1 hb1 hk1 hz1))
 have k1 : Kept [] W0 w1 := (ka.trans kb).young hk1 ka.size
 have kw : Kept [] w w1 := k0.trans k1
 obtain ⟨N, hN⟩ : ∃ N, w.heap.size = N := ⟨_, rfl⟩
 rw [hN] at hB0 ⊢
 have hS : Hid (∀ W, Kept [] w1.drew W → W.cell? ⟨m, 0, none⟩ = some (.pointer (some ⟨f, 0, none⟩)) ∧ W.cell? ⟨m, 1, none⟩ = some (.pointer (some ⟨q, 0, none⟩)) ∧ W.cell? ⟨m, 2, none⟩ = some (.pointer (some ⟨h, 0, none⟩)) ∧ W.cell? ⟨N, 0, none⟩ = some (.int .i64 o) ∧ W.cell? ⟨N, 1, none⟩ = some (.int .i64 l)) := fun W hk => by
  have hk' : Kept [] w1 W := (kept_drew [] w1).trans hk
  have e1 := hbx.kept (kw.trans hk') (by simp)
  have e2 := hB0.kept (k1.trans hk') (by simp)
  exact ⟨(e1.cell 0).trans rfl, (e1.cell 1).trans rfl, (e1.cell 2).trans rfl, (e2.cell 0).trans rfl, (e2.cell 1).trans rfl⟩
 have kd : Kept [] w w1.drew := kw.trans (kept_drew [] w1)
 replace q1 := fun W (hk : Kept [] w1.drew W) => q1 W (kd.trans hk)
 replace q2 := fun W (hk : Kept [] w1.drew W) => q2 W (kd.trans hk)
 replace q4 := fun W (hk : Kept [] w1.drew W) => q4 W (kd.trans hk)
 replace q5 := fun W (hk : Kept [] w1.drew W) => q5 W (kd.trans hk)
 clear hb1 hk1 hz1 hz ka kb hbx hB0 c0 k0 kw k1
 cases c1 with
 | true =>
  refine wp_region_held_drew (S := fun W => Kept [] w1.drew W) (by kernel_rfl) (Kept.refl [] _) (fun hP => ?_)
  have hH := hP
  clear hP
  refine tJ 0 ⟨some 18, _, _, _, _, _⟩ (.bool true) rfl hH ?_
  refine tJ 1 ⟨some 19, _, _, _, _, _⟩ (.bool false) rfl hH ?_
  refine tJ 2 ⟨some 20, _, _, _, _, _⟩ (.bool false) rfl hH ?_
  refine tO 3 ⟨some 21, _, _, _, _, _⟩ rfl hH ?_
  refine tO 4 ⟨some 22, _, _, _, _, _⟩ rfl hH ?_
  refine tO 5 ⟨some 23, _, _, _, _, _⟩ rfl hH ?_
  refine tO 6 ⟨some 24, _, _, _, _, _⟩ rfl hH ?_
  refine tO 7 ⟨some 25, _, _, _, _, _⟩ rfl hH ?_
  refine tO 8 ⟨some 26, _, _, _, _, _⟩ rfl hH ?_
  refine tO 9 ⟨some 27, _, _, _, _, _⟩ rfl hH ?_
  refine tJ 10 ⟨some 28, _, _, _, _, _⟩ (.bool false) rfl hH ?_
  refine tJ 11 ⟨some 29, _, _, _, _, _⟩ (.bool false) rfl hH ?_
  refine tO 12 ⟨some 30, _, _, _, _, _⟩ rfl hH ?_
  refine tO 13 ⟨some 31, _, _, _, _, _⟩ rfl hH ?_
  refine tO 14 ⟨some 32, _, _, _, _, _⟩ rfl hH ?_
  refine tO 15 ⟨some 33, _, _, _, _, _⟩ rfl hH ?_
  refine tO 16 ⟨some 34, _, _, _, _, _⟩ rfl hH ?_
  refine tO 17 ⟨some 35, _, _, _, _, _⟩ rfl hH ?_
  refine tO 18 ⟨some 36, _, _, _, _, _⟩ rfl hH ?_
  refine tJ 19 ⟨some 37, _, _, _, _, _⟩ (.bool false) rfl hH ?_
  refine tJ 20 ⟨some 38, _, _, _, _, _⟩ (.bool false) rfl hH ?_
  refine tO 21 ⟨some 39, _, _, _, _, _⟩ rfl hH ?_
  refine tO 22 ⟨some 40, _, _, _, _, _⟩ rfl hH ?_
  refine tO 23 ⟨some 41, _, _, _, _, _⟩ rfl hH ?_
  refine tO 24 ⟨some 42, _, _, _, _, _⟩ rfl hH ?_
  refine tO 25 ⟨some 43, _, _, _, _, _⟩ rfl hH ?_
  refine tO 26 ⟨some 44, _, _, _, _, _⟩ rfl hH ?_
  refine tO 27 ⟨some 45, _, _, _, _, _⟩ rfl hH ?_
  refine tO 28 ⟨some 46, _, _, _, _, _⟩ rfl hH ?_
  refine tO 29 ⟨some 47, _, _, _, _, _⟩ rfl hH ?_
  refine tO 30 ⟨some 48, _, _, _, _, _⟩ rfl hH ?_
  refine tO 31 ⟨some 49, _, _, _, _, _⟩ rfl hH ?_
  refine tO 32 ⟨some 50, _, _, _, _, _⟩ rfl hH ?_
  refine tJ 33 ⟨some 51, _, _, _, _, _⟩ (.bool false) rfl hH ?_
  refine tJ 34 ⟨some 6, _, _, _, _, _⟩ (.bool false) rfl hH ?_
  refine wpAnyH_done (by kernel_rfl) ?_ _
  go_wp2
  go_ret
  exact ⟨by simp, kd.trans hH⟩
 | false =>
 cases c2 with
 | true =>
  refine wp_region_held_drew (S := fun W => Kept [] w1.drew W) (by kernel_rfl) (Kept.refl [] _) (fun hP => ?_)
  have hH := hP
  clear hP
  refine tJ 0 ⟨some 18, _, _, _, _, _⟩ (.bool false) rfl hH ?_
  refine tJ 1 ⟨some 19, _, _, _, _, _⟩ (.bool true) rfl hH ?_
  refine tJ 2 ⟨some 20, _, _, _, _, _⟩ (.bool true) rfl hH ?_
  refine tJ 3 ⟨some 21, _, _, _, _, _⟩ (.pointer (some ⟨m, 0, none⟩)) rfl hH ?_
  refine tJ 4 ⟨some 22, _, _, _, _, _⟩ (.pointer (some ⟨m, 0, none⟩)) rfl hH ?_
  refine tJ 5 ⟨some 23, _, _, _, _, _⟩ (.pointer (some ⟨m, 0, none⟩)) rfl hH ?_
  refine tI 6 ⟨some 24, _, _, _, _, _⟩ (.pointer (some ⟨f, 0, none⟩)) rfl (fun W hSw => by obtain ⟨c0, c1, c2, s0, s1⟩ := hS.out _ hSw; go_simp) hH ?_
  refine tI 7 ⟨some 25, _, _, _, _, _⟩ (.agg #[.int .i64 o, .int .i64 l]) rfl (fun W hSw => by obtain ⟨c0, c1, c2, s0, s1⟩ := hS.out _ hSw; go_simp) hH ?_
  refine tC 8 (o := ⟨some 26, _, _, _, _, _⟩) rfl (fun K hK => ?_)
  go_simp
  refine (q1 _ hH).mono ?_
  rintro e w8 ⟨rfl, hk⟩
  go_wp2_with fail
  refine hK.out _ _ (hH.trans hk) (fun hH => ?_)
  clear hK K
  refine tJ 9 ⟨some 27, _, _, _, _, _⟩ (.bool false) rfl hH ?_
  refine tJ 10 ⟨some 28, _, _, _, _, _⟩ (.bool false) rfl hH ?_
  refine tJ 11 ⟨some 29, _, _, _, _, _⟩ (.bool false) rfl hH ?_
  refine tO 12 ⟨some 30, _, _, _, _, _⟩ rfl hH ?_
  refine tO 13 ⟨some 31, _, _, _, _, _⟩ rfl hH ?_
  refine tO 14 ⟨some 32, _, _, _, _, _⟩ rfl hH ?_
  refine tO 15 ⟨some 33, _, _, _, _, _⟩ rfl hH ?_
  refine tO 16 ⟨some 34, _, _, _, _, _⟩ rfl hH ?_
  refine tO 17 ⟨some 35, _, _, _, _, _⟩ rfl hH ?_
  refine tO 18 ⟨some 36, _, _, _, _, _⟩ rfl hH ?_
  refine tJ 19 ⟨some 37, _, _, _, _, _⟩ (.bool false) rfl hH ?_
  refine tJ 20 ⟨some 38, _, _, _, _, _⟩ (.bool false) rfl hH ?_
  refine tO 21 ⟨some 39, _, _, _, _, _⟩ rfl hH ?_
  refine tO 22 ⟨some 40, _, _, _, _, _⟩ rfl hH ?_
  refine tO 23 ⟨some 41, _, _, _, _, _⟩ rfl hH ?_
  refine tO 24 ⟨some 42, _, _, _, _, _⟩ rfl hH ?_
  refine tO 25 ⟨some 43, _, _, _, _, _⟩ rfl hH ?_
  refine tO 26 ⟨some 44, _, _, _, _, _⟩ rfl hH ?_
  refine tO 27 ⟨some 45, _, _, _, _, _⟩ rfl hH ?_
  refine tO 28 ⟨some 46, _, _, _, _, _⟩ rfl hH ?_
  refine tO 29 ⟨some 47, _, _, _, _, _⟩ rfl hH ?_
  refine tO 30 ⟨some 48, _, _, _, _, _⟩ rfl hH ?_
  refine tO 31 ⟨some 49, _, _, _, _, _⟩ rfl hH ?_
  refine tO 32 ⟨some 50, _, _, _, _, _⟩ rfl hH ?_
  refine tJ 33 ⟨some 51, _, _, _, _, _⟩ (.bool false) rfl hH ?_
  refine tJ 34 ⟨some 6, _, _, _, _, _⟩ (.bool false) rfl hH ?_
  refine wpAnyH_done (by kernel_rfl) ?_ _
  go_wp2
  go_ret
  exact ⟨by simp, kd.trans hH⟩
 | false =>
 cases c3 with
 | true =>
  refine wp_region_held_drew (S := fun W => Kept [] w1.drew W) (by kernel_rfl) (Kept.refl [] _) (fun hP => ?_)
  have hH := hP
  clear hP
  refine tJ 0 ⟨some 18, _, _, _, _, _⟩ (.bool false) rfl hH ?_
  refine tJ 1 ⟨some 19, _, _, _, _, _⟩ (.bool true) rfl hH ?_
  refine tJ 2 ⟨some 20, _, _, _, _, _⟩ (.bool true) rfl hH ?_
  refine tJ 3 ⟨some 21, _, _, _, _, _⟩ (.pointer (some ⟨m, 0, none⟩)) rfl hH ?_
  refine tJ 4 ⟨some 22, _, _, _, _, _⟩ (.pointer (some ⟨m, 0, none⟩)) rfl hH ?_
  refine tJ 5 ⟨some 23, _, _, _, _, _⟩ (.pointer (some ⟨m, 0, none⟩)) rfl hH ?_
  refine tI 6 ⟨some 24, _, _, _, _, _⟩ (.pointer (some ⟨f, 0, none⟩)) rfl (fun W hSw => by obtain ⟨c0, c1, c2, s0, s1⟩ := hS.out _ hSw; go_simp) hH ?_
  refine tI 7 ⟨some 25, _, _, _, _, _⟩ (.agg #[.int .i64 o, .int .i64 l]) rfl (fun W hSw => by obtain ⟨c0, c1, c2, s0, s1⟩ := hS.out _ hSw; go_simp) hH ?_
  refine tC 8 (o := ⟨some 26, _, _, _, _, _⟩) rfl (fun K hK => ?_)
  go_simp
  refine (q1 _ hH).mono ?_
  rintro e w8 ⟨rfl, hk⟩
  go_wp2_with fail
  refine hK.out _ _ (hH.trans hk) (fun hH => ?_)
  clear hK K
  refine tJ 9 ⟨some 27, _, _, _, _, _⟩ (.bool true) rfl hH ?_
  refine tJ 10 ⟨some 28, _, _, _, _, _⟩ (.bool true) rfl hH ?_
  refine tJ 11 ⟨some 29, _, _, _, _, _⟩ (.bool true) rfl hH ?_
  refine tJ 12 ⟨some 30, _, _, _, _, _⟩ (.pointer (some ⟨m, 0, none⟩)) rfl hH ?_
  refine tJ 13 ⟨some 31, _, _, _, _, _⟩ (.pointer (some ⟨m, 0, none⟩)) rfl hH ?_
  refine tJ 14 ⟨some 32, _, _, _, _, _⟩ (.pointer (some ⟨m, 1, none⟩)) rfl hH ?_
  refine tI 15 ⟨some 33, _, _, _, _, _⟩ (.pointer (some ⟨q, 0, none⟩)) rfl (fun W hSw => by obtain ⟨c0, c1, c2, s0, s1⟩ := hS.out _ hSw; go_simp) hH ?_
  refine tI 16 ⟨some 34, _, _, _, _, _⟩ (.agg #[.int .i64 o, .int .i64 l]) rfl (fun W hSw => by obtain ⟨c0, c1, c2, s0, s1⟩ := hS.out _ hSw; go_simp) hH ?_
  refine tC 17 (o := ⟨some 35, _, _, _, _, _⟩) rfl (fun K hK => ?_)
  go_simp
  refine (q2 _ hH).mono ?_
  rintro e w17 ⟨rfl, hk⟩
  go_wp2_with fail
  refine hK.out _ _ (hH.trans hk) (fun hH => ?_)
  clear hK K
  refine tJ 18 ⟨some 36, _, _, _, _, _⟩ (.bool false) rfl hH ?_
  refine tJ 19 ⟨some 37, _, _, _, _, _⟩ (.bool false) rfl hH ?_
  refine tJ 20 ⟨some 38, _, _, _, _, _⟩ (.bool false) rfl hH ?_
  refine tO 21 ⟨some 39, _, _, _, _, _⟩ rfl hH ?_
  refine tO 22 ⟨some 40, _, _, _, _, _⟩ rfl hH ?_
  refine tO 23 ⟨some 41, _, _, _, _, _⟩ rfl hH ?_
  refine tO 24 ⟨some 42, _, _, _, _, _⟩ rfl hH ?_
  refine tO 25 ⟨some 43, _, _, _, _, _⟩ rfl hH ?_
  refine tO 26 ⟨some 44, _, _, _, _, _⟩ rfl hH ?_
  refine tO 27 ⟨some 45, _, _, _, _, _⟩ rfl hH ?_
  refine tO 28 ⟨some 46, _, _, _, _, _⟩ rfl hH ?_
  refine tO 29 ⟨some 47, _, _, _, _, _⟩ rfl hH ?_
  refine tO 30 ⟨some 48, _, _, _, _, _⟩ rfl hH ?_
  refine tO 31 ⟨some 49, _, _, _, _, _⟩ rfl hH ?_
  refine tO 32 ⟨some 50, _, _, _, _, _⟩ rfl hH ?_
  refine tJ 33 ⟨some 51, _, _, _, _, _⟩ (.bool false) rfl hH ?_
  refine tJ 34 ⟨some 6, _, _, _, _, _⟩ (.bool false) rfl hH ?_
  refine wpAnyH_done (by kernel_rfl) ?_ _
  go_wp2
  go_ret
  exact ⟨by simp, kd.trans hH⟩
 | false =>
  refine wp_region_held_drew (S := fun W => Kept [] w1.drew W) (by kernel_rfl) (Kept.refl [] _) (fun hP => ?_)
  have hH := hP
  clear hP
  refine tJ 0 ⟨some 18, _, _, _, _, _⟩ (.bool false) rfl hH ?_
  refine tJ 1 ⟨some 19, _, _, _, _, _⟩ (.bool true) rfl hH ?_
  refine tJ 2 ⟨some 20, _, _, _, _, _⟩ (.bool true) rfl hH ?_
  refine tJ 3 ⟨some 21, _, _, _, _, _⟩ (.pointer (some ⟨m, 0, none⟩)) rfl hH ?_
  refine tJ 4 ⟨some 22, _, _, _, _, _⟩ (.pointer (some ⟨m, 0, none⟩)) rfl hH ?_
  refine tJ 5 ⟨some 23, _, _, _, _, _⟩ (.pointer (some ⟨m, 0, none⟩)) rfl hH ?_
  refine tI 6 ⟨some 24, _, _, _, _, _⟩ (.pointer (some ⟨f, 0, none⟩)) rfl (fun W hSw => by obtain ⟨c0, c1, c2, s0, s1⟩ := hS.out _ hSw; go_simp) hH ?_
  refine tI 7 ⟨some 25, _, _, _, _, _⟩ (.agg #[.int .i64 o, .int .i64 l]) rfl (fun W hSw => by obtain ⟨c0, c1, c2, s0, s1⟩ := hS.out _ hSw; go_simp) hH ?_
  refine tC 8 (o := ⟨some 26, _, _, _, _, _⟩) rfl (fun K hK => ?_)
  go_simp
  refine (q1 _ hH).mono ?_
  rintro e w8 ⟨rfl, hk⟩
  go_wp2_with fail
  refine hK.out _ _ (hH.trans hk) (fun hH => ?_)
  clear hK K
  refine tJ 9 ⟨some 27, _, _, _, _, _⟩ (.bool true) rfl hH ?_
  refine tJ 10 ⟨some 28, _, _, _, _, _⟩ (.bool true) rfl hH ?_
  refine tJ 11 ⟨some 29, _, _, _, _, _⟩ (.bool true) rfl hH ?_
  refine tJ 12 ⟨some 30, _, _, _, _, _⟩ (.pointer (some ⟨m, 0, none⟩)) rfl hH ?_
  refine tJ 13 ⟨some 31, _, _, _, _, _⟩ (.pointer (some ⟨m, 0, none⟩)) rfl hH ?_
  refine tJ 14 ⟨some 32, _, _, _, _, _⟩ (.pointer (some ⟨m, 1, none⟩)) rfl hH ?_
  refine tI 15 ⟨some 33, _, _, _, _, _⟩ (.pointer (some ⟨q, 0, none⟩)) rfl (fun W hSw => by obtain ⟨c0, c1, c2, s0, s1⟩ := hS.out _ hSw; go_simp) hH ?_
  refine tI 16 ⟨some 34, _, _, _, _, _⟩ (.agg #[.int .i64 o, .int .i64 l]) rfl (fun W hSw => by obtain ⟨c0, c1, c2, s0, s1⟩ := hS.out _ hSw; go_simp) hH ?_
  refine tC 17 (o := ⟨some 35, _, _, _, _, _⟩) rfl (fun K hK => ?_)
  go_simp
  refine (q2 _ hH).mono ?_
  rintro e w17 ⟨rfl, hk⟩
  go_wp2_with fail
  refine hK.out _ _ (hH.trans hk) (fun hH => ?_)
  clear hK K
  refine tJ 18 ⟨some 36, _, _, _, _, _⟩ (.bool true) rfl hH ?_
  refine tJ 19 ⟨some 37, _, _, _, _, _⟩ (.bool true) rfl hH ?_
  refine tJ 20 ⟨some 38, _, _, _, _, _⟩ (.bool true) rfl hH ?_
  refine tJ 21 ⟨some 39, _, _, _, _, _⟩ (.pointer (some ⟨m, 0, none⟩)) rfl hH ?_
  refine tJ 22 ⟨some 40, _, _, _, _, _⟩ (.pointer (some ⟨m, 0, none⟩)) rfl hH ?_
  refine tJ 23 ⟨some 41, _, _, _, _, _⟩ (.pointer (some ⟨m, 2, none⟩)) rfl hH ?_
  refine tI 24 ⟨some 42, _, _, _, _, _⟩ (.pointer (some ⟨h, 0, none⟩)) rfl (fun W hSw => by obtain ⟨c0, c1, c2, s0, s1⟩ := hS.out _ hSw; go_simp) hH ?_
  refine tI 25 ⟨some 43, _, _, _, _, _⟩ (.agg #[.int .i64 o, .int .i64 l]) rfl (fun W hSw => by obtain ⟨c0, c1, c2, s0, s1⟩ := hS.out _ hSw; go_simp) hH ?_
  refine tJ 27 ⟨some 45, _, _, _, _, _⟩ (.pointer (some ⟨m, 0, none⟩)) rfl hH ?_
  refine tJ 28 ⟨some 46, _, _, _, _, _⟩ (.pointer (some ⟨m, 0, none⟩)) rfl hH ?_
  refine tJ 29 ⟨some 47, _, _, _, _, _⟩ (.pointer (some ⟨m, 0, none⟩)) rfl hH ?_
  refine tI 30 ⟨some 48, _, _, _, _, _⟩ (.pointer (some ⟨f, 0, none⟩)) rfl (fun W hSw => by obtain ⟨c0, c1, c2, s0, s1⟩ := hS.out _ hSw; go_simp) hH ?_
  refine tC 26 (o := ⟨some 44, _, _, _, _, _⟩) rfl (fun K hK => ?_)
  go_simp
  refine (q3 _).mono ?_
  rintro e w26 ⟨rfl, hk⟩
  go_wp2_with fail
  refine hK.out _ _ (hH.trans (Kept.of_below hk [])) (fun hH => ?_)
  clear hK K
  refine tC 31 (o := ⟨some 49, _, _, _, _, _⟩) rfl (fun K hK => ?_)
  go_simp
  refine (q4 _ hH).mono ?_
  rintro e w31 ⟨rfl, hk⟩
  go_wp2_with fail
  refine hK.out _ _ (hH.trans hk) (fun hH => ?_)
  clear hK K
  refine tC 32 (o := ⟨some 50, _, _, _, _, _⟩) rfl (fun K hK => ?_)
  go_simp
  refine (q5 _ hH).mono ?_
  rintro e w32 ⟨rfl, hk⟩
  go_wp2_with fail
  refine hK.out _ _ (hH.trans (of_below hk)) (fun hH => ?_)
  clear hK K
  refine tJ 33 ⟨some 51, _, _, _, _, _⟩ (.bool z) rfl hH ?_
  refine tJ 34 ⟨some 6, _, _, _, _, _⟩ (.bool z) rfl hH ?_
  refine wpAnyH_done (by kernel_rfl) ?_ _
  go_wp2
  go_ret
  exact ⟨by simp, kd.trans hH⟩
end Go.Proofs.YtoaeficfmcncjaaGreat.Mirror
