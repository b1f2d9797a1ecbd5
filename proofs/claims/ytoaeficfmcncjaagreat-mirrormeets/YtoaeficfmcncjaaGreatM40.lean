/-
 The walks of a mirror's half: heat, store, land, look, writeOf.
-/
import Derived.Test.YtoaeficfmcncjaaGreatM39
namespace Go.Proofs.YtoaeficfmcncjaaGreat.Mirror
open Go.RowKit
open Math
open Flight (Fw Fv FlAt Off)
open Later (Lw Lv QAt Foot)
open Pack (Ms Mv)
variable {lo m d b1 b2 : Nat} {K : List Nat} {M : Mr}
theorem kept_undrew (w : World) : Kept [] w.drew w := ⟨rfl, rfl, rfl, Nat.le_refl _, fun _ _ _ => rfl⟩
theorem ne_nat (a b : Nat) : (((a : Nat) : Int) != ((b : Nat) : Int)) = decide (a ≠ b) := by
 by_cases e : a = b
 ·simp [e]
 ·have : (a : Int) ≠ (b : Int) := by omega
  simp [e, this]
section
set_option maxRecDepth 100000
set_option maxHeartbeats 4000000 in
theorem heat_any (o l : Int) (w : World) (H : MiAt w lo m d b1 b2 K M) (hfit : Hot.fits M.most (Span.Math.ext o l) (Flight.exts M.fly) M.hot = true) (hops : M.d.ops ≤ 900000000000000) :
  Calls Tryz.prog 71 #[.pointer (some ⟨m, 0, none⟩), .agg #[.int .i64 o, .int .i64 l]] w fun e w' => e = .returned (.int .i64 (heatE M o l : Nat)) ∧ MiAt w' lo m d b1 b2 K { M with d := heatD M o l, hot := heatH M o l } ∧ Kept (K ++ [d, b1, b2]) w w' := by
 obtain ⟨f, b, p, q, h, hi, F, gr, rfl, H⟩ := H
 obtain ⟨W0, eW, hB0, k0, z0⟩ : ∃ W0, w.alloc (.cells #[.int .i64 o, .int .i64 l] 44) = W0 ∧ Blk W0 w.heap.size 44 #[.int .i64 o, .int .i64 l] ∧ Kept [] w W0 ∧ Hid (W0.heap.size = w.heap.size + 1) := ⟨_, rfl, blk_new w 44 _, kept_alloc [] w _, (by show _ = _; simp)⟩
 have H0 := H.kept (k0.trans (kept_drew [] W0)) (by simp) (clean_nil _)
 have kD := kept_drew [] W0
 have q3 := fun W => Span.extents_any o l W
 have q4 := fun W (hk : Kept [] W0.drew W) => Flight.extents_any W (H0.fly.kept0 hk)
 have q5 : ∀ W, Kept [] W0.drew W → Calls Tryz.prog 130 #[.pointer (some ⟨h, 0, none⟩), .int .u64 (Span.Math.ext o l : Nat), .int .u64 (Flight.exts M.fly : Nat)] W fun e w' => e = .returned (.tuple #[.bool (heatT M o l), .bool true]) ∧ HotAt w' h M.most (heatH M o l) ∧ Kept [h] W w' := fun W hk => by
  obtain ⟨v, hv⟩ := H0.hot.kept hk (by simp) (clean_nil _)
  refine (Hot.use_ok h (h + 1) M.most v M.hot _ _ (Span.Math.ext_lt o l) (Flight.exts_lt M.fly) W hv hfit).mono ?_
  rintro e w' ⟨rfl, h1, h2⟩
  refine ⟨?_, h1, of_hot h2⟩
  rw [ne_nat]
  rfl
 obtain ⟨N, hN⟩ : ∃ N, w.heap.size = N := ⟨_, rfl⟩
 rw [hN] at hB0
 have hbx := H0.box
 have hmN : m ∉ [h] ∧ N ∉ [h] := ⟨by simpa using Ne.symm H.seph, by have := H.hot.lt; simp; omega⟩
 have hS : Hid (∀ W, Kept [h] W0.drew W → W.cell? ⟨m, 0, none⟩ = some (.pointer (some ⟨f, 0, none⟩)) ∧ W.cell? ⟨m, 2, none⟩ = some (.pointer (some ⟨h, 0, none⟩)) ∧ W.cell? ⟨N, 0, none⟩ = some (.int .i64 o) ∧ W.cell? ⟨N, 1, none⟩ = some (.int .i64 l)) := fun W hk => by
  have e1 := hbx.kept hk hmN.1
  have e2 := (hB0.kept kD (by simp)).kept hk hmN.2
  exact ⟨(e1.cell 0).trans rfl, (e1.cell 2).trans rfl, (e2.cell 0).trans rfl, (e2.cell 1).trans rfl⟩
 have HH : Hid (MiOp W0.drew lo m d b1 b2 f b p q h hi F gr M) := H0
 have kw : Hid (Kept [] w W0.drew) := k0.trans kD
 unfold heatE heatD
 have hT : Hid (heatT M o l = heatT M o l) := rfl
 obtain ⟨T, eT⟩ : ∃ T, heatT M o l = T := ⟨_, rfl⟩
 obtain ⟨hH', eH⟩ : ∃ hH', heatH M o l = hH' := ⟨_, rfl⟩
 rw [eT, eH] at q5 ⊢
 clear H H0 hB0 hbx hT k0 z0 hfit kD
 go_enter Tryz.func71, Tryz.ntmps71
 go_wp2
 refine wp_region_held_drew (S := fun W => Kept [h] W0.drew W) (by kernel_rfl) (Kept.refl _ _) (fun hP => ?_)
 have hH := hP
 clear hP
 refine tJ 0 ⟨some 8, _, _, _, _, _⟩ (.pointer (some ⟨m, 0, none⟩)) rfl hH ?_
 refine tJ 1 ⟨some 9, _, _, _, _, _⟩ (.pointer (some ⟨m, 0, none⟩)) rfl hH ?_
 refine tJ 2 ⟨some 10, _, _, _, _, _⟩ (.pointer (some ⟨m, 2, none⟩)) rfl hH ?_
 refine tI 3 ⟨some 11, _, _, _, _, _⟩ (.pointer (some ⟨h, 0, none⟩)) rfl (fun W hSw => by obtain ⟨c0, c2, s0, s1⟩ := hS.out _ hSw; go_simp) hH ?_
 refine tI 4 ⟨some 12, _, _, _, _, _⟩ (.agg #[.int .i64 o, .int .i64 l]) rfl (fun W hSw => by obtain ⟨c0, c2, s0, s1⟩ := hS.out _ hSw; go_simp) hH ?_
 refine tJ 6 ⟨some 14, _, _, _, _, _⟩ (.pointer (some ⟨m, 0, none⟩)) rfl hH ?_
 refine tJ 7 ⟨some 15, _, _, _, _, _⟩ (.pointer (some ⟨m, 0, none⟩)) rfl hH ?_
 refine tJ 8 ⟨some 16, _, _, _, _, _⟩ (.pointer (some ⟨m, 0, none⟩)) rfl hH ?_
 refine tI 9 ⟨some 17, _, _, _, _, _⟩ (.pointer (some ⟨f, 0, none⟩)) rfl (fun W hSw => by obtain ⟨c0, c2, s0, s1⟩ := hS.out _ hSw; go_simp) hH ?_
 refine tC 5 (o := ⟨some 13, _, _, _, _, _⟩) rfl (fun K hK => ?_)
 go_simp
 refine (q3 _).mono ?_
 rintro e w5 ⟨rfl, hB⟩
 go_wp2_with fail
 refine hK.out _ _ (hH.trans ((of_below hB).mono (by simp))) (fun hH => ?_)
 clear hK K
 refine tC 10 (o := ⟨some 18, _, _, _, _, _⟩) rfl (fun K hK => ?_)
 go_simp
 refine (q4 _ (of_below hB)).mono ?_
 rintro e w10 ⟨rfl, hk2⟩
 go_wp2_with fail
 refine hK.out _ _ (hH.trans (hk2.mono (by simp))) (fun hH => ?_)
 clear hK K
 refine tC 11 (o := ⟨some 19, _, _, _, _, _⟩) rfl (fun K hK => ?_)
 go_simp
 refine (q5 _ ((of_below hB).trans hk2)).mono ?_
 rintro e w11 ⟨rfl, hA4, hk4⟩
 go_wp2_with fail
 refine hK.out _ _ (hH.trans hk4) (fun hH => ?_)
 clear hK K
 refine tJ 12 ⟨some 7, _, _, _, _, _⟩ (.tuple #[.bool T, .bool true]) rfl hH ?_
 refine tJ 13 ⟨some 20, _, _, _, _, _⟩ (.bool T) rfl hH ?_
 refine tJ 14 ⟨some 21, _, _, _, _, _⟩ (.bool true) rfl hH ?_
 refine tJ 15 ⟨some 5, _, _, _, _, _⟩ (.bool T) rfl hH ?_
 refine tJ 16 ⟨some 6, _, _, _, _, _⟩ (.bool true) rfl hH ?_
 refine wpAnyH_done (by kernel_rfl) ?_ _
 have k1 : Kept [] W0.drew w10 := (of_below hB).trans hk2
 have H1 := ((HH.out.kept k1 (by simp) (clean_nil _)).heated hA4 hk4).kept (kept_drew [] w11) (by simp) (clean_nil _)
 have kw1 : Hid (Kept [h] w w11) := ((kw.out.trans k1).mono (by simp)).trans hk4
 clear hS q3 q4 q5 hH kw HH hA4 hk4 hB hk2 k1
 have hx : ∀ k ∈ [h], k ∈ own m f b q h F gr ++ [d, b1, b2] := fun k hk => by
  rw [List.mem_singleton] at hk
  subst hk
  simp [own]
 have hy : ∀ k ∈ [d, b1, b2], k ∈ own m f b q h F gr ++ [d, b1, b2] := fun k hk => List.mem_append.2 (.inr hk)
 cases T with
 | false =>
  go_wp2
  go_ret
  exact ⟨rfl, ⟨f, b, p, q, _, hi, F, gr, rfl, H1.kept (kept_undrew _) (by simp) (clean_nil _)⟩, kw1.out.mono hx⟩
 | true =>
  have q6 : ∀ W, Kept [] w11.drew W → Calls Tryz.prog 57 #[.pointer (some ⟨h, 0, none⟩)] W fun e w' => e = .returned (.int .u64 (Hot.mask hH' : Nat)) ∧ Below W.heap.size W w' := fun W hk => by
   obtain ⟨v, hv⟩ := H1.hot.kept hk (by simp) (clean_nil _)
   exact Hot.mask_any h (h + 1) M.most v hH' W hv
  have q7 := fun W (hk : Kept [] w11.drew W) => logPut_any d b1 b2 M.d (Hot.mask hH') (Hot.mask_lt hH') (by omega) W (H1.disk.kept hk (by simp) (by simp) (by simp))
  have hmd : m ∉ [d, b1, b2] := fun hm => by
   have h1 := H1.lows.1
   have h2 := H1.old
   simp at hm
   omega
  have hbx := H1.box
  have hS : Hid (∀ W, Kept [d, b1, b2] w11.drew W → W.cell? ⟨m, 2, none⟩ = some (.pointer (some ⟨h, 0, none⟩)) ∧ W.cell? ⟨m, 3, none⟩ = some (.pointer (some ⟨d, 0, none⟩))) := fun W hk => ⟨((hbx.kept hk hmd).cell 2).trans rfl, ((hbx.kept hk hmd).cell 3).trans rfl⟩
  obtain ⟨E, hE⟩ : ∃ E, logE M.d (Hot.mask hH') = E := ⟨_, rfl⟩
  rw [hE] at q7
  replace hE : Hid _ := hE
  replace H1 : Hid _ := H1
  clear hbx hmd
  go_wp2
  refine wp_region_held_drew (S := fun W => Kept [d, b1, b2] w11.drew W) (by kernel_rfl) (Kept.refl _ _) (fun hP => ?_)
  have hH := hP
  clear hP
  refine tJ 0 ⟨some 24, _, _, _, _, _⟩ (.pointer (some ⟨m, 0, none⟩)) rfl hH ?_
  refine tJ 1 ⟨some 25, _, _, _, _, _⟩ (.pointer (some ⟨m, 0, none⟩)) rfl hH ?_
  refine tJ 2 ⟨some 26, _, _, _, _, _⟩ (.pointer (some ⟨m, 3, none⟩)) rfl hH ?_
  refine tI 3 ⟨some 27, _, _, _, _, _⟩ (.pointer (some ⟨d, 0, none⟩)) rfl (fun W hSw => by obtain ⟨c2, c3⟩ := hS.out _ hSw; go_simp) hH ?_
  refine tJ 4 ⟨some 28, _, _, _, _, _⟩ (.pointer (some ⟨m, 0, none⟩)) rfl hH ?_
  refine tJ 5 ⟨some 29, _, _, _, _, _⟩ (.pointer (some ⟨m, 0, none⟩)) rfl hH ?_
  refine tJ 6 ⟨some 30, _, _, _, _, _⟩ (.pointer (some ⟨m, 2, none⟩)) rfl hH ?_
  refine tI 7 ⟨some 31, _, _, _, _, _⟩ (.pointer (some ⟨h, 0, none⟩)) rfl (fun W hSw => by obtain ⟨c2, c3⟩ := hS.out _ hSw; go_simp) hH ?_
  refine tC 8 (o := ⟨some 32, _, _, _, _, _⟩) rfl (fun K hK => ?_)
  go_simp
  refine (q6 _ (Kept.refl _ _)).mono ?_
  rintro e w8 ⟨rfl, hB6⟩
  go_wp2_with fail
  refine hK.out _ _ (hH.trans ((of_below hB6).mono (by simp))) (fun hH => ?_)
  clear hK K
  refine tC 9 (o := ⟨some 33, _, _, _, _, _⟩) rfl (fun K hK => ?_)
  go_simp
  refine (q7 _ (of_below hB6)).mono ?_
  rintro e w9 ⟨rfl, hD7, hk7⟩
  go_wp2_with fail
  refine hK.out _ _ (hH.trans hk7) (fun hH => ?_)
  clear hK K
  refine tJ 10 ⟨some 4, _, _, _, _, _⟩ (.int .i64 (E : Nat)) rfl hH ?_
  refine wpAnyH_done (by kernel_rfl) ?_ _
  go_wp2
  go_ret
  refine ⟨by rw [← hE.out]; rfl, ⟨f, b, p, q, _, hi, F, gr, rfl, (H1.out.kept (of_below hB6) (by simp) (clean_nil _)).turned hD7 hk7⟩, ?_⟩
  exact (((kw1.out.trans (kept_drew [h] w11)).trans ((of_below hB6).mono (by simp))).mono hx).trans (hk7.mono hy)
set_option maxHeartbeats 4000000 in
theorem store_op {f b p q h hi : Nat} {F : List Nat} {gr : Option Nat} (x : Lv) (X : List Nat) (w : World) (H : MiOp w lo m d b1 b2 f b p q h hi F gr M) (hX : ∀ k ∈ [d, b1, b2], k ∈ X) (hx : Bts w X (.slice x.sa x.len x.cap) x.bs) (hops : M.d.ops ≤ 900000000000000) :
  Calls Tryz.prog 73 #[.pointer (some ⟨m, 0, none⟩), x.val] w fun e w' => e = .returned (.int .i64 (storeE M.d x.lw : Nat)) ∧ MiOp w' lo m d b1 b2 f b p q h hi F gr { M with d := storeS M.d x.lw } ∧ Kept [d, b1, b2] w w' := by
 obtain ⟨xid, xo, xl, xsa, xlen, xcap, xbs⟩ := x
 simp only [Lv.val, Lv.lw] at *
 obtain ⟨W0, eW, hB0, k0, z0⟩ : ∃ W0, w.alloc (.cells #[.int .i64 xid, .int .i64 xo, .int .i64 xl, .slice xsa xlen xcap] 152) = W0 ∧ Blk W0 w.heap.size 152 #[.int .i64 xid, .int .i64 xo, .int .i64 xl, .slice xsa xlen xcap] ∧ Kept [] w W0 ∧ Hid (W0.heap.size = w.heap.size + 1) := ⟨_, rfl, blk_new w 152 _, kept_alloc [] w _, (by show _ = _; simp)⟩
 have kD := k0.trans (kept_drew [] W0)
 have H0 := H.kept kD (by simp) (clean_nil _)
 obtain ⟨lo', hi', r1, r2, r3⟩ := (hx.kept0 kD).da
 have q1 := dWrite_any d b1 b2 M.d xo xl (.slice xsa xlen xcap) xbs lo' hi' W0.drew H0.disk hops r1 r2 (fun k hk => r3 k (hX k hk))
 obtain ⟨N, hN⟩ : ∃ N, w.heap.size = N := ⟨_, rfl⟩
 rw [hN] at hB0
 have hmd : m ∉ [d, b1, b2] ∧ N ∉ [d, b1, b2] := by
  have h1 := H.lows.1
  have h2 := H.old
  have h3 := H.disk.lt
  simp
  omega
 have hbx := H0.box
 have hS : Hid (∀ W, Kept [d, b1, b2] W0.drew W → W.cell? ⟨m, 3, none⟩ = some (.pointer (some ⟨d, 0, none⟩)) ∧ W.cell? ⟨N, 1, none⟩ = some (.int .i64 xo) ∧ W.cell? ⟨N, 2, none⟩ = some (.int .i64 xl) ∧ W.cell? ⟨N, 3, none⟩ = some (.slice xsa xlen xcap)) := fun W hk => by
  have e1 := hbx.kept hk hmd.1
  have e2 := (hB0.kept (kept_drew [] W0) (by simp)).kept hk hmd.2
  exact ⟨(e1.cell 3).trans rfl, (e2.cell 1).trans rfl, (e2.cell 2).trans rfl, (e2.cell 3).trans rfl⟩
 have HH : Hid (MiOp W0.drew lo m d b1 b2 f b p q h hi F gr M) := H0
 have kw : Hid (Kept [] w W0.drew) := kD
 have hsz : M.d.size ≤ 1024 := H.disk.valid.top
 unfold storeE storeS
 simp only [] at *
 have ho2 : (areaS M.d xo xl xbs).ops ≤ 1000000000000000 := Nat.le_trans (putS_ops M.d hsz xo xl xbs) (by omega)
 clear H H0 hB0 hbx r1 r2 r3 hx k0 z0 kD
 obtain ⟨E, hE⟩ : ∃ E, areaE M.d xo xl xbs = E := ⟨_, rfl⟩
 obtain ⟨D, hD⟩ : ∃ D, areaS M.d xo xl xbs = D := ⟨_, rfl⟩
 rw [hE, hD] at q1 ⊢
 rw [hD] at ho2
 go_enter Tryz.func73, Tryz.ntmps73
 go_wp2
 refine wp_region_held_drew (S := fun W => Kept [d, b1, b2] W0.drew W) (by kernel_rfl) (Kept.refl _ _) (fun hP => ?_)
 have hH := hP
 clear hP
 refine tJ 0 ⟨some 6, _, _, _, _, _⟩ (.pointer (some ⟨m, 0, none⟩)) rfl hH ?_
 refine tJ 1 ⟨some 7, _, _, _, _, _⟩ (.pointer (some ⟨m, 0, none⟩)) rfl hH ?_
 refine tJ 2 ⟨some 8, _, _, _, _, _⟩ (.pointer (some ⟨m, 3, none⟩)) rfl hH ?_
 refine tI 3 ⟨some 9, _, _, _, _, _⟩ (.pointer (some ⟨d, 0, none⟩)) rfl (fun W hSw => by obtain ⟨c3, s0, s1, s2⟩ := hS.out _ hSw; go_simp) hH ?_
 refine tJ 4 ⟨some 10, _, _, _, _, _⟩ (.pointer (some ⟨N, 1, none⟩)) rfl hH ?_
 refine tI 5 ⟨some 11, _, _, _, _, _⟩ (.agg #[.int .i64 xo, .int .i64 xl]) rfl (fun W hSw => by obtain ⟨c3, s0, s1, s2⟩ := hS.out _ hSw; go_simp) hH ?_
 refine tJ 6 ⟨some 12, _, _, _, _, _⟩ (.pointer (some ⟨N, 3, none⟩)) rfl hH ?_
 refine tI 7 ⟨some 13, _, _, _, _, _⟩ (.slice xsa xlen xcap) rfl (fun W hSw => by obtain ⟨c3, s0, s1, s2⟩ := hS.out _ hSw; go_simp) hH ?_
 refine tC 8 (o := ⟨some 14, _, _, _, _, _⟩) rfl (fun K hK => ?_)
 go_simp
 refine (q1).mono ?_
 rintro e w8 ⟨rfl, hD1, hk1⟩
 go_wp2_with fail
 refine hK.out _ _ (hH.trans hk1) (fun hH => ?_)
 clear hK K
 refine tJ 9 ⟨some 5, _, _, _, _, _⟩ (.int .i64 (E : Nat)) rfl hH ?_
 refine wpAnyH_done (by kernel_rfl) ?_ _
 have H1 := HH.out.turned hD1 hk1
 have kw1 : Hid (Kept [d, b1, b2] w w8) := (kw.out.mono (by simp)).trans hk1
 have c3 := (H1.box.cell 3).trans (show _ = some (Value.pointer (some ⟨d, 0, none⟩)) from rfl)
 by_cases e0 : E = 0
 ·subst e0
  have q2 := flush_any d b1 b2 D ho2 w8 hD1
  replace H1 : Hid _ := H1
  go_wp2_with (go_at_call 134; refine q2.mono ?_; rintro e w9 ⟨rfl, hD9, hk9⟩)
  go_ret
  exact ⟨rfl, H1.out.turned hD9 hk9, kw1.out.trans hk9⟩
 ·have e1 : ¬ ((E : Int) = 0) := by omega
  replace H1 : Hid _ := H1
  go_wp2
  go_ret
  exact ⟨rfl, H1.out, kw1.out⟩
theorem store_any (x : Lv) (X : List Nat) (w : World) (H : MiAt w lo m d b1 b2 K M) (hX : ∀ k ∈ [d, b1, b2], k ∈ X) (hx : Bts w X (.slice x.sa x.len x.cap) x.bs) (hops : M.d.ops ≤ 900000000000000) :
  Calls Tryz.prog 73 #[.pointer (some ⟨m, 0, none⟩), x.val] w fun e w' => e = .returned (.int .i64 (storeE M.d x.lw : Nat)) ∧ MiAt w' lo m d b1 b2 K { M with d := storeS M.d x.lw } ∧ Kept [d, b1, b2] w w' := by
 obtain ⟨f, b, p, q, h, hi, F, gr, rfl, H⟩ := H
 refine (store_op x X w H hX hx hops).mono ?_
 rintro e w' ⟨h1, h2, h3⟩
 exact ⟨h1, ⟨f, b, p, q, h, hi, F, gr, rfl, h2⟩, h3⟩
end
def IRow (base : Nat) (W : World) (v : Value) (l : List Int) : Prop := W.ownsRow base 3 1 v l.length (l.map fun x => .int .i64 x)
theorem IRow.nil (base : Nat) (W : World) : IRow base W (.slice none 0 0) [] := World.ownsRow_nil W base 3 1
theorem IRow.one {base : Nat} {W : World} {g : Nat} {x : Int} (h : Blk W g 3 #[.int .i64 x]) (hb : base ≤ g) : IRow base W (.slice (some ⟨g, 0, none⟩) 1 1) [x] :=
 ⟨by simp, .inr ⟨g, 1, _, rfl, hb, h, Nat.le_refl _, by unfold maxLen; omega, rfl, rfl⟩⟩
theorem IRow.kept {base : Nat} {L : List Nat} {A B : World} {v : Value} {l : List Int} (h : IRow base A v l) (hk : Kept L A B) (hL : ∀ k, v.ownBlock = some k → k ∉ L) : IRow base B v l := by
 refine ⟨h.1, ?_⟩
 rcases h.2 with h0 | ⟨g, cap, cur, rfl, hb, hg, h1⟩
 ·exact .inl h0
 ·exact .inr ⟨g, cap, cur, rfl, hb, (hk.block g (Array.getElem?_eq_some_iff.1 hg).1 (hL g rfl)).trans hg, h1⟩
structure Goes (w w' : World) (lo m d b1 b2 : Nat) (K K' : List Nat) (M : Mr) : Prop where
 at_ : MiAt w' lo m d b1 b2 K' M
 new : ∀ k ∈ K', k ∈ K ∨ w.heap.size ≤ k
 kept : Kept (K ++ [d, b1, b2]) w w'
theorem Goes.trans {a b c : World} {K K1 K2 : List Nat} {M1 M2 : Mr} (h : Goes a b lo m d b1 b2 K K1 M1) (k : Goes b c lo m d b1 b2 K1 K2 M2) : Goes a c lo m d b1 b2 K K2 M2 := by
 refine ⟨k.at_, fun j hj => ?_, h.kept.youngs k.kept fun j hj => ?_⟩
 ·rcases k.new j hj with h1 | h1
  ·exact h.new j h1
  ·exact .inr (Nat.le_trans h.kept.size h1)
 ·rcases List.mem_append.1 hj with h1 | h1
  ·exact (h.new j h1).imp (fun h => List.mem_append.2 (.inl h)) id
  ·exact .inl (List.mem_append.2 (.inr h1))
theorem Goes.of {a b : World} (h : MiAt b lo m d b1 b2 K M) (hk : Kept (K ++ [d, b1, b2]) a b) : Goes a b lo m d b1 b2 K K M := ⟨h, fun _ h => .inl h, hk⟩
theorem Goes.apart {a b : World} {K' : List Nat} {k : Nat} (h : Goes a b lo m d b1 b2 K K' M) (hk : k < a.heap.size) (hn : k ∉ K ++ [d, b1, b2]) : k ∉ K' ++ [d, b1, b2] := fun hm => by
 rcases List.mem_append.1 hm with h1 | h1
 ·rcases h.new k h1 with h2 | h2
  ·exact hn (List.mem_append.2 (.inl h2))
  ·omega
 ·exact hn (List.mem_append.2 (.inr h1))
set_option maxRecDepth 100000 in
set_option maxHeartbeats 4000000 in
theorem land_any (t : Int) (h0 : -9223372036854775808 ≤ t) (h1 : t ≤ 9223372036854775807) (w : World) (H : MiAt w lo m d b1 b2 K M) (hF : M.fly.length ≤ 600) :
  Calls Tryz.prog 80 #[.pointer (some ⟨m, 0, none⟩), .int .i64 t] w fun e w' => ∃ v K', e = .returned v ∧ IRow w.heap.size w' v (if Flight.endOk M.fly t then [t] else []) ∧ Goes w w' lo m d b1 b2 K K' { M with fly := Flight.endL M.fly t } := by
 obtain ⟨f, b, p, q, h, hi, F, gr, rfl, H⟩ := H
 have c0 := H.five.1
 have hlo : lo ≤ w.heap.size := by have := (H.low m (by simp [own])); omega
 have q1 := Flight.end_any t h0 h1 w H.fly hF hlo
 obtain ⟨E, hE⟩ : ∃ E, Flight.endOk M.fly t = E := ⟨_, rfl⟩
 rw [hE] at q1 ⊢
 have HH : Hid (MiOp w lo m d b1 b2 f b p q h hi F gr M) := H
 clear H
 cases E with
 | true =>
  go_enter Tryz.func80, Tryz.ntmps80
  go_wp2_with (go_at_call 146; refine q1.mono ?_; rintro e w1 ⟨F', rfl, hF1, hn1, hk1⟩)
  obtain ⟨h2, h3, h4⟩ := HH.out.flew hF1 hn1 hk1
  have hb := blk_new w1 3 #[.int .i64 t]
  have ka := kept_alloc [] w1 (.cells #[.int .i64 t] 3)
  replace h2 : Hid _ := h2
  go_wp2
  go_ret
  exact ⟨_, rfl, IRow.one hb hk1.size, _, ⟨⟨_, _, _, _, _, _, _, _, rfl, h2.out.kept ka (by simp) (clean_nil _)⟩, h3, (h4.trans (ka.mono (by simp))).mono (fun k hk => List.mem_append.2 (.inl hk))⟩⟩
 | false =>
  go_enter Tryz.func80, Tryz.ntmps80
  go_wp2_with (go_at_call 146; refine q1.mono ?_; rintro e w1 ⟨F', rfl, hF1, hn1, hk1⟩)
  obtain ⟨h2, h3, h4⟩ := HH.out.flew hF1 hn1 hk1
  replace h2 : Hid _ := h2
  go_wp2
  go_ret
  exact ⟨_, rfl, IRow.nil _ _, _, ⟨⟨_, _, _, _, _, _, _, _, rfl, h2.out⟩, h3, h4.mono (fun k hk => List.mem_append.2 (.inl hk))⟩⟩
set_option maxRecDepth 100000 in
theorem look_deferred (g k : Nat) (v : Value) (E : Nat) (u : FrameMode) (w : World) (hg : Blk w g 76 #[v]) (hk : Blk w k 28 #[.int .i64 (E : Int)]) :
  CallsD Tryz.prog 70 #[.pointer (some ⟨g, 0, none⟩), .pointer (some ⟨k, 0, none⟩)] u w fun e u' w' => u' = u ∧ (e = .returned (.tuple #[]) ∧ Blk w' g 76 #[if E = 0 then v else .slice none 0 0] ∧ Kept [g] w w') := by
 have c0 := (hk.cell 0).trans (show _ = some (Value.int .i64 (E : Int)) from rfl)
 have f0 := hg.frozen 0
 have c1 := (hg.cell 0).trans (show _ = some v from rfl)
 by_cases e0 : E = 0
 ·subst e0
  go_enter_d Tryz.func70, Tryz.ntmps70
  go_wp2
  go_end0
  exact ⟨rfl, hg, Kept.refl _ _⟩
 ·have e1 : ¬ ((E : Int) = 0) := by omega
  go_enter_d Tryz.func70, Tryz.ntmps70
  go_wp2
  go_end0
  exact ⟨rfl, hg.set 0 _, kept_set (by simp) _ _ _⟩
end Go.Proofs.YtoaeficfmcncjaaGreat.Mirror
namespace Go.Proofs.YtoaeficfmcncjaaGreat.Mirror
open Go.RowKit
open Math
open Flight (Fw Fv FlAt Off)
open Later (Lw Lv QAt Foot RowAt)
open Pack (Ms Mv)
open Resync (MRow)
theorem zero_msg (w : World) : Blk (w.alloc (.cells #[.int .i64 0, .int .i64 0, .int .i64 0, .int .u64 0, .bool false, .slice none 0 0] 47)) w.heap.size 47 #[.int .i64 0, .int .i64 0, .int .i64 0, .int .u64 0, .bool false, .slice none 0 0] := blk_new w 47 _
theorem zero_lw (w : World) : Blk (w.alloc (.cells #[.int .i64 0, .int .i64 0, .int .i64 0, .slice none 0 0] 152)) w.heap.size 152 #[.int .i64 0, .int .i64 0, .int .i64 0, .slice none 0 0] := blk_new w 152 _
set_option maxRecDepth 100000 in
theorem size_lw : (Tryz.prog.info? 152).map (·.size) = some 4 := by kernel_rfl
theorem row_range {ty : TypeId} {base : Nat} {W : World} {a : Option Addr} {n cap : Nat} {P : List Lv} {gr : Option Nat} (h : RowAt ty base W (.slice a n cap) P gr) {j : Nat} {x : Lv} (hj : P[j]? = some x) :
  ∃ g off, a = some ⟨g, off, none⟩ ∧ gr = some g ∧ W.rangeAt g (off + j * 4) x.cells := by
 obtain ⟨g, off, e1, e2, hc⟩ := h.at hj
 obtain ⟨c0, c1, c2, c3⟩ := hc [] W (Kept.refl _ _) (by simp)
 refine ⟨g, off, e1, e2, fun i v hv => ?_⟩
 rcases i with _ | _ | _ | _ | i
 ·simpa [Lv.cells] using hv ▸ c0
 ·simpa [Lv.cells] using hv ▸ c1
 ·simpa [Lv.cells] using hv ▸ c2
 ·simpa [Lv.cells] using hv ▸ c3
 ·simp [Lv.cells] at hv
structure LRow (base : Nat) (W : World) (v : Value) (P : List Lv) (gr : Option Nat) : Prop where
 row : RowAt 152 base W v P gr
 byt : ∀ x ∈ P, Later.ByteRow W.heap.size W (.slice x.sa x.len x.cap) x.bs
structure Told (base : Nat) (W : World) (v : Value) (L : List Ms) (P : List Mv) : Prop where
 row : MRow base W v P
 is : P.map Mv.ms = L
 byt : ∀ y ∈ P, Later.Byt W (.slice y.sa y.len y.cap) y.d
theorem Told.nil (base : Nat) (W : World) : Told base W (.slice none 0 0) [] [] := ⟨MRow.nil _ _, rfl, by simp⟩
theorem Told.kept {base : Nat} {A B : World} {v : Value} {L : List Ms} {P : List Mv} {X : List Nat} (h : Told base A v L P) (hk : Kept X A B) (hX : ∀ k, v.ownBlock = some k → k ∉ X) (hc : Clean A X) : Told base B v L P :=
 ⟨h.row.kept hk hX, h.is, fun y hy => hc.byt hk (h.byt y hy)⟩
theorem Told.kept0 {base : Nat} {A B : World} {v : Value} {L : List Ms} {P : List Mv} (h : Told base A v L P) (hk : Kept [] A B) : Told base B v L P := h.kept hk (by simp) (clean_nil _)
theorem Told.low {base base' : Nat} {W : World} {v : Value} {L : List Ms} {P : List Mv} (h : Told base W v L P) (hb : base' ≤ base) : Told base' W v L P := ⟨h.row.low hb, h.is, h.byt⟩
section
set_option maxRecDepth 100000
set_option maxHeartbeats 4000000 in
theorem tell_other (k : Int) (hk2 : k ≠ 2) (sa : Option Addr) (n cap : Nat) (P : List Lv) (base : Nat) (gr : Option Nat) (w : World) (hP : RowAt 152 base w (.slice sa n cap) P gr) (hlen : P.length ≤ 900000) :
  Calls Tryz.prog 72 #[.int .i64 k, .slice sa n cap] w fun e w' => ∃ v Q, e = .returned v ∧ Told w.heap.size w' v (P.map fun x => msgOf k x.lw) Q ∧ Kept [] w w' := by
 obtain ⟨a', cap', e1, hcap, hmax⟩ := hP.open
 injection e1 with e2 e3 e4
 subst e4
 replace e3 : Hid (P.length = n) := e3.symm
 clear e2
 go_enter Tryz.func72, Tryz.ntmps72
 go_wp2
 go_loopw [11, 5] (fun i t wr => ∃ (j : Nat) (ta : Option Addr) (tn tc : Nat) (Q : List Mv), j ≤ n ∧ i = .int .i64 j ∧ t = .slice ta tn tc ∧ Told w.heap.size wr (.slice ta tn tc) ((P.take j).map fun x => msgOf k x.lw) Q ∧ Kept [] w wr) (fun i _ _ => n - (RowKit.intOf i).toNat)
 case atStart => exact ⟨0, none, 0, 0, [], Nat.zero_le _, rfl, rfl, Told.nil _ _, Kept.refl _ _⟩
 case round =>
  obtain ⟨j, ta, tn, tc, Q, hj, rfl, rfl, hT, hK⟩ := hrel
  by_cases hlt : j < n
  ·obtain ⟨x, hx⟩ : ∃ x, P[j]? = some x := ⟨_, List.getElem?_eq_getElem (by have := e3.out; omega)⟩
   obtain ⟨g, off, rfl, hg, hr⟩ := row_range (hP.kept0 hK) hx
   have kk : (j : Int) < (n : Int) := by omega
   have kc : (j : Int) < (cap : Int) := by have := e3.out; omega
   have hm1 : Hid (n - (j + 1) < n - j) := by show _ < _; omega
   have hnext : Hid ((P.take (j + 1)).map (fun x => msgOf k x.lw) = (P.take j).map (fun x => msgOf k x.lw) ++ [msgOf k x.lw]) := by
    show _ = _
    rw [List.take_add_one, hx]
    simp
   have hQl : Q.length = j := by
    have := congrArg List.length hT.is
    simpa [e3.out, Nat.min_eq_left hj] using this
   have hQ9 : Hid (Q.length + [(⟨k, x.id, 0, 0, false, none, 0, 0, []⟩ : Mv)].length ≤ 1000000) := by
    have := e3.out
    show _ ≤ _
    simp
    omega
   replace hr : Hid _ := hr
   replace hg : Hid _ := hg
   have h0 := zero_lw wr
   have ka := kept_alloc [] wr (.cells #[.int .i64 0, .int .i64 0, .int .i64 0, .slice none 0 0] 152)
   clear hx hP
   obtain ⟨xid, xo, xl, xsa, xlen, xcap, xbs⟩ := x
   simp only [Lv.cells] at hr
   go_wp2_with (first
    | refine wpList_load_mid rfl 152 _ rfl g (off + j * 4) rfl [.int .i64 xid, .int .i64 xo, .int .i64 xl, .slice xsa xlen xcap] _ hr.out Tryz.underlying152 rfl size_lw ?_
    | (refine wpList_store_blk rfl 152 _ _ rfl wr.heap.size 152 _ [.int .i64 xid, .int .i64 xo, .int .i64 xl, .slice xsa xlen xcap] rfl rfl h0 rfl size_lw (by simp [Value.oneCell']) ?_; intro w3 hB3 hk3 hz3; have hk3' : Kept [] wr w3 := ka.young hk3 (Nat.le_refl _); have x0 := (hB3.cell 0).trans (show _ = some (Value.int .i64 xid) from rfl); have h5 := zero_msg w3; have kb := kept_alloc [] w3 (.cells #[.int .i64 0, .int .i64 0, .int .i64 0, .int .u64 0, .bool false, .slice none 0 0] 47))
    | (refine wpList_store_blk rfl 47 _ _ rfl w3.heap.size 47 _ [.int .i64 k, .int .i64 xid, .int .i64 0, .int .u64 0, .bool false, .slice none 0 0] rfl rfl h5 rfl Pack.Tryz.sizeM (by simp [Value.oneCell']) ?_; intro w5 hB5 hk5 hz5; have hk5' : Kept [] wr w5 := hk3'.trans (kb.young hk5 (Nat.le_refl _)); obtain ⟨y0, y1, y2, y3, y4, y5⟩ := Mv.In.six (x := ⟨k, xid, 0, 0, false, none, 0, 0, []⟩) hB5; have hI : Mv.In ⟨k, xid, 0, 0, false, none, 0, 0, []⟩ (w5.alloc (.cells #[.int .i64 k, .int .i64 xid, .int .i64 0, .int .u64 0, .bool false, .slice none 0 0] 47)) w5.heap.size := blk_new w5 47 _; have hL := Resync.lies_one _ _ hI; have hk6 : Kept [] wr (w5.alloc (.cells #[.int .i64 k, .int .i64 xid, .int .i64 0, .int .u64 0, .bool false, .slice none 0 0] 47)) := hk5'.trans (kept_alloc [] w5 _))
    | (refine Resync.wpList_append_msgs rfl (.tmp 29) (.tmp 31) rfl w.heap.size (.slice ta tn tc) _ Q [⟨k, xid, 0, 0, false, none, 0, 0, []⟩] rfl rfl (hT.row.kept0 hk6) hL hQ9.out (Nat.le_trans hK.size hk6.size) ?_; intro sa6 n6 cap6 w6 hr6 hk6' ho6))
   have hK6 : Kept [] w w6 := by
    have := (hK.trans hk6).youngs hk6' (fun y hy => .inr (hT.row.lt y (by simpa using hy)).1)
    exact this
   have hT6 : Told w.heap.size w6 (.slice sa6 n6 cap6) ((P.take (j + 1)).map fun x => msgOf k x.lw) (Q ++ [⟨k, xid, 0, 0, false, none, 0, 0, []⟩]) := by
    refine ⟨hr6, by rw [hnext.out, List.map_append, hT.is]; simp [msgOf, hk2, Mv.ms, Lv.lw], fun y hy => ?_⟩
    rcases List.mem_append.1 hy with h1 | h1
    ·refine Clean.byt ?_ hk6' ((hT.kept0 hk6).byt y h1)
     intro b hb
     obtain ⟨c, hc⟩ := (hT.kept0 hk6).row.blk b (by simpa using hb)
     exact clean_of hc (by decide) (by decide)
    ·rw [List.mem_singleton] at h1
     subst h1
     exact Later.byt_nil _
   go_round
   case rel => exact ⟨j + 1, sa6, n6, cap6, _, by omega, by go_num, rfl, hT6, hK6⟩
   case measure => simp [RowKit.intOf]; omega
  ·obtain rfl : j = n := by omega
   go_wp2
   go_ret
   refine ⟨_, Q, rfl, ?_, hK⟩
   rwa [← e3.out, List.take_length] at hT
set_option maxHeartbeats 4000000 in
theorem tell_data (sa : Option Addr) (n cap : Nat) (P : List Lv) (base : Nat) (gr : Option Nat) (w : World) (hP : LRow base w (.slice sa n cap) P gr) (hbl : ∀ x ∈ P, x.bs.length ≤ 140737488351232) (hlen : P.length ≤ 900000) :
  Calls Tryz.prog 72 #[.int .i64 2, .slice sa n cap] w fun e w' => ∃ v Q, e = .returned v ∧ Told w.heap.size w' v (P.map fun x => msgOf 2 x.lw) Q ∧ Kept [] w w' := by
 obtain ⟨a', cap', e1, hcap, hmax⟩ := hP.row.open
 injection e1 with e2 e3 e4
 subst e4
 replace e3 : Hid (P.length = n) := e3.symm
 clear e2
 go_enter Tryz.func72, Tryz.ntmps72
 go_wp2
 go_loopw [11, 5] (fun i t wr => ∃ (j : Nat) (ta : Option Addr) (tn tc : Nat) (Q : List Mv), j ≤ n ∧ i = .int .i64 j ∧ t = .slice ta tn tc ∧ Told w.heap.size wr (.slice ta tn tc) ((P.take j).map fun x => msgOf 2 x.lw) Q ∧ Kept [] w wr) (fun i _ _ => n - (RowKit.intOf i).toNat)
 case atStart => exact ⟨0, none, 0, 0, [], Nat.zero_le _, rfl, rfl, Told.nil _ _, Kept.refl _ _⟩
 case round =>
  obtain ⟨j, ta, tn, tc, Q, hj, rfl, rfl, hT, hK⟩ := hrel
  by_cases hlt : j < n
  ·obtain ⟨x, hx⟩ : ∃ x, P[j]? = some x := ⟨_, List.getElem?_eq_getElem (by have := e3.out; omega)⟩
   obtain ⟨g, off, rfl, hg, hr⟩ := row_range (hP.row.kept0 hK) hx
   have kk : (j : Int) < (n : Int) := by omega
   have kc : (j : Int) < (cap : Int) := by have := e3.out; omega
   have hm1 : Hid (n - (j + 1) < n - j) := by show _ < _; omega
   have hnext : Hid ((P.take (j + 1)).map (fun x => msgOf 2 x.lw) = (P.take j).map (fun x => msgOf 2 x.lw) ++ [msgOf 2 x.lw]) := by
    show _ = _
    rw [List.take_add_one, hx]
    simp
   have hQl : Q.length = j := by
    have := congrArg List.length hT.is
    simpa [e3.out, Nat.min_eq_left hj] using this
   have hQ9 : Hid (Q.length + 1 ≤ 1000000) := by
    have := e3.out
    show _ ≤ _
    omega
   replace hr : Hid _ := hr
   replace hg : Hid _ := hg
   have h0 := zero_lw wr
   have ka := kept_alloc [] wr (.cells #[.int .i64 0, .int .i64 0, .int .i64 0, .slice none 0 0] 152)
   have hxm := List.mem_of_getElem? hx
   have hbyt := (hP.byt x hxm).kept (Nat.le_refl _) hK (by simp)
   have hxl := hbl x hxm
   have hww := hK.size
   clear hx hP hbl hxm
   obtain ⟨xid, xo, xl, xsa, xlen, xcap, xbs⟩ := x
   simp only [Lv.cells] at hr
   go_upto_region 7 with (first
    | refine wpList_load_mid rfl 152 _ rfl g (off + j * 4) rfl [.int .i64 xid, .int .i64 xo, .int .i64 xl, .slice xsa xlen xcap] _ hr.out Tryz.underlying152 rfl size_lw ?_
    | (refine wpList_store_blk rfl 152 _ _ rfl wr.heap.size 152 _ [.int .i64 xid, .int .i64 xo, .int .i64 xl, .slice xsa xlen xcap] rfl rfl h0 rfl size_lw (by simp [Value.oneCell']) ?_; intro w3 hB3 hk3 hz3; have hk3' : Kept [] wr w3 := ka.young hk3 (Nat.le_refl _); have x0 := (hB3.cell 0).trans (show _ = some (Value.int .i64 xid) from rfl); have h5 := zero_msg w3; have kb := kept_alloc [] w3 (.cells #[.int .i64 0, .int .i64 0, .int .i64 0, .int .u64 0, .bool false, .slice none 0 0] 47))
    | (refine wpList_store_blk rfl 47 _ _ rfl w3.heap.size 47 _ [.int .i64 2, .int .i64 xid, .int .i64 0, .int .u64 0, .bool false, .slice none 0 0] rfl rfl h5 rfl Pack.Tryz.sizeM (by simp [Value.oneCell']) ?_; intro w5 hB5 hk5 hz5; have hk35 := kb.young hk5 (Nat.le_refl _); have hk5' : Kept [] wr w5 := hk3'.trans hk35))
   obtain ⟨N3, hN3⟩ : ∃ N3, wr.heap.size = N3 := ⟨_, rfl⟩
   obtain ⟨N5, hN5⟩ : ∃ N5, w3.heap.size = N5 := ⟨_, rfl⟩
   have hB35 := hB3.kept hk35 (by simp)
   have hlt35 : N3 < N5 := by have := hB3.lt; omega
   rw [hN3] at hB35
   rw [hN5] at hB5
   rw [hN3, hN5]
   have hS : Hid (∀ W, Kept [N5] w5.drew W → W.cell? ⟨N3, 1, none⟩ = some (.int .i64 xo) ∧ W.cell? ⟨N3, 3, none⟩ = some (.slice xsa xlen xcap)) := fun W hk => by
    have e := hB35.kept ((kept_drew [N5] w5).trans hk) (by simp; omega)
    exact ⟨(e.cell 1).trans rfl, (e.cell 3).trans rfl⟩
   have x1 := (hB35.cell 1).trans (show _ = some (Value.int .i64 xo) from rfl)
   have x3 := (hB35.cell 3).trans (show _ = some (Value.slice xsa xlen xcap) from rfl)
   have hk5d := hk5'.trans (kept_drew [] w5)
   have hbyt5 := hbyt.kept hww hk5d (by simp)
   simp only [] at hbyt5 hxl
   have qc := Later.clone_any _ _ xbs w5.drew hbyt5 (Nat.le_trans hww hk5d.size) hxl
   have hsz5 : Hid (w.heap.size ≤ N5) := by show _ ≤ _; have := hk3'.size; omega
   replace hB5 : Hid (Blk w5 N5 47 #[.int .i64 2, .int .i64 xid, .int .i64 0, .int .u64 0, .bool false, .slice none 0 0]) := hB5
   clear hB3 hB35 hk3 hk5 hz3 hz5 hk35 kb ka h0 h5 x0 hbyt hbyt5 hr
   go_cut [] from 21 to 29 (fun W => ∃ (ca : Option Addr) (cl cc : Nat), Blk W N5 47 #[.int .i64 2, .int .i64 xid, .int .i64 xo, .int .u64 0, .bool false, .slice ca cl cc] ∧ Later.Byt W (.slice ca cl cc) xbs ∧ Kept [] wr W)
   case first =>
    refine wp_region_held_drew (S := fun W => Kept [N5] w5.drew W) (by kernel_rfl) (Kept.refl _ _) (fun hP => ?_)
    have hH := hP
    clear hP
    refine tJ 0 ⟨some 21, _, _, _, _, _⟩ (.pointer (some ⟨N3, 1, none⟩)) rfl hH ?_
    refine tJ 1 ⟨some 22, _, _, _, _, _⟩ (.pointer (some ⟨N3, 1, none⟩)) rfl hH ?_
    refine tI 2 ⟨some 23, _, _, _, _, _⟩ (.int .i64 xo) rfl (fun W hSw => by obtain ⟨x1, x3⟩ := hS.out _ hSw; go_simp) hH ?_
    refine tJ 3 ⟨some 24, _, _, _, _, _⟩ (.pointer (some ⟨N3, 3, none⟩)) rfl hH ?_
    refine tI 4 ⟨some 25, _, _, _, _, _⟩ (.slice xsa xlen xcap) rfl (fun W hSw => by obtain ⟨x1, x3⟩ := hS.out _ hSw; go_simp) hH ?_
    refine tJ 6 ⟨some 27, _, _, _, _, _⟩ (.pointer (some ⟨N5, 2, none⟩)) rfl hH ?_
    refine tC 5 (o := ⟨some 26, _, _, _, _, _⟩) rfl (fun K hK => ?_)
    go_simp
    refine (qc).mono ?_
    rintro e w6 ⟨ca, cl, cc, rfl, hb6, hk6⟩
    go_wp2_with fail
    refine hK.out _ _ (hH.trans (hk6.mono (by simp))) (fun hH => ?_)
    clear hK K
    have g6 := hB5.out.kept ((kept_drew [] w5).trans hk6) (by simp)
    refine tC 7 (o := ⟨none, _, _, _, _, _⟩) rfl (fun K hK => ?_)
    have f2 := g6.frozen 2
    have c2 := (g6.cell 2).trans (show _ = some (Value.int .i64 0) from rfl)
    go_simp
    refine hK.out _ _ (hH.trans (kept_set (g := N5) (by simp) w6 2 (.int .i64 xo))) (fun hH => ?_)
    clear hK K
    have g7 := g6.set 2 (.int .i64 xo)
    have hk7 : Kept [N5] w6 (w6.setCell ⟨N5, 2, none⟩ (.int .i64 xo)) := kept_set (by simp) _ _ _
    refine tJ 8 ⟨some 28, _, _, _, _, _⟩ (.pointer (some ⟨N5, 5, none⟩)) rfl hH ?_
    refine tC 9 (o := ⟨none, _, _, _, _, _⟩) rfl (fun K hK => ?_)
    have f5 := g7.frozen 5
    have c5 := (g7.cell 5).trans (show _ = some (Value.slice none 0 0) from rfl)
    go_simp
    refine hK.out _ _ (hH.trans (kept_set (g := N5) (by simp) _ 5 (.slice ca cl cc))) (fun hH => ?_)
    clear hK K
    have g8 := g7.set 5 (.slice ca cl cc)
    have hk8 := hk7.trans (kept_set (g := N5) (L := [N5]) (by simp) _ 5 (.slice ca cl cc))
    refine wpAnyH_done (by kernel_rfl) ?_ _
    go_wp2_with fail
    go_meet
    have hcl : Clean w6 [N5] := fun k hk => by
     rw [List.mem_singleton] at hk
     subst hk
     exact clean_of g6 (by decide) (by decide)
    exact ⟨ca, cl, cc, g8, hcl.byt hk8 hb6, (hk5'.trans ((kept_drew [] w5).trans hk6)).young hk8 (by omega)⟩
   case rest =>
    obtain ⟨ca, cl, cc, hBc, hbc, hkc⟩ := hcut
    obtain ⟨y0, y1, y2, y3, y4, y5⟩ := Mv.In.six (x := ⟨2, xid, xo, 0, false, ca, cl, cc, xbs⟩) hBc
    have hI : Mv.In ⟨2, xid, xo, 0, false, ca, cl, cc, xbs⟩ (wc.alloc (.cells #[.int .i64 2, .int .i64 xid, .int .i64 xo, .int .u64 0, .bool false, .slice ca cl cc] 47)) wc.heap.size := blk_new wc 47 _
    have hL := Resync.lies_one _ _ hI
    have kz := kept_alloc [] wc (.cells #[.int .i64 2, .int .i64 xid, .int .i64 xo, .int .u64 0, .bool false, .slice ca cl cc] 47)
    have hk6 : Kept [] wr (wc.alloc (.cells #[.int .i64 2, .int .i64 xid, .int .i64 xo, .int .u64 0, .bool false, .slice ca cl cc] 47)) := hkc.trans kz
    go_wp2_with (first
     | (refine Resync.wpList_append_msgs rfl (.tmp 29) (.tmp 31) rfl w.heap.size (.slice ta tn tc) _ Q [⟨2, xid, xo, 0, false, ca, cl, cc, xbs⟩] rfl rfl (hT.row.kept0 hk6) hL hQ9.out (Nat.le_trans hK.size hk6.size) ?_; intro sa6 n6 cap6 w6 hr6 hk6' ho6))
    have hK6 : Kept [] w w6 := (hK.trans hk6).youngs hk6' (fun y hy => .inr (hT.row.lt y (by simpa using hy)).1)
    have hT6 : Told w.heap.size w6 (.slice sa6 n6 cap6) ((P.take (j + 1)).map fun x => msgOf 2 x.lw) (Q ++ [⟨2, xid, xo, 0, false, ca, cl, cc, xbs⟩]) := by
     have hcl : Clean (wc.alloc (.cells #[.int .i64 2, .int .i64 xid, .int .i64 xo, .int .u64 0, .bool false, .slice ca cl cc] 47)) (Value.slice ta tn tc).ownBlock.toList := fun b hb => by
      obtain ⟨c, hc⟩ := (hT.kept0 hk6).row.blk b (by simpa using hb)
      exact clean_of hc (by decide) (by decide)
     refine ⟨hr6, by rw [hnext.out, List.map_append, hT.is]; simp [msgOf, Mv.ms, Lv.lw], fun y hy => ?_⟩
     rcases List.mem_append.1 hy with h1 | h1
     ·exact hcl.byt hk6' ((hT.kept0 hk6).byt y h1)
     ·rw [List.mem_singleton] at h1
      subst h1
      exact hcl.byt hk6' ((clean_nil _).byt kz hbc)
    go_round
    case rel => exact ⟨j + 1, sa6, n6, cap6, _, by omega, by go_num, rfl, hT6, hK6⟩
    case measure => simp [RowKit.intOf]; omega
  ·obtain rfl : j = n := by omega
   go_wp2
   go_ret
   refine ⟨_, Q, rfl, ?_, hK⟩
   rwa [← e3.out, List.take_length] at hT
theorem results_lw {fn : Func} {p : Tmp} (h : fn.results = #[.cell p 152]) (tmps : Array Value) (w : World) (g : Nat) (x : Lv) (hp : tmps[p]? = some (.pointer (some ⟨g, 0, none⟩))) (hv : Blk w g 152 #[.int .i64 x.id, .int .i64 x.o, .int .i64 x.l, .slice x.sa x.len x.cap]) :
  (results fn tmps).run Tryz.prog w = .ok x.val w := by
 have c0 := (hv.cell 0).trans (show _ = some (Value.int .i64 x.id) from rfl)
 have c1 := (hv.cell 1).trans (show _ = some (Value.int .i64 x.o) from rfl)
 have c2 := (hv.cell 2).trans (show _ = some (Value.int .i64 x.l) from rfl)
 have c3 := (hv.cell 3).trans (show _ = some (Value.slice x.sa x.len x.cap) from rfl)
 simp [results, h, go_sem, hp, c0, c1, c2, c3, Lv.val]
end
def lvOf (x : Mv) : Lv := ⟨x.i, x.o, ((x.len / 16 : Nat) : Int), x.sa, x.len, x.cap, x.d⟩
set_option maxRecDepth 100000 in
set_option maxHeartbeats 4000000 in
theorem writeOf_any (x : Mv) (hl : x.len ≤ 4611686018427387904) (w : World) :
  Calls Tryz.prog 79 #[x.val] w fun e w' => e = .returned (lvOf x).val ∧ Kept [] w w' := by
 obtain ⟨xk, xi, xo, xm, xs, xa, xlen, xcap, xd⟩ := x
 simp only [Mv.val, lvOf] at *
 have hb0 := blk_new w 47 #[.int .i64 xk, .int .i64 xi, .int .i64 xo, .int .u64 (xm : Int), .bool xs, .slice xa xlen xcap]
 have k0 := kept_alloc [] w (.cells #[.int .i64 xk, .int .i64 xi, .int .i64 xo, .int .u64 (xm : Int), .bool xs, .slice xa xlen xcap] 47)
 have hz := zero_lw (w.alloc (.cells #[.int .i64 xk, .int .i64 xi, .int .i64 xo, .int .u64 (xm : Int), .bool xs, .slice xa xlen xcap] 47))
 rw [show (w.alloc (.cells #[.int .i64 xk, .int .i64 xi, .int .i64 xo, .int .u64 (xm : Int), .bool xs, .slice xa xlen xcap] 47)).heap.size = w.heap.size + 1 by simp] at hz
 have k1 := kept_alloc [] (w.alloc (.cells #[.int .i64 xk, .int .i64 xi, .int .i64 xo, .int .u64 (xm : Int), .bool xs, .slice xa xlen xcap] 47)) (.cells #[.int .i64 0, .int .i64 0, .int .i64 0, .slice none 0 0] 152)
 have hb1 := hb0.kept k1 (by simp)
 have c1 := (hb1.cell 1).trans (show _ = some (Value.int .i64 xi) from rfl)
 have c2 := (hb1.cell 2).trans (show _ = some (Value.int .i64 xo) from rfl)
 have c5 := (hb1.cell 5).trans (show _ = some (Value.slice xa xlen xcap) from rfl)
 have e1 : wrap64 (Int.tdiv (xlen : Int) 16) = ((xlen / 16 : Nat) : Int) := by
  have : Int.tdiv (xlen : Int) 16 = ((xlen / 16 : Nat) : Int) := rfl
  rw [this]
  simp [wrap64]
  omega
 go_enter Tryz.func79, Tryz.ntmps79
 go_wp2_with (first
  | (refine wpList_store_blk rfl 152 _ _ rfl (w.heap.size + 1) 152 _ [.int .i64 xi, .int .i64 xo, .int .i64 ((xlen / 16 : Nat) : Int), .slice xa xlen xcap] rfl rfl hz rfl size_lw (by simp [Value.oneCell']) ?_; intro w2 hb2 hk2 hz2))
 have hy : Kept [] w w2 := (k0.trans k1).young hk2 (Nat.le_succ _)
 exact bodyPost_ret (results_lw rfl _ _ _ ⟨xi, xo, ((xlen / 16 : Nat) : Int), xa, xlen, xcap, xd⟩ rfl hb2) rfl ⟨rfl, hy⟩
end Go.Proofs.YtoaeficfmcncjaaGreat.Mirror
