/-
 A node's own write: Write.
-/
import Derived.Test.YtoaeficfmcncjaaGreatM42
namespace Go.Proofs.YtoaeficfmcncjaaGreat.Mirror
open Go.RowKit
open Math
open Flight (Fw Fv FlAt Off)
open Later (Lw Lv QAt Foot RowAt)
open Pack (Ms Mv)
set_option maxRecDepth 100000 in
theorem results_three {fn : Func} {p q r : Tmp} (h : fn.results = #[.tmp p, .cell q 76, .cell r 28]) (tmps : Array Value) (w : World) (g k : Nat) (u v e : Value) (hp : tmps[p]? = some u) (hq : tmps[q]? = some (.pointer (some ⟨g, 0, none⟩))) (hr : tmps[r]? = some (.pointer (some ⟨k, 0, none⟩))) (hv : Blk w g 76 #[v]) (he : Blk w k 28 #[e]) :
  (results fn tmps).run Tryz.prog w = .ok (.tuple #[u, v, e]) w := by
 have c0 := (hv.cell 0).trans (show _ = some v from rfl)
 have c1 := (he.cell 0).trans (show _ = some e from rfl)
 simp [results, h, go_sem, hp, hq, hr, c0, c1]
theorem early {W : World} {N : Nat} {v0 e0 : Value} (h1 : Blk W (N + 1) 76 #[v0]) (h2 : Blk W (N + 1 + 1) 28 #[e0]) (v e : Value) : ∃ V, (W.setCell ⟨N + 1, 0, none⟩ v).setCell ⟨N + 1 + 1, 0, none⟩ e = V ∧ Blk V (N + 1) 76 #[v] ∧ Blk V (N + 1 + 1) 28 #[e] ∧ Kept [N + 1, N + 1 + 1] W V := by
 have k1 : Kept [N + 1] W (W.setCell ⟨N + 1, 0, none⟩ v) := kept_set (by simp) _ _ _
 have k2 : Kept [N + 1 + 1] (W.setCell ⟨N + 1, 0, none⟩ v) ((W.setCell ⟨N + 1, 0, none⟩ v).setCell ⟨N + 1 + 1, 0, none⟩ e) := kept_set (by simp) _ _ _
 exact ⟨_, rfl, (h1.set 0 v).kept k2 (by simp), (h2.kept k1 (by simp)).set 0 e, (k1.mono (by simp)).trans (k2.mono (by simp))⟩
theorem clean_two {W : World} {N : Nat} {v0 e0 : Array Value} (h1 : Blk W (N + 1) 76 v0) (h2 : Blk W (N + 1 + 1) 28 e0) : Clean W [N + 1, N + 1 + 1] := fun k hk => by
 simp only [List.mem_cons, List.not_mem_nil, or_false] at hk
 rcases hk with rfl | rfl
 ·exact clean_of h1 (by decide) (by decide)
 ·exact clean_of h2 (by decide) (by decide)
variable {lo m d b1 b2 : Nat} {K : List Nat} {M : Mr}
theorem goes_back {w W V : World} {N : Nat} {v0 e0 : Array Value} (h1 : Blk W (N + 1) 76 v0) (h2 : Blk W (N + 1 + 1) 28 e0) (hN : w.heap.size = N) {K0 : List Nat} (g : Goes w W lo m d b1 b2 K0 K M) (hK : ∀ k ∈ K ++ [d, b1, b2], k ∉ [N + 1, N + 1 + 1]) (kV : Kept [N + 1, N + 1 + 1] W V) : Goes w V lo m d b1 b2 K0 K M :=
 ⟨g.at_.kept kV hK (clean_two h1 h2), g.new, g.kept.youngs kV (fun k hk => by simp at hk; omega)⟩
set_option maxRecDepth 100000 in
set_option maxHeartbeats 8000000 in
theorem write_any (t o l : Int) (a : Option Addr) (n cap : Nat) (bs : List Nat) (h0 : -9223372036854775808 ≤ t) (h1 : t ≤ 9223372036854775807) (w : World) (H : MiAt w lo m d b1 b2 K M) (hx : Bts w (K ++ [d, b1, b2]) (.slice a n cap) bs) (hxl : bs.length ≤ 140737488351232) (hF : M.fly.length ≤ 600) (hL : M.lat.length ≤ 900000) (hops : M.d.ops ≤ 800000000000000) :
  Calls Tryz.prog 31 #[.pointer (some ⟨m, 0, none⟩), .int .i64 t, .agg #[.int .i64 o, .int .i64 l], .slice a n cap] w fun e w' => ∃ v Q K', e = .returned (.tuple #[.bool (wrB M ⟨t, o, l, bs⟩), v, .int .i64 (wrE M ⟨t, o, l, bs⟩ : Nat)]) ∧ Told w.heap.size w' v (wrO M ⟨t, o, l, bs⟩) Q ∧ Goes w w' lo m d b1 b2 K K' (wrS M ⟨t, o, l, bs⟩) := by
 obtain ⟨N, hN⟩ : ∃ N, w.heap.size = N := ⟨_, rfl⟩
 obtain ⟨W0, eW, hB0, hB1, hB2, k0⟩ : ∃ W0, ((w.alloc (.cells #[.int .i64 o, .int .i64 l] 44)).alloc (.cells #[.slice none 0 0] 76)).alloc (.cells #[.int .i64 0] 28) = W0 ∧ Blk W0 N 44 #[.int .i64 o, .int .i64 l] ∧ Blk W0 (N + 1) 76 #[.slice none 0 0] ∧ Blk W0 (N + 1 + 1) 28 #[.int .i64 0] ∧ Kept [] w W0 := by
  refine ⟨_, rfl, ?_, ?_, ?_, ((kept_alloc [] w _).trans (kept_alloc [] _ _)).trans (kept_alloc [] _ _)⟩
  ·subst hN
   exact ((blk_new w 44 _).kept (kept_alloc [] _ _) (by simp)).kept (kept_alloc [] _ _) (by simp)
  ·have := (blk_new (w.alloc (.cells #[.int .i64 o, .int .i64 l] 44)) 76 #[.slice none 0 0]).kept (kept_alloc [] _ (.cells #[.int .i64 0] 28)) (by simp)
   subst hN
   simpa using this
  ·have := blk_new ((w.alloc (.cells #[.int .i64 o, .int .i64 l] 44)).alloc (.cells #[.slice none 0 0] 76)) 28 #[.int .i64 0]
   subst hN
   simpa using this
 have hnl : n = bs.length := hx.len
 have q1 : Calls Tryz.prog 56 #[.pointer (some ⟨m, 0, none⟩)] W0 fun e w' => e = .returned (.bool true) ∧ W0 = w' := (made_any W0 (H.kept0 k0)).mono (fun _ _ h => ⟨h.1, h.2.symm⟩)
 have kd0 := k0.trans (kept_drew [] W0)
 have q3 := fun W (hk : Kept [] W0.drew W) => fits_any o l a n cap W (H.kept0 (kd0.trans hk))
 have hS : Hid (∀ (L : List Nat) W, N ∉ L → Kept L W0.drew W → W.cell? ⟨N, 0, none⟩ = some (.int .i64 o) ∧ W.cell? ⟨N, 1, none⟩ = some (.int .i64 l)) := fun L W hn hk => by
  have e2 := (hB0.kept (kept_drew [] W0) (by simp)).kept hk hn
  exact ⟨(e2.cell 0).trans rfl, (e2.cell 1).trans rfl⟩
 have hB0h : Hid (Blk W0.drew N 44 #[.int .i64 o, .int .i64 l]) := hB0.kept (kept_drew [] W0) (by simp)
 have hHd : Hid (MiAt W0.drew lo m d b1 b2 K M) := H.kept0 kd0
 have hxd : Hid (Bts W0.drew ([N, N + 1, N + 1 + 1] ++ (K ++ [d, b1, b2])) (.slice a n cap) bs) := hx.kept (kd0.mono (by simp)) (fun x hx => (List.mem_append.1 hx).elim (fun h => .inr (by simp at h; omega)) .inl)
 have kw : Hid (Kept [] w W0.drew) := kd0
 have hb1 : Hid (Blk W0.drew (N + 1) 76 #[.slice none 0 0]) := hB1.kept (kept_drew [] W0) (by simp)
 have hb2 : Hid (Blk W0.drew (N + 1 + 1) 28 #[.int .i64 0]) := hB2.kept (kept_drew [] W0) (by simp)
 have hKN : Hid (∀ k ∈ K ++ [d, b1, b2], k < N) := by rw [← hN]; exact H.lt
 replace hnl : Hid _ := hnl
 clear H hx hB0 hB1 hB2 kd0 k0
 by_cases ht : t < 1
 ·have hfew : decide (t < 1) = true := by simp [ht]
  go_enter_defers Tryz.func31, Tryz.ntmps31
  go_wp2_with (first
   | (go_at_call 56; refine q1.mono ?_; clear q1; rintro e w1 ⟨rfl, rfl⟩))
  refine wp_region_noPanic ?_
  refine wp_region_held_drew (S := fun W => Kept [] W0.drew W) (by kernel_rfl) (Kept.refl _ _) (fun hP => ?_)
  have hH := hP
  clear hP
  refine tJ 0 ⟨some 15, _, _, _, _, _⟩ (.int .i64 t) rfl hH ?_
  refine tI 1 ⟨some 16, _, _, _, _, _⟩ (.bool true) rfl (fun W hSw => by have ht := hfew; go_simp) hH ?_
  refine tJ 2 ⟨some 17, _, _, _, _, _⟩ (.bool true) rfl hH ?_
  refine tO 3 ⟨some 18, _, _, _, _, _⟩ rfl hH ?_
  refine tO 4 ⟨some 19, _, _, _, _, _⟩ rfl hH ?_
  refine tO 5 ⟨some 20, _, _, _, _, _⟩ rfl hH ?_
  refine tO 6 ⟨some 21, _, _, _, _, _⟩ rfl hH ?_
  refine tO 7 ⟨some 22, _, _, _, _, _⟩ rfl hH ?_
  refine tO 8 ⟨some 23, _, _, _, _, _⟩ rfl hH ?_
  refine tO 9 ⟨some 24, _, _, _, _, _⟩ rfl hH ?_
  refine tJ 10 ⟨some 25, _, _, _, _, _⟩ (.bool true) rfl hH ?_
  refine wpAnyH_done (by kernel_rfl) ?_ _
  refine NoPanic.normal ?_
  have hg2 := hb2.out.kept (kept_undrew W0) (by simp)
  have hg1 := hb1.out.kept (kept_undrew W0) (by simp)
  have f1 := hg1.frozen 0
  have f2 := hg2.frozen 0
  have g1 := (hg1.cell 0).trans (show _ = some (Value.slice none 0 0) from rfl)
  have g2 := (hg2.cell 0).trans (show _ = some (Value.int .i64 0) from rfl)
  go_wp2
  obtain ⟨V, hV, v1, v2, kV⟩ := early hg1 hg2 (.slice none 0 0) (.int .i64 2)
  rw [hV]
  have hG := goes_back hg1 hg2 hN (Goes.of (hHd.out.kept0 (kept_undrew W0)) ((kw.out.trans (kept_undrew W0)).mono (by simp))) (fun k hk => by have := hKN.out k hk; simp; omega) (kV.trans (kept_drew _ V))
  have ha : askB M t o l bs.length = false := by simp [askB]; omega
  exact ⟨_, results_three rfl _ _ (N + 1) (N + 1 + 1) _ _ _ rfl rfl rfl (v1.kept (kept_drew [] V) (by simp)) (v2.kept (kept_drew [] V) (by simp)), .slice none 0 0, [], K, (by simp [wrB, wrE, ha]), (by simp only [wrO, wrB, ha]; exact Told.nil _ _), (by simp only [wrS, ha]; exact hG)⟩
 ·have hge : decide (t < 1) = false := by simp; omega
  have hfew := hge
  obtain ⟨fb, hfb⟩ : ∃ fb, fitsB M o l n = fb := ⟨_, rfl⟩
  rw [hfb] at q3
  rw [hnl.out] at hfb
  cases fb with
  | false =>
   go_enter_defers Tryz.func31, Tryz.ntmps31
   go_wp2_with (first
    | (go_at_call 56; refine q1.mono ?_; clear q1; rintro e w1 ⟨rfl, rfl⟩))
   refine wp_region_noPanic ?_
   refine wp_region_held_drew (S := fun W => Kept [] W0.drew W) (by kernel_rfl) (Kept.refl _ _) (fun hP => ?_)
   have hH := hP
   clear hP
   refine tJ 0 ⟨some 15, _, _, _, _, _⟩ (.int .i64 t) rfl hH ?_
   refine tI 1 ⟨some 16, _, _, _, _, _⟩ (.bool false) rfl (fun W hSw => by have ht := hfew; go_simp) hH ?_
   refine tJ 2 ⟨some 17, _, _, _, _, _⟩ (.bool false) rfl hH ?_
   refine tJ 3 ⟨some 18, _, _, _, _, _⟩ (.pointer (some ⟨m, 0, none⟩)) rfl hH ?_
   refine tJ 4 ⟨some 19, _, _, _, _, _⟩ (.pointer (some ⟨m, 0, none⟩)) rfl hH ?_
   refine tJ 5 ⟨some 20, _, _, _, _, _⟩ (.pointer (some ⟨m, 0, none⟩)) rfl hH ?_
   refine tI 6 ⟨some 21, _, _, _, _, _⟩ (.agg #[.int .i64 o, .int .i64 l]) rfl (fun W hSw => by obtain ⟨s0, s1⟩ := hS.out _ _ (by simp) hSw; go_simp) hH ?_
   refine tJ 7 ⟨some 22, _, _, _, _, _⟩ (.slice a n cap) rfl hH ?_
   refine tC 8 (o := ⟨some 23, _, _, _, _, _⟩) rfl (fun K hK => ?_)
   go_simp
   refine (q3 _ hH).mono ?_
   rintro e w3 ⟨rfl, hk3⟩
   go_wp2_with fail
   refine hK.out _ _ (hH.trans hk3) (fun hH => ?_)
   clear hK K
   refine tJ 9 ⟨some 24, _, _, _, _, _⟩ (.bool true) rfl hH ?_
   refine tJ 10 ⟨some 25, _, _, _, _, _⟩ (.bool true) rfl hH ?_
   refine wpAnyH_done (by kernel_rfl) ?_ _
   refine NoPanic.normal ?_
   have hg2 := hb2.out.kept hk3 (by simp)
   have hg1 := hb1.out.kept hk3 (by simp)
   have f1 := hg1.frozen 0
   have f2 := hg2.frozen 0
   have g1 := (hg1.cell 0).trans (show _ = some (Value.slice none 0 0) from rfl)
   have g2 := (hg2.cell 0).trans (show _ = some (Value.int .i64 0) from rfl)
   go_wp2
   obtain ⟨V, hV, v1, v2, kV⟩ := early hg1 hg2 (.slice none 0 0) (.int .i64 2)
   rw [hV]
   have hG := goes_back hg1 hg2 hN (Goes.of (hHd.out.kept0 hk3) ((kw.out.trans hk3).mono (by simp))) (fun k hk => by have := hKN.out k hk; simp; omega) kV
   have ha : askB M t o l bs.length = false := by simp [askB, hfb]
   exact ⟨_, results_three rfl _ _ (N + 1) (N + 1 + 1) _ _ _ rfl rfl rfl v1 v2, .slice none 0 0, [], K, (by simp [wrB, wrE, ha]), (by simp only [wrO, wrB, ha]; exact Told.nil _ _), (by simp only [wrS, ha]; exact hG)⟩
  | true =>
   have ha : askB M t o l bs.length = true := by simp [askB, hfb]; omega
   have hgood : Span.Math.good o l (dataN M.d : Nat) = true := by
    unfold fitsB at hfb
    simp only [Bool.and_eq_true] at hfb
    exact hfb.1
   have hgo := good_of hgood
   have hp : Span.Math.plain o l = true := Span.Math.plain_of (by omega)
   have q5 := fun W (hk : Kept [] W0.drew W) => free_any t o l h0 h1 hp W (hHd.out.kept0 hk) hF (by omega)
   obtain ⟨fr, hfr⟩ : ∃ fr, freeB M t o l = fr := ⟨_, rfl⟩
   rw [hfr] at q5
   replace ha : Hid _ := ha
   replace hfr : Hid _ := hfr
   cases fr with
   | false =>
    go_enter_defers Tryz.func31, Tryz.ntmps31
    go_wp2_with (first
     | (go_at_call 56; refine q1.mono ?_; clear q1; rintro e w1 ⟨rfl, rfl⟩))
    refine wp_region_noPanic ?_
    refine wp_region_held_drew (S := fun W => Kept [] W0.drew W) (by kernel_rfl) (Kept.refl _ _) (fun hP => ?_)
    have hH := hP
    clear hP
    refine tJ 0 ⟨some 15, _, _, _, _, _⟩ (.int .i64 t) rfl hH ?_
    refine tI 1 ⟨some 16, _, _, _, _, _⟩ (.bool false) rfl (fun W hSw => by have ht := hfew; go_simp) hH ?_
    refine tJ 2 ⟨some 17, _, _, _, _, _⟩ (.bool false) rfl hH ?_
    refine tJ 3 ⟨some 18, _, _, _, _, _⟩ (.pointer (some ⟨m, 0, none⟩)) rfl hH ?_
    refine tJ 4 ⟨some 19, _, _, _, _, _⟩ (.pointer (some ⟨m, 0, none⟩)) rfl hH ?_
    refine tJ 5 ⟨some 20, _, _, _, _, _⟩ (.pointer (some ⟨m, 0, none⟩)) rfl hH ?_
    refine tI 6 ⟨some 21, _, _, _, _, _⟩ (.agg #[.int .i64 o, .int .i64 l]) rfl (fun W hSw => by obtain ⟨s0, s1⟩ := hS.out _ _ (by simp) hSw; go_simp) hH ?_
    refine tJ 7 ⟨some 22, _, _, _, _, _⟩ (.slice a n cap) rfl hH ?_
    refine tC 8 (o := ⟨some 23, _, _, _, _, _⟩) rfl (fun K hK => ?_)
    go_simp
    refine (q3 _ hH).mono ?_
    rintro e w3 ⟨rfl, hk3⟩
    go_wp2_with fail
    refine hK.out _ _ (hH.trans hk3) (fun hH => ?_)
    clear hK K
    refine tJ 9 ⟨some 24, _, _, _, _, _⟩ (.bool false) rfl hH ?_
    refine tJ 10 ⟨some 25, _, _, _, _, _⟩ (.bool false) rfl hH ?_
    refine wpAnyH_done (by kernel_rfl) ?_ _
    refine NoPanic.normal ?_
    have k53 : Kept [] W0.drew w3.drew := hk3.trans (kept_drew [] w3)
    clear hH
    go_wp2
    refine wp_region_noPanic ?_
    refine wp_region_held_drew (S := fun W => Kept [] w3.drew W) (by kernel_rfl) (Kept.refl _ _) (fun hP => ?_)
    have hH := hP
    clear hP
    refine tJ 0 ⟨some 26, _, _, _, _, _⟩ (.pointer (some ⟨m, 0, none⟩)) rfl hH ?_
    refine tJ 1 ⟨some 27, _, _, _, _, _⟩ (.pointer (some ⟨m, 0, none⟩)) rfl hH ?_
    refine tJ 2 ⟨some 28, _, _, _, _, _⟩ (.pointer (some ⟨m, 0, none⟩)) rfl hH ?_
    refine tJ 3 ⟨some 29, _, _, _, _, _⟩ (.int .i64 t) rfl hH ?_
    refine tI 4 ⟨some 30, _, _, _, _, _⟩ (.agg #[.int .i64 o, .int .i64 l]) rfl (fun W hSw => by obtain ⟨s0, s1⟩ := hS.out _ _ (by simp) (k53.trans hSw); go_simp) hH ?_
    refine tC 5 (o := ⟨some 31, _, _, _, _, _⟩) rfl (fun K hK => ?_)
    go_simp
    refine (q5 _ (k53.trans hH)).mono ?_
    rintro e w5 ⟨rfl, hk5⟩
    go_wp2_with fail
    refine hK.out _ _ (hH.trans hk5) (fun hH => ?_)
    clear hK K
    refine tJ 6 ⟨some 32, _, _, _, _, _⟩ (.bool true) rfl hH ?_
    refine wpAnyH_done (by kernel_rfl) ?_ _
    refine NoPanic.normal ?_
    have k05 := k53.trans hk5
    have hg2 := hb2.out.kept k05 (by simp)
    have hg1 := hb1.out.kept k05 (by simp)
    have f1 := hg1.frozen 0
    have f2 := hg2.frozen 0
    have g1 := (hg1.cell 0).trans (show _ = some (Value.slice none 0 0) from rfl)
    have g2 := (hg2.cell 0).trans (show _ = some (Value.int .i64 0) from rfl)
    go_wp2
    obtain ⟨V, hV, v1, v2, kV⟩ := early hg1 hg2 (.slice none 0 0) (.int .i64 0)
    rw [hV]
    have hG := goes_back hg1 hg2 hN (Goes.of (hHd.out.kept0 k05) ((kw.out.trans k05).mono (by simp))) (fun k hk => by have := hKN.out k hk; simp; omega) kV
    exact ⟨_, results_three rfl _ _ (N + 1) (N + 1 + 1) _ _ _ rfl rfl rfl v1 v2, .slice none 0 0, [], K, (by simp [wrB, wrE, ha.out, hfr.out]), (by simp [wrO, wrB, ha.out, hfr.out]; exact Told.nil _ _), (by simp [wrS, ha.out, hfr.out]; exact hG)⟩
   | true =>
    have hfr' := hfr.out
    unfold freeB at hfr'
    simp only [Bool.and_eq_true, Bool.not_eq_true'] at hfr'
    obtain ⟨n1, n2, n3, n4⟩ := hfr'
    replace n1 : Hid _ := n1
    replace n2 : Hid _ := n2
    clear n3
    obtain ⟨E, hE⟩ : ∃ E, heatE M o l = E := ⟨_, rfl⟩
    have hNX : Hid (N ∉ (N + 1 + 1) :: (K ++ [d, b1, b2])) := fun hm => by
     rcases List.mem_cons.1 hm with e | e
     ·omega
     ·have := hKN.out N e
      omega
    have hN1 : Hid (N + 1 ∉ K ++ [d, b1, b2] ∧ N + 1 + 1 ∉ K ++ [d, b1, b2]) := ⟨fun hm => by have := hKN.out _ hm; omega, fun hm => by have := hKN.out _ hm; omega⟩
    go_enter_defers Tryz.func31, Tryz.ntmps31
    go_wp2_with (first
     | (go_at_call 56; refine q1.mono ?_; clear q1; rintro e w1 ⟨rfl, rfl⟩))
    refine wp_region_noPanic ?_
    refine wp_region_held_drew (S := fun W => Kept [] W0.drew W) (by kernel_rfl) (Kept.refl _ _) (fun hP => ?_)
    have hH := hP
    clear hP
    refine tJ 0 ⟨some 15, _, _, _, _, _⟩ (.int .i64 t) rfl hH ?_
    refine tI 1 ⟨some 16, _, _, _, _, _⟩ (.bool false) rfl (fun W hSw => by have ht := hfew; go_simp) hH ?_
    refine tJ 2 ⟨some 17, _, _, _, _, _⟩ (.bool false) rfl hH ?_
    refine tJ 3 ⟨some 18, _, _, _, _, _⟩ (.pointer (some ⟨m, 0, none⟩)) rfl hH ?_
    refine tJ 4 ⟨some 19, _, _, _, _, _⟩ (.pointer (some ⟨m, 0, none⟩)) rfl hH ?_
    refine tJ 5 ⟨some 20, _, _, _, _, _⟩ (.pointer (some ⟨m, 0, none⟩)) rfl hH ?_
    refine tI 6 ⟨some 21, _, _, _, _, _⟩ (.agg #[.int .i64 o, .int .i64 l]) rfl (fun W hSw => by obtain ⟨s0, s1⟩ := hS.out _ _ (by simp) hSw; go_simp) hH ?_
    refine tJ 7 ⟨some 22, _, _, _, _, _⟩ (.slice a n cap) rfl hH ?_
    refine tC 8 (o := ⟨some 23, _, _, _, _, _⟩) rfl (fun K hK => ?_)
    go_simp
    refine (q3 _ hH).mono ?_
    rintro e w3 ⟨rfl, hk3⟩
    go_wp2_with fail
    refine hK.out _ _ (hH.trans hk3) (fun hH => ?_)
    clear hK K
    refine tJ 9 ⟨some 24, _, _, _, _, _⟩ (.bool false) rfl hH ?_
    refine tJ 10 ⟨some 25, _, _, _, _, _⟩ (.bool false) rfl hH ?_
    refine wpAnyH_done (by kernel_rfl) ?_ _
    refine NoPanic.normal ?_
    have k53 : Kept [] W0.drew w3.drew := hk3.trans (kept_drew [] w3)
    clear hH
    go_wp2
    refine wp_region_noPanic ?_
    refine wp_region_held_drew (S := fun W => Kept [] w3.drew W) (by kernel_rfl) (Kept.refl _ _) (fun hP => ?_)
    have hH := hP
    clear hP
    refine tJ 0 ⟨some 26, _, _, _, _, _⟩ (.pointer (some ⟨m, 0, none⟩)) rfl hH ?_
    refine tJ 1 ⟨some 27, _, _, _, _, _⟩ (.pointer (some ⟨m, 0, none⟩)) rfl hH ?_
    refine tJ 2 ⟨some 28, _, _, _, _, _⟩ (.pointer (some ⟨m, 0, none⟩)) rfl hH ?_
    refine tJ 3 ⟨some 29, _, _, _, _, _⟩ (.int .i64 t) rfl hH ?_
    refine tI 4 ⟨some 30, _, _, _, _, _⟩ (.agg #[.int .i64 o, .int .i64 l]) rfl (fun W hSw => by obtain ⟨s0, s1⟩ := hS.out _ _ (by simp) (k53.trans hSw); go_simp) hH ?_
    refine tC 5 (o := ⟨some 31, _, _, _, _, _⟩) rfl (fun K hK => ?_)
    go_simp
    refine (q5 _ (k53.trans hH)).mono ?_
    rintro e w5 ⟨rfl, hk5⟩
    go_wp2_with fail
    refine hK.out _ _ (hH.trans hk5) (fun hH => ?_)
    clear hK K
    refine tJ 6 ⟨some 32, _, _, _, _, _⟩ (.bool false) rfl hH ?_
    refine wpAnyH_done (by kernel_rfl) ?_ _
    refine NoPanic.normal ?_
    have k05 : Kept [] W0.drew w5.drew := (k53.trans hk5).trans (kept_drew [] w5)
    have q8 := heat_any o l w5.drew (hHd.out.kept0 k05) n4 (by omega)
    rw [hE] at q8
    replace hE : Hid _ := hE
    clear hH q3 q5 n4 k53 hk3 hk5
    go_wp2
    refine wp_region_noPanic ?_
    refine wp_region_held_drew (S := fun W => Kept ((N + 1 + 1) :: (K ++ [d, b1, b2])) w5.drew W) (by kernel_rfl) (Kept.refl _ _) (fun hP => ?_)
    have hH := hP
    clear hP
    refine tJ 0 ⟨some 33, _, _, _, _, _⟩ (.pointer (some ⟨m, 0, none⟩)) rfl hH ?_
    refine tJ 1 ⟨some 34, _, _, _, _, _⟩ (.pointer (some ⟨m, 0, none⟩)) rfl hH ?_
    refine tJ 2 ⟨some 35, _, _, _, _, _⟩ (.pointer (some ⟨m, 0, none⟩)) rfl hH ?_
    refine tI 3 ⟨some 36, _, _, _, _, _⟩ (.agg #[.int .i64 o, .int .i64 l]) rfl (fun W hSw => by obtain ⟨s0, s1⟩ := hS.out _ _ hNX.out ((k05.mono (by simp)).trans hSw); go_simp) hH ?_
    refine tC 4 (o := ⟨some 37, _, _, _, _, _⟩) rfl (fun K hK => ?_)
    go_simp
    refine (q8).mono ?_
    rintro e w8 ⟨rfl, hM8, hk8⟩
    go_wp2_with fail
    refine hK.out _ _ (hH.trans (hk8.mono (fun k hk => List.mem_cons_of_mem _ hk))) (fun hH => ?_)
    clear hK K
    have hg28 := (hb2.out.kept k05 (by simp)).kept hk8 hN1.out.2
    have hg18 := (hb1.out.kept k05 (by simp)).kept hk8 hN1.out.1
    refine tC 5 (o := ⟨none, _, _, _, _, _⟩) rfl (fun K hK => ?_)
    have f2 := hg28.frozen 0
    have c2 := (hg28.cell 0).trans (show _ = some (Value.int .i64 0) from rfl)
    go_simp
    refine hK.out _ _ (hH.trans (kept_set (g := N + 1 + 1) (by simp) w8 0 (.int .i64 (E : Int)))) (fun hH => ?_)
    clear hK K
    obtain ⟨w9, hw9⟩ : ∃ w9, w8.setCell ⟨N + 1 + 1, 0, none⟩ (.int .i64 (E : Int)) = w9 := ⟨_, rfl⟩
    rw [hw9] at hH ⊢
    refine wpAnyH_done (by kernel_rfl) ?_ _
    refine NoPanic.normal ?_
    have g9 : Goes w w8 lo m d b1 b2 K K { M with d := heatD M o l, hot := heatH M o l } := Goes.of hM8 (((kw.out.trans k05).mono (by simp)).trans hk8)
    have hx8 : Bts w8 ([N, N + 1, N + 1 + 1] ++ (K ++ [d, b1, b2])) (.slice a n cap) bs := (hxd.out.kept0 k05).kept (hk8.mono (fun k hk => List.mem_append.2 (.inr hk))) (fun _ h => .inl h)
    have k89 : Kept [N + 1, N + 1 + 1] w8 w9 := by rw [← hw9]; exact kept_set (by simp) _ _ _
    have hb29 : Blk w9 (N + 1 + 1) 28 #[.int .i64 (E : Int)] := by rw [← hw9]; exact hg28.set 0 _
    have hb19 : Blk w9 (N + 1) 76 #[.slice none 0 0] := hg18.kept (by rw [← hw9]; exact kept_set (g := N + 1 + 1) (L := [N + 1 + 1]) (by simp) _ _ _) (by simp)
    have e2 := (hb29.cell 0).trans (show _ = some (Value.int .i64 (E : Int)) from rfl)
    have f2' := hb29.frozen 0
    have f1' := hb19.frozen 0
    have e1 := (hb19.cell 0).trans (show _ = some (Value.slice none 0 0) from rfl)
    have hKn : ∀ k ∈ K ++ [d, b1, b2], k ∉ [N + 1, N + 1 + 1] := fun k hk => by have := hKN.out k hk; simp; omega
    replace hM8 : Hid (MiAt w8 lo m d b1 b2 K { M with d := heatD M o l, hot := heatH M o l }) := hM8
    clear hH hw9 f2 c2
    by_cases hE0 : E = 0
    ·subst hE0
     obtain ⟨N7, hN7⟩ : ∃ N7, w9.heap.size = N7 := ⟨_, rfl⟩
     have hz := zero_lw w9
     rw [hN7] at hz
     have ka := kept_alloc [] w9 (.cells #[.int .i64 0, .int .i64 0, .int .i64 0, .slice none 0 0] 152)
     have hNY : Hid (N ∉ [N + 1, N + 1 + 1] ++ (K ++ [d, b1, b2])) := fun hm => by
      rcases List.mem_append.1 hm with e | e
      ·simp at e
       omega
      ·have := hKN.out N e
       omega
     have k09 : Kept ([N + 1, N + 1 + 1] ++ (K ++ [d, b1, b2])) W0.drew w9 := ((k05.mono (by simp)).trans (hk8.mono (fun k hk => List.mem_append.2 (.inr hk)))).trans (k89.mono (fun k hk => List.mem_append.2 (.inl hk)))
     obtain ⟨s0, s1⟩ := hS.out _ w9 hNY.out k09
     go_upto_region 12 with (first
      | (refine wpList_store_blk rfl 152 _ _ rfl N7 152 _ [.int .i64 t, .int .i64 o, .int .i64 l, .slice a n cap] rfl rfl hz rfl size_lw (by simp [Value.oneCell']) ?_; intro w10 hB10 hk10 hz10))
     have k910 : Kept [] w9 w10.drew := (ka.young hk10 (by omega)).trans (kept_drew [] w10)
     have hS2 : Hid (∀ (L : List Nat) W, N7 ∉ L → Kept L w10.drew W → W.cell? ⟨N7, 0, none⟩ = some (.int .i64 t) ∧ W.cell? ⟨N7, 1, none⟩ = some (.int .i64 o) ∧ W.cell? ⟨N7, 2, none⟩ = some (.int .i64 l) ∧ W.cell? ⟨N7, 3, none⟩ = some (.slice a n cap)) := fun L W hn hk => by
      have e2 := (hB10.kept (kept_drew [] w10) (by simp)).kept hk hn
      exact ⟨(e2.cell 0).trans rfl, (e2.cell 1).trans rfl, (e2.cell 2).trans rfl, (e2.cell 3).trans rfl⟩
     have hbA : Blk w10.drew (N + 1) 76 #[.slice none 0 0] := hb19.kept k910 (by simp)
     have hbB : Blk w10.drew (N + 1 + 1) 28 #[.int .i64 0] := hb29.kept k910 (by simp)
     have H10 : Hid (MiAt w10.drew lo m d b1 b2 K { M with d := heatD M o l, hot := heatH M o l }) := (hM8.out.kept k89 hKn (clean_two hg18 hg28)).kept0 k910
     have hx10 : Hid (Bts w10.drew ([N, N + 1, N + 1 + 1] ++ (K ++ [d, b1, b2])) (.slice a n cap) bs) := (hx8.kept (k89.mono (fun k hk => List.mem_append.2 (.inl (by simp at hk ⊢; omega)))) (fun _ h => .inl h)).kept0 k910
     have hlo : N + 1 + 1 < N7 := by have := hb29.lt; omega
     have hZ : Hid (N7 ∉ [N + 1, N + 1 + 1] ++ [d, b1, b2]) := fun hm => by
      rcases List.mem_append.1 hm with e | e
      ·simp at e
       omega
      ·have := hKN.out N7 (List.mem_append.2 (.inr e))
       omega
     obtain ⟨E2, hE2⟩ : ∃ E2, storeE (heatD M o l) ⟨t, o, l, bs⟩ = E2 := ⟨_, rfl⟩
     have q10 := fun W (hk : Kept [] w10.drew W) => store_go t o l a n cap bs E2 hE2 W (H10.out.kept0 hk) ((hx10.out.kept0 hk).mono (fun x hx => List.mem_append.2 (.inr hx))) hops
     have q9 : ∀ W g, Kept [] w10.drew W → Blk W g 152 #[.int .i64 t, .int .i64 o, .int .i64 l, .slice a n cap] → Calls Tryz.prog 72 #[.int .i64 2, .slice (some ⟨g, 0, none⟩) 1 1] W fun e w' => ∃ sT nT cT Q, e = .returned (.slice sT nT cT) ∧ Told W.heap.size w' (.slice sT nT cT) ([msgOf 2 ⟨t, o, l, bs⟩]) Q ∧ Kept [] W w' := fun W g hk hB =>
      tell_one ⟨t, o, l, a, n, cap, bs⟩ W g hB (hx10.out.kept0 hk).lt hxl
     replace hE2 : Hid _ := hE2
     clear hB10 hk10 hz10 hz ka s0 s1 e1 e2 f1' f2'
     go_wp2
     refine wp_region_noPanic ?_
     refine wp_region_held_drew (S := fun W => Kept ([N + 1, N + 1 + 1] ++ [d, b1, b2]) w10.drew W) (by kernel_rfl) (Kept.refl _ _) (fun hP => ?_)
     have hH := hP
     clear hP
     refine tI 0 ⟨some 45, _, _, _, _, _⟩ (.agg #[.int .i64 t, .int .i64 o, .int .i64 l, .slice a n cap]) rfl (fun W hSw => by obtain ⟨s0, s1, s2, s3⟩ := hS2.out _ _ hZ.out hSw; go_simp) hH ?_
     refine tJ 3 ⟨some 48, _, _, _, _, _⟩ (.pointer (some ⟨m, 0, none⟩)) rfl hH ?_
     refine tJ 4 ⟨some 49, _, _, _, _, _⟩ (.pointer (some ⟨m, 0, none⟩)) rfl hH ?_
     refine tJ 5 ⟨some 50, _, _, _, _, _⟩ (.pointer (some ⟨m, 0, none⟩)) rfl hH ?_
     refine tI 6 ⟨some 51, _, _, _, _, _⟩ (.agg #[.int .i64 t, .int .i64 o, .int .i64 l, .slice a n cap]) rfl (fun W hSw => by obtain ⟨s0, s1, s2, s3⟩ := hS2.out _ _ hZ.out hSw; go_simp) hH ?_
     refine tC 1 (o := ⟨some 46, _, _, _, _, _⟩) rfl (fun K hK => ?_)
     go_simp
     refine hK.out _ _ (hH.trans ((kept_alloc [] _ (.cells #[.int .i64 t, .int .i64 o, .int .i64 l, .slice a n cap] 152)).mono (by simp))) (fun hH => ?_)
     clear hK K
     have kA := kept_alloc [] w10.drew (.cells #[.int .i64 t, .int .i64 o, .int .i64 l, .slice a n cap] 152)
     have hB1 := blk_new w10.drew 152 #[.int .i64 t, .int .i64 o, .int .i64 l, .slice a n cap]
     refine tC 2 (o := ⟨some 47, _, _, _, _, _⟩) rfl (fun K hK => ?_)
     go_simp
     refine (q9 _ _ kA hB1).mono ?_
     rintro e w11 ⟨sT, nT, cT, Q9, rfl, hT9, hk9⟩
     go_wp2_with fail
     refine hK.out _ _ (hH.trans (hk9.mono (by simp))) (fun hH => ?_)
     clear hK K
     have kB := kA.trans hk9
     refine tC 7 (o := ⟨some 52, _, _, _, _, _⟩) rfl (fun K hK => ?_)
     go_simp
     refine (q10 _ kB).mono ?_
     rintro e w12 ⟨rfl, hM12, hk12⟩
     go_wp2_with fail
     refine hK.out _ _ (hH.trans (hk12.mono (by simp))) (fun hH => ?_)
     clear hK K
     have hD1 : N + 1 ∉ [d, b1, b2] ∧ N + 1 + 1 ∉ [d, b1, b2] := ⟨fun h => hN1.out.1 (List.mem_append.2 (.inr h)), fun h => hN1.out.2 (List.mem_append.2 (.inr h))⟩
     have hb112 := (hbA.kept kB (by simp)).kept hk12 hD1.1
     have hb212 := (hbB.kept kB (by simp)).kept hk12 hD1.2
     refine tC 8 (o := ⟨none, _, _, _, _, _⟩) rfl (fun K hK => ?_)
     have f1 := hb112.frozen 0
     have c1 := (hb112.cell 0).trans (show _ = some (Value.slice none 0 0) from rfl)
     go_simp
     refine hK.out _ _ (hH.trans (kept_set (g := N + 1) (by simp) w12 0 (.slice sT nT cT))) (fun hH => ?_)
     clear hK K
     have hb113 := hb112.set 0 (.slice sT nT cT)
     have hb213 := hb212.kept (kept_set (g := N + 1) (L := [N + 1]) (by simp) w12 0 (.slice sT nT cT)) (by simp)
     have k1213 : Kept [N + 1] w12 (w12.setCell ⟨N + 1, 0, none⟩ (.slice sT nT cT)) := kept_set (by simp) _ _ _
     refine tC 9 (o := ⟨none, _, _, _, _, _⟩) rfl (fun K hK => ?_)
     have f2 := hb213.frozen 0
     have c2 := (hb213.cell 0).trans (show _ = some (Value.int .i64 0) from rfl)
     go_simp
     refine hK.out _ _ (hH.trans (kept_set (g := N + 1 + 1) (by simp) _ 0 (.int .i64 (E2 : Int)))) (fun hH => ?_)
     clear hK K
     have hb214 := hb213.set 0 (.int .i64 (E2 : Int))
     have k1314 : Kept [N + 1 + 1] (w12.setCell ⟨N + 1, 0, none⟩ (.slice sT nT cT)) ((w12.setCell ⟨N + 1, 0, none⟩ (.slice sT nT cT)).setCell ⟨N + 1 + 1, 0, none⟩ (.int .i64 (E2 : Int))) := kept_set (by simp) _ _ _
     have hb114 := hb113.kept k1314 (by simp)
     have k1214 := (k1213.mono (L' := [N + 1, N + 1 + 1]) (by simp)).trans (k1314.mono (by simp))
     obtain ⟨w14, hw14⟩ : ∃ w14, (w12.setCell ⟨N + 1, 0, none⟩ (.slice sT nT cT)).setCell ⟨N + 1 + 1, 0, none⟩ (.int .i64 (E2 : Int)) = w14 := ⟨_, rfl⟩
     rw [hw14] at hH hb214 hb114 k1214 ⊢
     refine wpAnyH_done (by kernel_rfl) ?_ _
     refine NoPanic.normal ?_
     have k12d : Kept [N + 1, N + 1 + 1] w12 w14.drew := k1214.trans (kept_drew _ w14)
     have hM14 : MiAt w14.drew lo m d b1 b2 K { M with d := storeS (heatD M o l) ⟨t, o, l, bs⟩, hot := heatH M o l } := hM12.kept k12d hKn (clean_two hb112 hb212)
     have k10d : Kept ([N + 1, N + 1 + 1] ++ [d, b1, b2]) w10.drew w14.drew := hH.trans (kept_drew _ w14)
     have k10e : Kept ([N, N + 1, N + 1 + 1] ++ (K ++ [d, b1, b2])) w10.drew w14.drew := k10d.mono (fun k hk => (List.mem_append.1 hk).elim (fun h => List.mem_append.2 (.inl (List.mem_cons_of_mem _ h))) (fun h => List.mem_append.2 (.inr (List.mem_append.2 (.inr h)))))
     have hx14 : Bts w14.drew (K ++ [d, b1, b2]) (.slice a n cap) bs := (hx10.out.kept k10e (fun _ h => .inl h)).mono (fun x hx => List.mem_append.2 (.inr hx))
     have k8d : Kept ([N + 1, N + 1 + 1] ++ (K ++ [d, b1, b2])) w8 w14.drew := ((k89.mono (fun k hk => List.mem_append.2 (.inl hk))).trans (k910.mono (by simp))).trans (k10d.mono (fun k hk => (List.mem_append.1 hk).elim (fun h => List.mem_append.2 (.inl h)) (fun h => List.mem_append.2 (.inr (List.mem_append.2 (.inr h))))))
     have k0d : Kept ([N + 1, N + 1 + 1] ++ (K ++ [d, b1, b2])) W0.drew w14.drew := ((k05.mono (by simp)).trans (hk8.mono (fun k hk => List.mem_append.2 (.inr hk)))).trans k8d
     have hb014 : Blk w14.drew N 44 #[.int .i64 o, .int .i64 l] := hB0h.out.kept k0d hNY.out
     have hb114d := hb114.kept (kept_drew [] w14) (by simp)
     have hb214d := hb214.kept (kept_drew [] w14) (by simp)
     have kk : Kept (K ++ [d, b1, b2]) w w14.drew := g9.kept.youngs k8d (fun k hk => by rcases List.mem_append.1 hk with h | h; (simp at h; right; omega); exact .inl h)
     have hlo2 : N + 1 + 1 < (w10.drew.alloc (.cells #[.int .i64 t, .int .i64 o, .int .i64 l, .slice a n cap] 152)).heap.size := Nat.lt_of_lt_of_le (hbB.lt) kA.size
     have hown : ∀ k, (Value.slice sT nT cT).ownBlock = some k → N + 1 + 1 < k := fun k hk => Nat.lt_of_lt_of_le hlo2 (hT9.row.lt k hk).1
     have hownK : ∀ k, (Value.slice sT nT cT).ownBlock = some k → k ∉ [N + 1, N + 1 + 1] ++ (K ++ [d, b1, b2]) := fun k hk hm => by
      have h1 := hown k hk
      rcases List.mem_append.1 hm with h | h
      ·simp at h
       omega
      ·have := hKN.out k h
       omega
     have hc11 : Clean w11 [d, b1, b2] := (H10.out.kept0 kB).clean.mono (fun k hk => List.mem_append.2 (.inr hk))
     have hT12 := hT9.kept hk12 (fun k hk hm => hownK k hk (List.mem_append.2 (.inr (List.mem_append.2 (.inr hm))))) hc11
     have hT14 := hT12.kept k12d (fun k hk hm => hownK k hk (List.mem_append.2 (.inl hm))) (clean_two hb112 hb212)
     have hlow : w.heap.size ≤ (w10.drew.alloc (.cells #[.int .i64 t, .int .i64 o, .int .i64 l, .slice a n cap] 152)).heap.size := by omega
     replace hM14 : Hid (MiAt w14.drew lo m d b1 b2 K { M with d := storeS (heatD M o l) ⟨t, o, l, bs⟩, hot := heatH M o l }) := hM14
     replace hx14 : Hid (Bts w14.drew (K ++ [d, b1, b2]) (.slice a n cap) bs) := hx14
     clear hH hM12 hT9 hT12 hk12 hk9 kA kB hB1 H10 hx10 hS2 q9 q10 hc11
     have hmN : m ≠ N + 1 ∧ m ≠ N + 1 + 1 := by have := hKN.out m (List.mem_append.2 (.inl hM14.out.is)); omega
     by_cases hE20 : E2 = 0
     ·subst hE20
      obtain ⟨f, hcm, q11⟩ := add_to (M := { M with d := storeS (heatD M o l) ⟨t, o, l, bs⟩, hot := heatH M o l }) t o l a n cap bs h0 h1 (by omega) hp hgo.2.1 n1.out n2.out w14.drew hM14.out hx14.out hxl hF
      have hs14 : Six w14.drew N m (.pointer (some ⟨f, 0, none⟩)) (.slice sT nT cT) 0 o l := Six.of hb014 hb114d hb214d hcm
      have f1 := hb114.frozen 0
      go_wp2
      refine wp_region_noPanic ?_
      refine wp_region_held_drew (S := fun W => Six W N m (.pointer (some ⟨f, 0, none⟩)) (.slice sT nT cT) 0 o l) (by kernel_rfl) hs14 (fun hP => ?_)
      have hH := hP
      clear hP
      refine tI 0 ⟨some 53, _, _, _, _, _⟩ (.int .i64 ((0 : Nat) : Int)) rfl (fun W hSw => by obtain ⟨⟨s0, s1⟩, s2, s3, s4⟩ := hSw; go_simp) hH ?_
      refine tJ 1 ⟨some 54, _, _, _, _, _⟩ (.bool true) rfl hH ?_
      refine tJ 2 ⟨some 55, _, _, _, _, _⟩ (.bool true) rfl hH ?_
      refine tJ 3 ⟨some 56, _, _, _, _, _⟩ (.pointer (some ⟨m, 0, none⟩)) rfl hH ?_
      refine tJ 4 ⟨some 57, _, _, _, _, _⟩ (.pointer (some ⟨m, 0, none⟩)) rfl hH ?_
      refine tJ 5 ⟨some 58, _, _, _, _, _⟩ (.pointer (some ⟨m, 0, none⟩)) rfl hH ?_
      refine tJ 6 ⟨some 59, _, _, _, _, _⟩ (.pointer (some ⟨m, 0, none⟩)) rfl hH ?_
      refine tI 7 ⟨some 60, _, _, _, _, _⟩ (.pointer (some ⟨f, 0, none⟩)) rfl (fun W hSw => by obtain ⟨⟨s0, s1⟩, s2, s3, s4⟩ := hSw; go_simp) hH ?_
      refine tJ 8 ⟨some 61, _, _, _, _, _⟩ (.int .i64 t) rfl hH ?_
      refine tI 9 ⟨some 62, _, _, _, _, _⟩ (.agg #[.int .i64 o, .int .i64 l]) rfl (fun W hSw => by obtain ⟨⟨s0, s1⟩, s2, s3, s4⟩ := hSw; go_simp) hH ?_
      refine tJ 10 ⟨some 63, _, _, _, _, _⟩ (.slice a n cap) rfl hH ?_
      refine tI 13 ⟨some 66, _, _, _, _, _⟩ (.slice sT nT cT) rfl (fun W hSw => by obtain ⟨⟨s0, s1⟩, s2, s3, s4⟩ := hSw; go_simp) hH ?_
      refine tI 14 ⟨some 67, _, _, _, _, _⟩ (.int .i64 ((0 : Nat) : Int)) rfl (fun W hSw => by obtain ⟨⟨s0, s1⟩, s2, s3, s4⟩ := hSw; go_simp) hH ?_
      refine tC 11 (o := ⟨some 64, _, _, _, _, _⟩) rfl (fun K hK => ?_)
      go_simp
      refine (q11 w14.drew (Kept.refl _ _)).mono ?_
      rintro e w15 ⟨K2, rfl, hm15, g15⟩
      go_wp2_with fail
      refine hK.out _ _ (Six.of (hb014.kept g15.kept (fun h => hNY.out (List.mem_append.2 (.inr h)))) (hb114d.kept g15.kept hN1.out.1) (hb214d.kept g15.kept hN1.out.2) hm15) (fun hH => ?_)
      clear hK K
      have hb015 := hb014.kept g15.kept (fun h => hNY.out (List.mem_append.2 (.inr h)))
      have hb115 := hb114d.kept g15.kept hN1.out.1
      have hb215 := hb214d.kept g15.kept hN1.out.2
      refine tJ 12 ⟨some 65, _, _, _, _, _⟩ (.bool true) rfl hH ?_
      refine tJ 15 ⟨some 8, _, _, _, _, _⟩ (.bool true) rfl hH ?_
      refine tC 16 (o := ⟨none, _, _, _, _, _⟩) rfl (fun K hK => ?_)
      have f1 := hb115.frozen 0
      have c1 := (hb115.cell 0).trans (show _ = some (.slice sT nT cT) from rfl)
      obtain ⟨w16, hw16, a0, a1, a2, a3, k16⟩ := again_set (E := 0) (v := (.slice sT nT cT)) hb015 hb115 hb215 hm15 (.inl ⟨rfl, rfl⟩) hmN.1 hb115
      go_simp
      refine hK.out _ _ (Six.of a0 a1 a2 a3) (fun hH => ?_)
      clear hK K
      refine tC 17 (o := ⟨none, _, _, _, _, _⟩) rfl (fun K hK => ?_)
      have f2 := a2.frozen 0
      have c2 := (a2.cell 0).trans (show _ = some (.int .i64 ((0 : Nat) : Int)) from rfl)
      obtain ⟨w17, hw17, c0, cA, cB, c3, k17⟩ := again_set (E := 0) (v := (.slice sT nT cT)) a0 a1 a2 a3 (.inr ⟨rfl, rfl⟩) hmN.2 a2
      have hw17z : w16.setCell ⟨N + 1 + 1, 0, none⟩ (.int .i64 0) = w17 := hw17
      go_simp
      refine hK.out _ _ (Six.of c0 cA cB c3) (fun hH => ?_)
      clear hK K
      refine wpAnyH_done (by kernel_rfl) ?_ _
      refine NoPanic.normal ?_
      clear hH hs14
      go_wp2
      have k1517 : Kept [N + 1, N + 1 + 1] w15 w17 := (k16.mono (by simp)).trans (k17.mono (by simp))
      refine leaves_cons (f := 70) (args := #[.pointer (some ⟨N + 1, 0, none⟩), .pointer (some ⟨N + 1 + 1, 0, none⟩)]) (by simp) (by simp [go_sem]) ?_
      refine (look_deferred (N + 1) (N + 1 + 1) _ 0 .returning _ cA cB).mono ?_
      rintro e u' w'' ⟨rfl, rfl, hb, hk⟩
      have hK2 : ∀ k ∈ K2 ++ [d, b1, b2], k ∉ [N + 1, N + 1 + 1] := fun k hk hm => by
       simp only [List.mem_cons, List.not_mem_nil, or_false] at hm
       rcases hm with rfl | rfl
       ·exact g15.apart hb114d.lt hN1.out.1 hk
       ·exact g15.apart hb214d.lt hN1.out.2 hk
      have k15e := k1517.trans (hk.mono (L' := [N + 1, N + 1 + 1]) (by simp))
      have hG := goes_back hb115 hb215 hN ((Goes.of hM14.out kk).trans g15) hK2 k15e
      have hT := ((hT14.kept g15.kept (fun k hk hm => hownK k hk (List.mem_append.2 (.inr hm))) hM14.out.clean).kept k15e (fun k hk hm => hownK k hk (List.mem_append.2 (.inl hm))) (clean_two hb115 hb215)).low hlow
      rw [if_pos rfl] at hb
      have eE : wrE M ⟨t, o, l, bs⟩ = 0 := by simp only [wrE, ha.out, hfr.out, hE.out, hE2.out]; simp
      have eB : wrB M ⟨t, o, l, bs⟩ = true := by simp only [wrB, eE, ha.out, hfr.out]; simp
      have eS : wrS M ⟨t, o, l, bs⟩ = { M with d := storeS (heatD M o l) ⟨t, o, l, bs⟩, hot := heatH M o l, fly := Flight.addL M.fly t o l bs } := by simp only [wrS, ha.out, hfr.out, hE.out, hE2.out]; simp
      have eO : wrO M ⟨t, o, l, bs⟩ = [msgOf 2 ⟨t, o, l, bs⟩] := by simp [wrO, eB]
      rw [eE, eB, eS, eO]
      exact ⟨_, results_three rfl _ _ (N + 1) (N + 1 + 1) _ _ _ rfl rfl rfl hb (cB.kept hk (by simp)), .slice sT nT cT, Q9, K2, rfl, hT, hG⟩
     ·have hE2n : ¬ ((E2 : Int) = 0) := by omega
      obtain ⟨f, hcm⟩ : ∃ f, w14.drew.cell? ⟨m, 0, none⟩ = some (.pointer (some ⟨f, 0, none⟩)) := by
       obtain ⟨f, _, _, _, _, _, _, _, _, H⟩ := hM14.out
       exact ⟨f, H.five.1⟩
      have hs14 : Six w14.drew N m (.pointer (some ⟨f, 0, none⟩)) (.slice sT nT cT) E2 o l := Six.of hb014 hb114d hb214d hcm
      have f1 := hb114.frozen 0
      go_wp2
      refine wp_region_noPanic ?_
      refine wp_region_held_drew (S := fun W => Six W N m (.pointer (some ⟨f, 0, none⟩)) (.slice sT nT cT) E2 o l) (by kernel_rfl) hs14 (fun hP => ?_)
      have hH := hP
      clear hP
      refine tI 0 ⟨some 53, _, _, _, _, _⟩ (.int .i64 ((E2 : Nat) : Int)) rfl (fun W hSw => by obtain ⟨⟨s0, s1⟩, s2, s3, s4⟩ := hSw; go_simp) hH ?_
      refine tI 1 ⟨some 54, _, _, _, _, _⟩ (.bool false) rfl (fun W hSw => by have hz := hE2n; go_simp) hH ?_
      refine tJ 2 ⟨some 55, _, _, _, _, _⟩ (.bool false) rfl hH ?_
      refine tO 3 ⟨some 56, _, _, _, _, _⟩ rfl hH ?_
      refine tO 4 ⟨some 57, _, _, _, _, _⟩ rfl hH ?_
      refine tO 5 ⟨some 58, _, _, _, _, _⟩ rfl hH ?_
      refine tO 6 ⟨some 59, _, _, _, _, _⟩ rfl hH ?_
      refine tO 7 ⟨some 60, _, _, _, _, _⟩ rfl hH ?_
      refine tO 8 ⟨some 61, _, _, _, _, _⟩ rfl hH ?_
      refine tO 9 ⟨some 62, _, _, _, _, _⟩ rfl hH ?_
      refine tO 10 ⟨some 63, _, _, _, _, _⟩ rfl hH ?_
      refine tO 11 ⟨some 64, _, _, _, _, _⟩ rfl hH ?_
      refine tJ 12 ⟨some 65, _, _, _, _, _⟩ (.bool false) rfl hH ?_
      refine tI 13 ⟨some 66, _, _, _, _, _⟩ (.slice sT nT cT) rfl (fun W hSw => by obtain ⟨⟨s0, s1⟩, s2, s3, s4⟩ := hSw; go_simp) hH ?_
      refine tI 14 ⟨some 67, _, _, _, _, _⟩ (.int .i64 ((E2 : Nat) : Int)) rfl (fun W hSw => by obtain ⟨⟨s0, s1⟩, s2, s3, s4⟩ := hSw; go_simp) hH ?_
      refine tJ 15 ⟨some 8, _, _, _, _, _⟩ (.bool false) rfl hH ?_
      refine tC 16 (o := ⟨none, _, _, _, _, _⟩) rfl (fun K hK => ?_)
      have f1 := hb114d.frozen 0
      have c1 := (hb114d.cell 0).trans (show _ = some (.slice sT nT cT) from rfl)
      obtain ⟨w16, hw16, a0, a1, a2, a3, k16⟩ := again_set (E := E2) (v := (.slice sT nT cT)) hb014 hb114d hb214d hcm (.inl ⟨rfl, rfl⟩) hmN.1 hb114d
      go_simp
      refine hK.out _ _ (Six.of a0 a1 a2 a3) (fun hH => ?_)
      clear hK K
      refine tC 17 (o := ⟨none, _, _, _, _, _⟩) rfl (fun K hK => ?_)
      have f2 := a2.frozen 0
      have c2 := (a2.cell 0).trans (show _ = some (.int .i64 ((E2 : Nat) : Int)) from rfl)
      obtain ⟨w17, hw17, c0, cA, cB, c3, k17⟩ := again_set (E := E2) (v := (.slice sT nT cT)) a0 a1 a2 a3 (.inr ⟨rfl, rfl⟩) hmN.2 a2
      go_simp
      refine hK.out _ _ (Six.of c0 cA cB c3) (fun hH => ?_)
      clear hK K
      refine wpAnyH_done (by kernel_rfl) ?_ _
      refine NoPanic.normal ?_
      clear hH hs14
      go_wp2
      have k1517 : Kept [N + 1, N + 1 + 1] w14.drew w17 := (k16.mono (by simp)).trans (k17.mono (by simp))
      refine leaves_cons (f := 70) (args := #[.pointer (some ⟨N + 1, 0, none⟩), .pointer (some ⟨N + 1 + 1, 0, none⟩)]) (by simp) (by simp [go_sem]) ?_
      refine (look_deferred (N + 1) (N + 1 + 1) _ E2 .returning _ cA cB).mono ?_
      rintro e u' w'' ⟨rfl, rfl, hb, hk⟩
      have hG := goes_back hb114d hb214d hN (Goes.of hM14.out kk) hKn (k1517.trans (hk.mono (L' := [N + 1, N + 1 + 1]) (by simp)))
      rw [if_neg hE20] at hb
      have eE : wrE M ⟨t, o, l, bs⟩ = E2 := by simp only [wrE, ha.out, hfr.out, hE.out, hE2.out]; simp
      have eB : wrB M ⟨t, o, l, bs⟩ = false := by simp [wrB, eE, hE20]
      have eS : wrS M ⟨t, o, l, bs⟩ = { M with d := storeS (heatD M o l) ⟨t, o, l, bs⟩, hot := heatH M o l } := by simp only [wrS, ha.out, hfr.out, hE.out, hE2.out]; simp [hE20]
      have eO : wrO M ⟨t, o, l, bs⟩ = [] := by simp [wrO, eB]
      rw [eE, eB, eS, eO]
      exact ⟨_, results_three rfl _ _ (N + 1) (N + 1 + 1) _ _ _ rfl rfl rfl hb (cB.kept hk (by simp)), .slice none 0 0, [], K, rfl, Told.nil _ _, hG⟩
    ·have hE1 : ¬ ((E : Int) = 0) := by omega
     go_wp2
     obtain ⟨V, hV, v1, v2, kV⟩ := early hb19 hb29 (.slice none 0 0) (.int .i64 (E : Int))
     rw [hV]
     refine leaves_cons (f := 70) (args := #[.pointer (some ⟨N + 1, 0, none⟩), .pointer (some ⟨N + 1 + 1, 0, none⟩)]) (by simp) (by simp [go_sem]) ?_
     refine (look_deferred (N + 1) (N + 1 + 1) _ E .returning _ v1 v2).mono ?_
     rintro e u' w'' ⟨rfl, rfl, hb, hk⟩
     have hG := goes_back hg18 hg28 hN g9 hKn ((k89.trans kV).trans (hk.mono (by simp)))
     rw [if_neg hE0] at hb
     have eE : wrE M ⟨t, o, l, bs⟩ = E := by simp only [wrE, ha.out, hfr.out, hE.out, hE0]; simp
     have eB : wrB M ⟨t, o, l, bs⟩ = false := by simp [wrB, eE, hE0]
     have eS : wrS M ⟨t, o, l, bs⟩ = { M with d := heatD M o l, hot := heatH M o l } := by simp [wrS, ha.out, hfr.out, hE.out, hE0]
     have eO : wrO M ⟨t, o, l, bs⟩ = [] := by simp [wrO, eB]
     rw [eE, eB, eS, eO]
     exact ⟨_, results_three rfl _ _ (N + 1) (N + 1 + 1) _ _ _ rfl rfl rfl hb (v2.kept hk (by simp)), .slice none 0 0, [], K, rfl, Told.nil _ _, hG⟩
end Go.Proofs.YtoaeficfmcncjaaGreat.Mirror
