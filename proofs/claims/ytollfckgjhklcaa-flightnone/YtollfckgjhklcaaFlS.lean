/-
  The walk of FlightNone.
-/
import Derived.Test.YtollfckgjhklcaaFlQ
namespace Go.Proofs.Ytollfckgjhklcaa.Flight
open Go.RowKit Go.Maps Go.Sort

set_option maxRecDepth 100000 in
set_option maxHeartbeats 4000000 in
/-- FlightNone -/
theorem none_walk (k t n o l : Int) (sa : Option Addr) (len cap : Nat) (w : World) :
    Calls Try.prog 4 #[.agg #[.int .i64 k, .int .i64 t, .int .i64 n, .int .i64 o, .int .i64 l, .slice sa len cap]] w fun e w' => e = .returned (.bool true) ∧ Kept [] w w' := by
  have k1 := kept_alloc [] w (.cells #[.int .i64 k, .int .i64 t, .int .i64 n, .int .i64 o, .int .i64 l, .slice sa len cap] 30)
  have hb1 := blk_new w 30 #[.int .i64 k, .int .i64 t, .int .i64 n, .int .i64 o, .int .i64 l, .slice sa len cap]
  have k2 := kept_alloc [] (w.alloc (.cells #[.int .i64 k, .int .i64 t, .int .i64 n, .int .i64 o, .int .i64 l, .slice sa len cap] 30)) (.cells #[.pointer none, .map none] 45)
  have hb2 := blk_new (w.alloc (.cells #[.int .i64 k, .int .i64 t, .int .i64 n, .int .i64 o, .int .i64 l, .slice sa len cap] 30)) 45 #[.pointer none, .map none]
  rw [World.size_alloc] at hb2
  have k3 := kept_alloc [] ((w.alloc (.cells #[.int .i64 k, .int .i64 t, .int .i64 n, .int .i64 o, .int .i64 l, .slice sa len cap] 30)).alloc (.cells #[.pointer none, .map none] 45)) (.cells #[.pointer none, .pointer (some ⟨w.heap.size + 1, 0, none⟩)] 25)
  have hb3 := blk_new ((w.alloc (.cells #[.int .i64 k, .int .i64 t, .int .i64 n, .int .i64 o, .int .i64 l, .slice sa len cap] 30)).alloc (.cells #[.pointer none, .map none] 45)) 25 #[.pointer none, .pointer (some ⟨w.heap.size + 1, 0, none⟩)]
  rw [World.size_alloc, World.size_alloc] at hb3
  replace hb1 := (hb1.kept k2 (by simp)).kept k3 (by simp)
  replace hb2 := hb2.kept k3 (by simp)
  have k0 := (k1.trans k2).trans k3
  clear k1 k2 k3
  obtain ⟨W0, hW⟩ : ∃ W0, ((w.alloc (.cells #[.int .i64 k, .int .i64 t, .int .i64 n, .int .i64 o, .int .i64 l, .slice sa len cap] 30)).alloc (.cells #[.pointer none, .map none] 45)).alloc (.cells #[.pointer none, .pointer (some ⟨w.heap.size + 1, 0, none⟩)] 25) = W0 := ⟨_, rfl⟩
  rw [hW] at hb1 hb2 hb3 k0
  go_enter Try.func4, Try.ntmps4
  go_wp2_with fail
  clear hW
  go_loopw [13] (fun i wr => ∃ j : Nat, j ≤ 2 ∧ i = .int .i64 j ∧ Kept [] W0 wr) (fun i _ => 2 - (RowKit.intOf i).toNat)
  case atStart => exact ⟨0, by omega, rfl, Kept.refl _ _⟩
  case round =>
    obtain ⟨j, hj, rfl, hk⟩ := hrel
    by_cases hlt : j < 2
    · obtain ⟨p, hp, hN⟩ : ∃ p, wr.cell? ⟨w.heap.size + 2, j, none⟩ = some (.pointer p) ∧ NoFl wr p := by
        have hc := (hb3.kept hk (by simp)).cell j
        rcases (by omega : j = 0 ∨ j = 1) with rfl | rfl
        · exact ⟨none, hc, .inl rfl⟩
        · exact ⟨_, hc, .inr ⟨_, rfl, hb2.kept hk (by simp)⟩⟩
      have i1 : (j : Int) < 2 := by omega
      have hm1 : Hid (2 - (j + 1) < 2 - j) := by show _ < _; omega
      have cc : Hid (∀ V, Kept [] wr V → V.cell? ⟨w.heap.size, 1, none⟩ = some (.int .i64 t) ∧ V.cell? ⟨w.heap.size, 2, none⟩ = some (.int .i64 n) ∧ V.cell? ⟨w.heap.size, 3, none⟩ = some (.int .i64 o) ∧ V.cell? ⟨w.heap.size, 4, none⟩ = some (.int .i64 l) ∧ V.cell? ⟨w.heap.size, 5, none⟩ = some (.slice sa len cap)) := fun V hv => by
        have hb := (hb1.kept hk (by simp)).kept hv (by simp)
        exact ⟨(hb.cell 1).trans rfl, (hb.cell 2).trans rfl, (hb.cell 3).trans rfl, (hb.cell 4).trans rfl, (hb.cell 5).trans rfl⟩
      obtain ⟨c1, c2, c3, c4, c5⟩ := cc.out wr (Kept.refl _ _)
      have hNh : Hid (∀ V, Kept [] wr V → NoFl V p) := fun V hv => hN.kept hv
      have qg := get_none p t wr hN
      clear hb1 hb2 hb3 hN
      go_wp2_with (first
        | (go_at_call 10; refine qg.mono ?_; rintro e w1 ⟨y, rfl, hk1⟩; have ka := kept_alloc [] w1 (.cells #[.int .i64 y.t, .int .i64 y.o, .int .i64 y.l, .slice y.sa y.len y.cap, .int .i64 y.st] 36); have hr2 := hk1.trans ka; unfold Fv.val; obtain ⟨e1, e2, e3, e4, e5⟩ := cc.out _ hr2; have qa := add_none p t o l sa len cap _ (hNh.out _ hr2); clear c1 c2 c3 c4 c5)
        | (go_at_call 8; refine qa.mono ?_; rintro e w3 ⟨rfl, hk3⟩; have hr3 := hr2.trans hk3; obtain ⟨f1, f2, f3, f4, f5⟩ := cc.out _ hr3; have qt := turn_none p t n _ (hNh.out _ hr3))
        | (go_at_call 11; refine qt.mono ?_; rintro e w4 ⟨rfl, hk4⟩; have hr4 := hr3.trans hk4; obtain ⟨g1, g2, g3, g4, g5⟩ := cc.out _ hr4; have qe := end_none p t _ (hNh.out _ hr4))
        | (go_at_call 7; refine qe.mono ?_; rintro e w5 ⟨rfl, hk5⟩; have hr5 := hr4.trans hk5; obtain ⟨h1, h2, h3, h4, h5⟩ := cc.out _ hr5; have qb := busy_none p o l _ (hNh.out _ hr5))
        | (go_at_call 12; refine qb.mono ?_; rintro e w6 ⟨rfl, hk6⟩; have hr6 := hr5.trans hk6; have ql := list_none p _ (hNh.out _ hr6); have qo := own_none p _ (hNh.out _ hr6); have qn := len_none p _ (hNh.out _ hr6); have qx := extents_none p _ (hNh.out _ hr6))
        | (go_at_call 9; refine ql.mono ?_; rintro e w6 ⟨rfl, rfl⟩)
        | (go_at_call 13; refine qo.mono ?_; rintro e w6 ⟨rfl, rfl⟩)
        | (go_at_call 14; refine qn.mono ?_; rintro e w6 ⟨rfl, rfl⟩)
        | (go_at_call 15; refine qx.mono ?_; rintro e w6 ⟨rfl, rfl⟩))
      go_roundw
      case rel => exact ⟨j + 1, by omega, by go_num, hk.trans hr6⟩
      case measure => simpa [RowKit.intOf] using hm1.out
    · obtain rfl : j = 2 := by omega
      have q := lives_any wr
      clear hb1 hb2 hb3
      go_wp2_with (go_at_call 5; refine q.mono ?_; rintro e w1 ⟨rfl, hk1⟩)
      go_ret
      exact ⟨rfl, (k0.trans hk).trans hk1⟩
end Go.Proofs.Ytollfckgjhklcaa.Flight
