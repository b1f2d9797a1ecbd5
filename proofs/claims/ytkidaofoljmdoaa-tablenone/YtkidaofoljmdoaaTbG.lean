/-
  A table that no call made; TableNone's walk.
-/
import Derived.Test.YtkidaofoljmdoaaTbF
namespace Go.Proofs.Ytkidaofoljmdoaa.Table
open Go.RowKit

/-- No table: nil, or one of noughts. -/
def NoTab (W : World) (p : Option Addr) : Prop := p = none ∨ ∃ g, p = some ⟨g, 0, none⟩ ∧ Blk W g 55 #[.int .i64 0, .map none]
theorem NoTab.kept {A B : World} {p : Option Addr} (h : NoTab A p) (hk : Kept [] A B) : NoTab B p := by
  rcases h with h | ⟨g, h1, h2⟩
  · exact .inl h
  · exact .inr ⟨g, h1, h2.kept hk (by simp)⟩
set_option maxRecDepth 100000 in
/-- made -/
theorem made_none (p : Option Addr) (w : World) (h : NoTab w p) : Calls Try.prog 21 #[.pointer p] w fun e w' => e = .returned (.bool false) ∧ w' = w := by
  rcases h with rfl | ⟨g, rfl, hb⟩
  · go_enter Try.func21, Try.ntmps21
    go_wp2
    go_ret
    exact ⟨rfl, rfl⟩
  · have c0 := hb.cell 0
    go_enter Try.func21, Try.ntmps21
    go_wp2
    go_ret
    exact ⟨rfl, rfl⟩
set_option maxRecDepth 100000 in
theorem has_none (p : Option Addr) (k : Int) (w : World) (h : NoTab w p) : Calls Try.prog 22 #[.pointer p, .int .i64 k] w fun e w' => e = .returned (.bool false) ∧ w' = w := by
  have q := made_none p w h
  go_enter Try.func22, Try.ntmps22
  go_wp2_with (go_at_call 21; refine q.mono ?_; rintro e w' ⟨rfl, rfl⟩)
  go_ret
  exact ⟨rfl, rfl⟩
set_option maxRecDepth 100000 in
theorem len_none (p : Option Addr) (w : World) (h : NoTab w p) : Calls Try.prog 16 #[.pointer p] w fun e w' => e = .returned (.int .i64 0) ∧ w' = w := by
  have q := made_none p w h
  go_enter Try.func16, Try.ntmps16
  go_wp2_with (go_at_call 21; refine q.mono ?_; rintro e w' ⟨rfl, rfl⟩)
  go_ret
  exact ⟨rfl, rfl⟩
set_option maxRecDepth 100000 in
theorem tickets_none (p : Option Addr) (w : World) (h : NoTab w p) : Calls Try.prog 19 #[.pointer p] w fun e w' => e = .returned (.slice none 0 0) ∧ w' = w := by
  have q := made_none p w h
  go_enter Try.func19, Try.ntmps19
  go_wp2_with (go_at_call 21; refine q.mono ?_; rintro e w' ⟨rfl, rfl⟩)
  go_ret
  exact ⟨rfl, rfl⟩
set_option maxRecDepth 100000 in
theorem remove_none (p : Option Addr) (k : Int) (w : World) (h : NoTab w p) : Calls Try.prog 11 #[.pointer p, .int .i64 k] w fun e w' => e = .returned (.bool false) ∧ w' = w := by
  have q := has_none p k w h
  go_enter Try.func11, Try.ntmps11
  go_wp2_with (go_at_call 22; refine q.mono ?_; rintro e w' ⟨rfl, rfl⟩)
  go_ret
  exact ⟨rfl, rfl⟩
set_option maxRecDepth 100000 in
theorem add_none (p : Option Addr) (k a b c : Int) (sa : Option Addr) (len cap : Nat) (w : World) (h : NoTab w p) : Calls Try.prog 9 #[.pointer p, .int .i64 k, .agg #[.int .i64 a, .int .i64 b, .int .i64 c, .slice sa len cap]] w fun e w' => e = .returned (.int .i64 1) ∧ Kept [] w w' := by
  have ka := kept_alloc [] w (.cells #[.int .i64 a, .int .i64 b, .int .i64 c, .slice sa len cap] 35)
  have q := made_none p _ (h.kept ka)
  go_enter Try.func9, Try.ntmps9
  go_wp2_with (go_at_call 21; refine q.mono ?_; rintro e w' ⟨rfl, rfl⟩)
  go_ret
  exact ⟨rfl, ka⟩
set_option maxRecDepth 100000 in
theorem get_none (p : Option Addr) (k : Int) (w : World) (h : NoTab w p) : Calls Try.prog 13 #[.pointer p, .int .i64 k] w fun e w' => e = .returned (.tuple #[.agg #[.int .i64 0, .int .i64 0, .int .i64 0, .slice none 0 0], .bool false]) ∧ Kept [] w w' := by
  have ka := kept_alloc [] w (.cells #[.int .i64 0, .int .i64 0, .int .i64 0, .slice none 0 0] 35)
  have hb0 := blk_new w 35 #[.int .i64 0, .int .i64 0, .int .i64 0, .slice none 0 0]
  have q := has_none p k _ (h.kept ka)
  go_enter Try.func13, Try.ntmps13
  go_wp2_with (first
    | (go_at_call 22; refine q.mono ?_; rintro e w1 ⟨rfl, rfl⟩)
    | (refine wpList_store_blk rfl 35 _ _ rfl w.heap.size 35 _ [.int .i64 0, .int .i64 0, .int .i64 0, .slice none 0 0] rfl rfl hb0 rfl Try.sizeQ (by simp [Value.oneCell']) ?_; intro w2 hb2 hk2 hz2))
  refine bodyPost_ret (results_req rfl _ _ w.heap.size _ rfl hb2 rfl) rfl ⟨rfl, ?_⟩
  exact ka.young hk2 (Nat.le_refl _)
set_option maxRecDepth 100000 in
theorem full_none (p : Option Addr) (w : World) (h : NoTab w p) : Calls Try.prog 17 #[.pointer p] w fun e w' => e = .returned (.bool false) ∧ Kept [] w w' := by
  have q := fun n => made_none p (w.drewN n) (h.kept (kept_drewN [] w n))
  go_enter Try.func17, Try.ntmps17
  go_wp2_with fail
  go_quiet (first | (go_at_call_of 21 (#[.pointer p] : Array Value); exact Calls.quiet_of_same (q _)))
  go_wp2_with fail
  go_ret
  exact ⟨rfl, kept_drewN [] _ _⟩
set_option maxRecDepth 100000 in
set_option maxHeartbeats 2000000 in
/-- TableNone -/
theorem none_walk (kd t a b c : Int) (sa : Option Addr) (len cap : Nat) (w : World) :
    Calls Try.prog 5 #[.agg #[.int .i64 kd, .int .i64 t, .int .i64 a, .int .i64 b, .int .i64 c, .slice sa len cap]] w fun e w' => e = .returned (.bool true) ∧ Kept [] w w' := by
  have k1 := kept_alloc [] w (.cells #[.int .i64 kd, .int .i64 t, .int .i64 a, .int .i64 b, .int .i64 c, .slice sa len cap] 37)
  have hb1 := blk_new w 37 #[.int .i64 kd, .int .i64 t, .int .i64 a, .int .i64 b, .int .i64 c, .slice sa len cap]
  have k2 := kept_alloc [] (w.alloc (.cells #[.int .i64 kd, .int .i64 t, .int .i64 a, .int .i64 b, .int .i64 c, .slice sa len cap] 37)) (.cells #[.int .i64 0, .map none] 55)
  have hb2 := blk_new (w.alloc (.cells #[.int .i64 kd, .int .i64 t, .int .i64 a, .int .i64 b, .int .i64 c, .slice sa len cap] 37)) 55 #[.int .i64 0, .map none]
  rw [World.size_alloc] at hb2
  have k3 := kept_alloc [] ((w.alloc (.cells #[.int .i64 kd, .int .i64 t, .int .i64 a, .int .i64 b, .int .i64 c, .slice sa len cap] 37)).alloc (.cells #[.int .i64 0, .map none] 55)) (.cells #[.pointer none, .pointer (some ⟨w.heap.size + 1, 0, none⟩)] 24)
  have hb3 := blk_new ((w.alloc (.cells #[.int .i64 kd, .int .i64 t, .int .i64 a, .int .i64 b, .int .i64 c, .slice sa len cap] 37)).alloc (.cells #[.int .i64 0, .map none] 55)) 24 #[.pointer none, .pointer (some ⟨w.heap.size + 1, 0, none⟩)]
  rw [World.size_alloc, World.size_alloc] at hb3
  replace hb1 := (hb1.kept k2 (by simp)).kept k3 (by simp)
  replace hb2 := hb2.kept k3 (by simp)
  have k0 := (k1.trans k2).trans k3
  clear k1 k2 k3
  obtain ⟨W0, hW⟩ : ∃ W0, ((w.alloc (.cells #[.int .i64 kd, .int .i64 t, .int .i64 a, .int .i64 b, .int .i64 c, .slice sa len cap] 37)).alloc (.cells #[.int .i64 0, .map none] 55)).alloc (.cells #[.pointer none, .pointer (some ⟨w.heap.size + 1, 0, none⟩)] 24) = W0 := ⟨_, rfl⟩
  rw [hW] at hb1 hb2 hb3 k0
  go_enter Try.func5, Try.ntmps5
  go_wp2_with fail
  clear hW
  go_loopw [13] (fun i wr => ∃ j : Nat, j ≤ 2 ∧ i = .int .i64 j ∧ Kept [] W0 wr) (fun i _ => 2 - (RowKit.intOf i).toNat)
  case atStart => exact ⟨0, by omega, rfl, Kept.refl _ _⟩
  case round =>
    obtain ⟨j, hj, rfl, hk⟩ := hrel
    by_cases hlt : j < 2
    · obtain ⟨p, hp, hN⟩ : ∃ p, wr.cell? ⟨w.heap.size + 2, j, none⟩ = some (.pointer p) ∧ NoTab wr p := by
        have hc := (hb3.kept hk (by simp)).cell j
        rcases (by omega : j = 0 ∨ j = 1) with rfl | rfl
        · exact ⟨none, hc, .inl rfl⟩
        · exact ⟨_, hc, .inr ⟨_, rfl, hb2.kept hk (by simp)⟩⟩
      have i1 : (j : Int) < 2 := by omega
      have hm1 : Hid (2 - (j + 1) < 2 - j) := by show _ < _; omega
      have fA : ∀ W, Kept [] wr W → W.cell? ⟨w.heap.size, 1, none⟩ = some (.int .i64 t) ∧ W.cell? ⟨w.heap.size, 2, none⟩ = some (.int .i64 a) ∧ W.cell? ⟨w.heap.size, 3, none⟩ = some (.int .i64 b) ∧ W.cell? ⟨w.heap.size, 4, none⟩ = some (.int .i64 c) ∧ W.cell? ⟨w.heap.size, 5, none⟩ = some (.slice sa len cap) := fun W h =>
        have g := (hb1.kept hk (by simp)).kept h (by simp)
        ⟨g.cell 1, g.cell 2, g.cell 3, g.cell 4, g.cell 5⟩
      obtain ⟨c1, c2, c3, c4, c5⟩ := fA wr (Kept.refl _ _)
      have qg := get_none p t wr hN
      replace fA : Hid _ := fA
      clear hb1 hb2 hb3
      go_wp2_with (first
        | (go_at_call 13; refine qg.mono ?_; rintro e w1 ⟨rfl, hk1⟩; have kA := kept_alloc [] w1 (.cells #[.int .i64 0, .int .i64 0, .int .i64 0, .slice none 0 0] 35); have hx := blk_new w1 35 #[.int .i64 0, .int .i64 0, .int .i64 0, .slice none 0 0]; have hkA := hk1.trans kA; obtain ⟨d1, d2, d3, d4, d5⟩ := fA.out _ hkA; have qa := add_none p t a b c sa len cap _ (hN.kept hkA))
        | (go_at_call 9; refine qa.mono ?_; rintro e w2 ⟨rfl, hk2⟩; have hkB := hkA.trans hk2; obtain ⟨e1, e2, e3, e4, e5⟩ := fA.out _ hkB; have qr := remove_none p t w2 (hN.kept hkB); have qal := alike_any q0 q0 0 0 0 0 w2 (q0_at _ _ _) (Nat.zero_le _) (q0_at _ _ _) (Nat.zero_le _) rfl; have x0 := (hx.kept hk2 (by simp)).cell 0; have x1 := (hx.kept hk2 (by simp)).cell 1; have x2 := (hx.kept hk2 (by simp)).cell 2; have x3 := (hx.kept hk2 (by simp)).cell 3; unfold Qv.val q0 at qal)
        | (go_at_call 11; refine qr.mono ?_; rintro e w2 ⟨rfl, rfl⟩)
        | (go_at_call 15; refine qal.mono ?_; rintro e w3 ⟨rfl, hk3⟩; have hkC := hkB.trans hk3; have qf := full_none p w3 (hN.kept hkC))
        | (go_at_call 17; refine qf.mono ?_; rintro e w4 ⟨rfl, hk4⟩; have hkD := hkC.trans hk4; have ql := len_none p w4 (hN.kept hkD); have qt := tickets_none p w4 (hN.kept hkD))
        | (go_at_call 16; refine ql.mono ?_; rintro e w4 ⟨rfl, rfl⟩)
        | (go_at_call 19; refine qt.mono ?_; rintro e w4 ⟨rfl, rfl⟩))
      go_roundw
      case rel => exact ⟨j + 1, by omega, by go_num, hk.trans hkD⟩
      case measure => simpa [RowKit.intOf] using hm1.out
    · obtain rfl : j = 2 := by omega
      have q := lives_any wr
      clear hb1 hb2 hb3
      go_wp2_with (go_at_call 6; refine q.mono ?_; rintro e w1 ⟨rfl, hk1⟩)
      go_ret
      exact ⟨rfl, (k0.trans hk).trans hk1⟩
end Go.Proofs.Ytkidaofoljmdoaa.Table
