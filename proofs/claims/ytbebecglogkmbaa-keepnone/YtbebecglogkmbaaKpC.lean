/-
  Bools that came in; the walks of KeepWaits and KeepNone.
-/
import Derived.Test.YtbebecglogkmbaaKpB
namespace Go.Proofs.Ytbebecglogkmbaa.Keep
open Go.RowKit

/-- The slice holds the bools bs, in a block below n where there is one. -/
def BoolsAt (n : Nat) (W : World) (a : Option Addr) (len : Nat) (bs : List Bool) : Prop :=
  bs.length = len ∧ (len = 0 ∨ ∃ b off, a = some ⟨b, off, none⟩ ∧ b < n ∧ ∀ j, j < len → W.cell? ⟨b, off + j, none⟩ = some (.bool (bs[j]?.getD false)))
theorem BoolsAt.kept {n : Nat} {A B : World} {a : Option Addr} {len : Nat} {bs : List Bool} (h : BoolsAt n A a len bs) (hk : Kept [] A B) (hn : n ≤ A.heap.size) : BoolsAt n B a len bs :=
  ⟨h.1, h.2.imp id fun ⟨b, off, e, hb, hc⟩ => ⟨b, off, e, hb, fun j hj => (World.cell?_of_block (hk.block b (by omega) (by simp))).trans (hc j hj)⟩⟩
/-- What lies at a place. -/
theorem BoolsAt.at {n : Nat} {W : World} {a : Option Addr} {len : Nat} {bs : List Bool} (h : BoolsAt n W a len bs) {j : Nat} (hj : j < len) : ∃ b off x, a = some ⟨b, off, none⟩ ∧ W.cell? ⟨b, off + j, none⟩ = some (.bool x) := by
  rcases h.2 with e | ⟨b, off, e, _, hc⟩
  · omega
  · exact ⟨b, off, _, e, hc j hj⟩

set_option maxRecDepth 100000 in
/-- KeepNone, of more than it plays -/
theorem none_early (a : Option Addr) (len cap : Nat) (w : World) (h : 300 < len) :
    Calls Try.prog 5 #[.slice a len cap] w fun e w' => e = .returned (.bool true) ∧ Kept [] w w' := by
  have i1 : (300 : Int) < (len : Int) := by omega
  have q := lives_any w
  go_enter Try.func5, Try.ntmps5
  go_wp2_with (go_at_call 6; refine q.mono ?_; rintro e w1 ⟨rfl, hk1⟩)
  go_ret
  exact ⟨rfl, hk1⟩
set_option maxRecDepth 100000 in
/-- KeepActs, of more than it plays -/
theorem acts_early (p : Int) (a : Option Addr) (len cap : Nat) (w : World) (h : 300 < len) :
    Calls Try.prog 3 #[.int .i64 p, .slice a len cap] w fun e w' => e = .returned (.bool true) ∧ Kept [] w w' := by
  have i1 : (300 : Int) < (len : Int) := by omega
  have q := lives_any w
  go_enter Try.func3, Try.ntmps3
  go_wp2_with (go_at_call 6; refine q.mono ?_; rintro e w1 ⟨rfl, hk1⟩)
  go_ret
  exact ⟨rfl, hk1⟩
set_option maxRecDepth 100000 in
/-- KeepWaits, of a patience that may not be -/
theorem waits_bad (p : Int) (hp : p < 1 ∨ 100 < p) (a : Option Addr) (len cap : Nat) (w : World) :
    Calls Try.prog 4 #[.int .i64 p, .slice a len cap] w fun e w' => e = .returned (.bool true) ∧ Kept [] w w' := by
  have qn := new_bad p hp w
  have q := lives_any w
  go_enter Try.func4, Try.ntmps4
  go_wp2_with (first
    | (go_at_call 7; refine qn.mono ?_; rintro e w ⟨rfl, rfl⟩)
    | (go_at_call 6; refine q.mono ?_; rintro e w1 ⟨rfl, hk1⟩))
  go_ret
  exact ⟨rfl, hk1⟩
set_option maxRecDepth 100000 in
/-- KeepWaits, of more than it plays -/
theorem waits_early (P : Nat) (h1 : 1 ≤ P) (h2 : P ≤ 100) (a : Option Addr) (len cap : Nat) (h : 300 < len) (w : World) :
    Calls Try.prog 4 #[.int .i64 (P : Int), .slice a len cap] w fun e w' => e = .returned (.bool true) ∧ Kept [] w w' := by
  have i1 : (300 : Int) < (len : Int) := by omega
  have qn := new_good P h1 h2 w
  have q := fun W => lives_any W
  go_enter Try.func4, Try.ntmps4
  go_wp2_with (first
    | (go_at_call 7; refine qn.mono ?_; rintro e w1 ⟨rfl, g1, hs1, hk1⟩)
    | (go_at_call 6; refine (q _).mono ?_; rintro e w2 ⟨rfl, hk2⟩))
  go_ret
  exact ⟨rfl, hk1.trans hk2⟩
set_option maxRecDepth 100000 in
/-- KeepNone -/
theorem none_play (a : Option Addr) (len cap : Nat) (bs : List Bool) (hl : len ≤ 300) (w : World) (hz : BoolsAt w.heap.size w a len bs) :
    Calls Try.prog 5 #[.slice a len cap] w fun e w' => e = .returned (.bool true) ∧ Kept [] w w' := by
  have i0 : ¬ ((300 : Int) < (len : Int)) := by omega
  have k1 := kept_alloc [] w (.cells #[.int .i64 0, .int .i64 0] 36)
  have hb1 := blk_new w 36 #[.int .i64 0, .int .i64 0]
  have k2 := kept_alloc [] (w.alloc (.cells #[.int .i64 0, .int .i64 0] 36)) (.cells #[.pointer none, .pointer (some ⟨w.heap.size, 0, none⟩)] 24)
  have hb2 := blk_new (w.alloc (.cells #[.int .i64 0, .int .i64 0] 36)) 24 #[.pointer none, .pointer (some ⟨w.heap.size, 0, none⟩)]
  rw [World.size_alloc] at hb2
  replace hb1 := hb1.kept k2 (by simp)
  have k0 := k1.trans k2
  clear k1 k2
  obtain ⟨W0, hW⟩ : ∃ W0, (w.alloc (.cells #[.int .i64 0, .int .i64 0] 36)).alloc (.cells #[.pointer none, .pointer (some ⟨w.heap.size, 0, none⟩)] 24) = W0 := ⟨_, rfl⟩
  rw [hW] at hb1 hb2 k0
  replace hz : Hid (BoolsAt w.heap.size W0 a len bs) := hz.kept k0 (Nat.le_refl _)
  go_enter Try.func5, Try.ntmps5
  go_wp2_with fail
  clear hW
  go_loopw [16] (fun i wr => ∃ j : Nat, j ≤ 2 ∧ i = .int .i64 j ∧ Kept [] W0 wr) (fun i _ => 2 - (RowKit.intOf i).toNat)
  case atStart => exact ⟨0, by omega, rfl, Kept.refl _ _⟩
  case round =>
    obtain ⟨j, hj, rfl, hk⟩ := hrel
    by_cases hlt : j < 2
    · obtain ⟨p, hp, hN⟩ : ∃ p, wr.cell? ⟨w.heap.size + 1, j, none⟩ = some (.pointer p) ∧ NoKp wr p := by
        have hc := (hb2.kept hk (by simp)).cell j
        rcases (by omega : j = 0 ∨ j = 1) with rfl | rfl
        · exact ⟨none, hc, .inl rfl⟩
        · exact ⟨_, hc, .inr ⟨_, rfl, hb1.kept hk (by simp)⟩⟩
      have i1 : (j : Int) < 2 := by omega
      have hm1 : Hid (2 - (j + 1) < 2 - j) := by show _ < _; omega
      have qh := heard_none p wr hN
      clear hb1 hb2
      go_wp2_with (go_at_call 11; refine qh.mono ?_; rintro e wr ⟨rfl, rfl⟩)
      clear qh hp
      obtain ⟨wo, rfl⟩ : ∃ wo, wo = wr := ⟨_, rfl⟩
      go_loopw [24] (fun i wr => ∃ m : Nat, m ≤ len ∧ i = .int .i64 m ∧ Kept [] wo wr) (fun i _ => len - (RowKit.intOf i).toNat)
      case atStart => exact ⟨0, by omega, rfl, Kept.refl _ _⟩
      case round =>
        obtain ⟨m, hm, rfl, hkm⟩ := hrel
        by_cases hlm : m < len
        · obtain ⟨b, off, x, rfl, hc⟩ := (hz.out.kept (hk.trans hkm) k0.size).at hlm
          have i2 : (m : Int) < (len : Int) := by omega
          have hm2 : Hid (len - (m + 1) < len - m) := by show _ < _; omega
          have qt := tick_none p wr (hN.kept hkm)
          cases x
          · go_wp2_with fail
            go_roundw
            case rel => exact ⟨m + 1, by omega, by go_num, hkm⟩
            case measure => simpa [RowKit.intOf] using hm2.out
          · go_wp2_with (go_at_call 9; refine qt.mono ?_; rintro e wr ⟨rfl, hk3⟩)
            go_roundw
            case rel => exact ⟨m + 1, by omega, by go_num, hkm.trans hk3⟩
            case measure => simpa [RowKit.intOf] using hm2.out
        · obtain rfl : m = len := by omega
          have qt := tick_none p wr (hN.kept hkm)
          have qv := fun W (h : NoKp W p) => alive_none p W h
          have qa := fun W (h : NoKp W p) => age_none p W h
          go_wp2_with (first
            | (go_at_call 9; refine qt.mono ?_; rintro e w3 ⟨rfl, hk3⟩; clear qt; have hN3 := hN.kept (hkm.trans hk3))
            | (go_at_call 13; refine (qv _ hN3).mono ?_; rintro e w4 ⟨rfl, hk4⟩; have hN4 := hN3.kept hk4)
            | (go_at_call 12; refine (qa _ hN4).mono ?_; rintro e w4 ⟨rfl, rfl⟩))
          go_roundw
          case rel => exact ⟨j + 1, by omega, by go_num, ((hk.trans hkm).trans hk3).trans hk4⟩
          case measure => simpa [RowKit.intOf] using hm1.out
    · obtain rfl : j = 2 := by omega
      have q := lives_any wr
      clear hb1 hb2
      go_wp2_with (go_at_call 6; refine q.mono ?_; rintro e w1 ⟨rfl, hk1⟩)
      go_ret
      exact ⟨rfl, (k0.trans hk).trans hk1⟩
end Go.Proofs.Ytbebecglogkmbaa.Keep
