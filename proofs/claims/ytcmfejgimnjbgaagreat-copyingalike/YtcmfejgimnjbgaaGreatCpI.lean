/-
  CopyingAlike: its plain facts; the set of the first four extents without one.
-/
import Derived.Test.YtcmfejgimnjbgaaGreatCpH
import Derived.Test.YtcmfejgimnjbgaaGreatPkH
namespace Go.Proofs.YtcmfejgimnjbgaaGreat.Copying
open Go.RowKit
open Math
open Pack (Mv Ms mv0 good)

theorem good_ext {e : Int} (h0 : 0 ≤ e) (h1 : e ≤ 63) {bs : List Nat} (hl : bs.length = 64) : isExt ⟨6, 0, e, 0, false, bs⟩ = true := by
  have hf : Pack.Fine ⟨6, 0, e, 0, false, bs⟩ := (Pack.fine6 rfl).2 ⟨rfl, rfl, rfl, ⟨h0, h1⟩, hl⟩
  have hg : good ⟨6, 0, e, 0, false, bs⟩ = true := by
    unfold Pack.good
    exact @decide_eq_true _ (Pack.fineD _) hf
  unfold isExt
  rw [hg]
  rfl
theorem step_done (s : Dk) (e : Nat) (he : e ≤ 63) (bs : List Nat) : stepE s (e : Int) bs = doneE s e bs ∧ stepS s (e : Int) bs = doneS s e bs := by
  unfold stepE stepS doneE doneS
  rw [Span.wOff_in (by omega) (by omega), Span.wLen_in (by omega) (by omega)]
  exact ⟨rfl, rfl⟩
theorem without_ne {e : Nat} (he : e ≤ 3) : 15 ≠ Bits.Math.without 15 (e : Int) := by
  rcases (show e = 0 ∨ e = 1 ∨ e = 2 ∨ e = 3 by omega) with rfl | rfl | rfl | rfl <;> decide
/-- The disks of CopyingAlike, behind what comes ahead of the Put. -/
def giver (e : Nat) (bs : List Nat) : Dk := areaS (made 24) (4 * (e : Int)) 4 bs
def getter (e : Nat) (cs : List Nat) : Dk := flushS (mapS (areaS (made 24) (4 * (e : Int)) 4 cs) 15)
theorem giver_is (e : Nat) (he : e ≤ 3) (bs : List Nat) (hl : bs.length = 64) :
    areaS (made 24) (Span.wOff e) (Span.wLen e) bs = giver e bs ∧ giveM (giver e bs) e = ⟨6, 0, e, 0, false, bs⟩ ∧ gotE (giver e bs) (Span.wOff e) (Span.wLen e) = 0 ∧ flushE (giver e bs) = 0 := by
  have hg : Span.Math.good (4 * (e : Int)) 4 (dataN (made 24) : Nat) = true := of_good (by unfold dataN made; simp; omega)
  obtain ⟨h1, h2⟩ := got_area (calm_made 24) hg (bs := bs) (by omega)
  have hc := (calm_made 24).put (4 * (e : Int)) 4 bs
  have hf := flush_is hc.1 (by have := hc.2; omega)
  unfold giveM giver
  rw [Span.wOff_in (by omega) (by omega), Span.wLen_in (by omega) (by omega), h2, if_pos rfl, h1]
  exact ⟨rfl, rfl, rfl, hf.1⟩
theorem getter_is (e : Nat) (he : e ≤ 3) (cs : List Nat) : areaS (made 24) (Span.wOff e) (Span.wLen e) cs = giver e cs := by
  unfold giver
  rw [Span.wOff_in (by omega) (by omega), Span.wLen_in (by omega) (by omega)]
theorem mapS_size (s : Dk) (m : Nat) : (mapS s m).size = s.size := by
  unfold mapS
  split
  · rfl
  · split
    · rfl
    · exact put_size s m
/-- P29.2, as CopyingAlike asks it. -/
theorem alike_plain (e k : Nat) (he : e ≤ 3) (hk : k ≤ 10) (bs cs : List Nat) (hb : bs.length = 64) (hc : cs.length = 64) (vb : ∀ b ∈ bs, b < 256) (vc : ∀ b ∈ cs, b < 256) (mask : Nat) :
    flushE (mapS (giver e cs) 15) = 0 ∧ (extE (fused (getter e cs) k) ⟨6, 0, e, 0, false, bs⟩ = 0 → 7 ≤ k) ∧ (7 ≤ k → extE (fused (getter e cs) k) ⟨6, 0, e, 0, false, bs⟩ = 0) ∧
    gotE (crashed (extS (fused (getter e cs) k) ⟨6, 0, e, 0, false, bs⟩) mask) (Span.wOff e) (Span.wLen e) = 0 ∧
    (7 ≤ k → gotL (crashed (extS (fused (getter e cs) k) ⟨6, 0, e, 0, false, bs⟩) mask) (Span.wOff e) (Span.wLen e) = bs ∧ latestY (crashed (extS (fused (getter e cs) k) ⟨6, 0, e, 0, false, bs⟩) mask) 6 2 = Bits.Math.without 15 (e : Int)) ∧
    (gotL (crashed (extS (fused (getter e cs) k) ⟨6, 0, e, 0, false, bs⟩) mask) (Span.wOff e) (Span.wLen e) = bs ∨ latestY (crashed (extS (fused (getter e cs) k) ⟨6, 0, e, 0, false, bs⟩) mask) 6 2 = 15) ∧
    (7 ≤ k → (extV (fused (getter e cs) k) ⟨6, 0, e, 0, false, bs⟩).o = e) := by
  obtain ⟨b1, b2, b3, b4, b5, b6⟩ := begun e he cs hc vc
  have hx := good_ext (e := (e : Int)) (by omega) (by omega) hb
  have e1 : extE (fused (getter e cs) k) ⟨6, 0, e, 0, false, bs⟩ = doneE (fused (getter e cs) k) e bs := (if_pos hx).trans (step_done _ e (by omega) bs).1
  have e2 : extS (fused (getter e cs) k) ⟨6, 0, e, 0, false, bs⟩ = doneS (fused (getter e cs) k) e bs := (if_pos hx).trans (step_done _ e (by omega) bs).2
  have hs : Still (fused (getter e cs) k) 6 2 1 15 := Still.fused b6 _ (by omega) (by omega)
  obtain ⟨p1, p2, p3, p4, p5, p6, p7⟩ := put_crash hs (show (getter e cs).broken = false from b4) (show (0 : Int) ≤ (k : Int) by omega) (by decide) e (by show 8 + 4 * e + 4 ≤ (getter e cs).size; have b5' : (getter e cs).size = 24 := b5; omega) bs hb vb (by decide) (without_ne he) mask
  have hfk : (fused (getter e cs) k).fuse = k := rfl
  rw [hfk] at p1 p2 p6
  rw [e1, e2, Span.wOff_in (by omega) (by omega), Span.wLen_in (by omega) (by omega)]
  refine ⟨b3, fun h => by have := p1 h; omega, fun h => p2 (by omega), p5, fun h => p6 (by omega), p7, fun h => ?_⟩
  unfold extV
  rw [if_pos ⟨hx, (step_done _ e (by omega) bs).1.trans (p2 (by omega))⟩]
  rfl
set_option maxRecDepth 100000 in
set_option maxHeartbeats 1000000 in
theorem without_0 (w : World) : Calls Tryz.prog 30 #[.int .i64 0] w fun x w' => x = .returned (.int .u64 14) ∧ w' = w := by
  go_enter Tryz.func30, Tryz.ntmps30
  go_wp2_with fail
  go_loopw [3, 4, 5] (fun a b i wr => wr = w ∧ ((a = .int .u64 0 ∧ b = .int .u64 1 ∧ i = .int .i64 0) ∨ (a = .int .u64 0 ∧ b = .int .u64 2 ∧ i = .int .i64 1) ∨ (a = .int .u64 2 ∧ b = .int .u64 4 ∧ i = .int .i64 2) ∨ (a = .int .u64 6 ∧ b = .int .u64 8 ∧ i = .int .i64 3) ∨ (a = .int .u64 14 ∧ b = .int .u64 16 ∧ i = .int .i64 4))) (fun a b i _ => 4 - (RowKit.intOf i).toNat)
  case atStart => exact ⟨rfl, .inl ⟨rfl, rfl, rfl⟩⟩
  case round =>
    obtain ⟨rfl, hrel⟩ := hrel
    rcases hrel with ⟨rfl, rfl, rfl⟩ | ⟨rfl, rfl, rfl⟩ | ⟨rfl, rfl, rfl⟩ | ⟨rfl, rfl, rfl⟩ | ⟨rfl, rfl, rfl⟩
    · go_wp2_with fail
      go_roundw
      case rel => exact ⟨trivial, .inr (.inl ⟨rfl, rfl, rfl⟩)⟩
      case measure => simp [RowKit.intOf]
    · go_wp2_with fail
      go_roundw
      case rel => exact ⟨trivial, .inr (.inr (.inl ⟨rfl, rfl, rfl⟩))⟩
      case measure => simp [RowKit.intOf]
    · go_wp2_with fail
      go_roundw
      case rel => exact ⟨trivial, .inr (.inr (.inr (.inl ⟨rfl, rfl, rfl⟩)))⟩
      case measure => simp [RowKit.intOf]
    · go_wp2_with fail
      go_roundw
      case rel => exact ⟨trivial, .inr (.inr (.inr (.inr (⟨rfl, rfl, rfl⟩))))⟩
      case measure => simp [RowKit.intOf]
    · go_wp2_with fail
      go_ret
      exact ⟨rfl, rfl⟩
set_option maxRecDepth 100000 in
set_option maxHeartbeats 1000000 in
theorem without_1 (w : World) : Calls Tryz.prog 30 #[.int .i64 1] w fun x w' => x = .returned (.int .u64 13) ∧ w' = w := by
  go_enter Tryz.func30, Tryz.ntmps30
  go_wp2_with fail
  go_loopw [3, 4, 5] (fun a b i wr => wr = w ∧ ((a = .int .u64 0 ∧ b = .int .u64 1 ∧ i = .int .i64 0) ∨ (a = .int .u64 1 ∧ b = .int .u64 2 ∧ i = .int .i64 1) ∨ (a = .int .u64 1 ∧ b = .int .u64 4 ∧ i = .int .i64 2) ∨ (a = .int .u64 5 ∧ b = .int .u64 8 ∧ i = .int .i64 3) ∨ (a = .int .u64 13 ∧ b = .int .u64 16 ∧ i = .int .i64 4))) (fun a b i _ => 4 - (RowKit.intOf i).toNat)
  case atStart => exact ⟨rfl, .inl ⟨rfl, rfl, rfl⟩⟩
  case round =>
    obtain ⟨rfl, hrel⟩ := hrel
    rcases hrel with ⟨rfl, rfl, rfl⟩ | ⟨rfl, rfl, rfl⟩ | ⟨rfl, rfl, rfl⟩ | ⟨rfl, rfl, rfl⟩ | ⟨rfl, rfl, rfl⟩
    · go_wp2_with fail
      go_roundw
      case rel => exact ⟨trivial, .inr (.inl ⟨rfl, rfl, rfl⟩)⟩
      case measure => simp [RowKit.intOf]
    · go_wp2_with fail
      go_roundw
      case rel => exact ⟨trivial, .inr (.inr (.inl ⟨rfl, rfl, rfl⟩))⟩
      case measure => simp [RowKit.intOf]
    · go_wp2_with fail
      go_roundw
      case rel => exact ⟨trivial, .inr (.inr (.inr (.inl ⟨rfl, rfl, rfl⟩)))⟩
      case measure => simp [RowKit.intOf]
    · go_wp2_with fail
      go_roundw
      case rel => exact ⟨trivial, .inr (.inr (.inr (.inr (⟨rfl, rfl, rfl⟩))))⟩
      case measure => simp [RowKit.intOf]
    · go_wp2_with fail
      go_ret
      exact ⟨rfl, rfl⟩
set_option maxRecDepth 100000 in
set_option maxHeartbeats 1000000 in
theorem without_2 (w : World) : Calls Tryz.prog 30 #[.int .i64 2] w fun x w' => x = .returned (.int .u64 11) ∧ w' = w := by
  go_enter Tryz.func30, Tryz.ntmps30
  go_wp2_with fail
  go_loopw [3, 4, 5] (fun a b i wr => wr = w ∧ ((a = .int .u64 0 ∧ b = .int .u64 1 ∧ i = .int .i64 0) ∨ (a = .int .u64 1 ∧ b = .int .u64 2 ∧ i = .int .i64 1) ∨ (a = .int .u64 3 ∧ b = .int .u64 4 ∧ i = .int .i64 2) ∨ (a = .int .u64 3 ∧ b = .int .u64 8 ∧ i = .int .i64 3) ∨ (a = .int .u64 11 ∧ b = .int .u64 16 ∧ i = .int .i64 4))) (fun a b i _ => 4 - (RowKit.intOf i).toNat)
  case atStart => exact ⟨rfl, .inl ⟨rfl, rfl, rfl⟩⟩
  case round =>
    obtain ⟨rfl, hrel⟩ := hrel
    rcases hrel with ⟨rfl, rfl, rfl⟩ | ⟨rfl, rfl, rfl⟩ | ⟨rfl, rfl, rfl⟩ | ⟨rfl, rfl, rfl⟩ | ⟨rfl, rfl, rfl⟩
    · go_wp2_with fail
      go_roundw
      case rel => exact ⟨trivial, .inr (.inl ⟨rfl, rfl, rfl⟩)⟩
      case measure => simp [RowKit.intOf]
    · go_wp2_with fail
      go_roundw
      case rel => exact ⟨trivial, .inr (.inr (.inl ⟨rfl, rfl, rfl⟩))⟩
      case measure => simp [RowKit.intOf]
    · go_wp2_with fail
      go_roundw
      case rel => exact ⟨trivial, .inr (.inr (.inr (.inl ⟨rfl, rfl, rfl⟩)))⟩
      case measure => simp [RowKit.intOf]
    · go_wp2_with fail
      go_roundw
      case rel => exact ⟨trivial, .inr (.inr (.inr (.inr (⟨rfl, rfl, rfl⟩))))⟩
      case measure => simp [RowKit.intOf]
    · go_wp2_with fail
      go_ret
      exact ⟨rfl, rfl⟩
set_option maxRecDepth 100000 in
set_option maxHeartbeats 1000000 in
theorem without_3 (w : World) : Calls Tryz.prog 30 #[.int .i64 3] w fun x w' => x = .returned (.int .u64 7) ∧ w' = w := by
  go_enter Tryz.func30, Tryz.ntmps30
  go_wp2_with fail
  go_loopw [3, 4, 5] (fun a b i wr => wr = w ∧ ((a = .int .u64 0 ∧ b = .int .u64 1 ∧ i = .int .i64 0) ∨ (a = .int .u64 1 ∧ b = .int .u64 2 ∧ i = .int .i64 1) ∨ (a = .int .u64 3 ∧ b = .int .u64 4 ∧ i = .int .i64 2) ∨ (a = .int .u64 7 ∧ b = .int .u64 8 ∧ i = .int .i64 3) ∨ (a = .int .u64 7 ∧ b = .int .u64 16 ∧ i = .int .i64 4))) (fun a b i _ => 4 - (RowKit.intOf i).toNat)
  case atStart => exact ⟨rfl, .inl ⟨rfl, rfl, rfl⟩⟩
  case round =>
    obtain ⟨rfl, hrel⟩ := hrel
    rcases hrel with ⟨rfl, rfl, rfl⟩ | ⟨rfl, rfl, rfl⟩ | ⟨rfl, rfl, rfl⟩ | ⟨rfl, rfl, rfl⟩ | ⟨rfl, rfl, rfl⟩
    · go_wp2_with fail
      go_roundw
      case rel => exact ⟨trivial, .inr (.inl ⟨rfl, rfl, rfl⟩)⟩
      case measure => simp [RowKit.intOf]
    · go_wp2_with fail
      go_roundw
      case rel => exact ⟨trivial, .inr (.inr (.inl ⟨rfl, rfl, rfl⟩))⟩
      case measure => simp [RowKit.intOf]
    · go_wp2_with fail
      go_roundw
      case rel => exact ⟨trivial, .inr (.inr (.inr (.inl ⟨rfl, rfl, rfl⟩)))⟩
      case measure => simp [RowKit.intOf]
    · go_wp2_with fail
      go_roundw
      case rel => exact ⟨trivial, .inr (.inr (.inr (.inr (⟨rfl, rfl, rfl⟩))))⟩
      case measure => simp [RowKit.intOf]
    · go_wp2_with fail
      go_ret
      exact ⟨rfl, rfl⟩
set_option maxRecDepth 100000 in
/-- without -/
theorem without_any (e : Nat) (he : e ≤ 3) (w : World) : Calls Tryz.prog 30 #[.int .i64 (e : Int)] w fun x w' => x = .returned (.int .u64 (Bits.Math.without 15 (e : Int) : Nat)) ∧ w' = w := by
  rcases (show e = 0 ∨ e = 1 ∨ e = 2 ∨ e = 3 by omega) with rfl | rfl | rfl | rfl
  · exact without_0 w
  · exact without_1 w
  · exact without_2 w
  · exact without_3 w
end Go.Proofs.YtcmfejgimnjbgaaGreat.Copying
