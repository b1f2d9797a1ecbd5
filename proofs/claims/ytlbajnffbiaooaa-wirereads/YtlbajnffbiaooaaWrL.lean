/-
  The walk of WireReads.
-/
import Derived.Test.YtlbajnffbiaooaaWrJ
import Derived.Test.YtlbajnffbiaooaaWrH
namespace Go.Proofs.Ytlbajnffbiaooaa.Wire
open Go.RowKit
open Seal (enc ret_bool ret_int)
open Seal.Math

set_option maxRecDepth 100000 in
set_option maxHeartbeats 4000000 in
/-- WireReads, of what is let go -/
theorem wireReads_early (a : Option Addr) (len cap : Nat) (w : World) (hl : 400 < len) (hlen : len ≤ 9223372036854775807) : Calls Try.prog 4 #[.slice a len cap] w fun e w' => e = .returned (.bool true) ∧ Kept [] w w' := by
  go_enter Try.func4, Try.ntmps4
  go_wp2_with (first
    | (go_at_call 7; refine (lives_any _).mono ?_; rintro e w1 ⟨rfl, hk1⟩))
  go_ret
  exact ⟨rfl, hk1⟩
set_option maxRecDepth 100000 in
set_option maxHeartbeats 4000000 in
/-- WireReads -/
theorem wireReads (a : Option Addr) (len cap : Nat) (bs : List Nat) (w : World) (h : ByteRow 0 w.heap.size w (.slice a len cap) bs) (hl : len ≤ 400) : Calls Try.prog 4 #[.slice a len cap] w fun e w' => e = .returned (.bool true) ∧ Kept [] w w' := by
  have hlb := h.len
  have q1 := parse_any (.slice a len cap) bs _ _ w h (Nat.le_refl _) (by omega)
  have q2 : ∀ A, Kept [] w A → Calls Try.prog 15 #[.slice a len cap] A _ := fun A hA => refParse_any (.slice a len cap) bs _ _ A (h.kept (Nat.le_refl _) hA (by simp)) hA.size (by omega)
  clear hlb
  replace h : Hid (ByteRow 0 w.heap.size w (.slice a len cap) bs) := h
  generalize parseE bs = E at *
  generalize parseM bs = M at *
  go_enter Try.func4, Try.ntmps4
  go_wp2_with (first
    | (go_at_call 14; refine q1.mono ?_; rintro e w1 ⟨y, rfl, hyM, hyA, hk1⟩; have hk1a := kept_alloc [] w1 (.cells #[.int .u32 (y.f : Int), .int .u32 (y.t : Int), .int .i64 y.k, .int .i64 y.s, .int .i64 y.a, .slice y.sa y.len y.cap] 25); have hY : y.In (w1.alloc (.cells #[.int .u32 (y.f : Int), .int .u32 (y.t : Int), .int .i64 y.k, .int .i64 y.s, .int .i64 y.a, .slice y.sa y.len y.cap] 25)) w1.heap.size := blk_new w1 25 _; clear q1)
    | (go_at_call 15; refine (q2 _ (hk1.trans hk1a)).mono ?_; rintro e w2 ⟨z, rfl, hzM, hzA, hk2⟩; have hk2a := kept_alloc [] w2 (.cells #[.int .u32 (z.f : Int), .int .u32 (z.t : Int), .int .i64 z.k, .int .i64 z.s, .int .i64 z.a, .slice z.sa z.len z.cap] 25); have hZ : z.In (w2.alloc (.cells #[.int .u32 (z.f : Int), .int .u32 (z.t : Int), .int .i64 z.k, .int .i64 z.s, .int .i64 z.a, .slice z.sa z.len z.cap] 25)) w2.heap.size := blk_new w2 25 _; replace hY := (hY.kept hk2 (by simp)).kept hk2a (by simp); obtain ⟨c0, c1, c2, c3, c4, c5⟩ := hY.six; obtain ⟨d0, d1, d2, d3, d4, d5⟩ := hZ.six; have q3 := refSame_any y z _ _ _ _ _ ((hyA.kept (Nat.le_refl _) (hk1a.trans hk2) (by simp)).kept (hk1a.trans hk2).size hk2a (by simp)) (Nat.le_trans (hk1a.trans hk2).size hk2a.size) (hzA.kept (Nat.le_refl _) hk2a (by simp)) hk2a.size; rw [hyM, hzM, sameB_refl] at q3; unfold Pv.val at q3; clear q2)
    | (go_at_call 16; refine q3.mono ?_; rintro e w3 ⟨rfl, hk3⟩; clear q3)
    | (go_at_call 7; refine (lives_any _).mono ?_; rintro e w4 ⟨rfl, hk4⟩))
  go_ret
  exact ⟨rfl, ((((hk1.trans hk1a).trans hk2).trans hk2a).trans hk3).trans hk4⟩
end Go.Proofs.Ytlbajnffbiaooaa.Wire
