/-
  The walk of RequestChecks.
-/
import Derived.Test.YtmpblohagchhaaaRqG
namespace Go.Proofs.Ytmpblohagchhaaa.Request
open Go.RowKit
open Span (ret_bool ret_int)

theorem three_new (w : World) (z h t n p : Int) (a b : Qv) : Kept [] w (((w.alloc (.cells #[.int .i64 z, .int .i64 h, .int .i64 t, .int .i64 n, .int .i64 p] 23)).alloc (.cells #[.int .i64 a.k, .int .i64 a.o, .int .i64 a.l, .slice a.sa a.len a.cap] 28)).alloc (.cells #[.int .i64 b.k, .int .i64 b.o, .int .i64 b.l, .slice b.sa b.len b.cap] 28)) ∧ ∀ A, Kept [] (((w.alloc (.cells #[.int .i64 z, .int .i64 h, .int .i64 t, .int .i64 n, .int .i64 p] 23)).alloc (.cells #[.int .i64 a.k, .int .i64 a.o, .int .i64 a.l, .slice a.sa a.len a.cap] 28)).alloc (.cells #[.int .i64 b.k, .int .i64 b.o, .int .i64 b.l, .slice b.sa b.len b.cap] 28)) A → A.cell? ⟨w.heap.size, 0, none⟩ = some (.int .i64 z) ∧ A.cell? ⟨w.heap.size, 1, none⟩ = some (.int .i64 h) ∧ A.cell? ⟨w.heap.size, 2, none⟩ = some (.int .i64 t) ∧ A.cell? ⟨w.heap.size, 3, none⟩ = some (.int .i64 n) ∧ A.cell? ⟨w.heap.size, 4, none⟩ = some (.int .i64 p) ∧ A.cell? ⟨w.heap.size + 1, 0, none⟩ = some (.int .i64 a.k) ∧ A.cell? ⟨w.heap.size + 1, 1, none⟩ = some (.int .i64 a.o) ∧ A.cell? ⟨w.heap.size + 1, 2, none⟩ = some (.int .i64 a.l) ∧ A.cell? ⟨w.heap.size + 1, 3, none⟩ = some (.slice a.sa a.len a.cap) ∧ A.cell? ⟨w.heap.size + 2, 0, none⟩ = some (.int .i64 b.k) ∧ A.cell? ⟨w.heap.size + 2, 1, none⟩ = some (.int .i64 b.o) ∧ A.cell? ⟨w.heap.size + 2, 2, none⟩ = some (.int .i64 b.l) ∧ A.cell? ⟨w.heap.size + 2, 3, none⟩ = some (.slice b.sa b.len b.cap) := by
  have k1 := kept_alloc [] w (.cells #[.int .i64 z, .int .i64 h, .int .i64 t, .int .i64 n, .int .i64 p] 23)
  have b1 := blk_new w 23 #[.int .i64 z, .int .i64 h, .int .i64 t, .int .i64 n, .int .i64 p]
  have k2 := kept_alloc [] (w.alloc (.cells #[.int .i64 z, .int .i64 h, .int .i64 t, .int .i64 n, .int .i64 p] 23)) (.cells #[.int .i64 a.k, .int .i64 a.o, .int .i64 a.l, .slice a.sa a.len a.cap] 28)
  have b2 := blk_new (w.alloc (.cells #[.int .i64 z, .int .i64 h, .int .i64 t, .int .i64 n, .int .i64 p] 23)) 28 #[.int .i64 a.k, .int .i64 a.o, .int .i64 a.l, .slice a.sa a.len a.cap]
  rw [show (w.alloc (.cells #[.int .i64 z, .int .i64 h, .int .i64 t, .int .i64 n, .int .i64 p] 23)).heap.size = w.heap.size + 1 by simp] at b2
  have k3 := kept_alloc [] ((w.alloc (.cells #[.int .i64 z, .int .i64 h, .int .i64 t, .int .i64 n, .int .i64 p] 23)).alloc (.cells #[.int .i64 a.k, .int .i64 a.o, .int .i64 a.l, .slice a.sa a.len a.cap] 28)) (.cells #[.int .i64 b.k, .int .i64 b.o, .int .i64 b.l, .slice b.sa b.len b.cap] 28)
  have b3 := blk_new ((w.alloc (.cells #[.int .i64 z, .int .i64 h, .int .i64 t, .int .i64 n, .int .i64 p] 23)).alloc (.cells #[.int .i64 a.k, .int .i64 a.o, .int .i64 a.l, .slice a.sa a.len a.cap] 28)) 28 #[.int .i64 b.k, .int .i64 b.o, .int .i64 b.l, .slice b.sa b.len b.cap]
  rw [show ((w.alloc (.cells #[.int .i64 z, .int .i64 h, .int .i64 t, .int .i64 n, .int .i64 p] 23)).alloc (.cells #[.int .i64 a.k, .int .i64 a.o, .int .i64 a.l, .slice a.sa a.len a.cap] 28)).heap.size = w.heap.size + 2 by simp] at b3
  have b1' := (b1.kept k2 (by simp)).kept k3 (by simp)
  have b2' := b2.kept k3 (by simp)
  refine ⟨(k1.trans k2).trans k3, fun A h => ?_⟩
  have a1 := b1'.kept h (by simp)
  have a2 := b2'.kept h (by simp)
  have a3 := b3.kept h (by simp)
  exact ⟨(a1.cell 0).trans rfl, (a1.cell 1).trans rfl, (a1.cell 2).trans rfl, (a1.cell 3).trans rfl, (a1.cell 4).trans rfl, (a2.cell 0).trans rfl, (a2.cell 1).trans rfl, (a2.cell 2).trans rfl, (a2.cell 3).trans rfl, (a3.cell 0).trans rfl, (a3.cell 1).trans rfl, (a3.cell 2).trans rfl, (a3.cell 3).trans rfl⟩
set_option maxRecDepth 100000 in
set_option maxHeartbeats 4000000 in
theorem checks_longA (z h t n p : Int) (a b : Qv) (h3 : 300 < (a.len : Int)) (w : World) :
    Calls Try.prog 3 #[.agg #[.int .i64 z, .int .i64 h, .int .i64 t, .int .i64 n, .int .i64 p], a.val, b.val] w fun e w' => e = .returned (.bool true) ∧ Kept [] w w' := by
  have qv := lives_any
  obtain ⟨d0, S0⟩ := three_new w z h t n p a b
  unfold Qv.val at *
  obtain ⟨W, hW⟩ : ∃ W, ((w.alloc (.cells #[.int .i64 z, .int .i64 h, .int .i64 t, .int .i64 n, .int .i64 p] 23)).alloc (.cells #[.int .i64 a.k, .int .i64 a.o, .int .i64 a.l, .slice a.sa a.len a.cap] 28)).alloc (.cells #[.int .i64 b.k, .int .i64 b.o, .int .i64 b.l, .slice b.sa b.len b.cap] 28) = W := ⟨_, rfl⟩
  rw [hW] at d0 S0
  obtain ⟨x0, x1, x2, x3, x4, x5, x6, x7, x8, x9, x10, x11, x12⟩ := S0 _ (Kept.refl _ _)
  go_enter Try.func3, Try.ntmps3
  go_wp2_with (go_at_call 5; refine (qv _).mono ?_; rintro e w5 ⟨rfl, hk5⟩)
  go_ret
  exact ⟨rfl, d0.trans hk5⟩
set_option maxRecDepth 100000 in
set_option maxHeartbeats 4000000 in
theorem checks_longB (z h t n p : Int) (a b : Qv) (h2 : (a.len : Int) ≤ 300) (h3 : 300 < (b.len : Int)) (w : World) :
    Calls Try.prog 3 #[.agg #[.int .i64 z, .int .i64 h, .int .i64 t, .int .i64 n, .int .i64 p], a.val, b.val] w fun e w' => e = .returned (.bool true) ∧ Kept [] w w' := by
  have qv := lives_any
  obtain ⟨d0, S0⟩ := three_new w z h t n p a b
  unfold Qv.val at *
  obtain ⟨W, hW⟩ : ∃ W, ((w.alloc (.cells #[.int .i64 z, .int .i64 h, .int .i64 t, .int .i64 n, .int .i64 p] 23)).alloc (.cells #[.int .i64 a.k, .int .i64 a.o, .int .i64 a.l, .slice a.sa a.len a.cap] 28)).alloc (.cells #[.int .i64 b.k, .int .i64 b.o, .int .i64 b.l, .slice b.sa b.len b.cap] 28) = W := ⟨_, rfl⟩
  rw [hW] at d0 S0
  obtain ⟨x0, x1, x2, x3, x4, x5, x6, x7, x8, x9, x10, x11, x12⟩ := S0 _ (Kept.refl _ _)
  go_enter Try.func3, Try.ntmps3
  go_wp2_with (go_at_call 5; refine (qv _).mono ?_; rintro e w5 ⟨rfl, hk5⟩)
  go_ret
  exact ⟨rfl, d0.trans hk5⟩
set_option maxRecDepth 100000 in
set_option maxHeartbeats 4000000 in
theorem checks_some (z h t n p : Int) (a b : Qv) (h0 : -9223372036854775808 ≤ z) (h1 : z ≤ 9223372036854775807) (ha : (a.len : Int) ≤ 300) (hb : (b.len : Int) ≤ 300) (w : World) (Ra : a.At 0 w.heap.size w) (Rb : b.At 0 w.heap.size w) :
    Calls Try.prog 3 #[.agg #[.int .i64 z, .int .i64 h, .int .i64 t, .int .i64 n, .int .i64 p], a.val, b.val] w fun e w' => e = .returned (.bool true) ∧ Kept [] w w' := by
  have qv := lives_any
  have q1 := fun w => good_any z h t n p h0 h1 w
  have q2 := fun w => rgood_any z h t n p h0 h1 w
  have q3 := fun w => check_any z h t n p a.k a.o a.l a.sa a.len a.cap w
  have q4 := fun w => rcheck_any z h t n p a.k a.o a.l a.sa a.len a.cap w
  have q5 := fun W (hK : Kept [] w W) => same_any a b 0 w.heap.size 0 w.heap.size W (Ra.kept (Nat.le_refl _) hK (by simp)) hK.size (Rb.kept (Nat.le_refl _) hK (by simp)) hK.size
  have q6 := fun W (hK : Kept [] w W) => rsame_any a b 0 w.heap.size 0 w.heap.size W (Ra.kept (Nat.le_refl _) hK (by simp)) hK.size (Rb.kept (Nat.le_refl _) hK (by simp)) hK.size
  have q7 := fun W (hK : Kept [] w W) => same_any a a 0 w.heap.size 0 w.heap.size W (Ra.kept (Nat.le_refl _) hK (by simp)) hK.size (Ra.kept (Nat.le_refl _) hK (by simp)) hK.size
  rw [sameB_refl] at q7
  have q8 := fun w => name_any a.k w
  have q9 := fun w => rname_any a.k w
  generalize cgood z h t n p = G at *
  generalize errN (may a.k a.o a.l a.len z) = M at *
  generalize sameB a b = D at *
  generalize wordOf a.k = N at *
  clear h0 h1 Ra Rb
  obtain ⟨d0, S0⟩ := three_new w z h t n p a b
  unfold Qv.val at *
  obtain ⟨W, hW⟩ : ∃ W, ((w.alloc (.cells #[.int .i64 z, .int .i64 h, .int .i64 t, .int .i64 n, .int .i64 p] 23)).alloc (.cells #[.int .i64 a.k, .int .i64 a.o, .int .i64 a.l, .slice a.sa a.len a.cap] 28)).alloc (.cells #[.int .i64 b.k, .int .i64 b.o, .int .i64 b.l, .slice b.sa b.len b.cap] 28) = W := ⟨_, rfl⟩
  rw [hW] at d0 S0
  obtain ⟨x0, x1, x2, x3, x4, x5, x6, x7, x8, x9, x10, x11, x12⟩ := S0 _ (Kept.refl _ _)
  obtain ⟨ak, ao, al, asa, alen, acap, abs⟩ := a
  obtain ⟨bk, bo, bl, bsa, blen, bcap, bbs⟩ := b
  simp only at *
  go_enter Try.func3, Try.ntmps3
  go_upto_region 3 with fail
  have e0 := kept_drew [] W
  go_region_held3 (fun A => A.cell? ⟨w.heap.size, 0, none⟩ = some (.int .i64 z) ∧ A.cell? ⟨w.heap.size, 1, none⟩ = some (.int .i64 h) ∧ A.cell? ⟨w.heap.size, 2, none⟩ = some (.int .i64 t) ∧ A.cell? ⟨w.heap.size, 3, none⟩ = some (.int .i64 n) ∧ A.cell? ⟨w.heap.size, 4, none⟩ = some (.int .i64 p) ∧ A.cell? ⟨w.heap.size + 1, 0, none⟩ = some (.int .i64 ak) ∧ A.cell? ⟨w.heap.size + 1, 1, none⟩ = some (.int .i64 ao) ∧ A.cell? ⟨w.heap.size + 1, 2, none⟩ = some (.int .i64 al) ∧ A.cell? ⟨w.heap.size + 1, 3, none⟩ = some (.slice asa alen acap) ∧ A.cell? ⟨w.heap.size + 2, 0, none⟩ = some (.int .i64 bk) ∧ A.cell? ⟨w.heap.size + 2, 1, none⟩ = some (.int .i64 bo) ∧ A.cell? ⟨w.heap.size + 2, 2, none⟩ = some (.int .i64 bl) ∧ A.cell? ⟨w.heap.size + 2, 3, none⟩ = some (.slice bsa blen bcap)) (first
      | exact S0 _ e0
      | exact S0 _ e1
      | exact S0 _ e2
      | exact S0 _ e3
      | exact S0 _ e4
      | exact S0 _ e5
      | exact S0 _ e6
      | exact S0 _ e7
      | exact S0 _ e8
      | exact S0 _ e9
      | exact S0 _ e10) (first
      | (go_at_call 6; refine (q1 _).mono ?_; rintro e w1 ⟨rfl, hk⟩; have e1 := e0.trans hk; clear hk)
      | (go_at_call 7; refine (q2 _).mono ?_; rintro e w2 ⟨rfl, hk⟩; have e2 := e1.trans hk; clear hk)
      | (go_at_call 8; refine (q3 _).mono ?_; rintro e w3 ⟨rfl, hk⟩; have e3 := e2.trans hk; clear hk)
      | (go_at_call 9; refine (q4 _).mono ?_; rintro e w4 ⟨rfl, hk⟩; have e4 := e3.trans hk; clear hk)
      | (go_at_call_of 10 (#[.agg #[.int .i64 ak, .int .i64 ao, .int .i64 al, .slice asa alen acap], .agg #[.int .i64 bk, .int .i64 bo, .int .i64 bl, .slice bsa blen bcap]] : Array Value); refine (q5 _ (d0.trans e4)).mono ?_; rintro e w5 ⟨rfl, hk⟩; have e5 := e4.trans hk; clear hk)
      | (go_at_call 11; refine (q6 _ (d0.trans e5)).mono ?_; rintro e w6 ⟨rfl, hk⟩; have e6 := e5.trans hk; clear hk)
      | (go_at_call_of 10 (#[.agg #[.int .i64 ak, .int .i64 ao, .int .i64 al, .slice asa alen acap], .agg #[.int .i64 ak, .int .i64 ao, .int .i64 al, .slice asa alen acap]] : Array Value); refine (q7 _ (d0.trans e6)).mono ?_; rintro e w7 ⟨rfl, hk⟩; have e7 := e6.trans hk; clear hk)
      | (go_at_call 12; refine (q8 _).mono ?_; rintro e w8 ⟨rfl, hk⟩; have e8 := e7.trans hk; clear hk)
      | (go_at_call 13; refine (q9 _).mono ?_; rintro e w9 ⟨rfl, hk⟩; have e9 := e8.trans hk; clear hk)
      | (go_at_call 5; refine (qv _).mono ?_; rintro e w10 ⟨rfl, hk⟩; have e10 := e9.trans hk; clear hk))
  go_wp2_with fail
  go_ret
  exact ⟨rfl, d0.trans e10⟩
set_option maxRecDepth 100000 in
/-- RequestChecks -/
theorem checks_walk (z h t n p : Int) (a b : Qv) (h0 : -9223372036854775808 ≤ z) (h1 : z ≤ 9223372036854775807) (w : World) (Ra : a.At 0 w.heap.size w) (Rb : b.At 0 w.heap.size w) :
    Calls Try.prog 3 #[.agg #[.int .i64 z, .int .i64 h, .int .i64 t, .int .i64 n, .int .i64 p], a.val, b.val] w fun e w' => e = .returned (.bool true) ∧ Below w.heap.size w w' := by
  have hh : Calls Try.prog 3 #[.agg #[.int .i64 z, .int .i64 h, .int .i64 t, .int .i64 n, .int .i64 p], a.val, b.val] w fun e w' => e = .returned (.bool true) ∧ Kept [] w w' := by
    by_cases ha : 300 < (a.len : Int)
    · exact checks_longA z h t n p a b ha w
    · by_cases hb : 300 < (b.len : Int)
      · exact checks_longB z h t n p a b (by omega) hb w
      · exact checks_some z h t n p a b h0 h1 (by omega) (by omega) w Ra Rb
  exact hh.mono fun _ _ ⟨e, hk⟩ => ⟨e, kept_below hk⟩
end Go.Proofs.Ytmpblohagchhaaa.Request
