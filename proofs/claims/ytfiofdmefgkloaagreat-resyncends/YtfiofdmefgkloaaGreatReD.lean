/-
  Take of a resync in memory.
-/
import Derived.Test.YtfiofdmefgkloaaGreatReC
namespace Go.Proofs.YtfiofdmefgkloaaGreat.Resync
open Go.RowKit
open Math Copying
open Pack (Mv Ms mv0 good)
open Bits.Math (has without elems)

set_option maxRecDepth 100000 in
theorem step_over (o pl d b1 b2 : Nat) (s : Dk) (g : Bool) (l : Nat) (k : Int) (w : World) (h : ReAt w o pl d b1 b2 ⟨s, g, l, true⟩) :
    Calls Tryz.prog 47 #[.pointer (some ⟨o, 0, none⟩), .int .i64 k] w fun v w' => v = .returned (.func (.func 87) #[] #[]) ∧ w' = w := by
  have c3 := h.four.2.2.2
  go_enter Tryz.func47, Tryz.ntmps47
  go_wp2
  go_ret
  exact ⟨rfl, rfl⟩
set_option maxRecDepth 100000 in
theorem step_strike (o pl d b1 b2 : Nat) (s : Dk) (l : Nat) (w : World) (h : ReAt w o pl d b1 b2 ⟨s, true, l, false⟩) :
    Calls Tryz.prog 47 #[.pointer (some ⟨o, 0, none⟩), .int .i64 7] w fun v w' => v = .returned (.func (.func 88) #[] #[]) ∧ w' = w := by
  have c2 := h.four.2.2.1
  have c3 := h.four.2.2.2
  go_enter Tryz.func47, Tryz.ntmps47
  go_wp2
  go_ret
  exact ⟨rfl, rfl⟩
set_option maxRecDepth 100000 in
theorem step_src (o pl d b1 b2 : Nat) (s : Dk) (l : Nat) (k : Int) (hk : k ≠ 7) (w : World) (h : ReAt w o pl d b1 b2 ⟨s, true, l, false⟩) :
    Calls Tryz.prog 47 #[.pointer (some ⟨o, 0, none⟩), .int .i64 k] w fun v w' => v = .returned (.func (.func 87) #[] #[]) ∧ w' = w := by
  have c2 := h.four.2.2.1
  have c3 := h.four.2.2.2
  have z7 : (k == 7) = false := by simpa using hk
  go_enter Tryz.func47, Tryz.ntmps47
  go_wp2
  go_ret
  exact ⟨rfl, rfl⟩
set_option maxRecDepth 100000 in
theorem step_put (o pl d b1 b2 : Nat) (s : Dk) (l : Nat) (w : World) (h : ReAt w o pl d b1 b2 ⟨s, false, l, false⟩) :
    Calls Tryz.prog 47 #[.pointer (some ⟨o, 0, none⟩), .int .i64 6] w fun v w' => v = .returned (.func (.func 89) #[] #[]) ∧ w' = w := by
  have c2 := h.four.2.2.1
  have c3 := h.four.2.2.2
  go_enter Tryz.func47, Tryz.ntmps47
  go_wp2
  go_ret
  exact ⟨rfl, rfl⟩
set_option maxRecDepth 100000 in
theorem step_end (o pl d b1 b2 : Nat) (s : Dk) (l : Nat) (w : World) (h : ReAt w o pl d b1 b2 ⟨s, false, l, false⟩) :
    Calls Tryz.prog 47 #[.pointer (some ⟨o, 0, none⟩), .int .i64 8] w fun v w' => v = .returned (.func (.func 90) #[] #[]) ∧ w' = w := by
  have c2 := h.four.2.2.1
  have c3 := h.four.2.2.2
  go_enter Tryz.func47, Tryz.ntmps47
  go_wp2
  go_ret
  exact ⟨rfl, rfl⟩
set_option maxRecDepth 100000 in
theorem step_tgt (o pl d b1 b2 : Nat) (s : Dk) (l : Nat) (k : Int) (hk : k ≠ 6) (hk8 : k ≠ 8) (w : World) (h : ReAt w o pl d b1 b2 ⟨s, false, l, false⟩) :
    Calls Tryz.prog 47 #[.pointer (some ⟨o, 0, none⟩), .int .i64 k] w fun v w' => v = .returned (.func (.func 87) #[] #[]) ∧ w' = w := by
  have c2 := h.four.2.2.1
  have c3 := h.four.2.2.2
  have z6 : (k == 6) = false := by simpa using hk
  have z8 : (k == 8) = false := by simpa using hk8
  go_enter Tryz.func47, Tryz.ntmps47
  go_wp2
  go_ret
  exact ⟨rfl, rfl⟩
set_option maxRecDepth 100000 in
set_option maxHeartbeats 1000000 in
/-- Take, whatever its step does. -/
theorem take_pass (o pl d b1 b2 : Nat) (r : Rs) (x : Mv) (E : Nat) (T : List Mv) (P : World → Prop) (L : List Nat) (w : World) (hL : ∀ k ∈ L, k < w.heap.size) (h : ReAt w o pl d b1 b2 r)
    (q1 : ∀ W, Kept [] w W → Calls Tryz.prog 47 #[.pointer (some ⟨o, 0, none⟩), .int .i64 x.k] W fun v w' => v = .returned (.func (.func 87) #[] #[]) ∧ w' = W)
    (q2 : ∀ W, Kept [] w W → Calls Tryz.prog 87 #[.pointer (some ⟨o, 0, none⟩), x.val] W fun v w' => ∃ sa n cap, v = .returned (.tuple #[.slice sa n cap, .int .i64 (E : Int)]) ∧ MRow W.heap.size w' (.slice sa n cap) T ∧ P w' ∧ Kept L W w') :
    Calls Tryz.prog 13 #[.pointer (some ⟨o, 0, none⟩), x.val] w fun v w' => ∃ sa n cap, v = .returned (.tuple #[.slice sa n cap, .int .i64 (E : Int)]) ∧ MRow w.heap.size w' (.slice sa n cap) T ∧ P w' ∧ Kept L w w' := by
  obtain ⟨W0, hW0, hX, hk0, hz⟩ := boxed w x
  have h0 := h.kept0 hk0
  have qm := made_any o pl d b1 b2 r W0 h0
  have hk1 : Kept [] w W0.drew := hk0.trans (kept_drew [] W0)
  have hk2 : Kept [] w W0.drew.drew := hk1.trans (kept_drew [] W0.drew)
  replace q1 := q1 _ hk1
  replace q2 := q2 _ hk2
  have hX1 := hX.kept (kept_drew [] W0) (by simp)
  have a0 := hX1.six.1
  obtain ⟨f0, f1, f2, f3, f4, f5⟩ := (hX1.kept (kept_drew [] W0.drew) (by simp)).six
  unfold Mv.val at *
  go_enter Tryz.func13, Tryz.ntmps13
  go_upto_region 3 with (go_at_call 46; refine qm.mono ?_; rintro v w1 ⟨rfl, rfl⟩)
  go_region_held3 (fun W => W.cell? ⟨w.heap.size, 0, none⟩ = some (.int .i64 x.k)) (exact a0) (first
    | (go_at_call 47; refine q1.mono ?_; rintro v w1 ⟨rfl, rfl⟩))
  go_wp2_with fail
  go_region_held3 (fun W => W.cell? ⟨w.heap.size, 0, none⟩ = some (.int .i64 x.k) ∧ W.cell? ⟨w.heap.size, 1, none⟩ = some (.int .i64 x.i) ∧ W.cell? ⟨w.heap.size, 2, none⟩ = some (.int .i64 x.o) ∧ W.cell? ⟨w.heap.size, 3, none⟩ = some (.int .u64 (x.m : Int)) ∧ W.cell? ⟨w.heap.size, 4, none⟩ = some (.bool x.s) ∧ W.cell? ⟨w.heap.size, 5, none⟩ = some (.slice x.sa x.len x.cap)) (exact ⟨f0, f1, f2, f3, f4, f5⟩) (first
    | (go_at_call 87; refine q2.mono ?_; rintro v w2 ⟨sa, n, cap, rfl, hr, hp, hk⟩; have hX2 := (hX1.kept (kept_drew [] _) (by simp)).kept hk (fun hm => by have := hL _ hm; omega); replace f0 := hX2.six.1; replace f1 := hX2.six.2.1; replace f2 := hX2.six.2.2.1; replace f3 := hX2.six.2.2.2.1; replace f4 := hX2.six.2.2.2.2.1; replace f5 := hX2.six.2.2.2.2.2))
  go_wp2_with fail
  go_ret2
  exact ⟨sa, n, cap, rfl, hr.low hk2.size, hp, (hk2.mono (by simp)).trans hk⟩
set_option maxRecDepth 100000 in
set_option maxHeartbeats 1000000 in
/-- Take, whatever its step does. -/
theorem take_strike (o pl d b1 b2 : Nat) (r : Rs) (x : Mv) (E : Nat) (T : List Mv) (P : World → Prop) (L : List Nat) (w : World) (hL : ∀ k ∈ L, k < w.heap.size) (h : ReAt w o pl d b1 b2 r)
    (q1 : ∀ W, Kept [] w W → Calls Tryz.prog 47 #[.pointer (some ⟨o, 0, none⟩), .int .i64 x.k] W fun v w' => v = .returned (.func (.func 88) #[] #[]) ∧ w' = W)
    (q2 : ∀ W, Kept [] w W → Calls Tryz.prog 88 #[.pointer (some ⟨o, 0, none⟩), x.val] W fun v w' => ∃ sa n cap, v = .returned (.tuple #[.slice sa n cap, .int .i64 (E : Int)]) ∧ MRow W.heap.size w' (.slice sa n cap) T ∧ P w' ∧ Kept L W w') :
    Calls Tryz.prog 13 #[.pointer (some ⟨o, 0, none⟩), x.val] w fun v w' => ∃ sa n cap, v = .returned (.tuple #[.slice sa n cap, .int .i64 (E : Int)]) ∧ MRow w.heap.size w' (.slice sa n cap) T ∧ P w' ∧ Kept L w w' := by
  obtain ⟨W0, hW0, hX, hk0, hz⟩ := boxed w x
  have h0 := h.kept0 hk0
  have qm := made_any o pl d b1 b2 r W0 h0
  have hk1 : Kept [] w W0.drew := hk0.trans (kept_drew [] W0)
  have hk2 : Kept [] w W0.drew.drew := hk1.trans (kept_drew [] W0.drew)
  replace q1 := q1 _ hk1
  replace q2 := q2 _ hk2
  have hX1 := hX.kept (kept_drew [] W0) (by simp)
  have a0 := hX1.six.1
  obtain ⟨f0, f1, f2, f3, f4, f5⟩ := (hX1.kept (kept_drew [] W0.drew) (by simp)).six
  unfold Mv.val at *
  go_enter Tryz.func13, Tryz.ntmps13
  go_upto_region 3 with (go_at_call 46; refine qm.mono ?_; rintro v w1 ⟨rfl, rfl⟩)
  go_region_held3 (fun W => W.cell? ⟨w.heap.size, 0, none⟩ = some (.int .i64 x.k)) (exact a0) (first
    | (go_at_call 47; refine q1.mono ?_; rintro v w1 ⟨rfl, rfl⟩))
  go_wp2_with fail
  go_region_held3 (fun W => W.cell? ⟨w.heap.size, 0, none⟩ = some (.int .i64 x.k) ∧ W.cell? ⟨w.heap.size, 1, none⟩ = some (.int .i64 x.i) ∧ W.cell? ⟨w.heap.size, 2, none⟩ = some (.int .i64 x.o) ∧ W.cell? ⟨w.heap.size, 3, none⟩ = some (.int .u64 (x.m : Int)) ∧ W.cell? ⟨w.heap.size, 4, none⟩ = some (.bool x.s) ∧ W.cell? ⟨w.heap.size, 5, none⟩ = some (.slice x.sa x.len x.cap)) (exact ⟨f0, f1, f2, f3, f4, f5⟩) (first
    | (go_at_call 88; refine q2.mono ?_; rintro v w2 ⟨sa, n, cap, rfl, hr, hp, hk⟩; have hX2 := (hX1.kept (kept_drew [] _) (by simp)).kept hk (fun hm => by have := hL _ hm; omega); replace f0 := hX2.six.1; replace f1 := hX2.six.2.1; replace f2 := hX2.six.2.2.1; replace f3 := hX2.six.2.2.2.1; replace f4 := hX2.six.2.2.2.2.1; replace f5 := hX2.six.2.2.2.2.2))
  go_wp2_with fail
  go_ret2
  exact ⟨sa, n, cap, rfl, hr.low hk2.size, hp, (hk2.mono (by simp)).trans hk⟩
set_option maxRecDepth 100000 in
set_option maxHeartbeats 1000000 in
/-- Take, whatever its step does. -/
theorem take_put (o pl d b1 b2 : Nat) (r : Rs) (x : Mv) (E : Nat) (T : List Mv) (P : World → Prop) (L : List Nat) (w : World) (hL : ∀ k ∈ L, k < w.heap.size) (h : ReAt w o pl d b1 b2 r)
    (q1 : ∀ W, Kept [] w W → Calls Tryz.prog 47 #[.pointer (some ⟨o, 0, none⟩), .int .i64 x.k] W fun v w' => v = .returned (.func (.func 89) #[] #[]) ∧ w' = W)
    (q2 : ∀ W, Kept [] w W → Calls Tryz.prog 89 #[.pointer (some ⟨o, 0, none⟩), x.val] W fun v w' => ∃ sa n cap, v = .returned (.tuple #[.slice sa n cap, .int .i64 (E : Int)]) ∧ MRow W.heap.size w' (.slice sa n cap) T ∧ P w' ∧ Kept L W w') :
    Calls Tryz.prog 13 #[.pointer (some ⟨o, 0, none⟩), x.val] w fun v w' => ∃ sa n cap, v = .returned (.tuple #[.slice sa n cap, .int .i64 (E : Int)]) ∧ MRow w.heap.size w' (.slice sa n cap) T ∧ P w' ∧ Kept L w w' := by
  obtain ⟨W0, hW0, hX, hk0, hz⟩ := boxed w x
  have h0 := h.kept0 hk0
  have qm := made_any o pl d b1 b2 r W0 h0
  have hk1 : Kept [] w W0.drew := hk0.trans (kept_drew [] W0)
  have hk2 : Kept [] w W0.drew.drew := hk1.trans (kept_drew [] W0.drew)
  replace q1 := q1 _ hk1
  replace q2 := q2 _ hk2
  have hX1 := hX.kept (kept_drew [] W0) (by simp)
  have a0 := hX1.six.1
  obtain ⟨f0, f1, f2, f3, f4, f5⟩ := (hX1.kept (kept_drew [] W0.drew) (by simp)).six
  unfold Mv.val at *
  go_enter Tryz.func13, Tryz.ntmps13
  go_upto_region 3 with (go_at_call 46; refine qm.mono ?_; rintro v w1 ⟨rfl, rfl⟩)
  go_region_held3 (fun W => W.cell? ⟨w.heap.size, 0, none⟩ = some (.int .i64 x.k)) (exact a0) (first
    | (go_at_call 47; refine q1.mono ?_; rintro v w1 ⟨rfl, rfl⟩))
  go_wp2_with fail
  go_region_held3 (fun W => W.cell? ⟨w.heap.size, 0, none⟩ = some (.int .i64 x.k) ∧ W.cell? ⟨w.heap.size, 1, none⟩ = some (.int .i64 x.i) ∧ W.cell? ⟨w.heap.size, 2, none⟩ = some (.int .i64 x.o) ∧ W.cell? ⟨w.heap.size, 3, none⟩ = some (.int .u64 (x.m : Int)) ∧ W.cell? ⟨w.heap.size, 4, none⟩ = some (.bool x.s) ∧ W.cell? ⟨w.heap.size, 5, none⟩ = some (.slice x.sa x.len x.cap)) (exact ⟨f0, f1, f2, f3, f4, f5⟩) (first
    | (go_at_call 89; refine q2.mono ?_; rintro v w2 ⟨sa, n, cap, rfl, hr, hp, hk⟩; have hX2 := (hX1.kept (kept_drew [] _) (by simp)).kept hk (fun hm => by have := hL _ hm; omega); replace f0 := hX2.six.1; replace f1 := hX2.six.2.1; replace f2 := hX2.six.2.2.1; replace f3 := hX2.six.2.2.2.1; replace f4 := hX2.six.2.2.2.2.1; replace f5 := hX2.six.2.2.2.2.2))
  go_wp2_with fail
  go_ret2
  exact ⟨sa, n, cap, rfl, hr.low hk2.size, hp, (hk2.mono (by simp)).trans hk⟩
set_option maxRecDepth 100000 in
set_option maxHeartbeats 1000000 in
/-- Take, whatever its step does. -/
theorem take_end (o pl d b1 b2 : Nat) (r : Rs) (x : Mv) (E : Nat) (T : List Mv) (P : World → Prop) (L : List Nat) (w : World) (hL : ∀ k ∈ L, k < w.heap.size) (h : ReAt w o pl d b1 b2 r)
    (q1 : ∀ W, Kept [] w W → Calls Tryz.prog 47 #[.pointer (some ⟨o, 0, none⟩), .int .i64 x.k] W fun v w' => v = .returned (.func (.func 90) #[] #[]) ∧ w' = W)
    (q2 : ∀ W, Kept [] w W → Calls Tryz.prog 90 #[.pointer (some ⟨o, 0, none⟩), x.val] W fun v w' => ∃ sa n cap, v = .returned (.tuple #[.slice sa n cap, .int .i64 (E : Int)]) ∧ MRow W.heap.size w' (.slice sa n cap) T ∧ P w' ∧ Kept L W w') :
    Calls Tryz.prog 13 #[.pointer (some ⟨o, 0, none⟩), x.val] w fun v w' => ∃ sa n cap, v = .returned (.tuple #[.slice sa n cap, .int .i64 (E : Int)]) ∧ MRow w.heap.size w' (.slice sa n cap) T ∧ P w' ∧ Kept L w w' := by
  obtain ⟨W0, hW0, hX, hk0, hz⟩ := boxed w x
  have h0 := h.kept0 hk0
  have qm := made_any o pl d b1 b2 r W0 h0
  have hk1 : Kept [] w W0.drew := hk0.trans (kept_drew [] W0)
  have hk2 : Kept [] w W0.drew.drew := hk1.trans (kept_drew [] W0.drew)
  replace q1 := q1 _ hk1
  replace q2 := q2 _ hk2
  have hX1 := hX.kept (kept_drew [] W0) (by simp)
  have a0 := hX1.six.1
  obtain ⟨f0, f1, f2, f3, f4, f5⟩ := (hX1.kept (kept_drew [] W0.drew) (by simp)).six
  unfold Mv.val at *
  go_enter Tryz.func13, Tryz.ntmps13
  go_upto_region 3 with (go_at_call 46; refine qm.mono ?_; rintro v w1 ⟨rfl, rfl⟩)
  go_region_held3 (fun W => W.cell? ⟨w.heap.size, 0, none⟩ = some (.int .i64 x.k)) (exact a0) (first
    | (go_at_call 47; refine q1.mono ?_; rintro v w1 ⟨rfl, rfl⟩))
  go_wp2_with fail
  go_region_held3 (fun W => W.cell? ⟨w.heap.size, 0, none⟩ = some (.int .i64 x.k) ∧ W.cell? ⟨w.heap.size, 1, none⟩ = some (.int .i64 x.i) ∧ W.cell? ⟨w.heap.size, 2, none⟩ = some (.int .i64 x.o) ∧ W.cell? ⟨w.heap.size, 3, none⟩ = some (.int .u64 (x.m : Int)) ∧ W.cell? ⟨w.heap.size, 4, none⟩ = some (.bool x.s) ∧ W.cell? ⟨w.heap.size, 5, none⟩ = some (.slice x.sa x.len x.cap)) (exact ⟨f0, f1, f2, f3, f4, f5⟩) (first
    | (go_at_call 90; refine q2.mono ?_; rintro v w2 ⟨sa, n, cap, rfl, hr, hp, hk⟩; have hX2 := (hX1.kept (kept_drew [] _) (by simp)).kept hk (fun hm => by have := hL _ hm; omega); replace f0 := hX2.six.1; replace f1 := hX2.six.2.1; replace f2 := hX2.six.2.2.1; replace f3 := hX2.six.2.2.2.1; replace f4 := hX2.six.2.2.2.2.1; replace f5 := hX2.six.2.2.2.2.2))
  go_wp2_with fail
  go_ret2
  exact ⟨sa, n, cap, rfl, hr.low hk2.size, hp, (hk2.mono (by simp)).trans hk⟩
set_option maxRecDepth 100000 in
/-- Take -/
theorem take_any (o pl d b1 b2 : Nat) (r : Rs) (x : Mv) (lo hi : Nat) (hops : r.d.ops ≤ 900000) (w : World) (h : ReAt w o pl d b1 b2 r) (hx : x.At lo hi w) (hhi : hi ≤ w.heap.size) (hlen : x.len ≤ 9223372036854775807) (hap : ∀ k ∈ [d, b1, b2], k < lo ∨ hi ≤ k) :
    Calls Tryz.prog 13 #[.pointer (some ⟨o, 0, none⟩), x.val] w fun v w' => ∃ sa n cap, v = .returned (.tuple #[.slice sa n cap, .int .i64 (takeE r x.ms : Nat)]) ∧ MRow w.heap.size w' (.slice sa n cap) ((takeL r x.ms).map bare) ∧ ReAt w' o pl d b1 b2 (takeS r x.ms) ∧ Kept [o, pl, d, b1, b2] w w' := by
  have hlt := h.lt
  have hL : ∀ k ∈ [o, pl, d, b1, b2], k < w.heap.size := by simp; omega
  have none_ : ∀ W, MRow W.heap.size W (.slice none 0 0) [] := fun W => MRow.nil _ _
  have passes : (∀ W, Kept [] w W → Calls Tryz.prog 47 #[.pointer (some ⟨o, 0, none⟩), .int .i64 x.k] W fun v w' => v = .returned (.func (.func 87) #[] #[]) ∧ w' = W) → takeE r x.ms = 0 → takeL r x.ms = [] → takeS r x.ms = r →
      Calls Tryz.prog 13 #[.pointer (some ⟨o, 0, none⟩), x.val] w fun v w' => ∃ sa n cap, v = .returned (.tuple #[.slice sa n cap, .int .i64 (takeE r x.ms : Nat)]) ∧ MRow w.heap.size w' (.slice sa n cap) ((takeL r x.ms).map bare) ∧ ReAt w' o pl d b1 b2 (takeS r x.ms) ∧ Kept [o, pl, d, b1, b2] w w' := fun q1 e1 e2 e3 => by
    rw [e1, e2, e3]
    exact take_pass o pl d b1 b2 r x 0 [] (fun W => ReAt W o pl d b1 b2 r) _ w hL h q1 (fun W hk => (pass_any _ x W).mono fun v w' ⟨hv, hk2⟩ => ⟨none, 0, 0, hv, (MRow.nil _ _), (h.kept0 hk).kept0 hk2, hk2.mono (by simp)⟩)
  obtain ⟨s, g, l, e⟩ := r
  cases e with
  | true => exact passes (fun W hk => step_over o pl d b1 b2 s g l x.k W (h.kept0 hk)) (by simp [takeE]) (by simp [takeL]) (by simp [takeS])
  | false =>
    cases g with
    | true =>
      by_cases h7 : x.k = 7
      · have q1 : ∀ W, Kept [] w W → Calls Tryz.prog 47 #[.pointer (some ⟨o, 0, none⟩), .int .i64 x.k] W fun v w' => v = .returned (.func (.func 88) #[] #[]) ∧ w' = W := fun W hk => by
          rw [h7]
          exact step_strike o pl d b1 b2 s l W (h.kept0 hk)
        have m7 : x.ms.k = 7 := h7
        have mo : x.ms.o = x.o := rfl
        have hops' : s.ops ≤ 999998 := by
          have : s.ops ≤ 900000 := hops
          omega
        cases hh : has l x.o with
        | false =>
          have e1 : takeE ⟨s, true, l, false⟩ x.ms = 0 := by simp [takeE, mo, hh]
          have e2 : takeL ⟨s, true, l, false⟩ x.ms = [] := by simp [takeL, e1, mo, hh]
          have e3 : takeS ⟨s, true, l, false⟩ x.ms = ⟨s, true, l, false⟩ := by simp [takeS, mo, hh]
          rw [e1, e2, e3]
          exact take_strike o pl d b1 b2 _ x 0 [] (fun W => ReAt W o pl d b1 b2 ⟨s, true, l, false⟩) _ w hL h q1 (fun W hk => (strike_miss o pl d b1 b2 s true false l x W (h.kept0 hk) hh).mono fun v w' ⟨hv, hk2⟩ => ⟨none, 0, 0, hv, MRow.nil _ _, (h.kept0 hk).kept0 hk2, hk2.mono (by simp)⟩)
        | true =>
          by_cases ht : toldE s x.o = 0
          · have e1 : takeE ⟨s, true, l, false⟩ x.ms = 0 := by simp [takeE, mo, ht]
            have e2 : takeL ⟨s, true, l, false⟩ x.ms = if without l x.o = 0 then [endM] else [] := by simp [takeL, e1, m7, mo, hh]
            have e3 : takeS ⟨s, true, l, false⟩ x.ms = ⟨toldS s x.o, true, without l x.o, if without l x.o = 0 then true else false⟩ := by
              simp [takeS, m7, mo, hh, ht]
            have e4 : (takeL ⟨s, true, l, false⟩ x.ms).map bare = if without l x.o = 0 then [bare endM] else [] := by
              rw [e2]
              split <;> rfl
            rw [e1, e4, e3]
            exact take_strike o pl d b1 b2 _ x 0 _ (fun W => ReAt W o pl d b1 b2 ⟨toldS s x.o, true, without l x.o, if without l x.o = 0 then true else false⟩) _ w hL h q1 (fun W hk => strike_go o pl d b1 b2 s true false l x hops' W (h.kept0 hk) hh ht)
          · have e1 : takeE ⟨s, true, l, false⟩ x.ms = toldE s x.o := by simp [takeE, m7, mo, hh]
            have e2 : takeL ⟨s, true, l, false⟩ x.ms = [] := by simp [takeL, e1, ht]
            have e3 : takeS ⟨s, true, l, false⟩ x.ms = ⟨toldS s x.o, true, l, false⟩ := by simp [takeS, m7, mo, hh, ht]
            rw [e1, e2, e3]
            exact take_strike o pl d b1 b2 _ x _ [] (fun W => ReAt W o pl d b1 b2 ⟨toldS s x.o, true, l, false⟩) _ w hL h q1 (fun W hk => (strike_bad o pl d b1 b2 s true false l x hops' W (h.kept0 hk) hh ht).mono fun v w' ⟨hv, hR, hk2⟩ => ⟨none, 0, 0, hv, MRow.nil _ _, hR, hk2.mono (by simp)⟩)
      · have m7 : ¬ x.ms.k = 7 := h7
        exact passes (fun W hk => step_src o pl d b1 b2 s l x.k h7 W (h.kept0 hk)) (by simp [takeE, m7]) (by simp [takeL, m7]) (by simp [takeS, m7])
    | false =>
      by_cases h6 : x.k = 6
      · have q1 : ∀ W, Kept [] w W → Calls Tryz.prog 47 #[.pointer (some ⟨o, 0, none⟩), .int .i64 x.k] W fun v w' => v = .returned (.func (.func 89) #[] #[]) ∧ w' = W := fun W hk => by
          rw [h6]
          exact step_put o pl d b1 b2 s l W (h.kept0 hk)
        have m6 : x.ms.k = 6 := h6
        have mo : x.ms.o = x.o := rfl
        by_cases ht : extE s x.ms = 0
        · have e1 : takeE ⟨s, false, l, false⟩ x.ms = 0 := by simp [takeE, ht]
          have e2 : (takeL ⟨s, false, l, false⟩ x.ms).map bare = [bare (haveM x.o)] := by simp [takeL, e1, m6, mo]
          have e3 : takeS ⟨s, false, l, false⟩ x.ms = ⟨extS s x.ms, false, without l x.o, false⟩ := by simp [takeS, m6, mo, ht]
          rw [e1, e2, e3]
          exact take_put o pl d b1 b2 _ x 0 _ (fun W => ReAt W o pl d b1 b2 ⟨extS s x.ms, false, without l x.o, false⟩) _ w hL h q1 (fun W hk => put_goes o pl d b1 b2 s false false l x lo hi hops W (h.kept0 hk) (hx.kept hhi hk (by simp)) (Nat.le_trans hhi hk.size) hlen hap ht)
        · have e1 : takeE ⟨s, false, l, false⟩ x.ms = extE s x.ms := by simp [takeE, m6]
          have e2 : takeL ⟨s, false, l, false⟩ x.ms = [] := by simp [takeL, e1, ht]
          have e3 : takeS ⟨s, false, l, false⟩ x.ms = ⟨extS s x.ms, false, l, false⟩ := by simp [takeS, m6, ht]
          rw [e1, e2, e3]
          exact take_put o pl d b1 b2 _ x _ [] (fun W => ReAt W o pl d b1 b2 ⟨extS s x.ms, false, l, false⟩) _ w hL h q1 (fun W hk => (put_fails o pl d b1 b2 s false false l x lo hi hops W (h.kept0 hk) (hx.kept hhi hk (by simp)) (Nat.le_trans hhi hk.size) hlen hap ht).mono fun v w' ⟨hv, hR, hk2⟩ => ⟨none, 0, 0, hv, MRow.nil _ _, hR, hk2.mono (by simp)⟩)
      · have m6 : ¬ x.ms.k = 6 := h6
        by_cases h8 : x.k = 8
        · have q1 : ∀ W, Kept [] w W → Calls Tryz.prog 47 #[.pointer (some ⟨o, 0, none⟩), .int .i64 x.k] W fun v w' => v = .returned (.func (.func 90) #[] #[]) ∧ w' = W := fun W hk => by
            rw [h8]
            exact step_end o pl d b1 b2 s l W (h.kept0 hk)
          have m8 : x.ms.k = 8 := h8
          have e1 : takeE ⟨s, false, l, false⟩ x.ms = 0 := by simp [takeE, m6]
          have e2 : takeL ⟨s, false, l, false⟩ x.ms = [] := by simp [takeL, m6]
          have e3 : takeS ⟨s, false, l, false⟩ x.ms = ⟨s, false, l, true⟩ := by simp [takeS, m8]
          rw [e1, e2, e3]
          exact take_end o pl d b1 b2 _ x 0 [] (fun W => ReAt W o pl d b1 b2 ⟨s, false, l, true⟩) _ w hL h q1 (fun W hk => (end_any o pl d b1 b2 s false false l x W (h.kept0 hk)).mono fun v w' ⟨hv, hR, hk2⟩ => ⟨none, 0, 0, hv, MRow.nil _ _, hR, hk2.mono (by simp)⟩)
        · have m8 : ¬ x.ms.k = 8 := h8
          exact passes (fun W hk => step_tgt o pl d b1 b2 s l x.k h6 h8 W (h.kept0 hk)) (by simp [takeE, m6]) (by simp [takeL, m6]) (by simp [takeS, m6, m8])
end Go.Proofs.YtfiofdmefgkloaaGreat.Resync
