/-
  Take of a resync in memory.
-/
import Derived.Test.YtfiofdmefgkloaaGreatReC
import Derived.Test.YtfiofdmefgkloaaGreatReN
import Derived.Deep.CutBlock
import Derived.Test.YtfiofdmefgkloaaGreatReA
import Derived.Test.YtfiofdmefgkloaaGreatPkE
import Derived.Deep.RegionHeld3
import Derived.Test.YtfiofdmefgkloaaGreatCpE
import Derived.Test.YtfiofdmefgkloaaGreatMetaB
import Derived.Test.YtfiofdmefgkloaaGreatRows
import Derived.Test.YtfiofdmefgkloaaGreatPkA
import Derived.ProofKit
import Derived.OpenShut
import Derived.ShutString
import Derived.ChangeOld
import Derived.ChangeSlices
import Derived.Deep.Slices
import Derived.Lib.SmallJoins
import Derived.Test.YtfiofdmefgkloaaGreatReB
import Derived.Test.YtfiofdmefgkloaaGreatDataN
import Derived.Test.YtfiofdmefgkloaaGreatDisk3
namespace Go.Proofs.YtfiofdmefgkloaaGreat.Resync
open Go.RowKit
open Math Copying
open Pack (Mv Ms mv0 good)
open Bits.Math (has without elems)

set_option maxRecDepth 100000 in
theorem step_over (o pl d b1 b2 : Nat) (s : Dk) (g : Bool) (l : Nat) (k : Int) (w : World) (h : ReAt w o pl d b1 b2 ⟨s, g, l, true⟩) :
    Calls Tryz.prog 47 #[.pointer (some ⟨o, 0, none⟩), .int .i64 k] w fun v w' => v = .returned (.func (.func 87) #[] #[]) ∧ w' = w := by
  have c3 := h.four.2.2.2
  go_enter Tryz.func47, Tryz.ntmps47
  go_wp2
  go_ret
  exact ⟨rfl, rfl⟩
set_option maxRecDepth 100000 in
theorem step_strike (o pl d b1 b2 : Nat) (s : Dk) (l : Nat) (w : World) (h : ReAt w o pl d b1 b2 ⟨s, true, l, false⟩) :
    Calls Tryz.prog 47 #[.pointer (some ⟨o, 0, none⟩), .int .i64 7] w fun v w' => v = .returned (.func (.func 88) #[] #[]) ∧ w' = w := by
  have c2 := h.four.2.2.1
  have c3 := h.four.2.2.2
  go_enter Tryz.func47, Tryz.ntmps47
  go_wp2
  go_ret
  exact ⟨rfl, rfl⟩
set_option maxRecDepth 100000 in
theorem step_src (o pl d b1 b2 : Nat) (s : Dk) (l : Nat) (k : Int) (hk : k ≠ 7) (w : World) (h : ReAt w o pl d b1 b2 ⟨s, true, l, false⟩) :
    Calls Tryz.prog 47 #[.pointer (some ⟨o, 0, none⟩), .int .i64 k] w fun v w' => v = .returned (.func (.func 87) #[] #[]) ∧ w' = w := by
  have c2 := h.four.2.2.1
  have c3 := h.four.2.2.2
  have z7 : (k == 7) = false := by simpa using hk
  go_enter Tryz.func47, Tryz.ntmps47
  go_wp2
  go_ret
  exact ⟨rfl, rfl⟩
set_option maxRecDepth 100000 in
theorem step_put (o pl d b1 b2 : Nat) (s : Dk) (l : Nat) (w : World) (h : ReAt w o pl d b1 b2 ⟨s, false, l, false⟩) :
    Calls Tryz.prog 47 #[.pointer (some ⟨o, 0, none⟩), .int .i64 6] w fun v w' => v = .returned (.func (.func 89) #[] #[]) ∧ w' = w := by
  have c2 := h.four.2.2.1
  have c3 := h.four.2.2.2
  go_enter Tryz.func47, Tryz.ntmps47
  go_wp2
  go_ret
  exact ⟨rfl, rfl⟩
set_option maxRecDepth 100000 in
theorem step_end (o pl d b1 b2 : Nat) (s : Dk) (l : Nat) (w : World) (h : ReAt w o pl d b1 b2 ⟨s, false, l, false⟩) :
    Calls Tryz.prog 47 #[.pointer (some ⟨o, 0, none⟩), .int .i64 8] w fun v w' => v = .returned (.func (.func 90) #[] #[]) ∧ w' = w := by
  have c2 := h.four.2.2.1
  have c3 := h.four.2.2.2
  go_enter Tryz.func47, Tryz.ntmps47
  go_wp2
  go_ret
  exact ⟨rfl, rfl⟩
set_option maxRecDepth 100000 in
theorem step_tgt (o pl d b1 b2 : Nat) (s : Dk) (l : Nat) (k : Int) (hk : k ≠ 6) (hk8 : k ≠ 8) (w : World) (h : ReAt w o pl d b1 b2 ⟨s, false, l, false⟩) :
    Calls Tryz.prog 47 #[.pointer (some ⟨o, 0, none⟩), .int .i64 k] w fun v w' => v = .returned (.func (.func 87) #[] #[]) ∧ w' = w := by
  have c2 := h.four.2.2.1
  have c3 := h.four.2.2.2
  have z6 : (k == 6) = false := by simpa using hk
  have z8 : (k == 8) = false := by simpa using hk8
  go_enter Tryz.func47, Tryz.ntmps47
  go_wp2
  go_ret
  exact ⟨rfl, rfl⟩
set_option maxRecDepth 100000 in
set_option maxHeartbeats 1000000 in
/-- Take, whatever its step does. -/
theorem take_pass (o pl d b1 b2 : Nat) (r : Rs) (x : Mv) (E : Nat) (T : List Mv) (P : World → Prop) (L : List Nat) (w : World) (hL : ∀ k ∈ L, k < w.heap.size) (h : ReAt w o pl d b1 b2 r)
    (q1 : ∀ W, Kept [] w W → Calls Tryz.prog 47 #[.pointer (some ⟨o, 0, none⟩), .int .i64 x.k] W fun v w' => v = .returned (.func (.func 87) #[] #[]) ∧ w' = W)
    (q2 : ∀ W, Kept [] w W → Calls Tryz.prog 87 #[.pointer (some ⟨o, 0, none⟩), x.val] W fun v w' => ∃ sa n cap, v = .returned (.tuple #[.slice sa n cap, .int .i64 (E : Int)]) ∧ MRow W.heap.size w' (.slice sa n cap) T ∧ P w' ∧ Kept L W w') :
    Calls Tryz.prog 13 #[.pointer (some ⟨o, 0, none⟩), x.val] w fun v w' => ∃ sa n cap, v = .returned (.tuple #[.slice sa n cap, .int .i64 (E : Int)]) ∧ MRow w.heap.size w' (.slice sa n cap) T ∧ P w' ∧ Kept L w w' := by
  obtain ⟨W0, hW0, hX, hk0, hz⟩ := boxed w x
  have h0 := h.kept0 hk0
  have qm := made_any o pl d b1 b2 r W0 h0
  have hk1 : Kept [] w W0.drew := hk0.trans (kept_drew [] W0)
  have hk2 : Kept [] w W0.drew.drew := hk1.trans (kept_drew [] W0.drew)
  replace q1 := q1 _ hk1
  replace q2 := q2 _ hk2
  have hX1 := hX.kept (kept_drew [] W0) (by simp)
  have a0 := hX1.six.1
  obtain ⟨f0, f1, f2, f3, f4, f5⟩ := (hX1.kept (kept_drew [] W0.drew) (by simp)).six
  unfold Mv.val at *
  go_enter Tryz.func13, Tryz.ntmps13
  go_upto_region 3 with (go_at_call 46; refine qm.mono ?_; rintro v w1 ⟨rfl, rfl⟩)
  go_region_held3 (fun W => W.cell? ⟨w.heap.size, 0, none⟩ = some (.int .i64 x.k)) (exact a0) (first
    | (go_at_call 47; refine q1.mono ?_; rintro v w1 ⟨rfl, rfl⟩))
  go_wp2_with fail
  go_region_held3 (fun W => W.cell? ⟨w.heap.size, 0, none⟩ = some (.int .i64 x.k) ∧ W.cell? ⟨w.heap.size, 1, none⟩ = some (.int .i64 x.i) ∧ W.cell? ⟨w.heap.size, 2, none⟩ = some (.int .i64 x.o) ∧ W.cell? ⟨w.heap.size, 3, none⟩ = some (.int .u64 (x.m : Int)) ∧ W.cell? ⟨w.heap.size, 4, none⟩ = some (.bool x.s) ∧ W.cell? ⟨w.heap.size, 5, none⟩ = some (.slice x.sa x.len x.cap)) (exact ⟨f0, f1, f2, f3, f4, f5⟩) (first
    | (go_at_call 87; refine q2.mono ?_; rintro v w2 ⟨sa, n, cap, rfl, hr, hp, hk⟩; have hX2 := (hX1.kept (kept_drew [] _) (by simp)).kept hk (fun hm => by have := hL _ hm; omega); replace f0 := hX2.six.1; replace f1 := hX2.six.2.1; replace f2 := hX2.six.2.2.1; replace f3 := hX2.six.2.2.2.1; replace f4 := hX2.six.2.2.2.2.1; replace f5 := hX2.six.2.2.2.2.2))
  go_wp2_with fail
  go_ret2
  exact ⟨sa, n, cap, rfl, hr.low hk2.size, hp, (hk2.mono (by simp)).trans hk⟩
set_option maxRecDepth 100000 in
set_option maxHeartbeats 1000000 in
/-- Take, whatever its step does. -/
theorem take_strike (o pl d b1 b2 : Nat) (r : Rs) (x : Mv) (E : Nat) (T : List Mv) (P : World → Prop) (L : List Nat) (w : World) (hL : ∀ k ∈ L, k < w.heap.size) (h : ReAt w o pl d b1 b2 r)
    (q1 : ∀ W, Kept [] w W → Calls Tryz.prog 47 #[.pointer (some ⟨o, 0, none⟩), .int .i64 x.k] W fun v w' => v = .returned (.func (.func 88) #[] #[]) ∧ w' = W)
    (q2 : ∀ W, Kept [] w W → Calls Tryz.prog 88 #[.pointer (some ⟨o, 0, none⟩), x.val] W fun v w' => ∃ sa n cap, v = .returned (.tuple #[.slice sa n cap, .int .i64 (E : Int)]) ∧ MRow W.heap.size w' (.slice sa n cap) T ∧ P w' ∧ Kept L W w') :
    Calls Tryz.prog 13 #[.pointer (some ⟨o, 0, none⟩), x.val] w fun v w' => ∃ sa n cap, v = .returned (.tuple #[.slice sa n cap, .int .i64 (E : Int)]) ∧ MRow w.heap.size w' (.slice sa n cap) T ∧ P w' ∧ Kept L w w' := by
  obtain ⟨W0, hW0, hX, hk0, hz⟩ := boxed w x
  have h0 := h.kept0 hk0
  have qm := made_any o pl d b1 b2 r W0 h0
  have hk1 : Kept [] w W0.drew := hk0.trans (kept_drew [] W0)
  have hk2 : Kept [] w W0.drew.drew := hk1.trans (kept_drew [] W0.drew)
  replace q1 := q1 _ hk1
  replace q2 := q2 _ hk2
  have hX1 := hX.kept (kept_drew [] W0) (by simp)
  have a0 := hX1.six.1
  obtain ⟨f0, f1, f2, f3, f4, f5⟩ := (hX1.kept (kept_drew [] W0.drew) (by simp)).six
  unfold Mv.val at *
  go_enter Tryz.func13, Tryz.ntmps13
  go_upto_region 3 with (go_at_call 46; refine qm.mono ?_; rintro v w1 ⟨rfl, rfl⟩)
  go_region_held3 (fun W => W.cell? ⟨w.heap.size, 0, none⟩ = some (.int .i64 x.k)) (exact a0) (first
    | (go_at_call 47; refine q1.mono ?_; rintro v w1 ⟨rfl, rfl⟩))
  go_wp2_with fail
  go_region_held3 (fun W => W.cell? ⟨w.heap.size, 0, none⟩ = some (.int .i64 x.k) ∧ W.cell? ⟨w.heap.size, 1, none⟩ = some (.int .i64 x.i) ∧ W.cell? ⟨w.heap.size, 2, none⟩ = some (.int .i64 x.o) ∧ W.cell? ⟨w.heap.size, 3, none⟩ = some (.int .u64 (x.m : Int)) ∧ W.cell? ⟨w.heap.size, 4, none⟩ = some (.bool x.s) ∧ W.cell? ⟨w.heap.size, 5, none⟩ = some (.slice x.sa x.len x.cap)) (exact ⟨f0, f1, f2, f3, f4, f5⟩) (first
    | (go_at_call 88; refine q2.mono ?_; rintro v w2 ⟨sa, n, cap, rfl, hr, hp, hk⟩; have hX2 := (hX1.kept (kept_drew [] _) (by simp)).kept hk (fun hm => by have := hL _ hm; omega); replace f0 := hX2.six.1; replace f1 := hX2.six.2.1; replace f2 := hX2.six.2.2.1; replace f3 := hX2.six.2.2.2.1; replace f4 := hX2.six.2.2.2.2.1; replace f5 := hX2.six.2.2.2.2.2))
  go_wp2_with fail
  go_ret2
  exact ⟨sa, n, cap, rfl, hr.low hk2.size, hp, (hk2.mono (by simp)).trans hk⟩
set_option maxRecDepth 100000 in
set_option maxHeartbeats 1000000 in
/-- Take, whatever its step does. -/
theorem take_put (o pl d b1 b2 : Nat) (r : Rs) (x : Mv) (E : Nat) (T : List Mv) (P : World → Prop) (L : List Nat) (w : World) (hL : ∀ k ∈ L, k < w.heap.size) (h : ReAt w o pl d b1 b2 r)
    (q1 : ∀ W, Kept [] w W → Calls Tryz.prog 47 #[.pointer (some ⟨o, 0, none⟩), .int .i64 x.k] W fun v w' => v = .returned (.func (.func 89) #[] #[]) ∧ w' = W)
    (q2 : ∀ W, Kept [] w W → Calls Tryz.prog 89 #[.pointer (some ⟨o, 0, none⟩), x.val] W fun v w' => ∃ sa n cap, v = .returned (.tuple #[.slice sa n cap, .int .i64 (E : Int)]) ∧ MRow W.heap.size w' (.slice sa n cap) T ∧ P w' ∧ Kept L W w') :
    Calls Tryz.prog 13 #[.pointer (some ⟨o, 0, none⟩), x.val] w fun v w' => ∃ sa n cap, v = .returned (.tuple #[.slice sa n cap, .int .i64 (E : Int)]) ∧ MRow w.heap.size w' (.slice sa n cap) T ∧ P w' ∧ Kept L w w' := by
  obtain ⟨W0, hW0, hX, hk0, hz⟩ := boxed w x
  have h0 := h.kept0 hk0
  have qm := made_any o pl d b1 b2 r W0 h0
  have hk1 : Kept [] w W0.drew := hk0.trans (kept_drew [] W0)
  have hk2 : Kept [] w W0.drew.drew := hk1.trans (kept_drew [] W0.drew)
  replace q1 := q1 _ hk1
  replace q2 := q2 _ hk2
  have hX1 := hX.kept (kept_drew [] W0) (by simp)
  have a0 := hX1.six.1
  obtain ⟨f0, f1, f2, f3, f4, f5⟩ := (hX1.kept (kept_drew [] W0.drew) (by simp)).six
  unfold Mv.val at *
  go_enter Tryz.func13, Tryz.ntmps13
  go_upto_region 3 with (go_at_call 46; refine qm.mono ?_; rintro v w1 ⟨rfl, rfl⟩)
  go_region_held3 (fun W => W.cell? ⟨w.heap.size, 0, none⟩ = some (.int .i64 x.k)) (exact a0) (first
    | (go_at_call 47; refine q1.mono ?_; rintro v w1 ⟨rfl, rfl⟩))
  go_wp2_with fail
  go_region_held3 (fun W => W.cell? ⟨w.heap.size, 0, none⟩ = some (.int .i64 x.k) ∧ W.cell? ⟨w.heap.size, 1, none⟩ = some (.int .i64 x.i) ∧ W.cell? ⟨w.heap.size, 2, none⟩ = some (.int .i64 x.o) ∧ W.cell? ⟨w.heap.size, 3, none⟩ = some (.int .u64 (x.m : Int)) ∧ W.cell? ⟨w.heap.size, 4, none⟩ = some (.bool x.s) ∧ W.cell? ⟨w.heap.size, 5, none⟩ = some (.slice x.sa x.len x.cap)) (exact ⟨f0, f1, f2, f3, f4, f5⟩) (first
    | (go_at_call 89; refine q2.mono ?_; rintro v w2 ⟨sa, n, cap, rfl, hr, hp, hk⟩; have hX2 := (hX1.kept (kept_drew [] _) (by simp)).kept hk (fun hm => by have := hL _ hm; omega); replace f0 := hX2.six.1; replace f1 := hX2.six.2.1; replace f2 := hX2.six.2.2.1; replace f3 := hX2.six.2.2.2.1; replace f4 := hX2.six.2.2.2.2.1; replace f5 := hX2.six.2.2.2.2.2))
  go_wp2_with fail
  go_ret2
  exact ⟨sa, n, cap, rfl, hr.low hk2.size, hp, (hk2.mono (by simp)).trans hk⟩
set_option maxRecDepth 100000 in
set_option maxHeartbeats 1000000 in
/-- Take, whatever its step does. -/
theorem take_end (o pl d b1 b2 : Nat) (r : Rs) (x : Mv) (E : Nat) (T : List Mv) (P : World → Prop) (L : List Nat) (w : World) (hL : ∀ k ∈ L, k < w.heap.size) (h : ReAt w o pl d b1 b2 r)
    (q1 : ∀ W, Kept [] w W → Calls Tryz.prog 47 #[.pointer (some ⟨o, 0, none⟩), .int .i64 x.k] W fun v w' => v = .returned (.func (.func 90) #[] #[]) ∧ w' = W)
    (q2 : ∀ W, Kept [] w W → Calls Tryz.prog 90 #[.pointer (some ⟨o, 0, none⟩), x.val] W fun v w' => ∃ sa n cap, v = .returned (.tuple #[.slice sa n cap, .int .i64 (E : Int)]) ∧ MRow W.heap.size w' (.slice sa n cap) T ∧ P w' ∧ Kept L W w') :
    Calls Tryz.prog 13 #[.pointer (some ⟨o, 0, none⟩), x.val] w fun v w' => ∃ sa n cap, v = .returned (.tuple #[.slice sa n cap, .int .i64 (E : Int)]) ∧ MRow w.heap.size w' (.slice sa n cap) T ∧ P w' ∧ Kept L w w' := by
  obtain ⟨W0, hW0, hX, hk0, hz⟩ := boxed w x
  have h0 := h.kept0 hk0
  have qm := made_any o pl d b1 b2 r W0 h0
  have hk1 : Kept [] w W0.drew := hk0.trans (kept_drew [] W0)
  have hk2 : Kept [] w W0.drew.drew := hk1.trans (kept_drew [] W0.drew)
  replace q1 := q1 _ hk1
  replace q2 := q2 _ hk2
  have hX1 := hX.kept (kept_drew [] W0) (by simp)
  have a0 := hX1.six.1
  obtain ⟨f0, f1, f2, f3, f4, f5⟩ := (hX1.kept (kept_drew [] W0.drew) (by simp)).six
  unfold Mv.val at *
  go_enter Tryz.func13, Tryz.ntmps13
  go_upto_region 3 with (go_at_call 46; refine qm.mono ?_; rintro v w1 ⟨rfl, rfl⟩)
  go_region_held3 (fun W => W.cell? ⟨w.heap.size, 0, none⟩ = some (.int .i64 x.k)) (exact a0) (first
    | (go_at_call 47; refine q1.mono ?_; rintro v w1 ⟨rfl, rfl⟩))
  go_wp2_with fail
  go_region_held3 (fun W => W.cell? ⟨w.heap.size, 0, none⟩ = some (.int .i64 x.k) ∧ W.cell? ⟨w.heap.size, 1, none⟩ = some (.int .i64 x.i) ∧ W.cell? ⟨w.heap.size, 2, none⟩ = some (.int .i64 x.o) ∧ W.cell? ⟨w.heap.size, 3, none⟩ = some (.int .u64 (x.m : Int)) ∧ W.cell? ⟨w.heap.size, 4, none⟩ = some (.bool x.s) ∧ W.cell? ⟨w.heap.size, 5, none⟩ = some (.slice x.sa x.len x.cap)) (exact ⟨f0, f1, f2, f3, f4, f5⟩) (first
    | (go_at_call 90; refine q2.mono ?_; rintro v w2 ⟨sa, n, cap, rfl, hr, hp, hk⟩; have hX2 := (hX1.kept (kept_drew [] _) (by simp)).kept hk (fun hm => by have := hL _ hm; omega); replace f0 := hX2.six.1; replace f1 := hX2.six.2.1; replace f2 := hX2.six.2.2.1; replace f3 := hX2.six.2.2.2.1; replace f4 := hX2.six.2.2.2.2.1; replace f5 := hX2.six.2.2.2.2.2))
  go_wp2_with fail
  go_ret2
  exact ⟨sa, n, cap, rfl, hr.low hk2.size, hp, (hk2.mono (by simp)).trans hk⟩
set_option maxRecDepth 100000 in
/-- Take -/
theorem take_any (o pl d b1 b2 : Nat) (r : Rs) (x : Mv) (lo hi : Nat) (hops : r.d.ops ≤ 900000) (w : World) (h : ReAt w o pl d b1 b2 r) (hx : x.At lo hi w) (hhi : hi ≤ w.heap.size) (hlen : x.len ≤ 9223372036854775807) (hap : ∀ k ∈ [d, b1, b2], k < lo ∨ hi ≤ k) :
    Calls Tryz.prog 13 #[.pointer (some ⟨o, 0, none⟩), x.val] w fun v w' => ∃ sa n cap, v = .returned (.tuple #[.slice sa n cap, .int .i64 (takeE r x.ms : Nat)]) ∧ MRow w.heap.size w' (.slice sa n cap) ((takeL r x.ms).map bare) ∧ ReAt w' o pl d b1 b2 (takeS r x.ms) ∧ Kept [o, pl, d, b1, b2] w w' := by
  have hlt := h.lt
  have hL : ∀ k ∈ [o, pl, d, b1, b2], k < w.heap.size := by simp; omega
  have none_ : ∀ W, MRow W.heap.size W (.slice none 0 0) [] := fun W => MRow.nil _ _
  have passes : (∀ W, Kept [] w W → Calls Tryz.prog 47 #[.pointer (some ⟨o, 0, none⟩), .int .i64 x.k] W fun v w' => v = .returned (.func (.func 87) #[] #[]) ∧ w' = W) → takeE r x.ms = 0 → takeL r x.ms = [] → takeS r x.ms = r →
      Calls Tryz.prog 13 #[.pointer (some ⟨o, 0, none⟩), x.val] w fun v w' => ∃ sa n cap, v = .returned (.tuple #[.slice sa n cap, .int .i64 (takeE r x.ms : Nat)]) ∧ MRow w.heap.size w' (.slice sa n cap) ((takeL r x.ms).map bare) ∧ ReAt w' o pl d b1 b2 (takeS r x.ms) ∧ Kept [o, pl, d, b1, b2] w w' := fun q1 e1 e2 e3 => by
    rw [e1, e2, e3]
    exact take_pass o pl d b1 b2 r x 0 [] (fun W => ReAt W o pl d b1 b2 r) _ w hL h q1 (fun W hk => (pass_any _ x W).mono fun v w' ⟨hv, hk2⟩ => ⟨none, 0, 0, hv, (MRow.nil _ _), (h.kept0 hk).kept0 hk2, hk2.mono (by simp)⟩)
  obtain ⟨s, g, l, e⟩ := r
  cases e with
  | true => exact passes (fun W hk => step_over o pl d b1 b2 s g l x.k W (h.kept0 hk)) (by simp [takeE]) (by simp [takeL]) (by simp [takeS])
  | false =>
    cases g with
    | true =>
      by_cases h7 : x.k = 7
      · have q1 : ∀ W, Kept [] w W → Calls Tryz.prog 47 #[.pointer (some ⟨o, 0, none⟩), .int .i64 x.k] W fun v w' => v = .returned (.func (.func 88) #[] #[]) ∧ w' = W := fun W hk => by
          rw [h7]
          exact step_strike o pl d b1 b2 s l W (h.kept0 hk)
        have m7 : x.ms.k = 7 := h7
        have mo : x.ms.o = x.o := rfl
        have hops' : s.ops ≤ 999998 := by
          have : s.ops ≤ 900000 := hops
          omega
        cases hh : has l x.o with
        | false =>
          have e1 : takeE ⟨s, true, l, false⟩ x.ms = 0 := by simp [takeE, mo, hh]
          have e2 : takeL ⟨s, true, l, false⟩ x.ms = [] := by simp [takeL, e1, mo, hh]
          have e3 : takeS ⟨s, true, l, false⟩ x.ms = ⟨s, true, l, false⟩ := by simp [takeS, mo, hh]
          rw [e1, e2, e3]
          exact take_strike o pl d b1 b2 _ x 0 [] (fun W => ReAt W o pl d b1 b2 ⟨s, true, l, false⟩) _ w hL h q1 (fun W hk => (strike_miss o pl d b1 b2 s true false l x W (h.kept0 hk) hh).mono fun v w' ⟨hv, hk2⟩ => ⟨none, 0, 0, hv, MRow.nil _ _, (h.kept0 hk).kept0 hk2, hk2.mono (by simp)⟩)
        | true =>
          by_cases ht : toldE s x.o = 0
          · have e1 : takeE ⟨s, true, l, false⟩ x.ms = 0 := by simp [takeE, mo, ht]
            have e2 : takeL ⟨s, true, l, false⟩ x.ms = if without l x.o = 0 then [endM] else [] := by simp [takeL, e1, m7, mo, hh]
            have e3 : takeS ⟨s, true, l, false⟩ x.ms = ⟨toldS s x.o, true, without l x.o, if without l x.o = 0 then true else false⟩ := by
              simp [takeS, m7, mo, hh, ht]
            have e4 : (takeL ⟨s, true, l, false⟩ x.ms).map bare = if without l x.o = 0 then [bare endM] else [] := by
              rw [e2]
              split <;> rfl
            rw [e1, e4, e3]
            exact take_strike o pl d b1 b2 _ x 0 _ (fun W => ReAt W o pl d b1 b2 ⟨toldS s x.o, true, without l x.o, if without l x.o = 0 then true else false⟩) _ w hL h q1 (fun W hk => strike_go o pl d b1 b2 s true false l x hops' W (h.kept0 hk) hh ht)
          · have e1 : takeE ⟨s, true, l, false⟩ x.ms = toldE s x.o := by simp [takeE, m7, mo, hh]
            have e2 : takeL ⟨s, true, l, false⟩ x.ms = [] := by simp [takeL, e1, ht]
            have e3 : takeS ⟨s, true, l, false⟩ x.ms = ⟨toldS s x.o, true, l, false⟩ := by simp [takeS, m7, mo, hh, ht]
            rw [e1, e2, e3]
            exact take_strike o pl d b1 b2 _ x _ [] (fun W => ReAt W o pl d b1 b2 ⟨toldS s x.o, true, l, false⟩) _ w hL h q1 (fun W hk => (strike_bad o pl d b1 b2 s true false l x hops' W (h.kept0 hk) hh ht).mono fun v w' ⟨hv, hR, hk2⟩ => ⟨none, 0, 0, hv, MRow.nil _ _, hR, hk2.mono (by simp)⟩)
      · have m7 : ¬ x.ms.k = 7 := h7
        exact passes (fun W hk => step_src o pl d b1 b2 s l x.k h7 W (h.kept0 hk)) (by simp [takeE, m7]) (by simp [takeL, m7]) (by simp [takeS, m7])
    | false =>
      by_cases h6 : x.k = 6
      · have q1 : ∀ W, Kept [] w W → Calls Tryz.prog 47 #[.pointer (some ⟨o, 0, none⟩), .int .i64 x.k] W fun v w' => v = .returned (.func (.func 89) #[] #[]) ∧ w' = W := fun W hk => by
          rw [h6]
          exact step_put o pl d b1 b2 s l W (h.kept0 hk)
        have m6 : x.ms.k = 6 := h6
        have mo : x.ms.o = x.o := rfl
        by_cases ht : extE s x.ms = 0
        · have e1 : takeE ⟨s, false, l, false⟩ x.ms = 0 := by simp [takeE, ht]
          have e2 : (takeL ⟨s, false, l, false⟩ x.ms).map bare = [bare (haveM x.o)] := by simp [takeL, e1, m6, mo]
          have e3 : takeS ⟨s, false, l, false⟩ x.ms = ⟨extS s x.ms, false, without l x.o, false⟩ := by simp [takeS, m6, mo, ht]
          rw [e1, e2, e3]
          exact take_put o pl d b1 b2 _ x 0 _ (fun W => ReAt W o pl d b1 b2 ⟨extS s x.ms, false, without l x.o, false⟩) _ w hL h q1 (fun W hk => put_goes o pl d b1 b2 s false false l x lo hi hops W (h.kept0 hk) (hx.kept hhi hk (by simp)) (Nat.le_trans hhi hk.size) hlen hap ht)
        · have e1 : takeE ⟨s, false, l, false⟩ x.ms = extE s x.ms := by simp [takeE, m6]
          have e2 : takeL ⟨s, false, l, false⟩ x.ms = [] := by simp [takeL, e1, ht]
          have e3 : takeS ⟨s, false, l, false⟩ x.ms = ⟨extS s x.ms, false, l, false⟩ := by simp [takeS, m6, ht]
          rw [e1, e2, e3]
          exact take_put o pl d b1 b2 _ x _ [] (fun W => ReAt W o pl d b1 b2 ⟨extS s x.ms, false, l, false⟩) _ w hL h q1 (fun W hk => (put_fails o pl d b1 b2 s false false l x lo hi hops W (h.kept0 hk) (hx.kept hhi hk (by simp)) (Nat.le_trans hhi hk.size) hlen hap ht).mono fun v w' ⟨hv, hR, hk2⟩ => ⟨none, 0, 0, hv, MRow.nil _ _, hR, hk2.mono (by simp)⟩)
      · have m6 : ¬ x.ms.k = 6 := h6
        by_cases h8 : x.k = 8
        · have q1 : ∀ W, Kept [] w W → Calls Tryz.prog 47 #[.pointer (some ⟨o, 0, none⟩), .int .i64 x.k] W fun v w' => v = .returned (.func (.func 90) #[] #[]) ∧ w' = W := fun W hk => by
            rw [h8]
            exact step_end o pl d b1 b2 s l W (h.kept0 hk)
          have m8 : x.ms.k = 8 := h8
          have e1 : takeE ⟨s, false, l, false⟩ x.ms = 0 := by simp [takeE, m6]
          have e2 : takeL ⟨s, false, l, false⟩ x.ms = [] := by simp [takeL, m6]
          have e3 : takeS ⟨s, false, l, false⟩ x.ms = ⟨s, false, l, true⟩ := by simp [takeS, m8]
          rw [e1, e2, e3]
          exact take_end o pl d b1 b2 _ x 0 [] (fun W => ReAt W o pl d b1 b2 ⟨s, false, l, true⟩) _ w hL h q1 (fun W hk => (end_any o pl d b1 b2 s false false l x W (h.kept0 hk)).mono fun v w' ⟨hv, hR, hk2⟩ => ⟨none, 0, 0, hv, MRow.nil _ _, hR, hk2.mono (by simp)⟩)
        · have m8 : ¬ x.ms.k = 8 := h8
          exact passes (fun W hk => step_tgt o pl d b1 b2 s l x.k h6 h8 W (h.kept0 hk)) (by simp [takeE, m6]) (by simp [takeL, m6]) (by simp [takeS, m6, m8])
end Go.Proofs.YtfiofdmefgkloaaGreat.Resync
namespace Go.Proofs.YtfiofdmefgkloaaGreat.Resync
open Math Copying
open Pack (Ms)
open Bits.Math (has without elems)

/-- What a node tells first, and what it is then. -/
def beginL (s : Dk) (z : Nat) (src : Bool) : List Ms := if src = true then (if z = 0 then [endM] else (elems z).map (fun e : Nat => giveM s (e : Int))) else []
def beginR (s : Dk) (z : Nat) (src : Bool) : Rs := ⟨s, src, z, src && decide (z = 0)⟩
theorem Rest.gives {s : Dk} {c b l m : Nat} {F : Nat → List Nat} (h : Rest s c b l m F) {e : Nat} (he : e ≤ 3) : gotE s (Span.wOff e) (Span.wLen e) = 0 ∧ gotL s (Span.wOff e) (Span.wLen e) = extF F e := by
  rw [Span.wOff_in (by omega) (by omega), Span.wLen_in (by omega) (by omega)]
  exact ⟨(h.got he).2, (h.got he).1⟩
theorem Rest.give {s : Dk} {c b l m : Nat} {F : Nat → List Nat} (h : Rest s c b l m F) {e : Nat} (he : e ≤ 3) : giveM s (e : Int) = extM F e := by
  obtain ⟨h1, h2⟩ := h.gives he
  unfold giveM
  rw [if_pos h1, h2]
  rfl
theorem Rest.opens {s : Dk} {c b l m : Nat} {F : Nat → List Nat} (h : Rest s c b l m F) {z : Nat} (hz : z < 16) : beginL s z true = opening z F := by
  unfold beginL opening
  rw [if_pos rfl]
  split
  · rfl
  · exact List.map_congr_left fun e he => h.give (elems_four hz e he)
/-- All extents of a set are read, and are the same on both. -/
def Alike (s t : Dk) (z : Nat) : Prop := ∀ e ∈ elems z, gotE s (Span.wOff e) (Span.wLen e) = 0 ∧ gotE t (Span.wOff e) (Span.wLen e) = 0 ∧ gotL s (Span.wOff e) (Span.wLen e) = gotL t (Span.wOff e) (Span.wLen e)
theorem alike_of {s t : Dk} {c b l m c' b' l' m' : Nat} {F G : Nat → List Nat} (hs : Rest s c b l m F) (ht : Rest t c' b' l' m' G) {z : Nat} (hz : z < 16) (h : ∀ e, z.testBit e = true → extF F e = extF G e) : Alike s t z := fun e he => by
  have h3 := elems_four hz e he
  obtain ⟨a1, a2⟩ := hs.gives h3
  obtain ⟨b1, b2⟩ := ht.gives h3
  exact ⟨a1, b1, by rw [a2, b2]; exact h e (mem_elems.1 he).2⟩
theorem img_of {s t : Dk} {c b l m c' b' l' m' : Nat} {F : Nat → List Nat} (hs : Rest s c b l m F) (ht : Rest t c' b' l' m' F) : imgL s = imgL t := by rw [hs.img, ht.img]
theorem gives_one (wa wb : Bool) : Role.gives 1 wb wa = !Role.gives 0 wa wb := by cases wa <;> cases wb <;> rfl
theorem or_lt16 {x y : Nat} (hx : x < 16) (hy : y < 16) : x ||| y < 16 := Nat.or_lt_two_pow (n := 4) hx hy
theorem sub_or_left (x y : Nat) : Sub x (x ||| y) := fun j hj => by rw [Nat.testBit_or, hj]; rfl
theorem sub_or_right (x y : Nat) : Sub y (x ||| y) := fun j hj => by rw [Nat.testBit_or, hj]; simp
/-- A meeting: both begin, and tell one another all. -/
def meetF (sa sb : Dk) (z : Nat) (ga gb : Bool) : Bool × Rs × Rs := pumpF 100 (beginR (retS sa z) z ga) (beginR (retS sb z) z gb) (beginL (retS sa z) z ga) (beginL (retS sb z) z gb)
/-- What a meeting does, behind two Retires that end well. -/
theorem meets {sa sb : Dk} {c b c' b' z : Nat} {F G : Nat → List Nat} (ga gb : Bool) (hg : gb = !ga) (hz : z < 16) (hF : ∀ i, Sec (F i)) (hG : ∀ i, Sec (G i)) (hc : c + 4 < 1000) (hc' : c' + 4 < 1000) (ha : Rest (retS sa z) c b 0 z F) (hb : Rest (retS sb z) c' b' 0 z G) :
    ((retS sa z).fuse < 0 → (retS sb z).fuse < 0 → (meetF sa sb z ga gb).1 = true ∧ (if ga = true then Done z b b' F (meetF sa sb z ga gb).2.1 (meetF sa sb z ga gb).2.2 else Done z b' b G (meetF sa sb z ga gb).2.2 (meetF sa sb z ga gb).2.1)) ∧
    ((retS sa z).fuse < 0 ∨ (retS sb z).fuse < 0 → if ga = true then Met z b b' F (meetF sa sb z ga gb).2.1 (meetF sa sb z ga gb).2.2 else Met z b' b G (meetF sa sb z ga gb).2.2 (meetF sa sb z ga gb).2.1) := by
  subst hg
  cases ga with
  | true =>
    obtain ⟨ok, S, T, h1, _, h3, h4⟩ := met (S := beginR (retS sa z) z true) (T := beginR (retS sb z) z false) hz hF hc hc' ha hb rfl rfl rfl rfl rfl rfl
    have e : meetF sa sb z true (!true) = (ok, S, T) := by
      unfold meetF
      rw [ha.opens hz]
      exact h1
    rw [e]
    exact ⟨fun x y => by obtain ⟨e1, e2⟩ := h3 x y; exact ⟨e1, by rw [if_pos rfl]; exact e2⟩, fun x => by rw [if_pos rfl]; exact h4 x⟩
  | false =>
    obtain ⟨ok, S, T, _, h2, h3, h4⟩ := met (S := beginR (retS sb z) z true) (T := beginR (retS sa z) z false) hz hG hc' hc hb ha rfl rfl rfl rfl rfl rfl
    have e : meetF sa sb z false (!false) = (ok, T, S) := by
      unfold meetF
      rw [show (!false) = true from rfl, hb.opens hz]
      exact h2
    rw [e]
    exact ⟨fun x y => by obtain ⟨e1, e2⟩ := h3 y x; exact ⟨e1, by rw [if_neg (by decide)]; exact e2⟩, fun x => by rw [if_neg (by decide)]; exact h4 x.symm⟩
/-- What ResyncEnds asks of both at the end. -/
structure Ended (sa sb : Dk) (z : Nat) (gb : Bool) (A B : Rs) : Prop where
  over : A.over = true ∧ B.over = true
  left : A.left = 0 ∧ B.left = 0
  alike : Alike A.d B.d z
  img : imgL (if gb = true then B.d else A.d) = imgL (if gb = true then sb else sa)
  log : latestY A.d 2 4 = 0 ∧ latestY B.d 2 4 = 0
  map : latestY A.d 6 2 = 0 ∧ latestY B.d 6 2 = 0
theorem ends {sa sb : Dk} {za zb : Nat} {F G : Nat → List Nat} (wa wb : Bool) (hza : za < 16) (hzb : zb < 16) (hF : ∀ i, Sec (F i)) (hG : ∀ i, Sec (G i)) (ha : Rest sa 2 1 0 za F) (hb : Rest sb 2 1 0 zb G) (fa : sa.fuse < 0) (fb : sb.fuse < 0) :
    retE sa (za ||| zb) = 0 ∧ retE sb (za ||| zb) = 0 ∧ (meetF sa sb (za ||| zb) (Role.gives 0 wa wb) (Role.gives 1 wb wa)).1 = true ∧ Ended sa sb (za ||| zb) (Role.gives 1 wb wa) (meetF sa sb (za ||| zb) (Role.gives 0 wa wb) (Role.gives 1 wb wa)).2.1 (meetF sa sb (za ||| zb) (Role.gives 0 wa wb) (Role.gives 1 wb wa)).2.2 := by
  have hz := or_lt16 hza hzb
  rw [gives_one]
  generalize Role.gives 0 wa wb = ga
  generalize za ||| zb = z at *
  rcases ha.retire (by decide) z (by omega) with ⟨a1, a2, a3⟩ | ⟨a1, a2, a3⟩
  · rcases hb.retire (by decide) z (by omega) with ⟨b1, b2, b3⟩ | ⟨b1, b2, b3⟩
    · obtain ⟨m1, m2⟩ := (meets ga (!ga) rfl hz hF hG (by decide) (by decide) a2 b2).1 (a3 fa) (b3 fb)
      refine ⟨a1, b1, m1, ?_⟩
      generalize (meetF sa sb z ga (!ga)).2.1 = A at *
      generalize (meetF sa sb z ga (!ga)).2.2 = B at *
      cases ga with
      | true =>
        rw [if_pos rfl] at m2
        obtain ⟨c1, r1⟩ := m2.one
        obtain ⟨c2, G2, r2, h2⟩ := m2.two
        exact ⟨m2.over, m2.left, alike_of r1 r2 hz (fun e he => (h2 e he).symm), img_of r1 ha, ⟨r1.log_is, r2.log_is⟩, ⟨r1.map_is, r2.map_is⟩⟩
      | false =>
        rw [if_neg (by decide)] at m2
        obtain ⟨c1, r1⟩ := m2.one
        obtain ⟨c2, G2, r2, h2⟩ := m2.two
        exact ⟨m2.over.symm, m2.left.symm, alike_of r2 r1 hz h2, img_of r1 hb, ⟨r2.log_is, r1.log_is⟩, ⟨r2.map_is, r1.map_is⟩⟩
    · omega
  · omega
theorem Rest.lt {s : Dk} {c b l m : Nat} {F : Nat → List Nat} (h : Rest s c b l m F) : l < 18446744073709551616 ∧ m < 18446744073709551616 := by
  rw [← h.log_is, ← h.map_is]
  exact ⟨latestY_lt h.valid _ _, latestY_lt h.valid _ _⟩
/-- Both disks behind a meeting that may have come to nothing. -/
def leftD (sa sb : Dk) (z : Nat) (ga gb : Bool) : Dk × Dk := if retE sa z = 0 ∧ retE sb z = 0 then ((meetF sa sb z ga gb).2.1.d, (meetF sa sb z ga gb).2.2.d) else (retS sa z, retS sb z)
theorem alike_known {s t : Dk} {c b m c' b' m' : Nat} {F G : Nat → List Nat} (hs : Rest s c b 0 m F) (ht : Rest t c' b' 0 m' G) {z : Nat} (hz : z < 16) (hm : Sub m z) (hm' : Sub m' z)
    (h : ∀ e, z.testBit e = true → m.testBit e = false → m'.testBit e = false → extF F e = extF G e) :
    latestY s 2 4 = 0 ∧ latestY t 2 4 = 0 ∧ latestY s 6 2 = m ∧ latestY t 6 2 = m' ∧ m < 18446744073709551616 ∧ m' < 18446744073709551616 ∧ z &&& (18446744073709551615 - (m ||| m')) < 16 ∧ Alike s t (z &&& (18446744073709551615 - (m ||| m'))) ∧ (m ||| m') &&& (18446744073709551615 - z) = 0 := by
  have h1 := hs.lt.2
  have h2 := ht.lt.2
  have ho : m ||| m' < 18446744073709551616 := or_lt64 h1 h2
  have hlt : z &&& (18446744073709551615 - (m ||| m')) < 16 := Nat.lt_of_le_of_lt Nat.and_le_left hz
  refine ⟨hs.log_is, ht.log_is, hs.map_is, ht.map_is, h1, h2, hlt, alike_of hs ht hlt fun e he => ?_, andNot_of_in ho (by omega) fun j hj => ?_⟩
  · rw [Nat.testBit_and, Bool.and_eq_true] at he
    obtain ⟨e1, e2⟩ := he
    rw [show 18446744073709551615 - (m ||| m') = 2 ^ 64 - ((m ||| m') + 1) by omega, Nat.testBit_two_pow_sub_succ (by omega), Nat.testBit_or] at e2
    simp at e2
    exact h e e1 e2.2.1 e2.2.2
  · rw [Nat.testBit_or, Bool.or_eq_true] at hj
    rcases hj with g | g
    · exact hm j g
    · exact hm' j g
theorem safe {sa sb : Dk} {za zb : Nat} {F G : Nat → List Nat} (wa wb : Bool) (hza : za < 16) (hzb : zb < 16) (hF : ∀ i, Sec (F i)) (hG : ∀ i, Sec (G i)) (ha : Rest sa 2 1 0 za F) (hb : Rest sb 2 1 0 zb G) (hf : sa.fuse < 0 ∨ sb.fuse < 0) (mask : Nat) :
    ∃ c1 b1 m1 F1 c2 b2 m2 F2, Rest (Math.crashed (leftD sa sb (za ||| zb) (Role.gives 0 wa wb) (Role.gives 1 wb wa)).1 mask) c1 b1 0 m1 F1 ∧ Rest (Math.crashed (leftD sa sb (za ||| zb) (Role.gives 0 wa wb) (Role.gives 1 wb wa)).2 mask) c2 b2 0 m2 F2 ∧ Sub m1 (za ||| zb) ∧ Sub m2 (za ||| zb) ∧ ∀ e, (za ||| zb).testBit e = true → m1.testBit e = false → m2.testBit e = false → extF F1 e = extF F2 e := by
  have hz := or_lt16 hza hzb
  have s1 := sub_or_left za zb
  have s2 := sub_or_right za zb
  rw [gives_one]
  generalize Role.gives 0 wa wb = ga
  generalize za ||| zb = z at *
  unfold leftD
  have known : ∀ {e : Nat}, z.testBit e = true → z.testBit e = false → False := fun h g => by rw [h] at g; cases g
  rcases ha.retire (by decide) z (by omega) with ⟨a1, a2, a3⟩ | ⟨a1, a2, a3⟩
  · rcases hb.retire (by decide) z (by omega) with ⟨b1, b2, b3⟩ | ⟨b1, b2, b3⟩
    · rw [if_pos ⟨a1, b1⟩]
      have hm := (meets ga (!ga) rfl hz hF hG (by decide) (by decide) a2 b2).2 (hf.imp a3 b3)
      generalize (meetF sa sb z ga (!ga)).2.1 = A at *
      generalize (meetF sa sb z ga (!ga)).2.2 = B at *
      cases ga with
      | true =>
        rw [if_pos rfl] at hm
        obtain ⟨c1, m1, c2, m2, G2, r1, r2, q1, q2, q3⟩ := hm.crash mask
        exact ⟨c1, 1, m1, F, c2, 1, m2, G2, r1, r2, q1, q2, fun e e1 e2 e3 => (q3 e e1 e2 e3).symm⟩
      | false =>
        rw [if_neg (by decide)] at hm
        obtain ⟨c1, m1, c2, m2, G2, r1, r2, q1, q2, q3⟩ := hm.crash mask
        exact ⟨c2, 1, m2, G2, c1, 1, m1, G, r2, r1, q2, q1, fun e e1 e2 e3 => q3 e e1 e3 e2⟩
    · rw [if_neg (fun g => b1 g.2)]
      obtain ⟨m', hm', r⟩ := b3 mask
      refine ⟨_, _, z, F, _, _, m', G, a2.crashed mask, r, Sub.refl _, ?_, fun e e1 e2 _ => (known e1 e2).elim⟩
      rcases hm' with rfl | rfl
      · exact s2
      · exact Sub.refl _
  · rw [if_neg (fun g => a1 g.1)]
    obtain ⟨m', hm', r⟩ := a3 mask
    rcases hb.retire (by decide) z (by omega) with ⟨b1, b2, b3⟩ | ⟨b1, b2, b3⟩
    · refine ⟨_, _, m', F, _, _, z, G, r, b2.crashed mask, ?_, Sub.refl _, fun e e1 _ e3 => (known e1 e3).elim⟩
      rcases hm' with rfl | rfl
      · exact s1
      · exact Sub.refl _
    · omega
end Go.Proofs.YtfiofdmefgkloaaGreat.Resync
namespace Go.Proofs.YtfiofdmefgkloaaGreat.Resync
open Go.RowKit
open Math Copying
open Pack (Mv Ms mv0 good)
open Bits.Math (has without elems)

/-- May it be a Greet? -/
def greetB (m : Ms) : Bool := decide (m.k = 1) && good m
set_option maxRecDepth 100000 in
set_option maxHeartbeats 1000000 in
theorem isGreet_any (x : Mv) (hl : x.len = x.d.length) (hlen : x.len ≤ 9223372036854775807) (w : World) :
    Calls Tryz.prog 32 #[x.val] w fun e w' => e = .returned (.bool (greetB x.ms)) ∧ Kept [] w w' := by
  obtain ⟨W0, hW0, hX, hk0, hz⟩ := boxed w x
  have q := Pack.good_any x hl hlen W0
  obtain ⟨a0, a1, a2, a3, a4, a5⟩ := hX.six
  have eg : greetB x.ms = (decide (x.k = 1) && good x.ms) := rfl
  rw [eg]
  generalize good x.ms = G at *
  clear eg hX hl hlen
  obtain ⟨k, i, o, m, s, sa, len, cap, d⟩ := x
  simp only [Mv.val] at *
  by_cases h1 : k = 1
  · subst h1
    go_enter Tryz.func32, Tryz.ntmps32
    go_wp2_with (go_at_call 69; refine q.mono ?_; rintro e w1 ⟨rfl, hk1⟩)
    go_ret
    exact ⟨rfl, hk0.trans hk1⟩
  · have k1 : (k == 1) = false := by simpa using h1
    have k2 : decide (k = 1) = false := by simpa using h1
    clear q
    rw [k2]
    go_enter Tryz.func32, Tryz.ntmps32
    go_wp2_with fail
    go_ret
    exact ⟨rfl, hk0⟩
set_option maxRecDepth 100000 in
theorem isNode_any (n : Int) (w : World) : Calls Tryz.prog 33 #[.int .i64 n] w fun e w' => e = .returned (.bool (decide (n = 0 ∨ n = 1))) ∧ w' = w := by
  by_cases h0 : n = 0
  · have k0 : (n == 0) = true := by simpa using h0
    have e : decide (n = 0 ∨ n = 1) = true := by simp [h0]
    rw [e]
    go_enter Tryz.func33, Tryz.ntmps33
    go_wp2
    go_ret
    exact ⟨rfl, rfl⟩
  · have k0 : (n == 0) = false := by simpa using h0
    by_cases h1 : n = 1
    · have k1 : (n == 1) = true := by simpa using h1
      have e : decide (n = 0 ∨ n = 1) = true := by simp [h1]
      rw [e]
      go_enter Tryz.func33, Tryz.ntmps33
      go_wp2
      go_ret
      exact ⟨rfl, rfl⟩
    · have k1 : (n == 1) = false := by simpa using h1
      have e : decide (n = 0 ∨ n = 1) = false := by simp [h0, h1]
      rw [e]
      go_enter Tryz.func33, Tryz.ntmps33
      go_wp2
      go_ret
      exact ⟨rfl, rfl⟩
set_option maxRecDepth 100000 in
theorem open_tgt (o pl d b1 b2 : Nat) (s : Dk) (e : Bool) (l : Nat) (w : World) (h : ReAt w o pl d b1 b2 ⟨s, false, l, e⟩) :
    Calls Tryz.prog 38 #[.pointer (some ⟨o, 0, none⟩)] w fun x w' => x = .returned (.tuple #[.slice none 0 0, .int .i64 0]) ∧ w' = w := by
  have c2 := h.four.2.2.1
  go_enter Tryz.func38, Tryz.ntmps38
  go_wp2_with fail
  go_ret2
  exact ⟨rfl, rfl⟩
set_option maxRecDepth 100000 in
theorem open_over (o pl d b1 b2 : Nat) (s : Dk) (e : Bool) (w : World) (h : ReAt w o pl d b1 b2 ⟨s, true, 0, e⟩) :
    Calls Tryz.prog 38 #[.pointer (some ⟨o, 0, none⟩)] w fun x w' => ∃ sa n cap, x = .returned (.tuple #[.slice sa n cap, .int .i64 0]) ∧ MRow w.heap.size w' (.slice sa n cap) [bare endM] ∧ ReAt w' o pl d b1 b2 ⟨s, true, 0, true⟩ ∧ Kept [o] w w' := by
  have c0 := h.four.1
  have c2 := h.four.2.2.1
  obtain ⟨m, hp⟩ := h.plan
  have q1 := Plan.over_any w hp
  have q2 := close_any o pl d b1 b2 s true e 0 w h
  have dz : decide ((⟨s, true, 0, e⟩ : Rs).left = 0) = true := by simp
  rw [dz] at q1
  go_enter Tryz.func38, Tryz.ntmps38
  go_wp2_with (first
    | (go_at_call 76; refine q1.mono ?_; rintro x w1 ⟨rfl, rfl⟩)
    | (go_at_call 77; refine q2.mono ?_; rintro x w2 ⟨sa, n, cap, rfl, hr, hR, hk⟩))
  go_ret2
  exact ⟨sa, n, cap, rfl, hr, hR, hk⟩
/-- A message of a row that grows: its bytes lie apart from the row. -/
def Clear (base : Nat) (W : World) (v : Value) (y : Mv) : Prop := ∃ lo hi, base ≤ lo ∧ hi ≤ W.heap.size ∧ y.At lo hi W ∧ ∀ k, v.ownBlock = some k → k < lo ∨ hi ≤ k
theorem Clear.appended {base : Nat} {A B C : World} {v v' : Value} {y : Mv} (h : Clear base A v y) (hk : Kept [] A B) (hk2 : Kept v.ownBlock.toList B C) (ho : ∀ k, v'.ownBlock = some k → v.ownBlock = some k ∨ B.heap.size ≤ k) : Clear base C v' y := by
  obtain ⟨lo, hi, h1, h2, h3, h4⟩ := h
  have h5 := Nat.le_trans h2 hk.size
  refine ⟨lo, hi, h1, Nat.le_trans h5 hk2.size, (h3.kept h2 hk (by simp)).kept h5 hk2 (fun k hm => h4 k (by simpa using hm)), fun k hv => ?_⟩
  rcases ho k hv with g | g
  · exact h4 k g
  · exact .inr (Nat.le_trans h5 g)
theorem Clear.at {base : Nat} {W : World} {v : Value} {y : Mv} (h : Clear base W v y) : y.At base W.heap.size W := by
  obtain ⟨lo, hi, h1, h2, h3, _⟩ := h
  exact h3.mono h1 h2
theorem kept_row {base : Nat} {A B C : World} {v : Value} {P : List Mv} (hr : MRow base B v P) (h : Kept [] A B) (hk : Kept v.ownBlock.toList B C) (hb : A.heap.size ≤ base) : Kept [] A C := by
  refine ⟨hk.os.trans h.os, hk.tape.trans h.tape, hk.output.trans h.output, Nat.le_trans h.size hk.size, fun k hk1 _ => ?_⟩
  refine (hk.block k (Nat.lt_of_lt_of_le hk1 h.size) (fun hm => ?_)).trans (h.block k hk1 (by simp))
  have := (hr.lt k (by simpa using hm)).1
  omega
set_option maxRecDepth 100000 in
set_option maxHeartbeats 8000000 in
theorem open_gives (o pl d b1 b2 : Nat) (s : Dk) (e : Bool) (z : Nat) (hz0 : z ≠ 0) (hg : ∀ x ∈ elems z, gotE s (Span.wOff (x : Nat)) (Span.wLen (x : Nat)) = 0) (w : World) (h : ReAt w o pl d b1 b2 ⟨s, true, z, e⟩) (hp : Plan.PlAt w pl z z) :
    Calls Tryz.prog 38 #[.pointer (some ⟨o, 0, none⟩)] w fun x w' => ∃ sa n cap P, x = .returned (.tuple #[.slice sa n cap, .int .i64 0]) ∧ MRow w.heap.size w' (.slice sa n cap) P ∧ P.map Mv.ms = (elems z).map (fun e : Nat => giveM s (e : Int)) ∧ (∀ y ∈ P, y.At w.heap.size w'.heap.size w') ∧ Kept [] w w' := by
  have c0 := h.four.1
  have c2 := h.four.2.2.1
  have q1 := Plan.over_any w hp
  have q2 := Plan.all_some w hp (by omega)
  have dz : decide (z = 0) = false := by simpa using hz0
  rw [dz] at q1
  have hlen64 : (elems z).length ≤ 64 := by
    have := List.length_filter_le (fun e => z.testBit e) (List.range 64)
    simpa [elems, Bits.Math.lst] using this
  generalize elems z = L at *
  obtain ⟨N, hN⟩ : ∃ N, L.length = N := ⟨_, rfl⟩
  go_enter Tryz.func38, Tryz.ntmps38
  go_wp2_with (first
    | (go_at_call 76; refine q1.mono ?_; rintro x w ⟨rfl, rfl⟩)
    | (go_at_call 78; refine q2.mono ?_; rintro x w2 ⟨v, rfl, hrow, hB⟩; obtain ⟨a, cp, rfl, hat⟩ := Role.owns_at hrow; rw [hN]))
  obtain ⟨hN0, hat', hK2⟩ : Hid (N = N) ∧ Hid (∀ (j e : Nat), L[j]? = some e → ∃ b off, a = some ⟨b, off, none⟩ ∧ w2.cell? ⟨b, off + j, none⟩ = some (.int .i64 (e : Int))) ∧ Kept [] w w2 := ⟨rfl, hat, Kept.of_below hB []⟩
  have hN' : Hid (L.length = N) := hN
  have hN64 : N ≤ 64 := by omega
  have hg' : Hid (∀ x ∈ L, gotE s (Span.wOff (x : Nat)) (Span.wLen (x : Nat)) = 0) := hg
  have hR2 := h.kept0 hK2
  clear hrow hB hat hN0 hN hg hp q1 q2 hz0 dz h
  go_loopw [27, 4] (fun i t wr => ∃ (j : Nat) (sa : Option Addr) (n cap : Nat) (P : List Mv), j ≤ N ∧ i = .int .i64 j ∧ t = .slice sa n cap ∧ MRow w2.heap.size wr (.slice sa n cap) P ∧ P.map Mv.ms = (L.take j).map (fun e : Nat => giveM s (e : Int)) ∧ (∀ y ∈ P, Clear w2.heap.size wr (.slice sa n cap) y) ∧ Kept [] w2 wr) (fun i _ _ => N - (RowKit.intOf i).toNat)
  case atStart => exact ⟨0, none, 0, 0, [], Nat.zero_le _, rfl, rfl, MRow.nil _ _, rfl, by simp, Kept.refl _ _⟩
  case round =>
    obtain ⟨j, sa, n, cap, P, hj, rfl, rfl, hrow, hms, hmem, hK⟩ := hrel
    by_cases hlt : j < N
    · obtain ⟨x, hx⟩ : ∃ x, L[j]? = some x := ⟨_, List.getElem?_eq_getElem (by rw [hN'.out]; exact hlt)⟩
      have ge := hg'.out x (List.mem_of_getElem? hx)
      obtain ⟨bb, off, rfl, hc⟩ := hat'.out j x hx
      replace hc : wr.cell? ⟨bb, off + j, none⟩ = some (.int .i64 (x : Int)) := (World.cell?_of_block (hK.block bb (World.block_lt_of_cell? _ _ hc) (by simp))).trans hc
      have hRr := hR2.kept0 hK
      have c1 := hRr.four.2.1
      have q3 := fun W (hD : DiskAt W d b1 b2 s) => give_any d b1 b2 s (x : Int) W hD
      rw [ge] at q3
      have hstep : Hid ((L.take (j + 1)).map (fun e : Nat => giveM s (e : Int)) = (L.take j).map (fun e : Nat => giveM s (e : Int)) ++ [giveM s (x : Int)]) := by
        show _ = _
        rw [List.take_add_one, hx, List.map_append]
        rfl
      have hPl : Hid (P.length = j) := by
        show _ = _
        have := congrArg List.length hms
        simp at this
        have := hN'.out
        omega
      have kk : (j : Int) < (N : Int) := by omega
      have hm1 : Hid (N - (j + 1) < N - j) := by show _ < _; omega
      have hD := hRr.disk
      clear hx hat'
      generalize giveM s (x : Int) = M at *
      go_wp2_with (first
        | (go_at_call 79; refine (q3 _ hD).mono ?_; rintro r w3 ⟨v, rfl, hvm, hvat, hk3⟩; obtain ⟨vk, vi, vo, vm, vs, vsa, vlen, vcap, vd⟩ := v; simp only [Mv.val]; have hb3 := zero_new w3)
        | (refine wpList_store_blk rfl 26 _ _ rfl w3.heap.size 26 _ [.int .i64 vk, .int .i64 vi, .int .i64 vo, .int .u64 (vm : Int), .bool vs, .slice vsa vlen vcap] rfl rfl hb3 rfl Pack.Tryz.sizeM (by simp [Value.oneCell']) ?_; intro w4 hB4 hk4 hz4; replace hz4 : Hid _ := hz4; have hk34 : Kept [] w3 w4 := (kept_alloc [] w3 _).young hk4 (Nat.le_refl _); have hIn : Mv.In ⟨vk, vi, vo, vm, vs, vsa, vlen, vcap, vd⟩ w4 w3.heap.size := hB4; obtain ⟨x0, x1, x2, x3, x4, x5⟩ := hIn.six; simp only at x0 x1 x2 x3 x4 x5; have hk5 := (hk3.trans hk34).trans (kept_alloc [] w4 (.cells #[.int .i64 vk, .int .i64 vi, .int .i64 vo, .int .u64 (vm : Int), .bool vs, .slice vsa vlen vcap] 26)); have hrow5 := hrow.kept0 hk5; have hl5 := lies_one ⟨vk, vi, vo, vm, vs, vsa, vlen, vcap, vd⟩ w4.heap.size (blk_new w4 26 _ : Mv.In ⟨vk, vi, vo, vm, vs, vsa, vlen, vcap, vd⟩ (w4.alloc (.cells #[.int .i64 vk, .int .i64 vi, .int .i64 vo, .int .u64 (vm : Int), .bool vs, .slice vsa vlen vcap] 26)) w4.heap.size); have hle5 := Nat.le_trans hK.size hk5.size)
        | (refine wpList_append_msgs rfl (.tmp 43) (.tmp 45) rfl w2.heap.size (.slice sa n cap) (.slice (some ⟨w4.heap.size, 0, none⟩) 1 1) P [⟨vk, vi, vo, vm, vs, vsa, vlen, vcap, vd⟩] rfl rfl hrow5 hl5 (by have := hPl.out; have := hN'.out; simp; omega) hle5 ?_; intro sa6 n6 cap6 w6 hr6 hk6 ho6))
      have hK6 := kept_row hrow5 (hK.trans hk5) hk6 (Nat.le_refl _)
      have hms6 : (P ++ [(⟨vk, vi, vo, vm, vs, vsa, vlen, vcap, vd⟩ : Mv)]).map Mv.ms = (L.take (j + 1)).map (fun e : Nat => giveM s (e : Int)) := by
        rw [hstep.out, List.map_append, hms, ← hvm]
        rfl
      have hmem6 : ∀ y ∈ P ++ [(⟨vk, vi, vo, vm, vs, vsa, vlen, vcap, vd⟩ : Mv)], Clear w2.heap.size w6 (.slice sa6 n6 cap6) y := fun y hy => by
        rcases List.mem_append.1 hy with g | g
        · exact (hmem y g).appended hk5 hk6 ho6.out
        · obtain rfl := List.mem_singleton.1 g
          have hk45 : Kept [] w3 (w4.alloc (.cells #[.int .i64 vk, .int .i64 vi, .int .i64 vo, .int .u64 (vm : Int), .bool vs, .slice vsa vlen vcap] 26)) := hk34.trans (kept_alloc [] w4 _)
          have h1 := hvat.kept (Nat.le_refl _) hk45 (by simp)
          refine ⟨wr.heap.size, w3.heap.size, (show w2.heap.size ≤ wr.heap.size from hK.size), Nat.le_trans hk45.size hk6.size, h1.kept hk45.size hk6 (fun k hm => .inl (hrow.lt k (by simpa using hm)).2), fun k hv => ?_⟩
          rcases ho6.out k hv with g | g
          · exact .inl (hrow.lt k g).2
          · exact .inr (Nat.le_trans hk45.size g)
      clear hk5 hk6 hrow5 hl5 hmem hms hrow hvat hvm hB4 hIn
      go_round
      case rel => exact ⟨j + 1, sa6, n6, cap6, _, by omega, by go_num, rfl, hr6, hms6, hmem6, hK6⟩
      case measure => simp [RowKit.intOf]; omega
    · obtain rfl : j = N := by omega
      go_wp2_with fail
      go_ret2
      exact ⟨sa, n, cap, P, rfl, hrow.low hK2.size, by rw [hms, ← hN'.out, List.take_length], fun y hy => (hmem y hy).at.mono hK2.size (Nat.le_refl _), hK2.trans hK⟩
set_option maxRecDepth 100000 in
/-- open -/
theorem open_any (o pl d b1 b2 : Nat) (s : Dk) (g : Bool) (z : Nat) (hg : g = true → ∀ x ∈ elems z, gotE s (Span.wOff (x : Nat)) (Span.wLen (x : Nat)) = 0) (w : World) (h : ReAt w o pl d b1 b2 ⟨s, g, z, false⟩) (hp : Plan.PlAt w pl z z) :
    Calls Tryz.prog 38 #[.pointer (some ⟨o, 0, none⟩)] w fun x w' => ∃ sa n cap P, x = .returned (.tuple #[.slice sa n cap, .int .i64 0]) ∧ MRow w.heap.size w' (.slice sa n cap) P ∧ P.map Mv.ms = beginL s z g ∧ (∀ y ∈ P, y.At w.heap.size w'.heap.size w') ∧ ReAt w' o pl d b1 b2 (beginR s z g) ∧ Kept [o] w w' := by
  have hend : ∀ (lo hi : Nat) (W : World), ∀ y ∈ [bare endM], y.At lo hi W := fun lo hi W y hy => by
    obtain rfl := List.mem_singleton.1 hy
    exact ⟨Pack.byteRow_nil lo hi W, (by show (0 : Nat) < _; decide), (by show _ ≤ (0 : Int); decide), (by show (0 : Int) ≤ _; decide)⟩
  cases g with
  | false =>
    refine (open_tgt o pl d b1 b2 s false z w h).mono fun x w' ⟨hx, hw⟩ => ?_
    subst hw
    exact ⟨none, 0, 0, [], hx, MRow.nil _ _, rfl, by simp, h, Kept.refl _ _⟩
  | true =>
    by_cases hz : z = 0
    · subst hz
      exact (open_over o pl d b1 b2 s false w h).mono fun x w' ⟨sa, n, cap, hx, hr, hR, hk⟩ => ⟨sa, n, cap, _, hx, hr, rfl, hend _ _ _, hR, hk⟩
    · have e1 : beginR s z true = ⟨s, true, z, false⟩ := by simp [beginR, hz]
      have e2 : beginL s z true = (elems z).map (fun e : Nat => giveM s (e : Int)) := by simp [beginL, hz]
      rw [e1, e2]
      exact (open_gives o pl d b1 b2 s false z hz (hg rfl) w h hp).mono fun x w' ⟨sa, n, cap, P, hx, hr, hms, hmem, hk⟩ => ⟨sa, n, cap, P, hx, hr, hms, hmem, h.kept0 hk, hk.mono (by simp)⟩
end Go.Proofs.YtfiofdmefgkloaaGreat.Resync
namespace Go.Proofs.YtfiofdmefgkloaaGreat.Resync
open Go.RowKit
open Math Copying
open Pack (Mv Ms mv0 good)
open Bits.Math (has without elems)

theorem nodeB (n : Int) (h : n = 0 ∨ n = 1) : decide (n = 0 ∨ n = 1) = true := by simpa using h
set_option maxRecDepth 100000 in
set_option maxHeartbeats 4000000 in
/-- Begin, of what may not be -/
theorem begin_arg (p : Option Addr) (who sectors : Int) (x y : Mv) (hxl : x.len = x.d.length) (hxn : x.len ≤ 9223372036854775807) (hyl : y.len = y.d.length) (hyn : y.len ≤ 9223372036854775807) (w : World) (hno : greetB x.ms = false ∨ greetB y.ms = false ∨ decide (who = 0 ∨ who = 1) = false) :
    Calls Tryz.prog 10 #[.pointer p, .int .i64 who, .int .i64 sectors, x.val, y.val] w fun e w' => e = .returned (.tuple #[.pointer none, .slice none 0 0, .int .i64 2]) ∧ Kept [] w w' := by
  obtain ⟨W0, hW0, hX, hk0, hz0⟩ := boxed w x
  obtain ⟨W1, hW1, hY, hk1, hz1⟩ := boxed W0 y
  have hX1 := hX.kept hk1 (by simp)
  have hk01 := hk0.trans hk1
  have q1 := fun W => isGreet_any x hxl hxn W
  have q2 := fun W => isGreet_any y hyl hyn W
  have q3 := fun W => isNode_any who W
  generalize greetB x.ms = G1 at *
  generalize greetB y.ms = G2 at *
  generalize decide (who = 0 ∨ who = 1) = G3 at *
  have fx : ∀ W, Kept [] W1 W → _ := fun W hk => (hX1.kept hk (by simp)).six
  have fy : ∀ W, Kept [] W1 W → _ := fun W hk => (hY.kept hk (by simp)).six
  obtain ⟨a0, a1, a2, a3, a4, a5⟩ := fx W1 (Kept.refl _ _)
  obtain ⟨b0, b1, b2, b3, b4, b5⟩ := fy W1 (Kept.refl _ _)
  clear hxl hxn hyl hyn hX hY hX1 hk0 hk1
  obtain ⟨k, i, o, m, s, sa, len, cap, d⟩ := x
  obtain ⟨k', i', o', m', s', sa', len', cap', d'⟩ := y
  simp only [Mv.val] at *
  cases G1 with
  | false =>
    go_enter Tryz.func10, Tryz.ntmps10
    go_wp2_with (go_at_call 32; refine (q1 _).mono ?_; rintro e w1 ⟨rfl, hk2⟩)
    go_ret3
    exact ⟨rfl, hk01.trans hk2⟩
  | true =>
    cases G2 with
    | false =>
      go_enter Tryz.func10, Tryz.ntmps10
      go_wp2_with (first
        | (go_at_call 32; refine (q1 _).mono ?_; clear q1; rintro e w1 ⟨rfl, hk2⟩; obtain ⟨f0, f1, f2, f3, f4, f5⟩ := fy w1 hk2)
        | (go_at_call 32; refine (q2 _).mono ?_; rintro e w2 ⟨rfl, hk3⟩))
      go_ret3
      exact ⟨rfl, (hk01.trans hk2).trans hk3⟩
    | true =>
      have e3 : G3 = false := by
        rcases hno with h | h | h
        · cases h
        · cases h
        · exact h
      subst e3
      go_enter Tryz.func10, Tryz.ntmps10
      go_wp2_with (first
        | (go_at_call 32; refine (q1 _).mono ?_; clear q1; rintro e w1 ⟨rfl, hk2⟩; obtain ⟨f0, f1, f2, f3, f4, f5⟩ := fy w1 hk2)
        | (go_at_call 32; refine (q2 _).mono ?_; clear q2; rintro e w2 ⟨rfl, hk3⟩)
        | (go_at_call 33; refine (q3 _).mono ?_; clear q3; rintro e w2 ⟨rfl, rfl⟩))
      go_ret3
      exact ⟨rfl, (hk01.trans hk2).trans hk3⟩
set_option maxRecDepth 100000 in
set_option maxHeartbeats 4000000 in
/-- Begin, where its Retire fails (what it does is handed in) -/
theorem begin_bad (p : Option Addr) (who sectors : Int) (x y : Mv) (hxl : x.len = x.d.length) (hxn : x.len ≤ 9223372036854775807) (hyl : y.len = y.d.length) (hyn : y.len ≤ 9223372036854775807) (hxm : x.m < 18446744073709551616) (hym : y.m < 18446744073709551616) (hs0 : -9223372036854775808 ≤ sectors) (hs1 : sectors ≤ 9223372036854775807)
    (hgx : greetB x.ms = true) (hgy : greetB y.ms = true) (hwho : who = 0 ∨ who = 1) (E : Nat) (hE : E ≠ 0) (P : World → Prop) (L : List Nat) (w : World)
    (q5 : ∀ W, Kept [] w W → Calls Tryz.prog 35 #[.pointer p, .int .u64 ((Role.uni x.m y.m sectors : Nat) : Int)] W fun e w' => e = .returned (.int .i64 (E : Int)) ∧ P w' ∧ Kept L W w') :
    Calls Tryz.prog 10 #[.pointer p, .int .i64 who, .int .i64 sectors, x.val, y.val] w fun e w' => e = .returned (.tuple #[.pointer none, .slice none 0 0, .int .i64 (E : Int)]) ∧ P w' ∧ Kept L w w' := by
  obtain ⟨W0, hW0, hX, hk0, hz0⟩ := boxed w x
  obtain ⟨W1, hW1, hY, hk1, hz1⟩ := boxed W0 y
  have hX1 := hX.kept hk1 (by simp)
  have hk01 := hk0.trans hk1
  have q1 := fun W => isGreet_any x hxl hxn W
  have q2 := fun W => isGreet_any y hyl hyn W
  have q3 := fun W => isNode_any who W
  rw [hgx] at q1
  rw [hgy] at q2
  rw [nodeB who hwho] at q3
  have q4 := fun W => Role.union_any x.m y.m sectors hxm hym hs0 hs1 W
  generalize Role.uni x.m y.m sectors = z at *
  have fx : ∀ W, Kept [] W1 W → _ := fun W hk => (hX1.kept hk (by simp)).six
  have fy : ∀ W, Kept [] W1 W → _ := fun W hk => (hY.kept hk (by simp)).six
  obtain ⟨a0, a1, a2, a3, a4, a5⟩ := fx W1 (Kept.refl _ _)
  obtain ⟨b0, b1, b2, b3, b4, b5⟩ := fy W1 (Kept.refl _ _)
  clear hxl hxn hyl hyn hX hY hX1 hk0 hk1 hgx hgy hs0 hs1 hxm hym
  have nE : ((E : Int) != 0) = true := by simp; omega
  obtain ⟨k, i, o, m, s, sa, len, cap, d⟩ := x
  obtain ⟨k', i', o', m', s', sa', len', cap', d'⟩ := y
  simp only [Mv.val] at *
  go_enter Tryz.func10, Tryz.ntmps10
  go_wp2_with (first
    | (go_at_call 32; refine (q1 _).mono ?_; clear q1; rintro e w1 ⟨rfl, hk2⟩; obtain ⟨f0, f1, f2, f3, f4, f5⟩ := fy w1 hk2)
    | (go_at_call 32; refine (q2 _).mono ?_; clear q2; rintro e w2 ⟨rfl, hk3⟩; have hk23 := hk2.trans hk3; obtain ⟨g0, g1, g2, g3, g4, g5⟩ := fy w2 hk23; obtain ⟨d0, d1, d2, d3, d4, d5⟩ := fx w2 hk23)
    | (go_at_call 33; refine (q3 _).mono ?_; clear q3; rintro e w2 ⟨rfl, rfl⟩)
    | (go_at_call 34; refine (q4 _).mono ?_; clear q4; rintro e w2 ⟨rfl, rfl⟩)
    | (go_at_call 35; refine (q5 _ (hk01.trans hk23)).mono ?_; clear q5; rintro e w5 ⟨rfl, hP, hk5⟩))
  go_ret3
  exact ⟨rfl, hP, ((hk01.trans hk23).mono (by simp)).trans hk5⟩
set_option maxRecDepth 100000 in
set_option maxHeartbeats 8000000 in
/-- Begin, where its Retire is done -/
theorem begin_go (d b1 b2 : Nat) (s : Dk) (who sectors : Int) (x y : Mv) (hxl : x.len = x.d.length) (hxn : x.len ≤ 9223372036854775807) (hyl : y.len = y.d.length) (hyn : y.len ≤ 9223372036854775807) (hxm : x.m < 18446744073709551616) (hym : y.m < 18446744073709551616) (hs0 : -9223372036854775808 ≤ sectors) (hs1 : sectors ≤ 9223372036854775807)
    (hgx : greetB x.ms = true) (hgy : greetB y.ms = true) (hwho : who = 0 ∨ who = 1) (hops : s.ops ≤ 900000) (hr0 : retE s (Role.uni x.m y.m sectors) = 0)
    (hg : Role.gives who x.s y.s = true → ∀ e ∈ elems (Role.uni x.m y.m sectors), gotE (retS s (Role.uni x.m y.m sectors)) (Span.wOff (e : Nat)) (Span.wLen (e : Nat)) = 0) (w : World) (hD : DiskAt w d b1 b2 s) :
    Calls Tryz.prog 10 #[.pointer (some ⟨d, 0, none⟩), .int .i64 who, .int .i64 sectors, x.val, y.val] w fun e w' => ∃ o pl sa n cap P lo, e = .returned (.tuple #[.pointer (some ⟨o, 0, none⟩), .slice sa n cap, .int .i64 0]) ∧ ReAt w' o pl d b1 b2 (beginR (retS s (Role.uni x.m y.m sectors)) (Role.uni x.m y.m sectors) (Role.gives who x.s y.s)) ∧ (w.heap.size ≤ o ∧ w.heap.size ≤ pl ∧ o < lo ∧ pl < lo ∧ w.heap.size ≤ lo ∧ lo ≤ w'.heap.size) ∧ MRow lo w' (.slice sa n cap) P ∧ P.map Mv.ms = beginL (retS s (Role.uni x.m y.m sectors)) (Role.uni x.m y.m sectors) (Role.gives who x.s y.s) ∧ (∀ v ∈ P, v.At lo w'.heap.size w') ∧ Kept [d, b1, b2] w w' := by
  obtain ⟨W0, hW0, hX, hk0, hz0⟩ := boxed w x
  obtain ⟨W1, hW1, hY, hk1, hz1⟩ := boxed W0 y
  have hX1 := hX.kept hk1 (by simp)
  have hk01 := hk0.trans hk1
  have q1 := fun W => isGreet_any x hxl hxn W
  have q2 := fun W => isGreet_any y hyl hyn W
  have q3 := fun W => isNode_any who W
  rw [hgx] at q1
  rw [hgy] at q2
  rw [nodeB who hwho] at q3
  have q4 := fun W => Role.union_any x.m y.m sectors hxm hym hs0 hs1 W
  have hz := Role.uni_lt x.m y.m sectors hxm hym
  have hDl := hD.lt
  have q5 := fun W (h : DiskAt W d b1 b2 s) => retire_any d b1 b2 s (Role.uni x.m y.m sectors) hz (by omega) W h
  rw [hr0] at q5
  have q6 := fun W => Plan.new_any (Role.uni x.m y.m sectors) hz W
  have q7 := fun W => Role.source_any who x.s y.s W
  generalize Role.uni x.m y.m sectors = z at *
  generalize Role.gives who x.s y.s = g at *
  have q8 := fun o pl W h hp => open_any o pl d b1 b2 (retS s z) g z hg W h hp
  generalize retS s z = t at *
  have hD1 := hD.kept hk01 (by simp) (by simp) (by simp)
  have fx : ∀ W, Kept [d, b1, b2] W1 W → x.In W w.heap.size := fun W hk => hX1.kept hk (by simp; omega)
  have hw0 := hk0.size
  have fy : ∀ W, Kept [d, b1, b2] W1 W → y.In W W0.heap.size := fun W hk => hY.kept hk (by simp; omega)
  obtain ⟨a0, a1, a2, a3, a4, a5⟩ := (fx W1 (Kept.refl _ _)).six
  obtain ⟨c0, c1, c2, c3, c4, c5⟩ := (fy W1 (Kept.refl _ _)).six
  clear hxl hxn hyl hyn hX hY hX1 hk0 hk1 hgx hgy hs0 hs1 hxm hym hg hr0 hops hD
  obtain ⟨k, i, o, m, sx, sa, len, cap, dx⟩ := x
  obtain ⟨k', i', o', m', sy, sa', len', cap', dy⟩ := y
  simp only [Mv.val] at *
  go_enter Tryz.func10, Tryz.ntmps10
  go_upto_region 7 with (first
    | (go_at_call 32; refine (q1 _).mono ?_; clear q1; rintro e w1 ⟨rfl, hk2⟩; obtain ⟨f0, f1, f2, f3, f4, f5⟩ := (fy w1 (hk2.mono (by simp))).six)
    | (go_at_call 32; refine (q2 _).mono ?_; clear q2; rintro e w2 ⟨rfl, hk3⟩; have hk23 := hk2.trans hk3; obtain ⟨g0, g1, g2, g3, g4, g5⟩ := (fy w2 (hk23.mono (by simp))).six; obtain ⟨d0, d1, d2, d3, d4, d5⟩ := (fx w2 (hk23.mono (by simp))).six; have hD2 := hD1.kept hk23 (by simp) (by simp) (by simp))
    | (go_at_call 33; refine (q3 _).mono ?_; clear q3; rintro e w2 ⟨rfl, rfl⟩)
    | (go_at_call 34; refine (q4 _).mono ?_; clear q4; rintro e w2 ⟨rfl, rfl⟩)
    | (go_at_call 35; refine (q5 _ hD2).mono ?_; clear q5; rintro e w5 ⟨rfl, hD5, hk5⟩))
  have hkR : Kept [d, b1, b2] W1 w5 := (hk23.mono (by simp)).trans hk5
  have hX5 := fx w5.drew (hkR.trans (kept_drew _ _))
  have hY5 := fy w5.drew (hkR.trans (kept_drew _ _))
  have p4 := hX5.six.2.2.2.2.1
  have r4 := hY5.six.2.2.2.2.1
  clear a0 a1 a2 a3 a4 a5 c0 c1 c2 c3 c4 c5 f0 f1 f2 f3 f4 f5 g0 g1 g2 g3 g4 g5 d0 d1 d2 d3 d4 d5 fx fy
  have hW5 : w.heap.size ≤ w5.heap.size := Nat.le_trans hk01.size hkR.size
  replace q6 : Calls Tryz.prog 36 #[.int .u64 (z : Int)] w5.drew fun e w' => e = .returned (.pointer (some ⟨w5.heap.size, 0, none⟩)) ∧ Plan.PlAt w' w5.heap.size z z ∧ Hid (w'.heap.size = w5.heap.size + 1) ∧ Kept [] w5.drew w' := q6 _
  simp only at p4 r4
  go_region_held3 (fun W => W.cell? ⟨w.heap.size, 4, none⟩ = some (.bool sx) ∧ W.cell? ⟨W0.heap.size, 4, none⟩ = some (.bool sy)) (first | exact ⟨p4, r4⟩ | exact ⟨p5, r5⟩) (first
    | (go_at_call 36; refine q6.mono ?_; rintro e w6 ⟨rfl, hp6, hz6, hk6⟩; have hX6 := hX5.kept hk6 (by simp); have hY6 := hY5.kept hk6 (by simp); replace p4 := hX6.six.2.2.2.2.1; replace r4 := hY6.six.2.2.2.2.1; simp only at p4 r4)
    | (go_at_call 37; refine (q7 _).mono ?_; rintro e w7 ⟨rfl, hB7⟩; have hk7 := Kept.of_below hB7 []; have hX7 := hX6.kept hk7 (by simp); have hY7 := hY6.kept hk7 (by simp); replace p4 := hX7.six.2.2.2.2.1; replace r4 := hY7.six.2.2.2.2.1; simp only at p4 r4; have hkb := kept_alloc [] w7 (.cells #[.pointer (some ⟨w5.heap.size, 0, none⟩), .pointer (some ⟨d, 0, none⟩), .bool g, .bool false] 88); have p5 := (hX7.kept hkb (by simp)).six.2.2.2.2.1; have r5 := (hY7.kept hkb (by simp)).six.2.2.2.2.1; simp only at p5 r5))
  have hb := blk_new w7 88 #[.pointer (some ⟨w5.heap.size, 0, none⟩), .pointer (some ⟨d, 0, none⟩), .bool g, .bool false]
  have hkA : Kept [] w5 (w7.alloc (.cells #[.pointer (some ⟨w5.heap.size, 0, none⟩), .pointer (some ⟨d, 0, none⟩), .bool g, .bool false] 88)) := (((kept_drew [] w5).trans hk6).trans hk7).trans hkb
  have hpA := (hp6.kept hk7 (by simp)).kept hkb (by simp)
  have hl5 := hD5.lt
  have hs6 := hz6.out
  have hs7 := hk7.size
  have hRA : ReAt (w7.alloc (.cells #[.pointer (some ⟨w5.heap.size, 0, none⟩), .pointer (some ⟨d, 0, none⟩), .bool g, .bool false] 88)) w7.heap.size w5.heap.size d b1 b2 ⟨t, g, z, false⟩ :=
    ⟨hb, ⟨z, hpA⟩, hD5.kept hkA (by simp) (by simp) (by simp), ⟨by omega, ⟨by omega, by omega, by omega⟩, by omega, by omega, by omega⟩⟩
  replace q8 := q8 _ _ _ hRA hpA
  have hsA : (w7.alloc (.cells #[.pointer (some ⟨w5.heap.size, 0, none⟩), .pointer (some ⟨d, 0, none⟩), .bool g, .bool false] 88)).heap.size = w7.heap.size + 1 := by simp
  have hKA : Kept [d, b1, b2] w (w7.alloc (.cells #[.pointer (some ⟨w5.heap.size, 0, none⟩), .pointer (some ⟨d, 0, none⟩), .bool g, .bool false] 88)) := ((hk01.mono (by simp)).trans hkR).trans (hkA.mono (by simp))
  clear hX5 hY5 hX6 hY6 hX7 hY7 p4 r4 p5 r5
  go_wp2_with (first
    | (go_at_call 38; refine q8.mono ?_; rintro e w9 ⟨sa9, n9, cap9, P, rfl, hr9, hms, hmem, hR9, hk9⟩))
  go_ret3
  rw [hsA] at hr9 hmem
  have hs9 := hk9.size
  exact ⟨_, _, sa9, n9, cap9, P, w7.heap.size + 1, rfl, hR9, ⟨by omega, by omega, by omega, by omega, by omega, by omega⟩, hr9, hms, hmem, hKA.young (g := w7.heap.size) (hk9.mono (by simp)) (by omega)⟩
end Go.Proofs.YtfiofdmefgkloaaGreat.Resync
namespace Go.Proofs.YtfiofdmefgkloaaGreat.Resync
open Go.RowKit
open Pack (Mv Ms mv0)

theorem range_kept {K : List Nat} {A B : World} {g o : Nat} {cs : List Value} (h : A.rangeAt g o cs) (hk : Kept K A B) (hg : g ∉ K) : B.rangeAt g o cs := fun j v hv =>
  (World.cell?_of_block (hk.block g (World.block_lt_of_cell? _ _ (h j v hv)) hg)).trans (h j v hv)
set_option maxRecDepth 100000 in
/-- Two messages that are alike. -/
theorem same_of (x y : Mv) (lo hi lo' hi' : Nat) (W : World) (h : x.At lo hi W) (hh : hi ≤ W.heap.size) (hy : y.At lo' hi' W) (hyy : hi' ≤ W.heap.size) (e : x.ms = y.ms) :
    Calls Tryz.prog 45 #[x.val, y.val] W fun e w' => e = .returned (.bool true) ∧ Kept [] W w' := by
  have q := Pack.refSame_any x y lo hi lo' hi' W h hh hy hyy
  rw [Pack.sameB_eq.2 e] at q
  exact q
set_option maxRecDepth 100000 in
set_option maxHeartbeats 4000000 in
theorem all_any (sa sb : Option Addr) (n m ca cb ba bb lo hi lo' hi' : Nat) (P Q : List Mv) (w : World) (hP : MRow ba w (.slice sa n ca) P) (hQ : MRow bb w (.slice sb m cb) Q) (hPa : ∀ y ∈ P, y.At lo hi w) (hh : hi ≤ w.heap.size) (hQa : ∀ y ∈ Q, y.At lo' hi' w) (hh' : hi' ≤ w.heap.size) (e : P.map Mv.ms = Q.map Mv.ms) :
    Calls Tryz.prog 12 #[.slice sa n ca, .slice sb m cb] w fun e w' => e = .returned (.bool true) ∧ Kept [] w w' := by
  obtain ⟨n1, n2, n3⟩ := hP.len
  obtain ⟨m1, m2, m3⟩ := hQ.len
  have hl : P.length = Q.length := by simpa using congrArg List.length e
  obtain rfl : m = n := by omega
  replace n1 : Hid _ := n1
  replace m1 : Hid _ := m1
  clear hl
  unfold maxLen at n3 m3
  go_enter Tryz.func12, Tryz.ntmps12
  go_wp2_with fail
  go_loopw [13] (fun i wr => ∃ j : Nat, j ≤ m ∧ i = .int .i64 j ∧ Kept [] w wr) (fun i _ => m - (RowKit.intOf i).toNat)
  case atStart => exact ⟨0, Nat.zero_le _, rfl, Kept.refl _ _⟩
  case round =>
    obtain ⟨j, hj, rfl, hK⟩ := hrel
    by_cases hlt : j < m
    · obtain ⟨x, hx⟩ : ∃ x, P[j]? = some x := ⟨_, List.getElem?_eq_getElem (by have := n1.out; omega)⟩
      obtain ⟨y, hy⟩ : ∃ y, Q[j]? = some y := ⟨_, List.getElem?_eq_getElem (by have := m1.out; omega)⟩
      have exy : x.ms = y.ms := by
        have := congrArg (fun l => l[j]?) e
        simpa [List.getElem?_map, hx, hy] using this
      have hKd := hK.trans (kept_drew [] wr)
      obtain ⟨g, rfl, -, c1⟩ := (hP.kept0 hKd).at j x hx
      obtain ⟨g', rfl, -, c2⟩ := (hQ.kept0 hKd).at j y hy
      have hax := (hPa x (List.mem_of_getElem? hx)).kept hh hKd (by simp)
      have hay := (hQa y (List.mem_of_getElem? hy)).kept hh' hKd (by simp)
      have q := same_of x y lo hi lo' hi' wr.drew hax (Nat.le_trans hh hKd.size) hay (Nat.le_trans hh' hKd.size) exy
      have kk : (j : Int) < (m : Int) := by omega
      have kc : (j : Int) < (ca : Int) := by omega
      have kd : (j : Int) < (cb : Int) := by omega
      have hm1 : Hid (m - (j + 1) < m - j) := by show _ < _; omega
      clear hx hy exy hax hay hP hQ hPa hQa e
      obtain ⟨xk, xi, xo, xm, xs, xa, xl, xc, xd⟩ := x
      obtain ⟨yk, yi, yo, ym, ys, ya, yl, yc, yd⟩ := y
      simp only [Mv.cells] at c1 c2
      simp only [Mv.val] at q
      go_wp2_with fail
      have hS : ∀ W, Kept [] wr.drew W →  W.cell? ⟨g, j * 6, none⟩ = some (.int .i64 xk) ∧ W.cell? ⟨g', j * 6, none⟩ = some (.int .i64 yk) ∧ W.cell? ⟨g, j * 6 + 1, none⟩ = some (.int .i64 xi) ∧ W.cell? ⟨g', j * 6 + 1, none⟩ = some (.int .i64 yi) ∧ W.cell? ⟨g, j * 6 + 2, none⟩ = some (.int .i64 xo) ∧ W.cell? ⟨g', j * 6 + 2, none⟩ = some (.int .i64 yo) ∧ W.cell? ⟨g, j * 6 + 3, none⟩ = some (.int .u64 (xm : Int)) ∧ W.cell? ⟨g', j * 6 + 3, none⟩ = some (.int .u64 (ym : Int)) ∧ W.cell? ⟨g, j * 6 + 4, none⟩ = some (.bool xs) ∧ W.cell? ⟨g', j * 6 + 4, none⟩ = some (.bool ys) ∧ W.cell? ⟨g, j * 6 + 5, none⟩ = some (.slice xa xl xc) ∧ W.cell? ⟨g', j * 6 + 5, none⟩ = some (.slice ya yl yc) := fun W hk => by
        have e1 := range_kept c1 hk (by simp)
        have e2 := range_kept c2 hk (by simp)
        exact ⟨e1 0 _ rfl, e2 0 _ rfl, e1 1 _ rfl, e2 1 _ rfl, e1 2 _ rfl, e2 2 _ rfl, e1 3 _ rfl, e2 3 _ rfl, e1 4 _ rfl, e2 4 _ rfl, e1 5 _ rfl, e2 5 _ rfl⟩
      replace hS : Hid _ := hS
      clear c1 c2
      go_region_held3 (fun W => W.cell? ⟨g, j * 6, none⟩ = some (.int .i64 xk) ∧ W.cell? ⟨g', j * 6, none⟩ = some (.int .i64 yk) ∧ W.cell? ⟨g, j * 6 + 1, none⟩ = some (.int .i64 xi) ∧ W.cell? ⟨g', j * 6 + 1, none⟩ = some (.int .i64 yi) ∧ W.cell? ⟨g, j * 6 + 2, none⟩ = some (.int .i64 xo) ∧ W.cell? ⟨g', j * 6 + 2, none⟩ = some (.int .i64 yo) ∧ W.cell? ⟨g, j * 6 + 3, none⟩ = some (.int .u64 (xm : Int)) ∧ W.cell? ⟨g', j * 6 + 3, none⟩ = some (.int .u64 (ym : Int)) ∧ W.cell? ⟨g, j * 6 + 4, none⟩ = some (.bool xs) ∧ W.cell? ⟨g', j * 6 + 4, none⟩ = some (.bool ys) ∧ W.cell? ⟨g, j * 6 + 5, none⟩ = some (.slice xa xl xc) ∧ W.cell? ⟨g', j * 6 + 5, none⟩ = some (.slice ya yl yc)) (first | exact hS.out _ (Kept.refl [] _) | exact hS.out _ hk2) (first
        | (go_at_call 45; refine q.mono ?_; rintro e w2 ⟨rfl, hk2⟩))
      go_wp2_with fail
      go_round
      case rel => exact ⟨j + 1, by omega, by go_num, hKd.trans hk2⟩
      case measure => simp [RowKit.intOf]; omega
    · obtain rfl : j = m := by omega
      go_wp2_with fail
      go_ret
      exact ⟨rfl, hK⟩
end Go.Proofs.YtfiofdmefgkloaaGreat.Resync
namespace Go.Proofs.YtfiofdmefgkloaaGreat.Resync
open Go.RowKit
open Math Copying
open Pack (Mv Ms mv0 good)
open Bits.Math (has without elems)

/-- The document's resync in memory. -/
structure RrAt (W : World) (oo pp r g cap : Nat) (x : Rs) : Prop where
  box : Blk W oo 55 #[.pointer (some ⟨r, 0, none⟩), .bool x.src, .pointer (some ⟨pp, 0, none⟩), .bool x.over]
  plan : ∃ m, Plan.RefAt W pp m x.left
  disk : RefAt W r g cap x.d
  ne : oo ≠ pp ∧ (oo ≠ r ∧ oo ≠ g) ∧ pp ≠ r ∧ pp ≠ g
  lt : oo < W.heap.size ∧ pp < W.heap.size ∧ r < W.heap.size ∧ g < W.heap.size
theorem RrAt.kept {K : List Nat} {A B : World} {oo pp r g cap : Nat} {x : Rs} (h : RrAt A oo pp r g cap x) (hk : Kept K A B) (hK : ∀ k ∈ [oo, pp, r, g], k ∉ K) : RrAt B oo pp r g cap x := by
  obtain ⟨m, hp⟩ := h.plan
  have hs := hk.size
  obtain ⟨l1, l2, l3, l4⟩ := h.lt
  exact ⟨h.box.kept hk (hK oo (by simp)), ⟨m, hp.kept hk (hK pp (by simp))⟩, h.disk.kept hk (hK r (by simp)) (hK g (by simp)), h.ne, by omega, by omega, by omega, by omega⟩
theorem RrAt.kept0 {A B : World} {oo pp r g cap : Nat} {x : Rs} (h : RrAt A oo pp r g cap x) (hk : Kept [] A B) : RrAt B oo pp r g cap x := h.kept hk (by simp)
theorem RrAt.four {W : World} {oo pp r g cap : Nat} {x : Rs} (h : RrAt W oo pp r g cap x) : W.cell? ⟨oo, 0, none⟩ = some (.pointer (some ⟨r, 0, none⟩)) ∧ W.cell? ⟨oo, 1, none⟩ = some (.bool x.src) ∧ W.cell? ⟨oo, 2, none⟩ = some (.pointer (some ⟨pp, 0, none⟩)) ∧ W.cell? ⟨oo, 3, none⟩ = some (.bool x.over) ∧ W.cell? ⟨pp, 1, none⟩ = some (.int .u64 (x.left : Int)) := by
  obtain ⟨m, hp⟩ := h.plan
  exact ⟨(Blk.cell h.box 0).trans rfl, (Blk.cell h.box 1).trans rfl, (Blk.cell h.box 2).trans rfl, (Blk.cell h.box 3).trans rfl, hp.two.2⟩
theorem RrAt.turned {A B : World} {oo pp r g cap : Nat} {s s' : Dk} {q e : Bool} {l : Nat} (h : RrAt A oo pp r g cap ⟨s, q, l, e⟩) (hd : RefAt B r g cap s') (hk : Kept [r, g] A B) : RrAt B oo pp r g cap ⟨s', q, l, e⟩ := by
  obtain ⟨m, hp⟩ := h.plan
  obtain ⟨-, n1, n2⟩ := h.ne
  obtain ⟨l1, l2, l3, l4⟩ := h.lt
  have hs := hk.size
  exact ⟨h.box.kept hk (by simp; omega), ⟨m, hp.kept hk (by simp; omega)⟩, hd, h.ne, by omega, by omega, by omega, by omega⟩
theorem RrAt.struck {A B : World} {oo pp r g cap : Nat} {s : Dk} {q e : Bool} {l l' m : Nat} (h : RrAt A oo pp r g cap ⟨s, q, l, e⟩) (hp : Plan.RefAt B pp m l') (hk : Kept [pp] A B) : RrAt B oo pp r g cap ⟨s, q, l', e⟩ := by
  obtain ⟨n0, n1, n2⟩ := h.ne
  obtain ⟨l1, l2, l3, l4⟩ := h.lt
  have hs := hk.size
  exact ⟨h.box.kept hk (by simp; omega), ⟨m, hp⟩, h.disk.kept hk (by simp; omega) (by simp; omega), h.ne, by omega, by omega, by omega, by omega⟩
theorem RrAt.ended {A : World} {oo pp r g cap : Nat} {s : Dk} {q e : Bool} {l : Nat} (h : RrAt A oo pp r g cap ⟨s, q, l, e⟩) : RrAt (A.setCell ⟨oo, 3, none⟩ (.bool true)) oo pp r g cap ⟨s, q, l, true⟩ := by
  obtain ⟨n0, n1, n2⟩ := h.ne
  obtain ⟨m, hp⟩ := h.plan
  obtain ⟨l1, l2, l3, l4⟩ := h.lt
  have hk : Kept [oo] A (A.setCell ⟨oo, 3, none⟩ (.bool true)) := kept_set (by simp) _ _ _
  have hs := hk.size
  exact ⟨h.box.set 3 (.bool true), ⟨m, hp.kept hk (by simp; omega)⟩, h.disk.kept hk (by simp; omega) (by simp; omega), h.ne, by omega, by omega, by omega, by omega⟩
set_option maxRecDepth 100000 in
set_option maxHeartbeats 4000000 in
theorem rtake_over (oo pp r g cap : Nat) (s : Dk) (q : Bool) (l : Nat) (x : Mv) (w : World) (h : RrAt w oo pp r g cap ⟨s, q, l, true⟩) :
    Calls Tryz.prog 14 #[.pointer (some ⟨oo, 0, none⟩), x.val] w fun v w' => v = .returned (.tuple #[.slice none 0 0, .int .i64 0]) ∧ Kept [] w w' := by
  obtain ⟨W0, hW0, hX, hk0, hz⟩ := boxed w x
  have h0 := h.kept0 hk0
  have hlt := h.lt
  have ne := h.ne
  have c3 := h0.four.2.2.2.1
  unfold Mv.val
  go_enter Tryz.func14, Tryz.ntmps14
  go_wp2_with fail
  go_ret2
  exact ⟨rfl, hk0⟩
set_option maxRecDepth 100000 in
set_option maxHeartbeats 4000000 in
theorem rtake_src (oo pp r g cap : Nat) (s : Dk) (l : Nat) (x : Mv) (hops : s.ops ≤ 999998) (w : World) (h : RrAt w oo pp r g cap ⟨s, true, l, false⟩) :
    Calls Tryz.prog 14 #[.pointer (some ⟨oo, 0, none⟩), x.val] w fun v w' => ∃ sa n cap', v = .returned (.tuple #[.slice sa n cap', .int .i64 (takeE ⟨s, true, l, false⟩ x.ms : Nat)]) ∧ MRow w.heap.size w' (.slice sa n cap') ((takeL ⟨s, true, l, false⟩ x.ms).map bare) ∧ RrAt w' oo pp r g cap (takeS ⟨s, true, l, false⟩ x.ms) ∧ Kept [oo, pp, r, g] w w' := by
  obtain ⟨W0, hW0, hX, hk0, hz⟩ := boxed w x
  have h0 := h.kept0 hk0
  have hlt := h.lt
  have ne := h.ne
  obtain ⟨E, hE⟩ : ∃ E, Hid (takeE ⟨s, true, l, false⟩ x.ms = E) := ⟨_, rfl⟩
  obtain ⟨T, hT⟩ : ∃ T, Hid ((takeL ⟨s, true, l, false⟩ x.ms).map bare = T) := ⟨_, rfl⟩
  obtain ⟨R, hR⟩ : ∃ R, Hid (takeS ⟨s, true, l, false⟩ x.ms = R) := ⟨_, rfl⟩
  rw [hE.out, hT.out, hR.out]
  have rS : ∀ W, Kept [] W0 W → RrAt W oo pp r g cap ⟨s, true, l, false⟩ := fun W hk => h0.kept0 hk
  have xS : ∀ W, Kept [] W0 W → x.In W w.heap.size := fun W hk => hX.kept hk (by simp)
  have c3 := h0.four.2.2.2.1
  obtain ⟨m, hp⟩ := h0.plan
  have q2 := fun W => Bits.refHas_any l x.o W hp.2.2
  have mo : x.ms.o = x.o := rfl
  have mk : x.ms.k = x.k := rfl
  unfold Mv.val at *
  go_enter Tryz.func14, Tryz.ntmps14
  go_upto_region 2 with fail
  obtain ⟨hit, hhit⟩ : ∃ hit, Hid ((decide (x.k = 7) && has l x.o) = hit) := ⟨_, rfl⟩
  go_cut [15] from 16 (fun v W => v = .bool hit ∧ Kept [] W0 W)
  case first =>
    by_cases h7 : x.k = 7
    · have z7 : (x.k == 7) = true := by simpa using h7
      have e : has l x.o = hit := by
        have := hhit.out
        simpa [h7] using this
      rw [e] at q2
      clear h7 e
      generalize hit = H at *
      refine wp_region_held_drew (S := fun W => Kept [] W0 W) (by kernel_rfl) (kept_drew [] W0) (fun hP => ?_)
      have hH := hP
      clear hP
      refine wpAnyH_take (i := 0) (oi := { dst := some 16, op := Op.move (Operand.tmp 0), type := 41, pos := "ref.go:61", after := #[], guard := none }) (v := (.pointer (some ⟨oo, 0, none⟩))) rfl (by kernel_rfl) (by kernel_rfl) (by kernel_rfl) (fun _ _ _ h => h) (Or.inl ⟨by rfl, fun W hSw => by go_simp⟩) hH ?_
      try simp only [Act.put, List.setIfInBounds_toArray, List.set_cons_zero, List.set_cons_succ]
      refine wpAnyH_take (i := 1) (oi := { dst := some 17, op := Op.nilCheck (Operand.tmp 16), type := 0, pos := "ref.go:61", after := #[{ on := 0, ground := Ground.data }], guard := none }) (v := (.pointer (some ⟨oo, 0, none⟩))) rfl (by kernel_rfl) (by kernel_rfl) (by kernel_rfl) (fun _ _ _ h => h) (Or.inl ⟨by rfl, fun W hSw => by go_simp⟩) hH ?_
      try simp only [Act.put, List.setIfInBounds_toArray, List.set_cons_zero, List.set_cons_succ]
      refine wpAnyH_take (i := 2) (oi := { dst := some 18, op := Op.fieldAddr 55 (Operand.tmp 17) 1, type := 0, pos := "ref.go:61", after := #[{ on := 1, ground := Ground.data }], guard := none }) (v := (.pointer (some ⟨oo, 1, none⟩))) rfl (by kernel_rfl) (by kernel_rfl) (by kernel_rfl) (fun _ _ _ h => h) (Or.inl ⟨by rfl, fun W hSw => by go_simp⟩) hH ?_
      try simp only [Act.put, List.setIfInBounds_toArray, List.set_cons_zero, List.set_cons_succ]
      refine wpAnyH_take (i := 3) (oi := { dst := some 19, op := Op.load 4 (Operand.tmp 18), type := 4, pos := "ref.go:61", after := #[{ on := 2, ground := Ground.data }], guard := none }) (v := (.bool true)) rfl (by kernel_rfl) (by kernel_rfl) (by kernel_rfl) (fun _ _ _ h => h) (Or.inl ⟨by rfl, fun W hSw => by have c := (rS W hSw).four.2.1; go_simp⟩) hH ?_
      try simp only [Act.put, List.setIfInBounds_toArray, List.set_cons_zero, List.set_cons_succ]
      refine wpAnyH_take (i := 4) (oi := { dst := some 20, op := Op.move (Operand.tmp 19), type := 4, pos := "ref.go:61", after := #[{ on := 3, ground := Ground.data }], guard := none }) (v := (.bool true)) rfl (by kernel_rfl) (by kernel_rfl) (by kernel_rfl) (fun _ _ _ h => h) (Or.inl ⟨by rfl, fun W hSw => by go_simp⟩) hH ?_
      try simp only [Act.put, List.setIfInBounds_toArray, List.set_cons_zero, List.set_cons_succ]
      refine wpAnyH_take (i := 5) (oi := { dst := some 21, op := Op.fieldAddr 26 (Operand.tmp 3) 0, type := 0, pos := "ref.go:61", after := #[{ on := 4, ground := Ground.guard }], guard := some (4, true) }) (v := (.pointer (some ⟨w.heap.size, 0, none⟩))) rfl (by kernel_rfl) (by kernel_rfl) (by kernel_rfl) (fun _ _ _ h => h) (Or.inl ⟨by rfl, fun W hSw => by go_simp⟩) hH ?_
      try simp only [Act.put, List.setIfInBounds_toArray, List.set_cons_zero, List.set_cons_succ]
      refine wpAnyH_take (i := 6) (oi := { dst := some 22, op := Op.load 3 (Operand.tmp 21), type := 3, pos := "ref.go:61", after := #[{ on := 5, ground := Ground.data }, { on := 4, ground := Ground.guard }], guard := some (4, true) }) (v := (.int .i64 x.k)) rfl (by kernel_rfl) (by kernel_rfl) (by kernel_rfl) (fun _ _ _ h => h) (Or.inl ⟨by rfl, fun W hSw => by have c := (xS W hSw).six.1; go_simp⟩) hH ?_
      try simp only [Act.put, List.setIfInBounds_toArray, List.set_cons_zero, List.set_cons_succ]
      refine wpAnyH_take (i := 7) (oi := { dst := some 23, op := Op.binOp BinOp.eql 3 (Operand.tmp 22) (Operand.const (Value.int IntKind.i64 7)) 3, type := 4, pos := "ref.go:61", after := #[{ on := 6, ground := Ground.data }, { on := 4, ground := Ground.guard }], guard := some (4, true) }) (v := (.bool true)) rfl (by kernel_rfl) (by kernel_rfl) (by kernel_rfl) (fun _ _ _ h => h) (Or.inl ⟨by rfl, fun W hSw => by go_simp⟩) hH ?_
      try simp only [Act.put, List.setIfInBounds_toArray, List.set_cons_zero, List.set_cons_succ]
      refine wpAnyH_take (i := 8) (oi := { dst := some 24, op := Op.pick (Operand.tmp 20) (Operand.tmp 23) (Operand.const (Value.bool false)), type := 4, pos := "ref.go:61", after := #[{ on := 4, ground := Ground.data }, { on := 7, ground := Ground.data }], guard := none }) (v := (.bool true)) rfl (by kernel_rfl) (by kernel_rfl) (by kernel_rfl) (fun _ _ _ h => h) (Or.inl ⟨by rfl, fun W hSw => by go_simp⟩) hH ?_
      try simp only [Act.put, List.setIfInBounds_toArray, List.set_cons_zero, List.set_cons_succ]
      refine wpAnyH_take (i := 9) (oi := { dst := some 25, op := Op.move (Operand.tmp 24), type := 4, pos := "ref.go:61", after := #[{ on := 8, ground := Ground.data }, { on := 4, ground := Ground.chain }], guard := none }) (v := (.bool true)) rfl (by kernel_rfl) (by kernel_rfl) (by kernel_rfl) (fun _ _ _ h => h) (Or.inl ⟨by rfl, fun W hSw => by go_simp⟩) hH ?_
      try simp only [Act.put, List.setIfInBounds_toArray, List.set_cons_zero, List.set_cons_succ]
      refine wpAnyH_take (i := 10) (oi := { dst := some 26, op := Op.move (Operand.tmp 0), type := 41, pos := "ref.go:61", after := #[{ on := 9, ground := Ground.guard }], guard := some (9, true) }) (v := (.pointer (some ⟨oo, 0, none⟩))) rfl (by kernel_rfl) (by kernel_rfl) (by kernel_rfl) (fun _ _ _ h => h) (Or.inl ⟨by rfl, fun W hSw => by go_simp⟩) hH ?_
      try simp only [Act.put, List.setIfInBounds_toArray, List.set_cons_zero, List.set_cons_succ]
      refine wpAnyH_take (i := 11) (oi := { dst := some 27, op := Op.nilCheck (Operand.tmp 26), type := 0, pos := "ref.go:61", after := #[{ on := 10, ground := Ground.data }, { on := 9, ground := Ground.guard }], guard := some (9, true) }) (v := (.pointer (some ⟨oo, 0, none⟩))) rfl (by kernel_rfl) (by kernel_rfl) (by kernel_rfl) (fun _ _ _ h => h) (Or.inl ⟨by rfl, fun W hSw => by go_simp⟩) hH ?_
      try simp only [Act.put, List.setIfInBounds_toArray, List.set_cons_zero, List.set_cons_succ]
      refine wpAnyH_take (i := 12) (oi := { dst := some 28, op := Op.fieldAddr 55 (Operand.tmp 27) 2, type := 0, pos := "ref.go:61", after := #[{ on := 11, ground := Ground.data }, { on := 9, ground := Ground.guard }], guard := some (9, true) }) (v := (.pointer (some ⟨oo, 2, none⟩))) rfl (by kernel_rfl) (by kernel_rfl) (by kernel_rfl) (fun _ _ _ h => h) (Or.inl ⟨by rfl, fun W hSw => by go_simp⟩) hH ?_
      try simp only [Act.put, List.setIfInBounds_toArray, List.set_cons_zero, List.set_cons_succ]
      refine wpAnyH_take (i := 13) (oi := { dst := some 29, op := Op.load 53 (Operand.tmp 28), type := 53, pos := "ref.go:61", after := #[{ on := 12, ground := Ground.data }, { on := 9, ground := Ground.guard }], guard := some (9, true) }) (v := (.pointer (some ⟨pp, 0, none⟩))) rfl (by kernel_rfl) (by kernel_rfl) (by kernel_rfl) (fun _ _ _ h => h) (Or.inl ⟨by rfl, fun W hSw => by have c := (rS W hSw).four.2.2.1; go_simp⟩) hH ?_
      try simp only [Act.put, List.setIfInBounds_toArray, List.set_cons_zero, List.set_cons_succ]
      refine wpAnyH_take (i := 14) (oi := { dst := some 30, op := Op.nilCheck (Operand.tmp 29), type := 0, pos := "ref.go:61", after := #[{ on := 13, ground := Ground.data }, { on := 9, ground := Ground.guard }], guard := some (9, true) }) (v := (.pointer (some ⟨pp, 0, none⟩))) rfl (by kernel_rfl) (by kernel_rfl) (by kernel_rfl) (fun _ _ _ h => h) (Or.inl ⟨by rfl, fun W hSw => by go_simp⟩) hH ?_
      try simp only [Act.put, List.setIfInBounds_toArray, List.set_cons_zero, List.set_cons_succ]
      refine wpAnyH_take (i := 15) (oi := { dst := some 31, op := Op.fieldAddr 58 (Operand.tmp 30) 1, type := 0, pos := "ref.go:61", after := #[{ on := 14, ground := Ground.data }, { on := 9, ground := Ground.guard }], guard := some (9, true) }) (v := (.pointer (some ⟨pp, 1, none⟩))) rfl (by kernel_rfl) (by kernel_rfl) (by kernel_rfl) (fun _ _ _ h => h) (Or.inl ⟨by rfl, fun W hSw => by go_simp⟩) hH ?_
      try simp only [Act.put, List.setIfInBounds_toArray, List.set_cons_zero, List.set_cons_succ]
      refine wpAnyH_take (i := 16) (oi := { dst := some 32, op := Op.load 23 (Operand.tmp 31), type := 23, pos := "ref.go:61", after := #[{ on := 15, ground := Ground.data }, { on := 9, ground := Ground.guard }], guard := some (9, true) }) (v := (.int .u64 (l : Int))) rfl (by kernel_rfl) (by kernel_rfl) (by kernel_rfl) (fun _ _ _ h => h) (Or.inl ⟨by rfl, fun W hSw => by have c := (rS W hSw).four.2.2.2.2; go_simp⟩) hH ?_
      try simp only [Act.put, List.setIfInBounds_toArray, List.set_cons_zero, List.set_cons_succ]
      refine wpAnyH_take (i := 17) (oi := { dst := some 33, op := Op.fieldAddr 26 (Operand.tmp 3) 2, type := 0, pos := "ref.go:61", after := #[{ on := 9, ground := Ground.guard }], guard := some (9, true) }) (v := (.pointer (some ⟨w.heap.size, 2, none⟩))) rfl (by kernel_rfl) (by kernel_rfl) (by kernel_rfl) (fun _ _ _ h => h) (Or.inl ⟨by rfl, fun W hSw => by go_simp⟩) hH ?_
      try simp only [Act.put, List.setIfInBounds_toArray, List.set_cons_zero, List.set_cons_succ]
      refine wpAnyH_take (i := 18) (oi := { dst := some 34, op := Op.load 3 (Operand.tmp 33), type := 3, pos := "ref.go:61", after := #[{ on := 17, ground := Ground.data }, { on := 9, ground := Ground.guard }], guard := some (9, true) }) (v := (.int .i64 x.o)) rfl (by kernel_rfl) (by kernel_rfl) (by kernel_rfl) (fun _ _ _ h => h) (Or.inl ⟨by rfl, fun W hSw => by have c := (xS W hSw).six.2.2.1; go_simp⟩) hH ?_
      try simp only [Act.put, List.setIfInBounds_toArray, List.set_cons_zero, List.set_cons_succ]
      refine wpAnyH_ready (rs := [19]) (by kernel_rfl) (by simp) ?_
      refine AllReadyH.cons (o := { dst := some 35, op := Op.call { callee := Callee.value (Operand.func 48), args := #[Operand.tmp 32, Operand.tmp 34], argTypes := #[23, 3] }, type := 4, pos := "ref.go:61", after := #[{ on := 16, ground := Ground.data }, { on := 18, ground := Ground.data }, { on := 9, ground := Ground.chain }, { on := 9, ground := Ground.guard }], guard := some (9, true) }) rfl (fun K hK => ?_) AllReadyH.nil
      go_simp
      refine (q2 _).mono ?_
      rintro e w1 ⟨rfl, rfl⟩
      go_wp2_with fail
      have hH1 := hH
      refine hK.out _ _ hH1 (fun _ => ?_)
      replace hH := hH1
      clear hK K hH1
      try simp only [Act.put, List.setIfInBounds_toArray, List.set_cons_zero, List.set_cons_succ]
      refine wpAnyH_take (i := 20) (oi := { dst := some 36, op := Op.pick (Operand.tmp 25) (Operand.tmp 35) (Operand.const (Value.bool false)), type := 4, pos := "ref.go:61", after := #[{ on := 9, ground := Ground.data }, { on := 19, ground := Ground.data }], guard := none }) (v := (.bool H)) rfl (by kernel_rfl) (by kernel_rfl) (by kernel_rfl) (fun _ _ _ h => h) (Or.inl ⟨by rfl, fun W hSw => by go_simp⟩) hH ?_
      try simp only [Act.put, List.setIfInBounds_toArray, List.set_cons_zero, List.set_cons_succ]
      refine wpAnyH_take (i := 21) (oi := { dst := some 15, op := Op.assign (Operand.tmp 36), type := 4, pos := "ref.go:61", after := #[{ on := 20, ground := Ground.data }, { on := 19, ground := Ground.chain }], guard := none }) (v := (.bool H)) rfl (by kernel_rfl) (by kernel_rfl) (by kernel_rfl) (fun _ _ _ h => h) (Or.inl ⟨by rfl, fun W hSw => by go_simp⟩) hH ?_
      try simp only [Act.put, List.setIfInBounds_toArray, List.set_cons_zero, List.set_cons_succ]
      refine wpAnyH_done (by kernel_rfl) ?_ _
      go_wp2_with fail
      go_meet
      case rel => exact ⟨rfl, hH⟩
    · have z7 : (x.k == 7) = false := by simpa using h7
      have e : hit = false := by
        have := hhit.out
        simpa [h7] using this.symm
      subst e
      clear q2 h7
      refine wp_region_held_drew (S := fun W => Kept [] W0 W) (by kernel_rfl) (kept_drew [] W0) (fun hP => ?_)
      have hH := hP
      clear hP
      refine wpAnyH_take (i := 0) (oi := { dst := some 16, op := Op.move (Operand.tmp 0), type := 41, pos := "ref.go:61", after := #[], guard := none }) (v := (.pointer (some ⟨oo, 0, none⟩))) rfl (by kernel_rfl) (by kernel_rfl) (by kernel_rfl) (fun _ _ _ h => h) (Or.inl ⟨by rfl, fun W hSw => by go_simp⟩) hH ?_
      try simp only [Act.put, List.setIfInBounds_toArray, List.set_cons_zero, List.set_cons_succ]
      refine wpAnyH_take (i := 1) (oi := { dst := some 17, op := Op.nilCheck (Operand.tmp 16), type := 0, pos := "ref.go:61", after := #[{ on := 0, ground := Ground.data }], guard := none }) (v := (.pointer (some ⟨oo, 0, none⟩))) rfl (by kernel_rfl) (by kernel_rfl) (by kernel_rfl) (fun _ _ _ h => h) (Or.inl ⟨by rfl, fun W hSw => by go_simp⟩) hH ?_
      try simp only [Act.put, List.setIfInBounds_toArray, List.set_cons_zero, List.set_cons_succ]
      refine wpAnyH_take (i := 2) (oi := { dst := some 18, op := Op.fieldAddr 55 (Operand.tmp 17) 1, type := 0, pos := "ref.go:61", after := #[{ on := 1, ground := Ground.data }], guard := none }) (v := (.pointer (some ⟨oo, 1, none⟩))) rfl (by kernel_rfl) (by kernel_rfl) (by kernel_rfl) (fun _ _ _ h => h) (Or.inl ⟨by rfl, fun W hSw => by go_simp⟩) hH ?_
      try simp only [Act.put, List.setIfInBounds_toArray, List.set_cons_zero, List.set_cons_succ]
      refine wpAnyH_take (i := 3) (oi := { dst := some 19, op := Op.load 4 (Operand.tmp 18), type := 4, pos := "ref.go:61", after := #[{ on := 2, ground := Ground.data }], guard := none }) (v := (.bool true)) rfl (by kernel_rfl) (by kernel_rfl) (by kernel_rfl) (fun _ _ _ h => h) (Or.inl ⟨by rfl, fun W hSw => by have c := (rS W hSw).four.2.1; go_simp⟩) hH ?_
      try simp only [Act.put, List.setIfInBounds_toArray, List.set_cons_zero, List.set_cons_succ]
      refine wpAnyH_take (i := 4) (oi := { dst := some 20, op := Op.move (Operand.tmp 19), type := 4, pos := "ref.go:61", after := #[{ on := 3, ground := Ground.data }], guard := none }) (v := (.bool true)) rfl (by kernel_rfl) (by kernel_rfl) (by kernel_rfl) (fun _ _ _ h => h) (Or.inl ⟨by rfl, fun W hSw => by go_simp⟩) hH ?_
      try simp only [Act.put, List.setIfInBounds_toArray, List.set_cons_zero, List.set_cons_succ]
      refine wpAnyH_take (i := 5) (oi := { dst := some 21, op := Op.fieldAddr 26 (Operand.tmp 3) 0, type := 0, pos := "ref.go:61", after := #[{ on := 4, ground := Ground.guard }], guard := some (4, true) }) (v := (.pointer (some ⟨w.heap.size, 0, none⟩))) rfl (by kernel_rfl) (by kernel_rfl) (by kernel_rfl) (fun _ _ _ h => h) (Or.inl ⟨by rfl, fun W hSw => by go_simp⟩) hH ?_
      try simp only [Act.put, List.setIfInBounds_toArray, List.set_cons_zero, List.set_cons_succ]
      refine wpAnyH_take (i := 6) (oi := { dst := some 22, op := Op.load 3 (Operand.tmp 21), type := 3, pos := "ref.go:61", after := #[{ on := 5, ground := Ground.data }, { on := 4, ground := Ground.guard }], guard := some (4, true) }) (v := (.int .i64 x.k)) rfl (by kernel_rfl) (by kernel_rfl) (by kernel_rfl) (fun _ _ _ h => h) (Or.inl ⟨by rfl, fun W hSw => by have c := (xS W hSw).six.1; go_simp⟩) hH ?_
      try simp only [Act.put, List.setIfInBounds_toArray, List.set_cons_zero, List.set_cons_succ]
      refine wpAnyH_take (i := 7) (oi := { dst := some 23, op := Op.binOp BinOp.eql 3 (Operand.tmp 22) (Operand.const (Value.int IntKind.i64 7)) 3, type := 4, pos := "ref.go:61", after := #[{ on := 6, ground := Ground.data }, { on := 4, ground := Ground.guard }], guard := some (4, true) }) (v := (.bool false)) rfl (by kernel_rfl) (by kernel_rfl) (by kernel_rfl) (fun _ _ _ h => h) (Or.inl ⟨by rfl, fun W hSw => by go_simp⟩) hH ?_
      try simp only [Act.put, List.setIfInBounds_toArray, List.set_cons_zero, List.set_cons_succ]
      refine wpAnyH_take (i := 8) (oi := { dst := some 24, op := Op.pick (Operand.tmp 20) (Operand.tmp 23) (Operand.const (Value.bool false)), type := 4, pos := "ref.go:61", after := #[{ on := 4, ground := Ground.data }, { on := 7, ground := Ground.data }], guard := none }) (v := (.bool false)) rfl (by kernel_rfl) (by kernel_rfl) (by kernel_rfl) (fun _ _ _ h => h) (Or.inl ⟨by rfl, fun W hSw => by go_simp⟩) hH ?_
      try simp only [Act.put, List.setIfInBounds_toArray, List.set_cons_zero, List.set_cons_succ]
      refine wpAnyH_take (i := 9) (oi := { dst := some 25, op := Op.move (Operand.tmp 24), type := 4, pos := "ref.go:61", after := #[{ on := 8, ground := Ground.data }, { on := 4, ground := Ground.chain }], guard := none }) (v := (.bool false)) rfl (by kernel_rfl) (by kernel_rfl) (by kernel_rfl) (fun _ _ _ h => h) (Or.inl ⟨by rfl, fun W hSw => by go_simp⟩) hH ?_
      try simp only [Act.put, List.setIfInBounds_toArray, List.set_cons_zero, List.set_cons_succ]
      refine wpAnyH_take (i := 10) (oi := { dst := some 26, op := Op.move (Operand.tmp 0), type := 41, pos := "ref.go:61", after := #[{ on := 9, ground := Ground.guard }], guard := some (9, true) }) (v := undef) rfl (by kernel_rfl) (by kernel_rfl) (by kernel_rfl) (fun _ _ _ h => h) (Or.inr ⟨by rfl, rfl⟩) hH ?_
      try simp only [Act.put, List.setIfInBounds_toArray, List.set_cons_zero, List.set_cons_succ]
      refine wpAnyH_take (i := 11) (oi := { dst := some 27, op := Op.nilCheck (Operand.tmp 26), type := 0, pos := "ref.go:61", after := #[{ on := 10, ground := Ground.data }, { on := 9, ground := Ground.guard }], guard := some (9, true) }) (v := undef) rfl (by kernel_rfl) (by kernel_rfl) (by kernel_rfl) (fun _ _ _ h => h) (Or.inr ⟨by rfl, rfl⟩) hH ?_
      try simp only [Act.put, List.setIfInBounds_toArray, List.set_cons_zero, List.set_cons_succ]
      refine wpAnyH_take (i := 12) (oi := { dst := some 28, op := Op.fieldAddr 55 (Operand.tmp 27) 2, type := 0, pos := "ref.go:61", after := #[{ on := 11, ground := Ground.data }, { on := 9, ground := Ground.guard }], guard := some (9, true) }) (v := undef) rfl (by kernel_rfl) (by kernel_rfl) (by kernel_rfl) (fun _ _ _ h => h) (Or.inr ⟨by rfl, rfl⟩) hH ?_
      try simp only [Act.put, List.setIfInBounds_toArray, List.set_cons_zero, List.set_cons_succ]
      refine wpAnyH_take (i := 13) (oi := { dst := some 29, op := Op.load 53 (Operand.tmp 28), type := 53, pos := "ref.go:61", after := #[{ on := 12, ground := Ground.data }, { on := 9, ground := Ground.guard }], guard := some (9, true) }) (v := undef) rfl (by kernel_rfl) (by kernel_rfl) (by kernel_rfl) (fun _ _ _ h => h) (Or.inr ⟨by rfl, rfl⟩) hH ?_
      try simp only [Act.put, List.setIfInBounds_toArray, List.set_cons_zero, List.set_cons_succ]
      refine wpAnyH_take (i := 14) (oi := { dst := some 30, op := Op.nilCheck (Operand.tmp 29), type := 0, pos := "ref.go:61", after := #[{ on := 13, ground := Ground.data }, { on := 9, ground := Ground.guard }], guard := some (9, true) }) (v := undef) rfl (by kernel_rfl) (by kernel_rfl) (by kernel_rfl) (fun _ _ _ h => h) (Or.inr ⟨by rfl, rfl⟩) hH ?_
      try simp only [Act.put, List.setIfInBounds_toArray, List.set_cons_zero, List.set_cons_succ]
      refine wpAnyH_take (i := 15) (oi := { dst := some 31, op := Op.fieldAddr 58 (Operand.tmp 30) 1, type := 0, pos := "ref.go:61", after := #[{ on := 14, ground := Ground.data }, { on := 9, ground := Ground.guard }], guard := some (9, true) }) (v := undef) rfl (by kernel_rfl) (by kernel_rfl) (by kernel_rfl) (fun _ _ _ h => h) (Or.inr ⟨by rfl, rfl⟩) hH ?_
      try simp only [Act.put, List.setIfInBounds_toArray, List.set_cons_zero, List.set_cons_succ]
      refine wpAnyH_take (i := 16) (oi := { dst := some 32, op := Op.load 23 (Operand.tmp 31), type := 23, pos := "ref.go:61", after := #[{ on := 15, ground := Ground.data }, { on := 9, ground := Ground.guard }], guard := some (9, true) }) (v := undef) rfl (by kernel_rfl) (by kernel_rfl) (by kernel_rfl) (fun _ _ _ h => h) (Or.inr ⟨by rfl, rfl⟩) hH ?_
      try simp only [Act.put, List.setIfInBounds_toArray, List.set_cons_zero, List.set_cons_succ]
      refine wpAnyH_take (i := 17) (oi := { dst := some 33, op := Op.fieldAddr 26 (Operand.tmp 3) 2, type := 0, pos := "ref.go:61", after := #[{ on := 9, ground := Ground.guard }], guard := some (9, true) }) (v := undef) rfl (by kernel_rfl) (by kernel_rfl) (by kernel_rfl) (fun _ _ _ h => h) (Or.inr ⟨by rfl, rfl⟩) hH ?_
      try simp only [Act.put, List.setIfInBounds_toArray, List.set_cons_zero, List.set_cons_succ]
      refine wpAnyH_take (i := 18) (oi := { dst := some 34, op := Op.load 3 (Operand.tmp 33), type := 3, pos := "ref.go:61", after := #[{ on := 17, ground := Ground.data }, { on := 9, ground := Ground.guard }], guard := some (9, true) }) (v := undef) rfl (by kernel_rfl) (by kernel_rfl) (by kernel_rfl) (fun _ _ _ h => h) (Or.inr ⟨by rfl, rfl⟩) hH ?_
      try simp only [Act.put, List.setIfInBounds_toArray, List.set_cons_zero, List.set_cons_succ]
      refine wpAnyH_take (i := 19) (oi := { dst := some 35, op := Op.call { callee := Callee.value (Operand.func 48), args := #[Operand.tmp 32, Operand.tmp 34], argTypes := #[23, 3] }, type := 4, pos := "ref.go:61", after := #[{ on := 16, ground := Ground.data }, { on := 18, ground := Ground.data }, { on := 9, ground := Ground.chain }, { on := 9, ground := Ground.guard }], guard := some (9, true) }) (v := undef) rfl (by kernel_rfl) (by kernel_rfl) (by kernel_rfl) (fun _ _ _ h => h) (Or.inr ⟨by rfl, rfl⟩) hH ?_
      try simp only [Act.put, List.setIfInBounds_toArray, List.set_cons_zero, List.set_cons_succ]
      refine wpAnyH_take (i := 20) (oi := { dst := some 36, op := Op.pick (Operand.tmp 25) (Operand.tmp 35) (Operand.const (Value.bool false)), type := 4, pos := "ref.go:61", after := #[{ on := 9, ground := Ground.data }, { on := 19, ground := Ground.data }], guard := none }) (v := (.bool false)) rfl (by kernel_rfl) (by kernel_rfl) (by kernel_rfl) (fun _ _ _ h => h) (Or.inl ⟨by rfl, fun W hSw => by go_simp⟩) hH ?_
      try simp only [Act.put, List.setIfInBounds_toArray, List.set_cons_zero, List.set_cons_succ]
      refine wpAnyH_take (i := 21) (oi := { dst := some 15, op := Op.assign (Operand.tmp 36), type := 4, pos := "ref.go:61", after := #[{ on := 20, ground := Ground.data }, { on := 19, ground := Ground.chain }], guard := none }) (v := (.bool false)) rfl (by kernel_rfl) (by kernel_rfl) (by kernel_rfl) (fun _ _ _ h => h) (Or.inl ⟨by rfl, fun W hSw => by go_simp⟩) hH ?_
      try simp only [Act.put, List.setIfInBounds_toArray, List.set_cons_zero, List.set_cons_succ]
      refine wpAnyH_done (by kernel_rfl) ?_ _
      go_wp2_with fail
      go_meet
      case rel => exact ⟨rfl, hH⟩
  case rest =>
    obtain ⟨rfl, hkc⟩ := hcut
    have hc := rS _ hkc
    have hXc := xS _ hkc
    clear rS xS q2 c3
    cases hit with
    | false =>
      have hn : ¬ (x.k = 7 ∧ has l x.o = true) := by
        have := hhit.out
        simpa using this
      have e1 : takeE ⟨s, true, l, false⟩ x.ms = 0 := by simp [takeE, mo, mk, hn]
      have e2 : takeL ⟨s, true, l, false⟩ x.ms = [] := by
        simp only [takeL, e1, mo, mk]
        simp
        intro a b
        exact absurd ⟨a, b⟩ hn
      have e3 : takeS ⟨s, true, l, false⟩ x.ms = ⟨s, true, l, false⟩ := by simp [takeS, mo, mk, hn]
      obtain rfl : 0 = E := e1.symm.trans hE.out
      obtain rfl : [] = T := by
        have := hT.out
        rw [e2] at this
        exact this
      obtain rfl : ⟨s, true, l, false⟩ = R := e3.symm.trans hR.out
      have c1 := hc.four.2.1
      simp only at c1
      have k0 := hXc.six.1
      clear hn e1 e2 e3 hE hT hR
      go_wp2_with fail
      go_ret2
      exact ⟨none, 0, 0, rfl, MRow.nil _ _, hc, (hk0.trans hkc).mono (by simp)⟩
    | true =>
      obtain ⟨h7, hh⟩ : x.k = 7 ∧ has l x.o = true := by
        have := hhit.out
        simpa using this
      have hd := hc.kept0 (kept_drew [] wc)
      have hXd := hXc.kept (kept_drew [] wc) (by simp)
      have d0 := hd.four.1
      have a2 := hXd.six.2.2.1
      have q3 := rTold_any r g cap s x.o hops wc.drew hd.disk
      have hkd : Kept [] w wc.drew := (hk0.trans hkc).trans (kept_drew [] wc)
      have m7 : x.ms.k = 7 := h7
      have hl0 := h0.lt
      go_upto_region 3 with fail
      by_cases ht : toldE s x.o = 0
      · have e1 : takeE ⟨s, true, l, false⟩ x.ms = 0 := by simp [takeE, mo, ht]
        have e4 : (takeL ⟨s, true, l, false⟩ x.ms).map bare = if without l x.o = 0 then [bare endM] else [] := by
          have e2 : takeL ⟨s, true, l, false⟩ x.ms = if without l x.o = 0 then [endM] else [] := by simp [takeL, e1, m7, mo, hh]
          rw [e2]
          split <;> rfl
        have e3 : takeS ⟨s, true, l, false⟩ x.ms = ⟨toldS s x.o, true, without l x.o, if without l x.o = 0 then true else false⟩ := by
          simp [takeS, m7, mo, hh, ht]
        obtain rfl : 0 = E := e1.symm.trans hE.out
        replace hT : Hid ((if without l x.o = 0 then [bare endM] else []) = T) := e4.symm.trans hT.out
        replace hR : Hid (⟨toldS s x.o, true, without l x.o, if without l x.o = 0 then true else false⟩ = R) := e3.symm.trans hR.out
        rw [ht] at q3
        clear e1 e4 e3 hE hhit h7 hh m7 mo mk
        go_region_held3 (fun W => W.cell? ⟨oo, 0, none⟩ = some (.pointer (some ⟨r, 0, none⟩)) ∧ W.cell? ⟨w.heap.size, 2, none⟩ = some (.int .i64 x.o)) (exact ⟨d0, a2⟩) (first
          | (go_at_call 49; refine q3.mono ?_; rintro v w3 ⟨rfl, hD, hk3⟩; have h3 := hd.turned hD hk3; have hX3 := hXd.kept hk3 (by simp; omega); replace d0 := h3.four.1; replace a2 := hX3.six.2.2.1))
        have h3d := h3.kept0 (kept_drew [] w3)
        have hX3d := hX3.kept (kept_drew [] w3) (by simp)
        replace d0 := h3d.four.2.2.1
        replace a2 := hX3d.six.2.2.1
        obtain ⟨m4, hp4⟩ := h3d.plan
        have q4 := Plan.rhave_any x.o w3.drew hp4
        have hkz := ((hkd.mono (by simp)).trans hk3).trans (kept_drew [r, g] w3)
        go_upto_region 6 with fail
        go_region_held3 (fun W => W.cell? ⟨oo, 2, none⟩ = some (.pointer (some ⟨pp, 0, none⟩)) ∧ W.cell? ⟨w.heap.size, 2, none⟩ = some (.int .i64 x.o)) (exact ⟨d0, a2⟩) (first
          | (go_at_call 50; refine q4.mono ?_; rintro v w5 ⟨rfl, hp5, hk5⟩; have h5 := h3d.struck hp5 hk5; have hX5 := hX3d.kept hk5 (by simp; omega); replace d0 := h5.four.2.2.1; replace a2 := hX5.six.2.2.1))
        have hk6 : Kept [oo, pp, r, g] w w5 := (hkz.mono (by simp)).trans (hk5.mono (by simp))
        have p1 := h5.four.2.2.2.2
        simp only at p1
        have c3 := h5.four.2.2.2.1
        have hf := h5.box.frozen 3
        clear q3 q4 hD hp5
        by_cases hz0 : without l x.o = 0
        · have hT1 : [bare endM] = T := (if_pos hz0).symm.trans hT.out
          have hR1 : ⟨toldS s x.o, true, without l x.o, true⟩ = R := by
            have := hR.out
            rw [if_pos hz0] at this
            exact this
          have hz9 : (((without l x.o : Nat) : Int) == 0) = true := by simp [hz0]
          subst hT1 hR1
          clear hT hR
          go_wp2_with fail
          go_ret2
          have hz : (w5.setCell ⟨oo, 3, none⟩ (.bool true)).heap.size = w5.heap.size := by simp
          have hr := row_end (w5.setCell ⟨oo, 3, none⟩ (.bool true))
          rw [hz] at hr
          have hkx := kept_alloc [] (w5.setCell ⟨oo, 3, none⟩ (.bool true)) (.cells #[.int .i64 8, .int .i64 0, .int .i64 0, .int .u64 0, .bool false, .slice none 0 0] 26)
          have h5e := h5.ended.kept0 hkx
          rw [hz0] at h5e
          exact ⟨_, _, _, rfl, hr.low hk6.size, h5e, (hk6.trans (kept_set (by simp) _ _ _)).trans (hkx.mono (by simp))⟩
        · have hT1 : [] = T := (if_neg hz0).symm.trans hT.out
          have hR1 : ⟨toldS s x.o, true, without l x.o, false⟩ = R := by
            have := hR.out
            rw [if_neg hz0] at this
            exact this
          have hz9 : (((without l x.o : Nat) : Int) == 0) = false := by simpa using hz0
          subst hT1 hR1
          clear hT hR
          go_wp2_with fail
          go_ret2
          exact ⟨_, _, _, rfl, MRow.nil _ _, h5, hk6⟩
      · have e1 : takeE ⟨s, true, l, false⟩ x.ms = toldE s x.o := by simp [takeE, m7, mo, hh]
        have e2 : takeL ⟨s, true, l, false⟩ x.ms = [] := by simp [takeL, e1, ht]
        have e3 : takeS ⟨s, true, l, false⟩ x.ms = ⟨toldS s x.o, true, l, false⟩ := by simp [takeS, m7, mo, hh, ht]
        obtain rfl : toldE s x.o = E := e1.symm.trans hE.out
        obtain rfl : [] = T := by
          have := hT.out
          rw [e2] at this
          exact this
        obtain rfl : ⟨toldS s x.o, true, l, false⟩ = R := e3.symm.trans hR.out
        have ne0 : ((toldE s x.o : Int) != 0) = true := by simp; omega
        clear e1 e2 e3 hE hT hR hhit h7 hh m7 mo mk
        go_region_held3 (fun W => W.cell? ⟨oo, 0, none⟩ = some (.pointer (some ⟨r, 0, none⟩)) ∧ W.cell? ⟨w.heap.size, 2, none⟩ = some (.int .i64 x.o)) (exact ⟨d0, a2⟩) (first
          | (go_at_call 49; refine q3.mono ?_; rintro v w3 ⟨rfl, hD, hk3⟩; have h3 := hd.turned hD hk3; have hX3 := hXd.kept hk3 (by simp; omega); replace d0 := h3.four.1; replace a2 := hX3.six.2.2.1))
        go_wp2_with fail
        go_ret2
        exact ⟨_, _, _, rfl, MRow.nil _ _, h3, (hkd.mono (by simp)).trans (hk3.mono (by simp))⟩
set_option maxRecDepth 100000 in
set_option maxHeartbeats 4000000 in
theorem rtake_tgt (oo pp r g cap : Nat) (s : Dk) (l : Nat) (x : Mv) (lo hi : Nat) (hops : s.ops ≤ 900000) (w : World) (h : RrAt w oo pp r g cap ⟨s, false, l, false⟩) (hx : x.At lo hi w) (hhi : hi ≤ w.heap.size) (hlen : x.len ≤ 9223372036854775807) (hap : ∀ k ∈ [r, g], k < lo ∨ hi ≤ k) :
    Calls Tryz.prog 14 #[.pointer (some ⟨oo, 0, none⟩), x.val] w fun v w' => ∃ sa n cap', v = .returned (.tuple #[.slice sa n cap', .int .i64 (takeE ⟨s, false, l, false⟩ x.ms : Nat)]) ∧ MRow w.heap.size w' (.slice sa n cap') ((takeL ⟨s, false, l, false⟩ x.ms).map bare) ∧ RrAt w' oo pp r g cap (takeS ⟨s, false, l, false⟩ x.ms) ∧ Kept [oo, pp, r, g] w w' := by
  obtain ⟨W0, hW0, hX, hk0, hz⟩ := boxed w x
  have h0 := h.kept0 hk0
  have hlt := h.lt
  have ne := h.ne
  obtain ⟨E, hE⟩ : ∃ E, Hid (takeE ⟨s, false, l, false⟩ x.ms = E) := ⟨_, rfl⟩
  obtain ⟨T, hT⟩ : ∃ T, Hid ((takeL ⟨s, false, l, false⟩ x.ms).map bare = T) := ⟨_, rfl⟩
  obtain ⟨R, hR⟩ : ∃ R, Hid (takeS ⟨s, false, l, false⟩ x.ms = R) := ⟨_, rfl⟩
  rw [hE.out, hT.out, hR.out]
  have rS : ∀ W, Kept [] W0 W → RrAt W oo pp r g cap ⟨s, false, l, false⟩ := fun W hk => h0.kept0 hk
  have xS : ∀ W, Kept [] W0 W → x.In W w.heap.size := fun W hk => hX.kept hk (by simp)
  have c3 := h0.four.2.2.2.1
  have mo : x.ms.o = x.o := rfl
  have mk : x.ms.k = x.k := rfl
  unfold Mv.val at *
  go_enter Tryz.func14, Tryz.ntmps14
  go_upto_region 2 with fail
  go_cut [15] from 16 (fun v W => v = .bool false ∧ Kept [] W0 W)
  case first =>
    refine wp_region_held_drew (S := fun W => Kept [] W0 W) (by kernel_rfl) (kept_drew [] W0) (fun hP => ?_)
    have hH := hP
    clear hP
    refine wpAnyH_take (i := 0) (oi := { dst := some 16, op := Op.move (Operand.tmp 0), type := 41, pos := "ref.go:61", after := #[], guard := none }) (v := (.pointer (some ⟨oo, 0, none⟩))) rfl (by kernel_rfl) (by kernel_rfl) (by kernel_rfl) (fun _ _ _ h => h) (Or.inl ⟨by rfl, fun W hSw => by go_simp⟩) hH ?_
    try simp only [Act.put, List.setIfInBounds_toArray, List.set_cons_zero, List.set_cons_succ]
    refine wpAnyH_take (i := 1) (oi := { dst := some 17, op := Op.nilCheck (Operand.tmp 16), type := 0, pos := "ref.go:61", after := #[{ on := 0, ground := Ground.data }], guard := none }) (v := (.pointer (some ⟨oo, 0, none⟩))) rfl (by kernel_rfl) (by kernel_rfl) (by kernel_rfl) (fun _ _ _ h => h) (Or.inl ⟨by rfl, fun W hSw => by go_simp⟩) hH ?_
    try simp only [Act.put, List.setIfInBounds_toArray, List.set_cons_zero, List.set_cons_succ]
    refine wpAnyH_take (i := 2) (oi := { dst := some 18, op := Op.fieldAddr 55 (Operand.tmp 17) 1, type := 0, pos := "ref.go:61", after := #[{ on := 1, ground := Ground.data }], guard := none }) (v := (.pointer (some ⟨oo, 1, none⟩))) rfl (by kernel_rfl) (by kernel_rfl) (by kernel_rfl) (fun _ _ _ h => h) (Or.inl ⟨by rfl, fun W hSw => by go_simp⟩) hH ?_
    try simp only [Act.put, List.setIfInBounds_toArray, List.set_cons_zero, List.set_cons_succ]
    refine wpAnyH_take (i := 3) (oi := { dst := some 19, op := Op.load 4 (Operand.tmp 18), type := 4, pos := "ref.go:61", after := #[{ on := 2, ground := Ground.data }], guard := none }) (v := (.bool false)) rfl (by kernel_rfl) (by kernel_rfl) (by kernel_rfl) (fun _ _ _ h => h) (Or.inl ⟨by rfl, fun W hSw => by have c := (rS W hSw).four.2.1; go_simp⟩) hH ?_
    try simp only [Act.put, List.setIfInBounds_toArray, List.set_cons_zero, List.set_cons_succ]
    refine wpAnyH_take (i := 4) (oi := { dst := some 20, op := Op.move (Operand.tmp 19), type := 4, pos := "ref.go:61", after := #[{ on := 3, ground := Ground.data }], guard := none }) (v := (.bool false)) rfl (by kernel_rfl) (by kernel_rfl) (by kernel_rfl) (fun _ _ _ h => h) (Or.inl ⟨by rfl, fun W hSw => by go_simp⟩) hH ?_
    try simp only [Act.put, List.setIfInBounds_toArray, List.set_cons_zero, List.set_cons_succ]
    refine wpAnyH_take (i := 5) (oi := { dst := some 21, op := Op.fieldAddr 26 (Operand.tmp 3) 0, type := 0, pos := "ref.go:61", after := #[{ on := 4, ground := Ground.guard }], guard := some (4, true) }) (v := undef) rfl (by kernel_rfl) (by kernel_rfl) (by kernel_rfl) (fun _ _ _ h => h) (Or.inr ⟨by rfl, rfl⟩) hH ?_
    try simp only [Act.put, List.setIfInBounds_toArray, List.set_cons_zero, List.set_cons_succ]
    refine wpAnyH_take (i := 6) (oi := { dst := some 22, op := Op.load 3 (Operand.tmp 21), type := 3, pos := "ref.go:61", after := #[{ on := 5, ground := Ground.data }, { on := 4, ground := Ground.guard }], guard := some (4, true) }) (v := undef) rfl (by kernel_rfl) (by kernel_rfl) (by kernel_rfl) (fun _ _ _ h => h) (Or.inr ⟨by rfl, rfl⟩) hH ?_
    try simp only [Act.put, List.setIfInBounds_toArray, List.set_cons_zero, List.set_cons_succ]
    refine wpAnyH_take (i := 7) (oi := { dst := some 23, op := Op.binOp BinOp.eql 3 (Operand.tmp 22) (Operand.const (Value.int IntKind.i64 7)) 3, type := 4, pos := "ref.go:61", after := #[{ on := 6, ground := Ground.data }, { on := 4, ground := Ground.guard }], guard := some (4, true) }) (v := undef) rfl (by kernel_rfl) (by kernel_rfl) (by kernel_rfl) (fun _ _ _ h => h) (Or.inr ⟨by rfl, rfl⟩) hH ?_
    try simp only [Act.put, List.setIfInBounds_toArray, List.set_cons_zero, List.set_cons_succ]
    refine wpAnyH_take (i := 8) (oi := { dst := some 24, op := Op.pick (Operand.tmp 20) (Operand.tmp 23) (Operand.const (Value.bool false)), type := 4, pos := "ref.go:61", after := #[{ on := 4, ground := Ground.data }, { on := 7, ground := Ground.data }], guard := none }) (v := (.bool false)) rfl (by kernel_rfl) (by kernel_rfl) (by kernel_rfl) (fun _ _ _ h => h) (Or.inl ⟨by rfl, fun W hSw => by go_simp⟩) hH ?_
    try simp only [Act.put, List.setIfInBounds_toArray, List.set_cons_zero, List.set_cons_succ]
    refine wpAnyH_take (i := 9) (oi := { dst := some 25, op := Op.move (Operand.tmp 24), type := 4, pos := "ref.go:61", after := #[{ on := 8, ground := Ground.data }, { on := 4, ground := Ground.chain }], guard := none }) (v := (.bool false)) rfl (by kernel_rfl) (by kernel_rfl) (by kernel_rfl) (fun _ _ _ h => h) (Or.inl ⟨by rfl, fun W hSw => by go_simp⟩) hH ?_
    try simp only [Act.put, List.setIfInBounds_toArray, List.set_cons_zero, List.set_cons_succ]
    refine wpAnyH_take (i := 10) (oi := { dst := some 26, op := Op.move (Operand.tmp 0), type := 41, pos := "ref.go:61", after := #[{ on := 9, ground := Ground.guard }], guard := some (9, true) }) (v := undef) rfl (by kernel_rfl) (by kernel_rfl) (by kernel_rfl) (fun _ _ _ h => h) (Or.inr ⟨by rfl, rfl⟩) hH ?_
    try simp only [Act.put, List.setIfInBounds_toArray, List.set_cons_zero, List.set_cons_succ]
    refine wpAnyH_take (i := 11) (oi := { dst := some 27, op := Op.nilCheck (Operand.tmp 26), type := 0, pos := "ref.go:61", after := #[{ on := 10, ground := Ground.data }, { on := 9, ground := Ground.guard }], guard := some (9, true) }) (v := undef) rfl (by kernel_rfl) (by kernel_rfl) (by kernel_rfl) (fun _ _ _ h => h) (Or.inr ⟨by rfl, rfl⟩) hH ?_
    try simp only [Act.put, List.setIfInBounds_toArray, List.set_cons_zero, List.set_cons_succ]
    refine wpAnyH_take (i := 12) (oi := { dst := some 28, op := Op.fieldAddr 55 (Operand.tmp 27) 2, type := 0, pos := "ref.go:61", after := #[{ on := 11, ground := Ground.data }, { on := 9, ground := Ground.guard }], guard := some (9, true) }) (v := undef) rfl (by kernel_rfl) (by kernel_rfl) (by kernel_rfl) (fun _ _ _ h => h) (Or.inr ⟨by rfl, rfl⟩) hH ?_
    try simp only [Act.put, List.setIfInBounds_toArray, List.set_cons_zero, List.set_cons_succ]
    refine wpAnyH_take (i := 13) (oi := { dst := some 29, op := Op.load 53 (Operand.tmp 28), type := 53, pos := "ref.go:61", after := #[{ on := 12, ground := Ground.data }, { on := 9, ground := Ground.guard }], guard := some (9, true) }) (v := undef) rfl (by kernel_rfl) (by kernel_rfl) (by kernel_rfl) (fun _ _ _ h => h) (Or.inr ⟨by rfl, rfl⟩) hH ?_
    try simp only [Act.put, List.setIfInBounds_toArray, List.set_cons_zero, List.set_cons_succ]
    refine wpAnyH_take (i := 14) (oi := { dst := some 30, op := Op.nilCheck (Operand.tmp 29), type := 0, pos := "ref.go:61", after := #[{ on := 13, ground := Ground.data }, { on := 9, ground := Ground.guard }], guard := some (9, true) }) (v := undef) rfl (by kernel_rfl) (by kernel_rfl) (by kernel_rfl) (fun _ _ _ h => h) (Or.inr ⟨by rfl, rfl⟩) hH ?_
    try simp only [Act.put, List.setIfInBounds_toArray, List.set_cons_zero, List.set_cons_succ]
    refine wpAnyH_take (i := 15) (oi := { dst := some 31, op := Op.fieldAddr 58 (Operand.tmp 30) 1, type := 0, pos := "ref.go:61", after := #[{ on := 14, ground := Ground.data }, { on := 9, ground := Ground.guard }], guard := some (9, true) }) (v := undef) rfl (by kernel_rfl) (by kernel_rfl) (by kernel_rfl) (fun _ _ _ h => h) (Or.inr ⟨by rfl, rfl⟩) hH ?_
    try simp only [Act.put, List.setIfInBounds_toArray, List.set_cons_zero, List.set_cons_succ]
    refine wpAnyH_take (i := 16) (oi := { dst := some 32, op := Op.load 23 (Operand.tmp 31), type := 23, pos := "ref.go:61", after := #[{ on := 15, ground := Ground.data }, { on := 9, ground := Ground.guard }], guard := some (9, true) }) (v := undef) rfl (by kernel_rfl) (by kernel_rfl) (by kernel_rfl) (fun _ _ _ h => h) (Or.inr ⟨by rfl, rfl⟩) hH ?_
    try simp only [Act.put, List.setIfInBounds_toArray, List.set_cons_zero, List.set_cons_succ]
    refine wpAnyH_take (i := 17) (oi := { dst := some 33, op := Op.fieldAddr 26 (Operand.tmp 3) 2, type := 0, pos := "ref.go:61", after := #[{ on := 9, ground := Ground.guard }], guard := some (9, true) }) (v := undef) rfl (by kernel_rfl) (by kernel_rfl) (by kernel_rfl) (fun _ _ _ h => h) (Or.inr ⟨by rfl, rfl⟩) hH ?_
    try simp only [Act.put, List.setIfInBounds_toArray, List.set_cons_zero, List.set_cons_succ]
    refine wpAnyH_take (i := 18) (oi := { dst := some 34, op := Op.load 3 (Operand.tmp 33), type := 3, pos := "ref.go:61", after := #[{ on := 17, ground := Ground.data }, { on := 9, ground := Ground.guard }], guard := some (9, true) }) (v := undef) rfl (by kernel_rfl) (by kernel_rfl) (by kernel_rfl) (fun _ _ _ h => h) (Or.inr ⟨by rfl, rfl⟩) hH ?_
    try simp only [Act.put, List.setIfInBounds_toArray, List.set_cons_zero, List.set_cons_succ]
    refine wpAnyH_take (i := 19) (oi := { dst := some 35, op := Op.call { callee := Callee.value (Operand.func 48), args := #[Operand.tmp 32, Operand.tmp 34], argTypes := #[23, 3] }, type := 4, pos := "ref.go:61", after := #[{ on := 16, ground := Ground.data }, { on := 18, ground := Ground.data }, { on := 9, ground := Ground.chain }, { on := 9, ground := Ground.guard }], guard := some (9, true) }) (v := undef) rfl (by kernel_rfl) (by kernel_rfl) (by kernel_rfl) (fun _ _ _ h => h) (Or.inr ⟨by rfl, rfl⟩) hH ?_
    try simp only [Act.put, List.setIfInBounds_toArray, List.set_cons_zero, List.set_cons_succ]
    refine wpAnyH_take (i := 20) (oi := { dst := some 36, op := Op.pick (Operand.tmp 25) (Operand.tmp 35) (Operand.const (Value.bool false)), type := 4, pos := "ref.go:61", after := #[{ on := 9, ground := Ground.data }, { on := 19, ground := Ground.data }], guard := none }) (v := (.bool false)) rfl (by kernel_rfl) (by kernel_rfl) (by kernel_rfl) (fun _ _ _ h => h) (Or.inl ⟨by rfl, fun W hSw => by go_simp⟩) hH ?_
    try simp only [Act.put, List.setIfInBounds_toArray, List.set_cons_zero, List.set_cons_succ]
    refine wpAnyH_take (i := 21) (oi := { dst := some 15, op := Op.assign (Operand.tmp 36), type := 4, pos := "ref.go:61", after := #[{ on := 20, ground := Ground.data }, { on := 19, ground := Ground.chain }], guard := none }) (v := (.bool false)) rfl (by kernel_rfl) (by kernel_rfl) (by kernel_rfl) (fun _ _ _ h => h) (Or.inl ⟨by rfl, fun W hSw => by go_simp⟩) hH ?_
    try simp only [Act.put, List.setIfInBounds_toArray, List.set_cons_zero, List.set_cons_succ]
    refine wpAnyH_done (by kernel_rfl) ?_ _
    go_wp2_with fail
    go_meet
    case rel => exact ⟨rfl, hH⟩
  case rest =>
    obtain ⟨wo, rfl⟩ : ∃ wo, wo = wc := ⟨_, rfl⟩
    obtain ⟨rfl, hkc⟩ := hcut
    have hc := rS _ hkc
    have hXc := xS _ hkc
    clear rS xS c3
    have c1 := hc.four.2.1
    simp only at c1
    have k0 := hXc.six.1
    have hl0 := h0.lt
    by_cases h6 : x.k = 6
    · have z6 : (x.k == 6) = true := by simpa using h6
      have m6 : x.ms.k = 6 := h6
      have hap2 : ∀ k ∈ [r, g], k < lo ∨ hi ≤ k := hap
      have qp := fun W (hk : Kept [] wo W) => rPut_any r g cap s x lo hi W (hc.kept0 hk).disk hops (hx.kept hhi ((hk0.trans hkc).trans hk) (by simp)) (Nat.le_trans hhi ((hk0.trans hkc).trans hk).size) hlen hap (hc.kept0 hk).lt.2.2.1 (hc.kept0 hk).lt.2.2.2
      have tn := fun A B (hk : Kept [] wo A) (hd : RefAt B r g cap (extS s x.ms)) (hk2 : Kept [r, g] A B) => (hc.kept0 hk).turned hd hk2
      have cS : ∀ W, Kept [r, g] wo W → W.cell? ⟨oo, 0, none⟩ = some (.pointer (some ⟨r, 0, none⟩)) := fun W hk => ((hc.box.kept hk (by simp; omega)).cell 0).trans rfl
      have xS : ∀ W, Kept [r, g] wo W → x.In W w.heap.size := fun W hk => hXc.kept hk (by simp; omega)
      have hkd : Kept [] wo wo.drew := kept_drew [] wo
      have hkf : Kept [] wo (wo.drew.alloc (.cells #[.int .i64 0, .int .i64 0, .int .i64 0, .int .u64 0, .bool false, .slice none 0 0] 26)) := (kept_drew [] wo).trans (kept_alloc [] _ _)
      have hze := zero_new wo.drew
      have hlc := hc.lt
      have hzn : wo.drew.heap.size ∉ [r, g] := by
        show wo.heap.size ∉ _
        simp
        omega
      have ekk : x.k = 6 := h6
      clear hap hap2 hx hhi hlen hops h6
      by_cases ht : extE s x.ms = 0
      · have e1 : takeE ⟨s, false, l, false⟩ x.ms = 0 := by simp [takeE, ht]
        have e2 : (takeL ⟨s, false, l, false⟩ x.ms).map bare = [bare (haveM x.o)] := by simp [takeL, e1, m6, mo]
        have e3 : takeS ⟨s, false, l, false⟩ x.ms = ⟨extS s x.ms, false, without l x.o, false⟩ := by simp [takeS, m6, mo, ht]
        obtain rfl : 0 = E := e1.symm.trans hE.out
        obtain rfl : [bare (haveM x.o)] = T := e2.symm.trans hT.out
        obtain rfl : ⟨extS s x.ms, false, without l x.o, false⟩ = R := e3.symm.trans hR.out
        rw [ht, ext_told ht] at qp
        change ∀ (W : World), Kept [] wo W → Calls Tryz.prog 51 #[.pointer (some ⟨r, 0, none⟩), .agg #[.int .i64 x.k, .int .i64 x.i, .int .i64 x.o, .int .u64 (x.m : Int), .bool x.s, .slice x.sa x.len x.cap]] W (fun v w' => v = .returned (.tuple #[.agg #[.int .i64 7, .int .i64 0, .int .i64 x.o, .int .u64 0, .bool false, .slice none 0 0], .int .i64 0]) ∧ RefAt w' r g cap (extS s x.ms) ∧ Kept [r, g] W w') at qp
        clear e1 e2 e3 hE hT hR m6 mo mk ekk ht
        go_upto_region 11 with fail
        go_cut [8, 9] from 10 (fun s8 s9 W => ∃ bm, s8 = .pointer (some ⟨bm, 0, none⟩) ∧ s9 = .int .i64 0 ∧ wo.heap.size ≤ bm ∧ Blk W bm 26 #[.int .i64 7, .int .i64 0, .int .i64 x.o, .int .u64 0, .bool false, .slice none 0 0] ∧ x.In W w.heap.size ∧ RrAt W oo pp r g cap ⟨extS s x.ms, false, l, false⟩ ∧ Kept [r, g] wo W)
        case first =>
          refine wp_region_held_drew (S := fun A => Kept [r, g] wo A) (by kernel_rfl) (kept_drew [r, g] wo) (fun hP => ?_)
          have hH := hP
          clear hP
          refine wpAnyH_take (i := 0) (oi := { dst := some 82, op := Op.move (Operand.tmp 0), type := 41, pos := "ref.go:71", after := #[], guard := none }) (v := (.pointer (some ⟨oo, 0, none⟩))) rfl (by kernel_rfl) (by kernel_rfl) (by kernel_rfl) (fun _ _ _ h => h) (Or.inl ⟨by rfl, fun W hSw => by go_simp⟩) hH ?_
          try simp only [Act.put, List.setIfInBounds_toArray, List.set_cons_zero, List.set_cons_succ]
          refine wpAnyH_take (i := 1) (oi := { dst := some 83, op := Op.nilCheck (Operand.tmp 82), type := 0, pos := "ref.go:71", after := #[{ on := 0, ground := Ground.data }], guard := none }) (v := (.pointer (some ⟨oo, 0, none⟩))) rfl (by kernel_rfl) (by kernel_rfl) (by kernel_rfl) (fun _ _ _ h => h) (Or.inl ⟨by rfl, fun W hSw => by go_simp⟩) hH ?_
          try simp only [Act.put, List.setIfInBounds_toArray, List.set_cons_zero, List.set_cons_succ]
          refine wpAnyH_take (i := 2) (oi := { dst := some 84, op := Op.fieldAddr 55 (Operand.tmp 83) 0, type := 0, pos := "ref.go:71", after := #[{ on := 1, ground := Ground.data }], guard := none }) (v := (.pointer (some ⟨oo, 0, none⟩))) rfl (by kernel_rfl) (by kernel_rfl) (by kernel_rfl) (fun _ _ _ h => h) (Or.inl ⟨by rfl, fun W hSw => by go_simp⟩) hH ?_
          try simp only [Act.put, List.setIfInBounds_toArray, List.set_cons_zero, List.set_cons_succ]
          refine wpAnyH_take (i := 3) (oi := { dst := some 85, op := Op.load 34 (Operand.tmp 84), type := 34, pos := "ref.go:71", after := #[{ on := 2, ground := Ground.data }], guard := none }) (v := (.pointer (some ⟨r, 0, none⟩))) rfl (by kernel_rfl) (by kernel_rfl) (by kernel_rfl) (fun _ _ _ h => h) (Or.inl ⟨by rfl, fun W hSw => by have c := cS W hSw; go_simp⟩) hH ?_
          try simp only [Act.put, List.setIfInBounds_toArray, List.set_cons_zero, List.set_cons_succ]
          refine wpAnyH_take (i := 4) (oi := { dst := some 86, op := Op.load 26 (Operand.tmp 3), type := 26, pos := "ref.go:71", after := #[], guard := none }) (v := (.agg #[.int .i64 x.k, .int .i64 x.i, .int .i64 x.o, .int .u64 (x.m : Int), .bool x.s, .slice x.sa x.len x.cap])) rfl (by kernel_rfl) (by kernel_rfl) (by kernel_rfl) (fun _ _ _ h => h) (Or.inl ⟨by rfl, fun W hSw => by obtain ⟨a0, a1, a2, a3, a4, a5⟩ := (xS W hSw).six; go_simp⟩) hH ?_
          try simp only [Act.put, List.setIfInBounds_toArray, List.set_cons_zero, List.set_cons_succ]
          refine wpAnyH_ready (rs := [5, 9]) (by kernel_rfl) (by simp) ?_
          refine AllReadyH.cons (o := { dst := some 87, op := Op.call { callee := Callee.value (Operand.func 51), args := #[Operand.tmp 85, Operand.tmp 86], argTypes := #[34, 26] }, type := 107, pos := "ref.go:71", after := #[{ on := 3, ground := Ground.data }, { on := 4, ground := Ground.data }], guard := none }) rfl (fun KK hKK => ?_) (AllReadyH.cons (o := { dst := some 8, op := Op.alloc 26, type := 0, pos := "ref.go:71", after := #[], guard := none }) rfl (fun KK hKK => ?_) AllReadyH.nil)
          · go_simp
            refine (qp _ hkd).mono ?_
            rintro v w1 ⟨rfl, hD, hk2⟩
            go_wp2_with fail
            have hH1 := (hkd.mono (by simp)).trans hk2
            refine hKK.out _ _ hH1 (fun _ => ?_)
            replace hH := hH1
            clear hKK KK hH1
            try simp only [Act.put, List.setIfInBounds_toArray, List.set_cons_zero, List.set_cons_succ]
            refine wpAnyH_take (i := 6) (oi := { dst := some 81, op := Op.move (Operand.tmp 87), type := 107, pos := "ref.go:71", after := #[{ on := 5, ground := Ground.data }], guard := none }) (v := (.tuple #[.agg #[.int .i64 7, .int .i64 0, .int .i64 x.o, .int .u64 0, .bool false, .slice none 0 0], .int .i64 0])) rfl (by kernel_rfl) (by kernel_rfl) (by kernel_rfl) (fun _ _ _ h => h) (Or.inl ⟨by rfl, fun W hSw => by go_simp⟩) hH ?_
            try simp only [Act.put, List.setIfInBounds_toArray, List.set_cons_zero, List.set_cons_succ]
            refine wpAnyH_take (i := 7) (oi := { dst := some 88, op := Op.extract (Operand.tmp 81) 0, type := 26, pos := "ref.go:71", after := #[{ on := 6, ground := Ground.data }], guard := none }) (v := (.agg #[.int .i64 7, .int .i64 0, .int .i64 x.o, .int .u64 0, .bool false, .slice none 0 0])) rfl (by kernel_rfl) (by kernel_rfl) (by kernel_rfl) (fun _ _ _ h => h) (Or.inl ⟨by rfl, fun W hSw => by go_simp⟩) hH ?_
            try simp only [Act.put, List.setIfInBounds_toArray, List.set_cons_zero, List.set_cons_succ]
            refine wpAnyH_take (i := 8) (oi := { dst := some 89, op := Op.extract (Operand.tmp 81) 1, type := 3, pos := "ref.go:71", after := #[{ on := 6, ground := Ground.data }, { on := 10, ground := Ground.gcOnly Departure.lateStores }], guard := none }) (v := (.int .i64 0)) rfl (by kernel_rfl) (by kernel_rfl) (by kernel_rfl) (fun _ _ _ h => h) (Or.inl ⟨by rfl, fun W hSw => by go_simp⟩) hH ?_
            try simp only [Act.put, List.setIfInBounds_toArray, List.set_cons_zero, List.set_cons_succ]
            refine wpAnyH_ready (rs := [9]) (by kernel_rfl) (by simp) ?_
            refine AllReadyH.cons (o := { dst := some 8, op := Op.alloc 26, type := 0, pos := "ref.go:71", after := #[], guard := none }) rfl (fun KK hKK => ?_) AllReadyH.nil
            go_simp
            have hH1 := hH.trans (kept_alloc [r, g] _ (.cells #[.int .i64 0, .int .i64 0, .int .i64 0, .int .u64 0, .bool false, .slice none 0 0] 26))
            refine hKK.out _ _ hH1 (fun _ => ?_)
            replace hH := hH1
            clear hKK KK hH1
            try simp only [Act.put, List.setIfInBounds_toArray, List.set_cons_zero, List.set_cons_succ]
            have hb := zero_new w1
            have hge : wo.heap.size ≤ w1.heap.size := Nat.le_trans hkd.size hk2.size
            have h3 := (tn _ _ hkd hD hk2).kept0 (kept_alloc [] w1 (.cells #[.int .i64 0, .int .i64 0, .int .i64 0, .int .u64 0, .bool false, .slice none 0 0] 26))
            have hl3 := (tn _ _ hkd hD hk2).lt
            refine wpAnyH_ready (rs := [10]) (by kernel_rfl) (by simp) ?_
            refine AllReadyH.cons (o := { dst := none, op := Op.store 26 (Operand.tmp 8) (Operand.tmp 88), type := 0, pos := "ref.go:71", after := #[{ on := 9, ground := Ground.data }, { on := 7, ground := Ground.data }, { on := 5, ground := Ground.chain }, { on := 0, ground := Ground.phase }, { on := 1, ground := Ground.phase }, { on := 2, ground := Ground.phase }, { on := 3, ground := Ground.phase }, { on := 4, ground := Ground.phase }, { on := 5, ground := Ground.phase }, { on := 6, ground := Ground.phase }, { on := 7, ground := Ground.phase }, { on := 8, ground := Ground.textOnly Departure.lateStores }, { on := 9, ground := Ground.phase }], guard := none }) rfl (fun KK hKK => ?_) AllReadyH.nil
            refine step_store_blk rfl 26 (.tmp 8) (.tmp 88) rfl (w1.heap.size) 26 _ [.int .i64 7, .int .i64 0, .int .i64 x.o, .int .u64 0, .bool false, .slice none 0 0] (by simp [Act.eval]) (by simp [Act.eval]) hb rfl Pack.Tryz.sizeM (by simp [Value.oneCell']) ?_
            intro w5 hb5 hk5
            have hH1 := hH.young (g := w1.heap.size) (hk5.mono (by simp)) hge
            refine hKK.out _ _ hH1 (fun _ => ?_)
            replace hH := hH1
            clear hKK KK hH1
            refine wpAnyH_take (i := 11) (oi := { dst := some 9, op := Op.assign (Operand.tmp 89), type := 3, pos := "ref.go:71", after := #[{ on := 8, ground := Ground.data }, { on := 10, ground := Ground.chain }, { on := 0, ground := Ground.phase }, { on := 1, ground := Ground.phase }, { on := 2, ground := Ground.phase }, { on := 3, ground := Ground.phase }, { on := 4, ground := Ground.phase }, { on := 5, ground := Ground.phase }, { on := 6, ground := Ground.phase }, { on := 7, ground := Ground.phase }, { on := 8, ground := Ground.phase }, { on := 9, ground := Ground.phase }, { on := 10, ground := Ground.phase }], guard := none }) (v := (.int .i64 0)) rfl (by kernel_rfl) (by kernel_rfl) (by kernel_rfl) (fun _ _ _ h => h) (Or.inl ⟨by rfl, fun W hSw => by go_simp⟩) hH ?_
            refine wpAnyH_done (by kernel_rfl) ?_ _
            go_wp2_with fail
            go_meet
            case rel => exact ⟨w1.heap.size, rfl, rfl, hge, hb5, xS _ hH, h3.kept hk5 (by have := hl3; simp; omega), hH⟩
          · go_simp
            have hH1 := hH.trans (kept_alloc [r, g] _ (.cells #[.int .i64 0, .int .i64 0, .int .i64 0, .int .u64 0, .bool false, .slice none 0 0] 26))
            refine hKK.out _ _ hH1 (fun _ => ?_)
            replace hH := hH1
            clear hKK KK hH1
            try simp only [Act.put, List.setIfInBounds_toArray, List.set_cons_zero, List.set_cons_succ]
            refine wpAnyH_ready (rs := [5]) (by kernel_rfl) (by simp) ?_
            refine AllReadyH.cons (o := { dst := some 87, op := Op.call { callee := Callee.value (Operand.func 51), args := #[Operand.tmp 85, Operand.tmp 86], argTypes := #[34, 26] }, type := 107, pos := "ref.go:71", after := #[{ on := 3, ground := Ground.data }, { on := 4, ground := Ground.data }], guard := none }) rfl (fun KK hKK => ?_) AllReadyH.nil
            go_simp
            refine (qp _ hkf).mono ?_
            rintro v w1 ⟨rfl, hD, hk2⟩
            go_wp2_with fail
            have hH1 := (hkf.mono (by simp)).trans hk2
            refine hKK.out _ _ hH1 (fun _ => ?_)
            replace hH := hH1
            clear hKK KK hH1
            try simp only [Act.put, List.setIfInBounds_toArray, List.set_cons_zero, List.set_cons_succ]
            refine wpAnyH_take (i := 6) (oi := { dst := some 81, op := Op.move (Operand.tmp 87), type := 107, pos := "ref.go:71", after := #[{ on := 5, ground := Ground.data }], guard := none }) (v := (.tuple #[.agg #[.int .i64 7, .int .i64 0, .int .i64 x.o, .int .u64 0, .bool false, .slice none 0 0], .int .i64 0])) rfl (by kernel_rfl) (by kernel_rfl) (by kernel_rfl) (fun _ _ _ h => h) (Or.inl ⟨by rfl, fun W hSw => by go_simp⟩) hH ?_
            try simp only [Act.put, List.setIfInBounds_toArray, List.set_cons_zero, List.set_cons_succ]
            refine wpAnyH_take (i := 7) (oi := { dst := some 88, op := Op.extract (Operand.tmp 81) 0, type := 26, pos := "ref.go:71", after := #[{ on := 6, ground := Ground.data }], guard := none }) (v := (.agg #[.int .i64 7, .int .i64 0, .int .i64 x.o, .int .u64 0, .bool false, .slice none 0 0])) rfl (by kernel_rfl) (by kernel_rfl) (by kernel_rfl) (fun _ _ _ h => h) (Or.inl ⟨by rfl, fun W hSw => by go_simp⟩) hH ?_
            try simp only [Act.put, List.setIfInBounds_toArray, List.set_cons_zero, List.set_cons_succ]
            refine wpAnyH_take (i := 8) (oi := { dst := some 89, op := Op.extract (Operand.tmp 81) 1, type := 3, pos := "ref.go:71", after := #[{ on := 6, ground := Ground.data }, { on := 10, ground := Ground.gcOnly Departure.lateStores }], guard := none }) (v := (.int .i64 0)) rfl (by kernel_rfl) (by kernel_rfl) (by kernel_rfl) (fun _ _ _ h => h) (Or.inl ⟨by rfl, fun W hSw => by go_simp⟩) hH ?_
            try simp only [Act.put, List.setIfInBounds_toArray, List.set_cons_zero, List.set_cons_succ]
            have hb := hze.kept hk2 hzn
            have hge : wo.heap.size ≤ wo.heap.size := Nat.le_refl _
            have h3 := tn _ _ hkf hD hk2
            have hl3 := hc.lt
            refine wpAnyH_ready (rs := [10]) (by kernel_rfl) (by simp) ?_
            refine AllReadyH.cons (o := { dst := none, op := Op.store 26 (Operand.tmp 8) (Operand.tmp 88), type := 0, pos := "ref.go:71", after := #[{ on := 9, ground := Ground.data }, { on := 7, ground := Ground.data }, { on := 5, ground := Ground.chain }, { on := 0, ground := Ground.phase }, { on := 1, ground := Ground.phase }, { on := 2, ground := Ground.phase }, { on := 3, ground := Ground.phase }, { on := 4, ground := Ground.phase }, { on := 5, ground := Ground.phase }, { on := 6, ground := Ground.phase }, { on := 7, ground := Ground.phase }, { on := 8, ground := Ground.textOnly Departure.lateStores }, { on := 9, ground := Ground.phase }], guard := none }) rfl (fun KK hKK => ?_) AllReadyH.nil
            refine step_store_blk rfl 26 (.tmp 8) (.tmp 88) rfl (wo.heap.size) 26 _ [.int .i64 7, .int .i64 0, .int .i64 x.o, .int .u64 0, .bool false, .slice none 0 0] (by simp [Act.eval]) (by simp [Act.eval]) hb rfl Pack.Tryz.sizeM (by simp [Value.oneCell']) ?_
            intro w5 hb5 hk5
            have hH1 := hH.young (g := wo.heap.size) (hk5.mono (by simp)) hge
            refine hKK.out _ _ hH1 (fun _ => ?_)
            replace hH := hH1
            clear hKK KK hH1
            refine wpAnyH_take (i := 11) (oi := { dst := some 9, op := Op.assign (Operand.tmp 89), type := 3, pos := "ref.go:71", after := #[{ on := 8, ground := Ground.data }, { on := 10, ground := Ground.chain }, { on := 0, ground := Ground.phase }, { on := 1, ground := Ground.phase }, { on := 2, ground := Ground.phase }, { on := 3, ground := Ground.phase }, { on := 4, ground := Ground.phase }, { on := 5, ground := Ground.phase }, { on := 6, ground := Ground.phase }, { on := 7, ground := Ground.phase }, { on := 8, ground := Ground.phase }, { on := 9, ground := Ground.phase }, { on := 10, ground := Ground.phase }], guard := none }) (v := (.int .i64 0)) rfl (by kernel_rfl) (by kernel_rfl) (by kernel_rfl) (fun _ _ _ h => h) (Or.inl ⟨by rfl, fun W hSw => by go_simp⟩) hH ?_
            refine wpAnyH_done (by kernel_rfl) ?_ _
            go_wp2_with fail
            go_meet
            case rel => exact ⟨wo.heap.size, rfl, rfl, hge, hb5, xS _ hH, h3.kept hk5 (by have := hl3; simp; omega), hH⟩
        case rest =>
          obtain ⟨bm, rfl, rfl, hbm, hB, hXe, hRe, hke⟩ := hcut
          have hRd := hRe.kept0 (kept_drew [] wc)
          have hXd := hXe.kept (kept_drew [] wc) (by simp)
          have hBd := hB.kept (kept_drew [] wc) (by simp)
          have d0 := hRd.four.2.2.1
          have a2 := hXd.six.2.2.1
          obtain ⟨m4, hp4⟩ := hRd.plan
          have q4 := Plan.rhave_any x.o wc.drew hp4
          have hkz : Kept [r, g] w wc.drew := (((hk0.trans hkc).mono (by simp)).trans hke).trans (kept_drew [r, g] wc)
          go_upto_region 14 with fail
          go_region_held3 (fun W => W.cell? ⟨oo, 2, none⟩ = some (.pointer (some ⟨pp, 0, none⟩)) ∧ W.cell? ⟨w.heap.size, 2, none⟩ = some (.int .i64 x.o)) (exact ⟨d0, a2⟩) (first
            | (go_at_call 50; refine q4.mono ?_; rintro v w5 ⟨rfl, hp5, hk5⟩; have h5 := hRd.struck hp5 hk5; have hX5 := hXd.kept hk5 (by simp; omega); replace d0 := h5.four.2.2.1; replace a2 := hX5.six.2.2.1))
          have hk6 : Kept [oo, pp, r, g] w w5 := (hkz.mono (by simp)).trans (hk5.mono (by simp))
          have hB5 := hBd.kept hk5 (by simp; omega)
          have f0 := hB5.cell 0
          have f1 := hB5.cell 1
          have f2 := hB5.cell 2
          have f3 := hB5.cell 3
          have f4 := hB5.cell 4
          have f5 := hB5.cell 5
          simp at f0 f1 f2 f3 f4 f5
          go_wp2_with fail
          go_ret2
          exact ⟨_, _, _, rfl, (row_have w5 x.o).low hk6.size, h5.kept0 (kept_alloc [] w5 _), hk6.trans (kept_alloc _ w5 _)⟩
      · have e1 : takeE ⟨s, false, l, false⟩ x.ms = extE s x.ms := by simp [takeE, m6]
        have e2 : takeL ⟨s, false, l, false⟩ x.ms = [] := by simp [takeL, e1, ht]
        have e3 : takeS ⟨s, false, l, false⟩ x.ms = ⟨extS s x.ms, false, l, false⟩ := by simp [takeS, m6, ht]
        obtain rfl : extE s x.ms = E := e1.symm.trans hE.out
        obtain rfl : [] = T := by
          have := hT.out
          rw [e2] at this
          exact this
        obtain rfl : ⟨extS s x.ms, false, l, false⟩ = R := e3.symm.trans hR.out
        have nE : ((extE s x.ms : Int) != 0) = true := by simp; omega
        clear e1 e2 e3 hE hT hR m6 mo mk ekk ht
        generalize extV s x.ms = u at *
        obtain ⟨uk, ui, uo, um, us, usa, ulen, ucap, ud⟩ := u
        simp only [Mv.val] at qp
        go_upto_region 11 with fail
        go_cut [8, 9] from 10 (fun s8 s9 W => s9 = .int .i64 (extE s x.ms : Nat) ∧ RrAt W oo pp r g cap ⟨extS s x.ms, false, l, false⟩ ∧ Kept [r, g] wo W)
        case first =>
          refine wp_region_held_drew (S := fun A => Kept [r, g] wo A) (by kernel_rfl) (kept_drew [r, g] wo) (fun hP => ?_)
          have hH := hP
          clear hP
          refine wpAnyH_take (i := 0) (oi := { dst := some 82, op := Op.move (Operand.tmp 0), type := 41, pos := "ref.go:71", after := #[], guard := none }) (v := (.pointer (some ⟨oo, 0, none⟩))) rfl (by kernel_rfl) (by kernel_rfl) (by kernel_rfl) (fun _ _ _ h => h) (Or.inl ⟨by rfl, fun W hSw => by go_simp⟩) hH ?_
          try simp only [Act.put, List.setIfInBounds_toArray, List.set_cons_zero, List.set_cons_succ]
          refine wpAnyH_take (i := 1) (oi := { dst := some 83, op := Op.nilCheck (Operand.tmp 82), type := 0, pos := "ref.go:71", after := #[{ on := 0, ground := Ground.data }], guard := none }) (v := (.pointer (some ⟨oo, 0, none⟩))) rfl (by kernel_rfl) (by kernel_rfl) (by kernel_rfl) (fun _ _ _ h => h) (Or.inl ⟨by rfl, fun W hSw => by go_simp⟩) hH ?_
          try simp only [Act.put, List.setIfInBounds_toArray, List.set_cons_zero, List.set_cons_succ]
          refine wpAnyH_take (i := 2) (oi := { dst := some 84, op := Op.fieldAddr 55 (Operand.tmp 83) 0, type := 0, pos := "ref.go:71", after := #[{ on := 1, ground := Ground.data }], guard := none }) (v := (.pointer (some ⟨oo, 0, none⟩))) rfl (by kernel_rfl) (by kernel_rfl) (by kernel_rfl) (fun _ _ _ h => h) (Or.inl ⟨by rfl, fun W hSw => by go_simp⟩) hH ?_
          try simp only [Act.put, List.setIfInBounds_toArray, List.set_cons_zero, List.set_cons_succ]
          refine wpAnyH_take (i := 3) (oi := { dst := some 85, op := Op.load 34 (Operand.tmp 84), type := 34, pos := "ref.go:71", after := #[{ on := 2, ground := Ground.data }], guard := none }) (v := (.pointer (some ⟨r, 0, none⟩))) rfl (by kernel_rfl) (by kernel_rfl) (by kernel_rfl) (fun _ _ _ h => h) (Or.inl ⟨by rfl, fun W hSw => by have c := cS W hSw; go_simp⟩) hH ?_
          try simp only [Act.put, List.setIfInBounds_toArray, List.set_cons_zero, List.set_cons_succ]
          refine wpAnyH_take (i := 4) (oi := { dst := some 86, op := Op.load 26 (Operand.tmp 3), type := 26, pos := "ref.go:71", after := #[], guard := none }) (v := (.agg #[.int .i64 x.k, .int .i64 x.i, .int .i64 x.o, .int .u64 (x.m : Int), .bool x.s, .slice x.sa x.len x.cap])) rfl (by kernel_rfl) (by kernel_rfl) (by kernel_rfl) (fun _ _ _ h => h) (Or.inl ⟨by rfl, fun W hSw => by obtain ⟨a0, a1, a2, a3, a4, a5⟩ := (xS W hSw).six; go_simp⟩) hH ?_
          try simp only [Act.put, List.setIfInBounds_toArray, List.set_cons_zero, List.set_cons_succ]
          refine wpAnyH_ready (rs := [5, 9]) (by kernel_rfl) (by simp) ?_
          refine AllReadyH.cons (o := { dst := some 87, op := Op.call { callee := Callee.value (Operand.func 51), args := #[Operand.tmp 85, Operand.tmp 86], argTypes := #[34, 26] }, type := 107, pos := "ref.go:71", after := #[{ on := 3, ground := Ground.data }, { on := 4, ground := Ground.data }], guard := none }) rfl (fun KK hKK => ?_) (AllReadyH.cons (o := { dst := some 8, op := Op.alloc 26, type := 0, pos := "ref.go:71", after := #[], guard := none }) rfl (fun KK hKK => ?_) AllReadyH.nil)
          · go_simp
            refine (qp _ hkd).mono ?_
            rintro v w1 ⟨rfl, hD, hk2⟩
            go_wp2_with fail
            have hH1 := (hkd.mono (by simp)).trans hk2
            refine hKK.out _ _ hH1 (fun _ => ?_)
            replace hH := hH1
            clear hKK KK hH1
            try simp only [Act.put, List.setIfInBounds_toArray, List.set_cons_zero, List.set_cons_succ]
            refine wpAnyH_take (i := 6) (oi := { dst := some 81, op := Op.move (Operand.tmp 87), type := 107, pos := "ref.go:71", after := #[{ on := 5, ground := Ground.data }], guard := none }) (v := (.tuple #[.agg #[.int .i64 uk, .int .i64 ui, .int .i64 uo, .int .u64 (um : Int), .bool us, .slice usa ulen ucap], .int .i64 (extE s x.ms : Nat)])) rfl (by kernel_rfl) (by kernel_rfl) (by kernel_rfl) (fun _ _ _ h => h) (Or.inl ⟨by rfl, fun W hSw => by go_simp⟩) hH ?_
            try simp only [Act.put, List.setIfInBounds_toArray, List.set_cons_zero, List.set_cons_succ]
            refine wpAnyH_take (i := 7) (oi := { dst := some 88, op := Op.extract (Operand.tmp 81) 0, type := 26, pos := "ref.go:71", after := #[{ on := 6, ground := Ground.data }], guard := none }) (v := (.agg #[.int .i64 uk, .int .i64 ui, .int .i64 uo, .int .u64 (um : Int), .bool us, .slice usa ulen ucap])) rfl (by kernel_rfl) (by kernel_rfl) (by kernel_rfl) (fun _ _ _ h => h) (Or.inl ⟨by rfl, fun W hSw => by go_simp⟩) hH ?_
            try simp only [Act.put, List.setIfInBounds_toArray, List.set_cons_zero, List.set_cons_succ]
            refine wpAnyH_take (i := 8) (oi := { dst := some 89, op := Op.extract (Operand.tmp 81) 1, type := 3, pos := "ref.go:71", after := #[{ on := 6, ground := Ground.data }, { on := 10, ground := Ground.gcOnly Departure.lateStores }], guard := none }) (v := (.int .i64 (extE s x.ms : Nat))) rfl (by kernel_rfl) (by kernel_rfl) (by kernel_rfl) (fun _ _ _ h => h) (Or.inl ⟨by rfl, fun W hSw => by go_simp⟩) hH ?_
            try simp only [Act.put, List.setIfInBounds_toArray, List.set_cons_zero, List.set_cons_succ]
            refine wpAnyH_ready (rs := [9]) (by kernel_rfl) (by simp) ?_
            refine AllReadyH.cons (o := { dst := some 8, op := Op.alloc 26, type := 0, pos := "ref.go:71", after := #[], guard := none }) rfl (fun KK hKK => ?_) AllReadyH.nil
            go_simp
            have hH1 := hH.trans (kept_alloc [r, g] _ (.cells #[.int .i64 0, .int .i64 0, .int .i64 0, .int .u64 0, .bool false, .slice none 0 0] 26))
            refine hKK.out _ _ hH1 (fun _ => ?_)
            replace hH := hH1
            clear hKK KK hH1
            try simp only [Act.put, List.setIfInBounds_toArray, List.set_cons_zero, List.set_cons_succ]
            have hb := zero_new w1
            have hge : wo.heap.size ≤ w1.heap.size := Nat.le_trans hkd.size hk2.size
            have h3 := (tn _ _ hkd hD hk2).kept0 (kept_alloc [] w1 (.cells #[.int .i64 0, .int .i64 0, .int .i64 0, .int .u64 0, .bool false, .slice none 0 0] 26))
            have hl3 := (tn _ _ hkd hD hk2).lt
            refine wpAnyH_ready (rs := [10]) (by kernel_rfl) (by simp) ?_
            refine AllReadyH.cons (o := { dst := none, op := Op.store 26 (Operand.tmp 8) (Operand.tmp 88), type := 0, pos := "ref.go:71", after := #[{ on := 9, ground := Ground.data }, { on := 7, ground := Ground.data }, { on := 5, ground := Ground.chain }, { on := 0, ground := Ground.phase }, { on := 1, ground := Ground.phase }, { on := 2, ground := Ground.phase }, { on := 3, ground := Ground.phase }, { on := 4, ground := Ground.phase }, { on := 5, ground := Ground.phase }, { on := 6, ground := Ground.phase }, { on := 7, ground := Ground.phase }, { on := 8, ground := Ground.textOnly Departure.lateStores }, { on := 9, ground := Ground.phase }], guard := none }) rfl (fun KK hKK => ?_) AllReadyH.nil
            refine step_store_blk rfl 26 (.tmp 8) (.tmp 88) rfl (w1.heap.size) 26 _ [.int .i64 uk, .int .i64 ui, .int .i64 uo, .int .u64 (um : Int), .bool us, .slice usa ulen ucap] (by simp [Act.eval]) (by simp [Act.eval]) hb rfl Pack.Tryz.sizeM (by simp [Value.oneCell']) ?_
            intro w5 hb5 hk5
            have hH1 := hH.young (g := w1.heap.size) (hk5.mono (by simp)) hge
            refine hKK.out _ _ hH1 (fun _ => ?_)
            replace hH := hH1
            clear hKK KK hH1
            refine wpAnyH_take (i := 11) (oi := { dst := some 9, op := Op.assign (Operand.tmp 89), type := 3, pos := "ref.go:71", after := #[{ on := 8, ground := Ground.data }, { on := 10, ground := Ground.chain }, { on := 0, ground := Ground.phase }, { on := 1, ground := Ground.phase }, { on := 2, ground := Ground.phase }, { on := 3, ground := Ground.phase }, { on := 4, ground := Ground.phase }, { on := 5, ground := Ground.phase }, { on := 6, ground := Ground.phase }, { on := 7, ground := Ground.phase }, { on := 8, ground := Ground.phase }, { on := 9, ground := Ground.phase }, { on := 10, ground := Ground.phase }], guard := none }) (v := (.int .i64 (extE s x.ms : Nat))) rfl (by kernel_rfl) (by kernel_rfl) (by kernel_rfl) (fun _ _ _ h => h) (Or.inl ⟨by rfl, fun W hSw => by go_simp⟩) hH ?_
            refine wpAnyH_done (by kernel_rfl) ?_ _
            go_wp2_with fail
            go_meet
            case rel => exact ⟨rfl, h3.kept hk5 (by have := hl3; simp; omega), hH⟩
          · go_simp
            have hH1 := hH.trans (kept_alloc [r, g] _ (.cells #[.int .i64 0, .int .i64 0, .int .i64 0, .int .u64 0, .bool false, .slice none 0 0] 26))
            refine hKK.out _ _ hH1 (fun _ => ?_)
            replace hH := hH1
            clear hKK KK hH1
            try simp only [Act.put, List.setIfInBounds_toArray, List.set_cons_zero, List.set_cons_succ]
            refine wpAnyH_ready (rs := [5]) (by kernel_rfl) (by simp) ?_
            refine AllReadyH.cons (o := { dst := some 87, op := Op.call { callee := Callee.value (Operand.func 51), args := #[Operand.tmp 85, Operand.tmp 86], argTypes := #[34, 26] }, type := 107, pos := "ref.go:71", after := #[{ on := 3, ground := Ground.data }, { on := 4, ground := Ground.data }], guard := none }) rfl (fun KK hKK => ?_) AllReadyH.nil
            go_simp
            refine (qp _ hkf).mono ?_
            rintro v w1 ⟨rfl, hD, hk2⟩
            go_wp2_with fail
            have hH1 := (hkf.mono (by simp)).trans hk2
            refine hKK.out _ _ hH1 (fun _ => ?_)
            replace hH := hH1
            clear hKK KK hH1
            try simp only [Act.put, List.setIfInBounds_toArray, List.set_cons_zero, List.set_cons_succ]
            refine wpAnyH_take (i := 6) (oi := { dst := some 81, op := Op.move (Operand.tmp 87), type := 107, pos := "ref.go:71", after := #[{ on := 5, ground := Ground.data }], guard := none }) (v := (.tuple #[.agg #[.int .i64 uk, .int .i64 ui, .int .i64 uo, .int .u64 (um : Int), .bool us, .slice usa ulen ucap], .int .i64 (extE s x.ms : Nat)])) rfl (by kernel_rfl) (by kernel_rfl) (by kernel_rfl) (fun _ _ _ h => h) (Or.inl ⟨by rfl, fun W hSw => by go_simp⟩) hH ?_
            try simp only [Act.put, List.setIfInBounds_toArray, List.set_cons_zero, List.set_cons_succ]
            refine wpAnyH_take (i := 7) (oi := { dst := some 88, op := Op.extract (Operand.tmp 81) 0, type := 26, pos := "ref.go:71", after := #[{ on := 6, ground := Ground.data }], guard := none }) (v := (.agg #[.int .i64 uk, .int .i64 ui, .int .i64 uo, .int .u64 (um : Int), .bool us, .slice usa ulen ucap])) rfl (by kernel_rfl) (by kernel_rfl) (by kernel_rfl) (fun _ _ _ h => h) (Or.inl ⟨by rfl, fun W hSw => by go_simp⟩) hH ?_
            try simp only [Act.put, List.setIfInBounds_toArray, List.set_cons_zero, List.set_cons_succ]
            refine wpAnyH_take (i := 8) (oi := { dst := some 89, op := Op.extract (Operand.tmp 81) 1, type := 3, pos := "ref.go:71", after := #[{ on := 6, ground := Ground.data }, { on := 10, ground := Ground.gcOnly Departure.lateStores }], guard := none }) (v := (.int .i64 (extE s x.ms : Nat))) rfl (by kernel_rfl) (by kernel_rfl) (by kernel_rfl) (fun _ _ _ h => h) (Or.inl ⟨by rfl, fun W hSw => by go_simp⟩) hH ?_
            try simp only [Act.put, List.setIfInBounds_toArray, List.set_cons_zero, List.set_cons_succ]
            have hb := hze.kept hk2 hzn
            have hge : wo.heap.size ≤ wo.heap.size := Nat.le_refl _
            have h3 := tn _ _ hkf hD hk2
            have hl3 := hc.lt
            refine wpAnyH_ready (rs := [10]) (by kernel_rfl) (by simp) ?_
            refine AllReadyH.cons (o := { dst := none, op := Op.store 26 (Operand.tmp 8) (Operand.tmp 88), type := 0, pos := "ref.go:71", after := #[{ on := 9, ground := Ground.data }, { on := 7, ground := Ground.data }, { on := 5, ground := Ground.chain }, { on := 0, ground := Ground.phase }, { on := 1, ground := Ground.phase }, { on := 2, ground := Ground.phase }, { on := 3, ground := Ground.phase }, { on := 4, ground := Ground.phase }, { on := 5, ground := Ground.phase }, { on := 6, ground := Ground.phase }, { on := 7, ground := Ground.phase }, { on := 8, ground := Ground.textOnly Departure.lateStores }, { on := 9, ground := Ground.phase }], guard := none }) rfl (fun KK hKK => ?_) AllReadyH.nil
            refine step_store_blk rfl 26 (.tmp 8) (.tmp 88) rfl (wo.heap.size) 26 _ [.int .i64 uk, .int .i64 ui, .int .i64 uo, .int .u64 (um : Int), .bool us, .slice usa ulen ucap] (by simp [Act.eval]) (by simp [Act.eval]) hb rfl Pack.Tryz.sizeM (by simp [Value.oneCell']) ?_
            intro w5 hb5 hk5
            have hH1 := hH.young (g := wo.heap.size) (hk5.mono (by simp)) hge
            refine hKK.out _ _ hH1 (fun _ => ?_)
            replace hH := hH1
            clear hKK KK hH1
            refine wpAnyH_take (i := 11) (oi := { dst := some 9, op := Op.assign (Operand.tmp 89), type := 3, pos := "ref.go:71", after := #[{ on := 8, ground := Ground.data }, { on := 10, ground := Ground.chain }, { on := 0, ground := Ground.phase }, { on := 1, ground := Ground.phase }, { on := 2, ground := Ground.phase }, { on := 3, ground := Ground.phase }, { on := 4, ground := Ground.phase }, { on := 5, ground := Ground.phase }, { on := 6, ground := Ground.phase }, { on := 7, ground := Ground.phase }, { on := 8, ground := Ground.phase }, { on := 9, ground := Ground.phase }, { on := 10, ground := Ground.phase }], guard := none }) (v := (.int .i64 (extE s x.ms : Nat))) rfl (by kernel_rfl) (by kernel_rfl) (by kernel_rfl) (fun _ _ _ h => h) (Or.inl ⟨by rfl, fun W hSw => by go_simp⟩) hH ?_
            refine wpAnyH_done (by kernel_rfl) ?_ _
            go_wp2_with fail
            go_meet
            case rel => exact ⟨rfl, h3.kept hk5 (by have := hl3; simp; omega), hH⟩
        case rest =>
          obtain ⟨rfl, hRe, hke⟩ := hcut
          go_wp2_with fail
          go_ret2
          exact ⟨_, _, _, rfl, MRow.nil _ _, hRe, ((hk0.trans hkc).mono (by simp)).trans (hke.mono (by simp))⟩
    · have z6 : (x.k == 6) = false := by simpa using h6
      by_cases h8 : x.k = 8
      · have z8 : (x.k == 8) = true := by simpa using h8
        have e1 : takeE ⟨s, false, l, false⟩ x.ms = 0 := by simp [takeE, mk, h6]
        have e2 : takeL ⟨s, false, l, false⟩ x.ms = [] := by simp [takeL, mk, h6]
        have e3 : takeS ⟨s, false, l, false⟩ x.ms = ⟨s, false, l, true⟩ := by simp [takeS, mk, h8]
        obtain rfl : 0 = E := e1.symm.trans hE.out
        obtain rfl : [] = T := by
          have := hT.out
          rw [e2] at this
          exact this
        obtain rfl : ⟨s, false, l, true⟩ = R := e3.symm.trans hR.out
        clear e1 e2 e3 hE hT hR mo mk h6 h8
        have c3 := hc.four.2.2.2.1
        have hf := hc.box.frozen 3
        go_wp2_with fail
        go_ret2
        exact ⟨_, _, _, rfl, MRow.nil _ _, hc.ended, ((hk0.trans hkc).mono (by simp)).trans (kept_set (by simp) _ _ _)⟩
      · have z8 : (x.k == 8) = false := by simpa using h8
        have e1 : takeE ⟨s, false, l, false⟩ x.ms = 0 := by simp [takeE, mk, h6]
        have e2 : takeL ⟨s, false, l, false⟩ x.ms = [] := by simp [takeL, mk, h6]
        have e3 : takeS ⟨s, false, l, false⟩ x.ms = ⟨s, false, l, false⟩ := by simp [takeS, mk, h6, h8]
        obtain rfl : 0 = E := e1.symm.trans hE.out
        obtain rfl : [] = T := by
          have := hT.out
          rw [e2] at this
          exact this
        obtain rfl : ⟨s, false, l, false⟩ = R := e3.symm.trans hR.out
        clear e1 e2 e3 hE hT hR mo mk h6 h8
        go_wp2_with fail
        go_ret2
        exact ⟨_, _, _, rfl, MRow.nil _ _, hc, (hk0.trans hkc).mono (by simp)⟩
set_option maxRecDepth 100000 in
/-- twainref30's Take -/
theorem rtake_any (oo pp r g cap : Nat) (y : Rs) (x : Mv) (lo hi : Nat) (hops : y.d.ops ≤ 900000) (w : World) (h : RrAt w oo pp r g cap y) (hx : x.At lo hi w) (hhi : hi ≤ w.heap.size) (hlen : x.len ≤ 9223372036854775807) (hap : ∀ k ∈ [r, g], k < lo ∨ hi ≤ k) :
    Calls Tryz.prog 14 #[.pointer (some ⟨oo, 0, none⟩), x.val] w fun v w' => ∃ sa n cap', v = .returned (.tuple #[.slice sa n cap', .int .i64 (takeE y x.ms : Nat)]) ∧ MRow w.heap.size w' (.slice sa n cap') ((takeL y x.ms).map bare) ∧ RrAt w' oo pp r g cap (takeS y x.ms) ∧ Kept [oo, pp, r, g] w w' := by
  obtain ⟨s, q, l, e⟩ := y
  cases e with
  | true =>
    have e1 : takeE ⟨s, q, l, true⟩ x.ms = 0 := by simp [takeE]
    have e2 : takeL ⟨s, q, l, true⟩ x.ms = [] := by simp [takeL]
    have e3 : takeS ⟨s, q, l, true⟩ x.ms = ⟨s, q, l, true⟩ := by simp [takeS]
    rw [e1, e2, e3]
    exact (rtake_over oo pp r g cap s q l x w h).mono fun v w' ⟨hv, hk⟩ => ⟨none, 0, 0, hv, MRow.nil _ _, h.kept0 hk, hk.mono (by simp)⟩
  | false =>
    cases q with
    | true =>
      have hops' : s.ops ≤ 900000 := hops
      exact rtake_src oo pp r g cap s l x (by omega) w h
    | false => exact rtake_tgt oo pp r g cap s l x lo hi hops w h hx hhi hlen hap
end Go.Proofs.YtfiofdmefgkloaaGreat.Resync
namespace Go.Proofs.YtfiofdmefgkloaaGreat.Resync
open Go.RowKit
open Math Copying
open Pack (Mv Ms mv0 good)
open Bits.Math (has without elems)

theorem kept_wide {K L : List Nat} {a b c : World} (h : Kept K a b) (k : Kept L b c) (hL : ∀ x ∈ L, x ∈ K ∨ a.heap.size ≤ x) : Kept K a c :=
  ⟨k.os.trans h.os, k.tape.trans h.tape, k.output.trans h.output, Nat.le_trans h.size k.size, fun j hj hn => (k.block j (Nat.lt_of_lt_of_le hj h.size) (fun hm => (hL j hm).elim hn (fun g => by omega))).trans (h.block j hj hn)⟩
theorem end_at (lo hi : Nat) (W : World) : (bare endM).At lo hi W := ⟨Pack.byteRow_nil lo hi W, (by show (0 : Nat) < _; decide), (by show _ ≤ (0 : Int); decide), (by show (0 : Int) ≤ _; decide)⟩
set_option maxRecDepth 100000 in
set_option maxHeartbeats 1000000 in
theorem rgreet_any (x : Mv) (hl : x.len = x.d.length) (hlen : x.len ≤ 9223372036854775807) (w : World) :
    Calls Tryz.prog 39 #[x.val] w fun e w' => e = .returned (.bool (greetB x.ms)) ∧ Kept [] w w' := by
  obtain ⟨W0, hW0, hX, hk0, hz⟩ := boxed w x
  have q := fun W => Pack.refGood_any x hl hlen W
  have eg : greetB x.ms = (decide (x.k = 1) && good x.ms) := rfl
  rw [eg]
  generalize good x.ms = G at *
  have hXd := hX.kept (kept_drewN [] W0 1) (by simp)
  obtain ⟨a0, a1, a2, a3, a4, a5⟩ := hX.six
  clear eg hl hlen
  obtain ⟨k, i, o, m, s, sa, len, cap, d⟩ := x
  simp only [Mv.val] at *
  by_cases h1 : k = 1
  · subst h1
    go_enter Tryz.func39, Tryz.ntmps39
    go_wp2_with (go_at_call 80; refine (q _).mono ?_; rintro e w1 ⟨rfl, hk1⟩)
    go_ret
    exact ⟨rfl, hk0.trans hk1⟩
  · have k1 : (k == 1) = false := by simpa using h1
    have k2 : decide (k = 1) = false := by simpa using h1
    clear q
    rw [k2]
    go_enter Tryz.func39, Tryz.ntmps39
    go_wp2_with fail
    go_ret
    exact ⟨rfl, hk0⟩
theorem who_if {who : Int} (h : decide (who = 0 ∨ who = 1) = false) : who < 0 ∨ (¬ (who < 0) ∧ 1 < who) := by
  have : ¬ (who = 0 ∨ who = 1) := by simpa using h
  omega
set_option maxRecDepth 100000 in
set_option maxHeartbeats 4000000 in
/-- The document's Begin, of what may not be -/
theorem rbegin_arg (p : Option Addr) (who sectors : Int) (x y : Mv) (hxl : x.len = x.d.length) (hxn : x.len ≤ 9223372036854775807) (hyl : y.len = y.d.length) (hyn : y.len ≤ 9223372036854775807) (w : World) (hno : greetB x.ms = false ∨ greetB y.ms = false ∨ decide (who = 0 ∨ who = 1) = false) :
    Calls Tryz.prog 11 #[.pointer p, .int .i64 who, .int .i64 sectors, x.val, y.val] w fun e w' => e = .returned (.tuple #[.pointer none, .slice none 0 0, .int .i64 2]) ∧ Kept [] w w' := by
  obtain ⟨W0, hW0, hX, hk0, hz0⟩ := boxed w x
  obtain ⟨W1, hW1, hY, hk1, hz1⟩ := boxed W0 y
  have hX1 := hX.kept hk1 (by simp)
  have hk01 := hk0.trans hk1
  have q1 := fun W => rgreet_any x hxl hxn W
  have q2 := fun W => rgreet_any y hyl hyn W
  generalize greetB x.ms = G1 at *
  generalize greetB y.ms = G2 at *
  have fx : ∀ W, Kept [] W1 W → _ := fun W hk => (hX1.kept hk (by simp)).six
  have fy : ∀ W, Kept [] W1 W → _ := fun W hk => (hY.kept hk (by simp)).six
  obtain ⟨a0, a1, a2, a3, a4, a5⟩ := fx W1 (Kept.refl _ _)
  obtain ⟨b0, b1, b2, b3, b4, b5⟩ := fy W1 (Kept.refl _ _)
  clear hxl hxn hyl hyn hX hY hX1 hk0 hk1
  obtain ⟨k, i, o, m, s, sa, len, cap, d⟩ := x
  obtain ⟨k', i', o', m', s', sa', len', cap', d'⟩ := y
  simp only [Mv.val] at *
  have hcase : G1 = false ∨ (G1 = true ∧ G2 = false) ∨ (G1 = true ∧ G2 = true ∧ who < 0) ∨ (G1 = true ∧ G2 = true ∧ ¬ (who < 0) ∧ 1 < who) := by
    rcases hno with h | h | h
    · exact .inl h
    · cases G1
      · exact .inl rfl
      · exact .inr (.inl ⟨rfl, h⟩)
    · cases G1
      · exact .inl rfl
      · cases G2
        · exact .inr (.inl ⟨rfl, rfl⟩)
        · rcases who_if h with g | ⟨g, g'⟩
          · exact .inr (.inr (.inl ⟨rfl, rfl, g⟩))
          · exact .inr (.inr (.inr ⟨rfl, rfl, g, g'⟩))
  clear hno
  rcases hcase with rfl | ⟨rfl, rfl⟩ | ⟨rfl, rfl, g1⟩ | ⟨rfl, rfl, g1, g2⟩
  · go_enter Tryz.func11, Tryz.ntmps11
    go_wp2_with (go_at_call 39; refine (q1 _).mono ?_; rintro e w1 ⟨rfl, hk2⟩)
    go_ret3
    exact ⟨rfl, hk01.trans hk2⟩
  all_goals
    go_enter Tryz.func11, Tryz.ntmps11
    go_wp2_with (first
      | (go_at_call 39; refine (q1 _).mono ?_; clear q1; rintro e w1 ⟨rfl, hk2⟩; obtain ⟨f0, f1, f2, f3, f4, f5⟩ := fy w1 hk2)
      | (go_at_call 39; refine (q2 _).mono ?_; rintro e w2 ⟨rfl, hk3⟩))
    go_ret3
    exact ⟨rfl, (hk01.trans hk2).trans hk3⟩
set_option maxRecDepth 100000 in
set_option maxHeartbeats 4000000 in
/-- The document's Begin, where its Retire fails -/
theorem rbegin_bad (r g cap0 : Nat) (s : Dk) (who sectors : Int) (x y : Mv) (hxl : x.len = x.d.length) (hxn : x.len ≤ 9223372036854775807) (hyl : y.len = y.d.length) (hyn : y.len ≤ 9223372036854775807) (hxm : x.m < 18446744073709551616) (hym : y.m < 18446744073709551616)
    (hgx : greetB x.ms = true) (hgy : greetB y.ms = true) (hwho : who = 0 ∨ who = 1) (hops : s.ops ≤ 900000) (hE : retE s (Role.uni x.m y.m sectors) ≠ 0) (w : World) (hR : RefAt w r g cap0 s) :
    Calls Tryz.prog 11 #[.pointer (some ⟨r, 0, none⟩), .int .i64 who, .int .i64 sectors, x.val, y.val] w fun e w' => e = .returned (.tuple #[.pointer none, .slice none 0 0, .int .i64 (retE s (Role.uni x.m y.m sectors) : Nat)]) ∧ RefAt w' r g cap0 (retS s (Role.uni x.m y.m sectors)) ∧ Kept [r, g] w w' := by
  obtain ⟨W0, hW0, hX, hk0, hz0⟩ := boxed w x
  obtain ⟨W1, hW1, hY, hk1, hz1⟩ := boxed W0 y
  have hX1 := hX.kept hk1 (by simp)
  have hk01 := hk0.trans hk1
  have q1 := fun W => rgreet_any x hxl hxn W
  have q2 := fun W => rgreet_any y hyl hyn W
  rw [hgx] at q1
  rw [hgy] at q2
  have q4 := fun W => Role.rUnion_any x.m y.m sectors hxm hym W
  have hz := Role.uni_lt x.m y.m sectors hxm hym
  have q5 := fun W (h : RefAt W r g cap0 s) => refRetire_any r g cap0 s (Role.uni x.m y.m sectors) hz (by omega) W h
  generalize Role.uni x.m y.m sectors = z at *
  generalize retE s z = E at *
  generalize retS s z = t at *
  have hR1 := hR.kept hk01 (by simp) (by simp)
  have fx : ∀ W, Kept [] W1 W → _ := fun W hk => (hX1.kept hk (by simp)).six
  have fy : ∀ W, Kept [] W1 W → _ := fun W hk => (hY.kept hk (by simp)).six
  obtain ⟨a0, a1, a2, a3, a4, a5⟩ := fx W1 (Kept.refl _ _)
  obtain ⟨b0, b1, b2, b3, b4, b5⟩ := fy W1 (Kept.refl _ _)
  clear hxl hxn hyl hyn hX hY hX1 hk0 hk1 hgx hgy hxm hym hR hops
  have nE : ((E : Int) != 0) = true := by simp; omega
  have u1 : ¬ (who < 0) := by omega
  have u2 : ¬ (1 < who) := by omega
  obtain ⟨k, i, o, m, sx, sa, len, cap, dx⟩ := x
  obtain ⟨k', i', o', m', sy, sa', len', cap', dy⟩ := y
  simp only [Mv.val] at *
  go_enter Tryz.func11, Tryz.ntmps11
  go_wp2_with (first
    | (go_at_call 39; refine (q1 _).mono ?_; clear q1; rintro e w1 ⟨rfl, hk2⟩; obtain ⟨f0, f1, f2, f3, f4, f5⟩ := fy w1 hk2)
    | (go_at_call 39; refine (q2 _).mono ?_; clear q2; rintro e w2 ⟨rfl, hk3⟩; have hk23 := hk2.trans hk3; obtain ⟨g0, g1, g2, g3, g4, g5⟩ := fy w2 hk23; obtain ⟨d0, d1, d2, d3, d4, d5⟩ := fx w2 hk23)
    | (go_at_call 40; refine (q4 _).mono ?_; clear q4; rintro e w3 ⟨rfl, hB3⟩; have hk24 := hk23.trans (Kept.of_below hB3 []))
    | (go_at_call 41; refine (q5 _ (hR1.kept hk24 (by simp) (by simp))).mono ?_; clear q5; rintro e w5 ⟨rfl, hR5, hk5⟩))
  go_ret3
  exact ⟨rfl, hR5, ((hk01.trans hk24).mono (by simp)).trans hk5⟩
set_option maxRecDepth 100000 in
set_option maxHeartbeats 8000000 in
/-- The document's Begin, where its Retire is done -/
theorem rbegin_go (r g cap0 : Nat) (s : Dk) (who sectors : Int) (x y : Mv) (hxl : x.len = x.d.length) (hxn : x.len ≤ 9223372036854775807) (hyl : y.len = y.d.length) (hyn : y.len ≤ 9223372036854775807) (hxm : x.m < 18446744073709551616) (hym : y.m < 18446744073709551616)
    (hgx : greetB x.ms = true) (hgy : greetB y.ms = true) (hwho : who = 0 ∨ who = 1) (hops : s.ops ≤ 900000) (hr0 : retE s (Role.uni x.m y.m sectors) = 0)
    (hg : Role.gives who x.s y.s = true → ∀ e ∈ elems (Role.uni x.m y.m sectors), gotE (retS s (Role.uni x.m y.m sectors)) (Span.wOff (e : Nat)) (Span.wLen (e : Nat)) = 0) (w : World) (hR : RefAt w r g cap0 s) (hrl : r < w.heap.size) (hgl : g < w.heap.size) :
    Calls Tryz.prog 11 #[.pointer (some ⟨r, 0, none⟩), .int .i64 who, .int .i64 sectors, x.val, y.val] w fun e w' => ∃ oo pp sa n cap P, e = .returned (.tuple #[.pointer (some ⟨oo, 0, none⟩), .slice sa n cap, .int .i64 0]) ∧ RrAt w' oo pp r g cap0 (beginR (retS s (Role.uni x.m y.m sectors)) (Role.uni x.m y.m sectors) (Role.gives who x.s y.s)) ∧ (w.heap.size ≤ oo ∧ w.heap.size ≤ pp) ∧ MRow w.heap.size w' (.slice sa n cap) P ∧ P.map Mv.ms = beginL (retS s (Role.uni x.m y.m sectors)) (Role.uni x.m y.m sectors) (Role.gives who x.s y.s) ∧ (∀ v ∈ P, v.At w.heap.size w'.heap.size w') ∧ Kept [r, g] w w' := by
  obtain ⟨W0, hW0, hX, hk0, hz0⟩ := boxed w x
  obtain ⟨W1, hW1, hY, hk1, hz1⟩ := boxed W0 y
  have hX1 := hX.kept hk1 (by simp)
  have hk01 := hk0.trans hk1
  have q1 := fun W => rgreet_any x hxl hxn W
  have q2 := fun W => rgreet_any y hyl hyn W
  rw [hgx] at q1
  rw [hgy] at q2
  have q4 := fun W => Role.rUnion_any x.m y.m sectors hxm hym W
  have hz := Role.uni_lt x.m y.m sectors hxm hym
  have q5 := fun W (h : RefAt W r g cap0 s) => refRetire_any r g cap0 s (Role.uni x.m y.m sectors) hz (by omega) W h
  rw [hr0] at q5
  have q7 := fun W => Role.rSource_any who x.s y.s W
  generalize Role.uni x.m y.m sectors = z at *
  generalize Role.gives who x.s y.s = G at *
  generalize retS s z = t at *
  have hR1 := hR.kept hk01 (by simp) (by simp)
  have fx : ∀ W, Kept [r, g] W1 W → x.In W w.heap.size := fun W hk => hX1.kept hk (by simp; omega)
  have hw0 := hk0.size
  have fy : ∀ W, Kept [r, g] W1 W → y.In W W0.heap.size := fun W hk => hY.kept hk (by simp; omega)
  obtain ⟨a0, a1, a2, a3, a4, a5⟩ := (fx W1 (Kept.refl _ _)).six
  obtain ⟨b0, b1, b2, b3, b4, b5⟩ := (fy W1 (Kept.refl _ _)).six
  clear hxl hxn hyl hyn hX hY hX1 hk0 hk1 hgx hgy hxm hym hR hops hr0
  have u1 : ¬ (who < 0) := by omega
  have u2 : ¬ (1 < who) := by omega
  obtain ⟨k, i, o, m, sx, sa, len, cap, dx⟩ := x
  obtain ⟨k', i', o', m', sy, sa', len', cap', dy⟩ := y
  simp only [Mv.val] at *
  go_enter Tryz.func11, Tryz.ntmps11
  go_upto_region 8 with (first
    | (go_at_call 39; refine (q1 _).mono ?_; clear q1; rintro e w1 ⟨rfl, hk2⟩; obtain ⟨f0, f1, f2, f3, f4, f5⟩ := (fy w1 (hk2.mono (by simp))).six)
    | (go_at_call 39; refine (q2 _).mono ?_; clear q2; rintro e w2 ⟨rfl, hk3⟩; have hk23 := hk2.trans hk3; obtain ⟨g0, g1, g2, g3, g4, g5⟩ := (fy w2 (hk23.mono (by simp))).six; obtain ⟨d0, d1, d2, d3, d4, d5⟩ := (fx w2 (hk23.mono (by simp))).six)
    | (go_at_call 40; refine (q4 _).mono ?_; clear q4; rintro e w3 ⟨rfl, hB3⟩; have hk24 := hk23.trans (Kept.of_below hB3 []))
    | (go_at_call 41; refine (q5 _ (hR1.kept hk24 (by simp) (by simp))).mono ?_; clear q5; rintro e w5 ⟨rfl, hR5, hk5⟩; have hkR : Kept [r, g] W1 w5 := (hk24.mono (by simp)).trans hk5; obtain ⟨-, -, -, -, l4, -⟩ := (fx w5 hkR).six; obtain ⟨-, -, -, -, m4, -⟩ := (fy w5 hkR).six)
    | (go_at_call 42; refine (q7 _).mono ?_; clear q7; rintro e w6 ⟨rfl, rfl⟩))
  have hkP := kept_alloc [] w6 (.cells #[.int .u64 (z : Int), .int .u64 (z : Int)] 58)
  have hbP := blk_new w6 58 #[.int .u64 (z : Int), .int .u64 (z : Int)]
  obtain ⟨WP, hWP⟩ : ∃ WP, w6.alloc (.cells #[.int .u64 (z : Int), .int .u64 (z : Int)] 58) = WP := ⟨_, rfl⟩
  have hsP : WP.heap.size = w6.heap.size + 1 := by rw [← hWP]; simp
  rw [hWP] at hkP hbP
  have hkQ := kept_alloc [] WP (.cells #[.pointer (some ⟨r, 0, none⟩), .bool G, .pointer (some ⟨w6.heap.size, 0, none⟩), .bool false] 55)
  have hbQ := blk_new WP 55 #[.pointer (some ⟨r, 0, none⟩), .bool G, .pointer (some ⟨w6.heap.size, 0, none⟩), .bool false]
  obtain ⟨WR, hWR⟩ : ∃ WR, WP.alloc (.cells #[.pointer (some ⟨r, 0, none⟩), .bool G, .pointer (some ⟨w6.heap.size, 0, none⟩), .bool false] 55) = WR := ⟨_, rfl⟩
  have hsR : WR.heap.size = WP.heap.size + 1 := by rw [← hWR]; simp
  rw [hWR] at hkQ hbQ
  rw [hWP, hWR]
  rw [hsP] at hbQ hsR
  have hkA : Kept [] w6 WR := hkP.trans hkQ
  have hl5 := hR5.1.lt
  have hRR : RrAt WR (w6.heap.size + 1) w6.heap.size r g cap0 ⟨t, G, z, false⟩ :=
    ⟨hbQ, ⟨z, hbP.kept hkQ (by simp), hz, hz⟩, hR5.kept hkA (by simp) (by simp), ⟨by omega, ⟨by omega, by omega⟩, by omega, by omega⟩, by omega, by omega, by omega, by omega⟩
  have hw6 := hkR.size
  have hw1 := hk01.size
  have hKA : Kept [r, g] w WR := ((hk01.mono (by simp)).trans hkR).trans (hkA.mono (by simp))
  obtain ⟨pp, hpp⟩ : ∃ pp, w6.heap.size = pp := ⟨_, rfl⟩
  obtain ⟨oo, hoo⟩ : ∃ oo, pp + 1 = oo := ⟨_, rfl⟩
  rw [hpp, hoo] at hRR
  rw [hpp, hoo]
  have hwp : w.heap.size ≤ pp := by omega
  have hwo : w.heap.size ≤ oo := by omega
  have hKAs := hKA.size
  clear hkP hbP hsP hkQ hbQ hsR hkA hl5 hw6 hw1 hpp hoo hWP hWR hR5 hk5 hkR l4 m4 a0 a1 a2 a3 a4 a5 b0 b1 b2 b3 b4 b5 f0 f1 f2 f3 f4 f5 g0 g1 g2 g3 g4 g5 d0 d1 d2 d3 d4 d5 fx fy hk01 hk2 hk3 hk23 hB3 hk24 hW0 hW1 hz0 hz1 hw0 hR1
  have cc := hRR.four
  obtain ⟨c0, c1, c2, c3, -⟩ := cc
  simp only at c1 c3
  cases G with
  | false =>
    go_wp2_with fail
    go_ret3
    exact ⟨oo, pp, none, 0, 0, [], rfl, hRR, ⟨hwo, hwp⟩, MRow.nil _ _, rfl, by simp, hKA⟩
  | true =>
    have q8 := Bits.refList_any z WR hz
    have hlen64 : (elems z).length ≤ 64 := by
      have := List.length_filter_le (fun e => z.testBit e) (List.range 64)
      simpa [elems, Bits.Math.lst] using this
    have hg' : Hid (∀ x ∈ elems z, gotE t (Span.wOff (x : Nat)) (Span.wLen (x : Nat)) = 0) := hg rfl
    have hL0 : Hid (z = 0 → elems z = []) := fun h => by rw [h]; rfl
    have hLn : Hid (z ≠ 0 → beginL t z true = (elems z).map (fun e : Nat => giveM t (e : Int))) := fun h => by
      unfold beginL
      rw [if_pos rfl, if_neg h]
    generalize elems z = L at *
    obtain ⟨N, hN⟩ : ∃ N, L.length = N := ⟨_, rfl⟩
    go_wp2_with (first
      | (go_at_call 43; refine q8.mono ?_; clear q8; rintro x w2 ⟨v, rfl, hrow, hB⟩; obtain ⟨a, cp, rfl, hat⟩ := Role.owns_at hrow; rw [hN]))
    obtain ⟨hat', hK2⟩ : Hid (∀ (j e : Nat), L[j]? = some e → ∃ b off, a = some ⟨b, off, none⟩ ∧ w2.cell? ⟨b, off + j, none⟩ = some (.int .i64 (e : Int))) ∧ Kept [] WR w2 := ⟨hat, Kept.of_below hB []⟩
    have hN' : Hid (L.length = N) := hN
    have hN64 : N ≤ 64 := by omega
    have hR2 := hRR.kept0 hK2
    have hs2 := hK2.size
    clear hrow hB hat hN hg hRR c0 c1 c2 c3
    go_loopw [71, 16] (fun i t' wr => ∃ (j : Nat) (sa : Option Addr) (n cap : Nat) (P : List Mv), j ≤ N ∧ i = .int .i64 j ∧ t' = .slice sa n cap ∧ MRow w2.heap.size wr (.slice sa n cap) P ∧ P.map Mv.ms = (L.take j).map (fun e : Nat => giveM t (e : Int)) ∧ (∀ y ∈ P, Clear w2.heap.size wr (.slice sa n cap) y) ∧ Kept [] w2 wr) (fun i _ _ => N - (RowKit.intOf i).toNat)
    case atStart => exact ⟨0, none, 0, 0, [], Nat.zero_le _, rfl, rfl, MRow.nil _ _, rfl, by simp, Kept.refl _ _⟩
    case round =>
      obtain ⟨j, sa, n, cap, P, hj, rfl, rfl, hrow, hms, hmem, hK⟩ := hrel
      by_cases hlt : j < N
      · obtain ⟨x, hx⟩ : ∃ x, L[j]? = some x := ⟨_, List.getElem?_eq_getElem (by rw [hN'.out]; exact hlt)⟩
        have ge := hg'.out x (List.mem_of_getElem? hx)
        obtain ⟨bb, off, rfl, hc⟩ := hat'.out j x hx
        replace hc : wr.cell? ⟨bb, off + j, none⟩ = some (.int .i64 (x : Int)) := (World.cell?_of_block (hK.block bb (World.block_lt_of_cell? _ _ hc) (by simp))).trans hc
        have hRr := hR2.kept0 hK
        have q3 := fun W (hD : RefAt W r g cap0 t) => rGive_any r g cap0 t (x : Int) W hD
        rw [ge] at q3
        have hstep : Hid ((L.take (j + 1)).map (fun e : Nat => giveM t (e : Int)) = (L.take j).map (fun e : Nat => giveM t (e : Int)) ++ [giveM t (x : Int)]) := by
          show _ = _
          rw [List.take_add_one, hx, List.map_append]
          rfl
        have hPl : Hid (P.length = j) := by
          show _ = _
          have := congrArg List.length hms
          simp at this
          have := hN'.out
          omega
        have kk : (j : Int) < (N : Int) := by omega
        have hm1 : Hid (N - (j + 1) < N - j) := by show _ < _; omega
        have hD := hRr.disk
        simp only at hD
        clear hx hat' hL0 hLn
        generalize giveM t (x : Int) = M at *
        go_wp2_with (first
          | (go_at_call 44; refine (q3 _ hD).mono ?_; rintro r' w3 ⟨v, rfl, hvm, hvat, hk3⟩; obtain ⟨vk, vi, vo, vm, vs, vsa, vlen, vcap, vd⟩ := v; simp only [Mv.val]; have hb3 := zero_new w3)
          | (refine wpList_store_blk rfl 26 _ _ rfl w3.heap.size 26 _ [.int .i64 vk, .int .i64 vi, .int .i64 vo, .int .u64 (vm : Int), .bool vs, .slice vsa vlen vcap] rfl rfl hb3 rfl Pack.Tryz.sizeM (by simp [Value.oneCell']) ?_; intro w4 hB4 hk4 hz4; replace hz4 : Hid _ := hz4; have hk34 : Kept [] w3 w4 := (kept_alloc [] w3 _).young hk4 (Nat.le_refl _); have hIn : Mv.In ⟨vk, vi, vo, vm, vs, vsa, vlen, vcap, vd⟩ w4 w3.heap.size := hB4; obtain ⟨x0, x1, x2, x3, x4, x5⟩ := hIn.six; simp only at x0 x1 x2 x3 x4 x5; have hk5 := (hk3.trans hk34).trans (kept_alloc [] w4 (.cells #[.int .i64 vk, .int .i64 vi, .int .i64 vo, .int .u64 (vm : Int), .bool vs, .slice vsa vlen vcap] 26)); have hrow5 := hrow.kept0 hk5; have hl5 := lies_one ⟨vk, vi, vo, vm, vs, vsa, vlen, vcap, vd⟩ w4.heap.size (blk_new w4 26 _ : Mv.In ⟨vk, vi, vo, vm, vs, vsa, vlen, vcap, vd⟩ (w4.alloc (.cells #[.int .i64 vk, .int .i64 vi, .int .i64 vo, .int .u64 (vm : Int), .bool vs, .slice vsa vlen vcap] 26)) w4.heap.size); have hle5 := Nat.le_trans hK.size hk5.size)
          | (refine wpList_append_msgs rfl (.tmp 84) (.tmp 86) rfl w2.heap.size (.slice sa n cap) (.slice (some ⟨w4.heap.size, 0, none⟩) 1 1) P [⟨vk, vi, vo, vm, vs, vsa, vlen, vcap, vd⟩] rfl rfl hrow5 hl5 (by have := hPl.out; have := hN'.out; simp; omega) hle5 ?_; intro sa6 n6 cap6 w6 hr6 hk6 ho6))
        have hK6 := kept_row hrow5 (hK.trans hk5) hk6 (Nat.le_refl _)
        have hms6 : (P ++ [(⟨vk, vi, vo, vm, vs, vsa, vlen, vcap, vd⟩ : Mv)]).map Mv.ms = (L.take (j + 1)).map (fun e : Nat => giveM t (e : Int)) := by
          rw [hstep.out, List.map_append, hms, ← hvm]
          rfl
        have hmem6 : ∀ y ∈ P ++ [(⟨vk, vi, vo, vm, vs, vsa, vlen, vcap, vd⟩ : Mv)], Clear w2.heap.size w6 (.slice sa6 n6 cap6) y := fun y hy => by
          rcases List.mem_append.1 hy with g' | g'
          · exact (hmem y g').appended hk5 hk6 ho6.out
          · obtain rfl := List.mem_singleton.1 g'
            have hk45 : Kept [] w3 (w4.alloc (.cells #[.int .i64 vk, .int .i64 vi, .int .i64 vo, .int .u64 (vm : Int), .bool vs, .slice vsa vlen vcap] 26)) := hk34.trans (kept_alloc [] w4 _)
            have h1 := hvat.kept (Nat.le_refl _) hk45 (by simp)
            refine ⟨wr.heap.size, w3.heap.size, (show w2.heap.size ≤ wr.heap.size from hK.size), Nat.le_trans hk45.size hk6.size, h1.kept hk45.size hk6 (fun k hm => .inl (hrow.lt k (by simpa using hm)).2), fun k hv => ?_⟩
            rcases ho6.out k hv with g' | g'
            · exact .inl (hrow.lt k g').2
            · exact .inr (Nat.le_trans hk45.size g')
        clear hk5 hk6 hrow5 hl5 hmem hms hrow hvat hvm hB4 hIn
        go_round
        case rel => exact ⟨j + 1, sa6, n6, cap6, _, by omega, by go_num, rfl, hr6, hms6, hmem6, hK6⟩
        case measure => simp [RowKit.intOf]; omega
      · obtain rfl : j = N := by omega
        have hms' : P.map Mv.ms = L.map (fun e : Nat => giveM t (e : Int)) := by rw [hms, ← hN'.out, List.take_length]
        have hRr := hR2.kept0 hK
        have hKw : Kept [r, g] w wr := (hKA.trans (hK2.mono (by simp))).trans (hK.mono (by simp))
        have hww := hKw.size
        by_cases hz0 : z = 0
        · have hP0 : P = [] := by
            rw [hL0.out hz0] at hms'
            simpa using hms'
          have hz9 : ((z : Int) == 0) = true := by simp [hz0]
          have hf := hRr.box.frozen 3
          have c3 := hRr.four.2.2.2.1
          simp only at c3
          obtain ⟨we, hwe⟩ : ∃ we, wr.setCell ⟨oo, 3, none⟩ (.bool true) = we := ⟨_, rfl⟩
          have hke : Kept [oo] wr we := by
            rw [← hwe]
            exact kept_set (by simp) _ _ _
          have hRe := hRr.ended
          rw [hwe] at hRe
          have hka := kept_alloc [] we (.cells #[.int .i64 8, .int .i64 0, .int .i64 0, .int .u64 0, .bool false, .slice none 0 0] 26)
          have hl6 := lies_one (bare endM) we.heap.size (blk_new we 26 _ : Mv.In (bare endM) (we.alloc (.cells #[.int .i64 8, .int .i64 0, .int .i64 0, .int .u64 0, .bool false, .slice none 0 0] 26)) we.heap.size)
          have hrow6 : MRow w2.heap.size (we.alloc (.cells #[.int .i64 8, .int .i64 0, .int .i64 0, .int .u64 0, .bool false, .slice none 0 0] 26)) (.slice sa n cap) P := (hrow.kept hke (fun k h1 h2 => by have := (hrow.lt k h1).1; have := hR2.lt; simp at h2; omega)).kept0 hka
          have hle6 := Nat.le_trans (Nat.le_trans hK.size hke.size) hka.size
          have hPl : P.length = 0 := by rw [hP0]; rfl
          clear hN' hL0 hLn hg' hat'
          go_wp2_with (first
            | (refine wpList_append_msgs rfl (.tmp 94) (.tmp 96) rfl w2.heap.size (.slice sa n cap) (.slice (some ⟨we.heap.size, 0, none⟩) 1 1) P [bare endM] rfl rfl hrow6 hl6 (by simp; omega) hle6 ?_; intro sa7 n7 cap7 w7 hr7 hk7 ho7))
          go_ret3
          refine ⟨oo, pp, sa7, n7, cap7, P ++ [bare endM], rfl, ?_, ⟨hwo, hwp⟩, hr7.low (by omega), ?_, fun y hy => ?_, ?_⟩
          · have e1 : beginR t z true = ⟨t, true, z, true⟩ := by simp [beginR, hz0]
            rw [e1]
            exact (hRe.kept0 hka).kept hk7 (fun k hk hm => by have := (hrow6.lt k (by simpa using hm)).1; have := hR2.lt; simp at hk; omega)
          · rw [hP0]
            unfold beginL
            rw [if_pos rfl, if_pos hz0]
            rfl
          · rw [hP0] at hy
            obtain rfl := List.mem_singleton.1 hy
            exact end_at _ _ _
          · exact kept_wide (kept_wide (kept_wide hKw hke (fun k hk => .inr (by simp at hk; omega))) hka (by simp)) hk7 (fun k hk => .inr (by have := (hrow6.lt k (by simpa using hk)).1; omega))
        · have hz9 : ((z : Int) == 0) = false := by simpa using hz0
          go_wp2_with fail
          go_ret3
          refine ⟨oo, pp, sa, n, cap, P, rfl, ?_, ⟨hwo, hwp⟩, hrow.low (by omega), by rw [hms', hLn.out hz0], fun y hy => (hmem y hy).at.mono (by omega) (Nat.le_refl _), hKw⟩
          have e1 : beginR t z true = ⟨t, true, z, false⟩ := by simp [beginR, hz0]
          rw [e1]
          exact hRr
end Go.Proofs.YtfiofdmefgkloaaGreat.Resync
namespace Go.Proofs.YtfiofdmefgkloaaGreat.Pack
open Go.ChangeShapes Go.WideShapes Go.ChangeAt Go.RowKit

theorem byte_of {n : Int} (h : (Lit.int .u8 n).wf = true) : 0 ≤ n ∧ n < 256 := by
  have := bounds_u8 h
  omega
theorem cut_step (cs : List Value) (o n : Nat) (p r : List Value) (h : (cs.drop o).take n = p) (hr : cs.drop (o + n) = r) : cs.drop o = p ++ r := by
  rw [← h, ← hr, ← List.drop_drop, List.take_append_drop]
theorem cut_last (cs : List Value) (o n : Nat) (p : List Value) (h : (cs.drop o).take n = p) (hl : cs.length = o + n) : cs.drop o = p := by
  rw [← h, List.take_of_length_le]
  rw [List.length_drop]
  omega
set_option maxRecDepth 100000 in
theorem cells3 : Tryz.prog.cellsOf 3 = 1 := by kernel_rfl
set_option maxRecDepth 100000 in
theorem cells4 : Tryz.prog.cellsOf 4 = 1 := by kernel_rfl
set_option maxRecDepth 100000 in
theorem cells5 : Tryz.prog.cellsOf 5 = 1 := by kernel_rfl
set_option maxRecDepth 100000 in
theorem cellsB : Tryz.prog.cellsOf 24 = 1 := by kernel_rfl
set_option maxRecDepth 100000 in
theorem cellsU : Tryz.prog.cellsOf 23 = 1 := by kernel_rfl
set_option maxRecDepth 100000 in
theorem cellsM : Tryz.prog.cellsOf 26 = 6 := by kernel_rfl
section
variable {H : Type} {enc : TypeId × Value → H} {W : World} {base : Nat} {spare : Nat → Bool} {held : Bool} {fuel : Nat} {x : DataW H × List MemPlace}
set_option maxRecDepth 100000 in
theorem int_cell {t : TypeId} {q : IntKind} (ht : Tryz.prog.underlying t = some (.int q)) {cs : List Value} (h : DataW.trod enc Tryz.prog W base spare held fuel t cs = some x) : ∃ n, cs = [.int q n] ∧ (Lit.int q n).wf = true := by
  obtain ⟨n, hn, -, wn⟩ := DataW.trod_int ht h
  exact ⟨n, hn, wn⟩
set_option maxRecDepth 100000 in
/-- Bytes that came in. -/
theorem bytes_cell {cs : List Value} (h : DataW.trod enc Tryz.prog W base spare held fuel 24 cs = some x) : ∃ sa len cap bs, cs = [.slice sa len cap] ∧ len ≤ 9223372036854775807 ∧ ByteRow 0 W.heap.size W (.slice sa len cap) bs := by
  rcases open_ints Tryz.underlying24 Tryz.underlying5 cells5 h with ⟨hcs, _⟩ | ⟨a, len, cap, zs, hcs, _, hl, hm, hz, _, hcell, hwz⟩
  · exact ⟨none, 0, 0, [], hcs, by omega, byteRow_nil _ _ _⟩
  · unfold maxLen at hm
    have hzl : len ≤ zs.length := by rw [hz]; split <;> omega
    have hbl : ((zs.take len).map Int.toNat).length = len := by simp; omega
    refine ⟨some a, len, cap, (zs.take len).map Int.toNat, hcs, by omega, ?_, some a, cap, by rw [hbl], fun e => (by cases e), ?_⟩
    · intro b hb
      obtain ⟨n, hn, rfl⟩ := List.mem_map.1 hb
      have := byte_of (hwz n (List.mem_of_mem_take hn))
      omega
    · by_cases h0 : len = 0
      · left
        subst h0
        simp
      · right
        have hc0 := hcell 0 (by omega)
        obtain ⟨b, off, sp⟩ := a
        have hsp : sp = none := by simpa [Addr.add] using World.cell?_spot hc0
        subst hsp
        rw [hbl]
        refine ⟨b, off, rfl, by omega, Nat.zero_le _, ?_, fun j hj => ?_⟩
        · exact World.block_lt_of_cell? W ⟨b, off, none⟩ (by have := hc0; simpa [Addr.add] using this)
        · have hjz : j < zs.length := by omega
          have := hcell j hjz
          rw [Go.WideShapes.add_plain] at this
          rw [this]
          have hb := byte_of (hwz (zs[j]) (List.getElem_mem hjz))
          simp [hj, hjz]
          omega
set_option maxRecDepth 100000 in
/-- A message's cells. -/
theorem msg_cells {cs : List Value} (h : DataW.trod enc Tryz.prog W base spare held fuel 26 cs = some x) : ∃ y : Mv, cs = y.cells ∧ y.len ≤ 9223372036854775807 ∧ y.At 0 W.heap.size W := by
  obtain ⟨xs, n, _, _, hl, hlen, hf⟩ := DataW.trod_struct Tryz.underlying26 h
  have h0 : DataW.trod enc Tryz.prog W base spare held n 3 ((cs.drop 0).take (Tryz.prog.cellsOf 3)) = xs[0]? := hf 0 _ rfl
  have h1 : DataW.trod enc Tryz.prog W base spare held n 3 ((cs.drop 1).take (Tryz.prog.cellsOf 3)) = xs[1]? := hf 1 _ rfl
  have h2 : DataW.trod enc Tryz.prog W base spare held n 3 ((cs.drop 2).take (Tryz.prog.cellsOf 3)) = xs[2]? := hf 2 _ rfl
  have h3 : DataW.trod enc Tryz.prog W base spare held n 23 ((cs.drop 3).take (Tryz.prog.cellsOf 23)) = xs[3]? := hf 3 _ rfl
  have h4 : DataW.trod enc Tryz.prog W base spare held n 4 ((cs.drop 4).take (Tryz.prog.cellsOf 4)) = xs[4]? := hf 4 _ rfl
  have h5 : DataW.trod enc Tryz.prog W base spare held n 24 ((cs.drop 5).take (Tryz.prog.cellsOf 24)) = xs[5]? := hf 5 _ rfl
  rw [cells3] at h0 h1 h2
  rw [cellsU] at h3
  rw [cells4] at h4
  rw [cellsB] at h5
  match xs, hlen with
  | [y0, y1, y2, y3, y4, y5], _ =>
    simp only [List.getElem?_cons_zero, List.getElem?_cons_succ] at h0 h1 h2 h3 h4 h5
    obtain ⟨n0, e0, w0⟩ := int_cell Tryz.underlying3 h0
    obtain ⟨n1, e1, w1⟩ := int_cell Tryz.underlying3 h1
    obtain ⟨n2, e2, w2⟩ := int_cell Tryz.underlying3 h2
    obtain ⟨n3, e3, w3⟩ := int_cell Tryz.underlying23 h3
    obtain ⟨b4, e4, _⟩ := DataW.trod_bool Tryz.underlying4 h4
    obtain ⟨sa, len, cap, bs, e5, hlen, hr⟩ := bytes_cell h5
    have b1 := bounds_i64 w1
    have b3 := bounds_u64 w3
    refine ⟨⟨n0, n1, n2, n3.toNat, b4, sa, len, cap, bs⟩, ?_, hlen, hr, ?_, b1.1, b1.2⟩
    · have hc : cs.drop 0 = _ := cut_step cs 0 1 _ _ e0 (cut_step cs 1 1 _ _ e1 (cut_step cs 2 1 _ _ e2 (cut_step cs 3 1 _ _ e3 (cut_step cs 4 1 _ _ e4 (cut_last cs 5 1 _ e5 (hl.trans cellsM))))))
      rw [List.drop_zero] at hc
      rw [hc]
      show _ = [_, _, _, Value.int .u64 ((n3.toNat : Nat) : Int), _, _]
      rw [Int.toNat_of_nonneg b3.1]
      rfl
    · show n3.toNat < _
      omega
end
set_option maxRecDepth 100000 in
/-- A message that came in by value. -/
theorem msg_in {H : Type} {enc : TypeId × Value → H} {W : World} {r : Reach} {b0 base : Nat} {spare : Nat → Bool} {held : Bool} {v : Value} {d : DataW H} {p : List MemPlace} (hv : Value.okWide Tryz.prog W r b0 26 v) (h : DataW.Trod enc Tryz.prog W base spare held 26 v d p) :
    ∃ y : Mv, v = y.val ∧ y.len ≤ 9223372036854775807 ∧ y.At 0 W.heap.size W := by
  obtain ⟨cs, rfl, hsz⟩ := okWide_struct Tryz.underlying26 hv
  obtain ⟨fuel, hf⟩ := h
  obtain ⟨y, hc, hl, hA⟩ := msg_cells hf
  refine ⟨y, ?_, hl, hA⟩
  unfold Mv.val
  congr 1
  have hc' : cs.toList = y.cells := by simpa [Value.cells] using hc
  rw [← Array.toArray_toList (xs := cs), hc']
  rfl
set_option maxRecDepth 100000 in
/-- Bytes that came in. -/
theorem bytes_in {H : Type} {enc : TypeId × Value → H} {W : World} {base : Nat} {spare : Nat → Bool} {held : Bool} {a : Option Addr} {len cap : Nat} {d : DataW H} {p : List MemPlace} (h : DataW.Trod enc Tryz.prog W base spare held 24 (.slice a len cap) d p) :
    len ≤ 9223372036854775807 ∧ ∃ bs, ByteRow 0 W.heap.size W (.slice a len cap) bs := by
  obtain ⟨fuel, hf⟩ := h
  obtain ⟨sa, l, c, bs, hc, hl, hr⟩ := bytes_cell hf
  simp [Value.cells] at hc
  obtain ⟨rfl, rfl, rfl⟩ := hc
  exact ⟨hl, bs, hr⟩
end Go.Proofs.YtfiofdmefgkloaaGreat.Pack
namespace Go.Proofs.YtfiofdmefgkloaaGreat.Resync
open Go.RowKit
open Math Copying
open Pack (Mv Ms mv0 good)

/-- An act. -/
structure Ac where
  k : Int
  t : Int
  m : Nat
  x : Mv
def Ac.cells (a : Ac) : List Value := [.int .i64 a.k, .int .i64 a.t, .int .u64 (a.m : Int), .int .i64 a.x.k, .int .i64 a.x.i, .int .i64 a.x.o, .int .u64 (a.x.m : Int), .bool a.x.s, .slice a.x.sa a.x.len a.x.cap]
theorem Ac.one (a : Ac) : ∀ v ∈ a.cells, v.oneCell' = true := by
  intro v hv
  simp only [Ac.cells, List.mem_cons, List.not_mem_nil, or_false] at hv
  rcases hv with rfl | rfl | rfl | rfl | rfl | rfl | rfl | rfl | rfl <;> rfl
set_option maxRecDepth 100000 in
theorem Tryz.size46 : (Tryz.prog.info? 46).map (·.size) = some 9 := by kernel_rfl
/-- A block that holds an act. -/
def Ac.In (a : Ac) (W : World) (g : Nat) : Prop := Blk W g 46 a.cells.toArray
theorem Ac.In.kept {L : List Nat} {A B : World} {g : Nat} {a : Ac} (h : a.In A g) (hK : Kept L A B) (hg : g ∉ L) : a.In B g := Blk.kept h hK hg
theorem Ac.In.nine {a : Ac} {W : World} {g : Nat} (h : a.In W g) : W.cell? ⟨g, 0, none⟩ = some (.int .i64 a.k) ∧ W.cell? ⟨g, 1, none⟩ = some (.int .i64 a.t) ∧ W.cell? ⟨g, 2, none⟩ = some (.int .u64 (a.m : Int)) ∧
    W.cell? ⟨g, 3, none⟩ = some (.int .i64 a.x.k) ∧ W.cell? ⟨g, 4, none⟩ = some (.int .i64 a.x.i) ∧ W.cell? ⟨g, 5, none⟩ = some (.int .i64 a.x.o) ∧ W.cell? ⟨g, 6, none⟩ = some (.int .u64 (a.x.m : Int)) ∧ W.cell? ⟨g, 7, none⟩ = some (.bool a.x.s) ∧ W.cell? ⟨g, 8, none⟩ = some (.slice a.x.sa a.x.len a.x.cap) :=
  ⟨(Blk.cell h 0).trans rfl, (Blk.cell h 1).trans rfl, (Blk.cell h 2).trans rfl, (Blk.cell h 3).trans rfl, (Blk.cell h 4).trans rfl, (Blk.cell h 5).trans rfl, (Blk.cell h 6).trans rfl, (Blk.cell h 7).trans rfl, (Blk.cell h 8).trans rfl⟩
/-- What an act has, as it came in. -/
structure Ac.Ok (a : Ac) (n : Nat) (W : World) : Prop where
  t0 : -9223372036854775808 ≤ a.t
  t1 : a.t ≤ 9223372036854775807
  m0 : a.m < 18446744073709551616
  len0 : a.x.len ≤ 9223372036854775807
  row : a.x.At 0 n W
open Go.ChangeShapes Go.WideShapes Go.ChangeAt Go.RowKit
set_option maxRecDepth 100000 in
theorem cellsA : Tryz.prog.cellsOf 46 = 9 := by kernel_rfl
section
variable {H : Type} {enc : TypeId × Value → H} {W : World} {base : Nat} {spare : Nat → Bool} {held : Bool} {fuel : Nat} {x : DataW H × List MemPlace}
set_option maxRecDepth 100000 in
/-- An act's cells. -/
theorem act_cells {cs : List Value} (h : DataW.trod enc Tryz.prog W base spare held fuel 46 cs = some x) : ∃ a : Ac, cs = a.cells ∧ a.Ok W.heap.size W := by
  obtain ⟨xs, n, _, _, hl, hlen, hf⟩ := DataW.trod_struct Tryz.underlying46 h
  have h0 : DataW.trod enc Tryz.prog W base spare held n 3 ((cs.drop 0).take (Tryz.prog.cellsOf 3)) = xs[0]? := hf 0 _ rfl
  have h1 : DataW.trod enc Tryz.prog W base spare held n 3 ((cs.drop 1).take (Tryz.prog.cellsOf 3)) = xs[1]? := hf 1 _ rfl
  have h2 : DataW.trod enc Tryz.prog W base spare held n 23 ((cs.drop 2).take (Tryz.prog.cellsOf 23)) = xs[2]? := hf 2 _ rfl
  have h3 : DataW.trod enc Tryz.prog W base spare held n 26 ((cs.drop 3).take (Tryz.prog.cellsOf 26)) = xs[3]? := hf 3 _ rfl
  rw [Pack.cells3] at h0 h1
  rw [Pack.cellsU] at h2
  rw [Pack.cellsM] at h3
  match xs, hlen with
  | [y0, y1, y2, y3], _ =>
    simp only [List.getElem?_cons_zero, List.getElem?_cons_succ] at h0 h1 h2 h3
    obtain ⟨n0, e0, w0⟩ := Pack.int_cell Tryz.underlying3 h0
    obtain ⟨n1, e1, w1⟩ := Pack.int_cell Tryz.underlying3 h1
    obtain ⟨n2, e2, w2⟩ := Pack.int_cell Tryz.underlying23 h2
    obtain ⟨y, e3, hyl, hyA⟩ := Pack.msg_cells h3
    have b1 := bounds_i64 w1
    have b2 := bounds_u64 w2
    refine ⟨⟨n0, n1, n2.toNat, y⟩, ?_, ⟨b1.1, b1.2, by show n2.toNat < _; omega, hyl, hyA⟩⟩
    have hc : cs.drop 0 = _ := Pack.cut_step cs 0 1 _ _ e0 (Pack.cut_step cs 1 1 _ _ e1 (Pack.cut_step cs 2 1 _ _ e2 (Pack.cut_last cs 3 6 _ e3 (hl.trans cellsA))))
    rw [List.drop_zero] at hc
    rw [hc]
    show _ = [_, _, Value.int .u64 ((n2.toNat : Nat) : Int), _, _, _, _, _, _]
    rw [Int.toNat_of_nonneg b2.1]
    rfl
end
/-- The acts lie in a slice. -/
def AcsAt (n : Nat) (W : World) (a : Option Addr) (len cap : Nat) (acts : List Ac) : Prop :=
  acts.length = len ∧ (∀ x ∈ acts, x.Ok n W) ∧ (acts = [] ∨ ∃ b off, a = some ⟨b, off, none⟩ ∧ len ≤ cap ∧ b < n ∧ ∀ j x, acts[j]? = some x → ∀ i v, x.cells[i]? = some v → W.cell? ⟨b, off + j * 9 + i, none⟩ = some v)
theorem AcsAt.kept {n : Nat} {L : List Nat} {A B : World} {a : Option Addr} {len cap : Nat} {acts : List Ac} (h : AcsAt n A a len cap acts) (hn : n ≤ A.heap.size) (hK : Kept L A B) (hL : ∀ k ∈ L, n ≤ k) : AcsAt n B a len cap acts := by
  obtain ⟨h1, h2, h3⟩ := h
  refine ⟨h1, fun x hx => ?_, ?_⟩
  · have := h2 x hx
    exact ⟨this.t0, this.t1, this.m0, this.len0, this.row.kept hn hK (fun k hk => .inr (hL k hk))⟩
  · rcases h3 with h3 | ⟨b, off, e, hl, hb, hc⟩
    · exact .inl h3
    · refine .inr ⟨b, off, e, hl, hb, fun j x hx i v hv => ?_⟩
      rw [World.cell?_of_block (w := A) (w' := B) (hK.block b (by omega) (fun hm => by have := hL b hm; omega))]
      exact hc j x hx i v hv
set_option maxRecDepth 100000 in
/-- The acts of a slice that came in. -/
theorem acs_in {H : Type} {enc : TypeId × Value → H} {W : World} {base : Nat} {spare : Nat → Bool} {held : Bool} {a : Option Addr} {len cap : Nat} {d : DataW H} {p : List MemPlace} (h : DataW.Trod enc Tryz.prog W base spare held 22 (.slice a len cap) d p) :
    len ≤ 9223372036854775807 ∧ ∃ acts, AcsAt W.heap.size W a len cap acts := by
  obtain ⟨fuel, hf⟩ := h
  rcases Go.Deep.open_slice Tryz.underlying22 hf with ⟨hcs, _⟩ | ⟨ad, l, c, m, n, D, Pl, hcs, _, hlc, hmax, hm, _, hel⟩
  · simp [Value.cells] at hcs
    obtain ⟨rfl, rfl, rfl⟩ := hcs
    exact ⟨by omega, [], rfl, by simp, .inl rfl⟩
  · simp [Value.cells] at hcs
    obtain ⟨rfl, rfl, rfl⟩ := hcs
    unfold maxLen at hmax
    refine ⟨by omega, ?_⟩
    have hlm : len ≤ m := by rw [hm]; split <;> omega
    have hex : ∀ i, i < len → ∃ x : Ac, x.Ok W.heap.size W ∧ ∀ j v, x.cells[j]? = some v → W.cell? ((ad.add (i * 9)).add j) = some v := fun i hi => by
      obtain ⟨cs', hc1, hc2⟩ := hel i (by omega)
      rw [cellsA] at hc1
      obtain ⟨x, rfl, hok⟩ := act_cells hc2
      refine ⟨x, hok, fun j v hv => ?_⟩
      obtain ⟨_, hlen, hcell⟩ := World.cells?_some hc1
      have hj : j < 9 := by
        have := (List.getElem?_eq_some_iff.1 hv).1
        exact this
      rw [hcell j hj]
      exact hv
    have hall : ∀ n, n ≤ len → ∃ acts : List Ac, acts.length = n ∧ ∀ i x, acts[i]? = some x → x.Ok W.heap.size W ∧ ∀ j v, x.cells[j]? = some v → W.cell? ((ad.add (i * 9)).add j) = some v := fun n => by
      induction n with
      | zero => exact fun _ => ⟨[], rfl, fun i x hx => by simp at hx⟩
      | succ n ih =>
        intro hn
        obtain ⟨acts, hl, hx⟩ := ih (by omega)
        obtain ⟨y, hy⟩ := hex n (by omega)
        refine ⟨acts ++ [y], by simp [hl], fun i x hi => ?_⟩
        by_cases hin : i < acts.length
        · rw [List.getElem?_append_left hin] at hi
          exact hx i x hi
        · have hlt := (List.getElem?_eq_some_iff.1 hi).1
          simp at hlt
          obtain rfl : i = n := by omega
          rw [List.getElem?_append_right (by omega), hl, Nat.sub_self] at hi
          simp at hi
          subst hi
          exact hy
    obtain ⟨acts, hl, hx⟩ := hall len (Nat.le_refl _)
    refine ⟨acts, hl, fun x hm => ?_, ?_⟩
    · obtain ⟨i, hi⟩ := List.getElem?_of_mem hm
      exact (hx i x hi).1
    · by_cases h0 : len = 0
      · left
        exact List.eq_nil_of_length_eq_zero (hl.trans h0)
      · right
        obtain ⟨y, hy⟩ : ∃ y, acts[0]? = some y := ⟨_, List.getElem?_eq_getElem (by omega)⟩
        have hc0 := (hx 0 y hy).2 0 _ rfl
        obtain ⟨b, off, sp⟩ := ad
        have hsp : sp = none := by simpa [Addr.add] using World.cell?_spot hc0
        subst hsp
        have hc0' : W.cell? ⟨b, off + 0 * 9 + 0, none⟩ = some (.int .i64 y.k) := by rw [← hc0, Go.WideShapes.add_plain, Go.WideShapes.add_plain]
        refine ⟨b, off, rfl, hlc, World.block_lt_of_cell? W _ hc0', fun j x hj i v hv => ?_⟩
        have := (hx j x hj).2 i v hv
        rwa [Go.WideShapes.add_plain, Go.WideShapes.add_plain] at this
set_option maxRecDepth 100000 in
theorem cellsStart : Tryz.prog.cellsOf 28 = 14 := by kernel_rfl
set_option maxRecDepth 100000 in
/-- What a play begins with, that came in by value. -/
theorem start_in {H : Type} {enc : TypeId × Value → H} {W : World} {r : Reach} {b0 base : Nat} {spare : Nat → Bool} {held : Bool} {v : Value} {d : DataW H} {p : List MemPlace} (hv : Value.okWide Tryz.prog W r b0 28 v) (h : DataW.Trod enc Tryz.prog W base spare held 28 v d p) :
    ∃ (who z : Int) (x y : Mv), v = .agg (.int .i64 who :: .int .i64 z :: (x.cells ++ y.cells)).toArray ∧ (-9223372036854775808 ≤ z ∧ z ≤ 9223372036854775807) ∧ x.len ≤ 9223372036854775807 ∧ y.len ≤ 9223372036854775807 ∧ x.At 0 W.heap.size W ∧ y.At 0 W.heap.size W := by
  obtain ⟨cs, rfl, hsz⟩ := okWide_struct Tryz.underlying28 hv
  obtain ⟨fuel, hf⟩ := h
  obtain ⟨xs, n, _, _, hl, hlen, hq⟩ := DataW.trod_struct Tryz.underlying28 hf
  have h0 : DataW.trod enc Tryz.prog W base spare held n 3 ((cs.toList.drop 0).take (Tryz.prog.cellsOf 3)) = xs[0]? := by simpa [Value.cells] using hq 0 _ rfl
  have h1 : DataW.trod enc Tryz.prog W base spare held n 3 ((cs.toList.drop 1).take (Tryz.prog.cellsOf 3)) = xs[1]? := by simpa [Value.cells] using hq 1 _ rfl
  have h2 : DataW.trod enc Tryz.prog W base spare held n 26 ((cs.toList.drop 2).take (Tryz.prog.cellsOf 26)) = xs[2]? := by simpa [Value.cells] using hq 2 _ rfl
  have h3 : DataW.trod enc Tryz.prog W base spare held n 26 ((cs.toList.drop 8).take (Tryz.prog.cellsOf 26)) = xs[3]? := by simpa [Value.cells] using hq 3 _ rfl
  rw [Pack.cells3] at h0 h1
  rw [Pack.cellsM] at h2 h3
  match xs, hlen with
  | [y0, y1, y2, y3], _ =>
    simp only [List.getElem?_cons_zero, List.getElem?_cons_succ] at h0 h1 h2 h3
    obtain ⟨n0, e0, w0⟩ := Pack.int_cell Tryz.underlying3 h0
    obtain ⟨n1, e1, w1⟩ := Pack.int_cell Tryz.underlying3 h1
    obtain ⟨x, e2, hxl, hxA⟩ := Pack.msg_cells h2
    obtain ⟨y, e3, hyl, hyA⟩ := Pack.msg_cells h3
    have b1 := bounds_i64 w1
    have hl' : cs.toList.length = 8 + 6 := by
      have := hl.trans cellsStart
      simpa [Value.cells] using this
    have hc : cs.toList.drop 0 = _ := Pack.cut_step cs.toList 0 1 _ _ e0 (Pack.cut_step cs.toList 1 1 _ _ e1 (Pack.cut_step cs.toList 2 6 _ _ e2 (Pack.cut_last cs.toList 8 6 _ e3 hl')))
    rw [List.drop_zero] at hc
    refine ⟨n0, n1, x, y, ?_, b1, hxl, hyl, hxA, hyA⟩
    congr 1
    rw [← Array.toArray_toList (xs := cs), hc]
    rfl
end Go.Proofs.YtfiofdmefgkloaaGreat.Resync
namespace Go.Proofs.YtfiofdmefgkloaaGreat
open Go.RowKit Go.Maps Go.Shelf
open Math

/-- An act's cells, and what lies at each of them. -/
def actCells (k t : Int) (m : Nat) (o l : Int) (v : Value) : Array Value := #[.int .i64 k, .int .i64 t, .int .u64 (m : Int), .int .i64 o, .int .i64 l, v]
/-- What was made since is not of before. -/
theorem Kept.old {a b : World} {d b1 b2 m : Nat} (h : Kept [d, b1, b2] a b) (hd : a.heap.size + m ≤ d ∧ a.heap.size + m ≤ b1 ∧ a.heap.size + m ≤ b2) : Kept [] a b := (Kept.refl [] a).youngs h (by simp; omega)
set_option maxRecDepth 100000 in
/-- New, its blocks named -/
theorem new_ex (n : Nat) (h1 : 1 ≤ n) (h2 : n ≤ 1024) (w : World) :
    Calls Tryz.prog 8 #[.int .i64 (n : Int)] w fun e w' => ∃ d b1 b2, e = .returned (.tuple #[.pointer (some ⟨d, 0, none⟩), .int .i64 0]) ∧ DiskAt w' d b1 b2 (made n) ∧ (w.heap.size ≤ d ∧ w.heap.size ≤ b1 ∧ w.heap.size ≤ b2) ∧ Kept [] w w' :=
  (new_any n h1 h2 w).mono fun e w' ⟨he, hd, hk⟩ => ⟨_, _, _, he, hd, ⟨by omega, by omega, by omega⟩, hk⟩
/-- Parts of a row of bytes. -/
theorem ByteRow.open {lo hi : Nat} {W : World} {a : Option Addr} {len cap : Nat} {bs : List Nat} (h : ByteRow lo hi W (.slice a len cap) bs) (h0 : 1 ≤ len) : ∃ g off, a = some ⟨g, off, none⟩ ∧ len ≤ cap ∧ bs.length = len := by
  obtain ⟨_, a', cap', e, _, h⟩ := h
  injection e with e1 e2 e3
  subst e1 e3
  rcases h with rfl | ⟨g, off, rfl, hc, _⟩
  · simp at e2
    omega
  · exact ⟨g, off, rfl, by omega, e2.symm⟩
theorem ByteRow.len {lo hi : Nat} {W : World} {a : Option Addr} {len cap : Nat} {bs : List Nat} (h : ByteRow lo hi W (.slice a len cap) bs) : len = bs.length := by
  obtain ⟨_, _, _, e, _⟩ := h
  injection e
theorem ByteRow.cut {lo hi : Nat} {W : World} {g off len cap : Nat} {bs : List Nat} (h : ByteRow lo hi W (.slice (some ⟨g, off, none⟩) len cap) bs) (i j : Nat) (hij : i ≤ j) (hj : j ≤ len) (hc : len ≤ cap) : ByteRow lo hi W (.slice (some ⟨g, off + i, none⟩) (j - i) (cap - i)) ((bs.drop i).take (j - i)) := by
  obtain ⟨hb, a', cap', e, _, h⟩ := h
  injection e with e1 e2 e3
  subst e1 e3
  have hl : ((bs.drop i).take (j - i)).length = j - i := by simp; omega
  refine ⟨fun b hm => hb b (List.mem_of_mem_drop (List.mem_of_mem_take hm)), some ⟨g, off + i, none⟩, cap - i, by rw [hl], fun e => (by cases e), ?_⟩
  rcases h with rfl | ⟨g', off', e, hc', h1, h2, hcell⟩
  · left
    simp
  · obtain ⟨rfl, rfl⟩ : g = g' ∧ off = off' := by simpa using e
    right
    refine ⟨g, off + i, rfl, by omega, h1, h2, fun k hk => ?_⟩
    rw [hl] at hk
    rw [Nat.add_assoc, hcell (i + k) (by omega), List.getElem?_take_of_lt hk, List.getElem?_drop]
theorem over_mid {L l : List Nat} {p : Nat} (h : p ≤ L.length) : ((over L p l).drop p).take l.length = l := by
  have e : (L.take p).length = p := by simp; omega
  unfold over
  rw [List.append_assoc, List.drop_append, e, Nat.sub_self, List.drop_zero, List.drop_eq_nil_of_le (by omega), List.nil_append, List.take_append_of_le_length (Nat.le_refl _), List.take_length]
theorem over_front {L l : List Nat} {p : Nat} (h : p ≤ L.length) : (over L p l).take p = L.take p := by
  have e : (L.take p).length = p := by simp; omega
  unfold over
  rw [List.append_assoc, List.take_append_of_le_length (by omega), List.take_of_length_le (by omega)]
theorem over_back {L l : List Nat} {p : Nat} (h : p ≤ L.length) : (over L p l).drop (p + l.length) = L.drop (p + l.length) := by
  have e : (L.take p ++ l).length = p + l.length := by simp; omega
  unfold over
  rw [List.drop_append, e, Nat.sub_self, List.drop_zero, List.drop_eq_nil_of_le (by omega), List.nil_append]
theorem ByteRow.front {lo hi : Nat} {W : World} {g off len cap : Nat} {bs : List Nat} (h : ByteRow lo hi W (.slice (some ⟨g, off, none⟩) len cap) bs) (j : Nat) (hj : j ≤ len) (hc : len ≤ cap) : ByteRow lo hi W (.slice (some ⟨g, off, none⟩) j cap) (bs.take j) := by
  have := h.cut 0 j (Nat.zero_le _) hj hc
  simpa only [Nat.add_zero, Nat.sub_zero, List.drop_zero] using this
theorem ByteRow.nothing {lo hi : Nat} {W : World} (a : Addr) (cap : Nat) : ByteRow lo hi W (.slice (some a) 0 cap) [] := ⟨by simp, some a, cap, rfl, fun e => (by cases e), .inl rfl⟩
end Go.Proofs.YtfiofdmefgkloaaGreat

namespace Go.Proofs.YtfiofdmefgkloaaGreat.Resync
open Go.RowKit
open Math Copying
open Pack (Mv Ms mv0 good)
open Bits.Math (has without elems)

/-- A Greet in memory. -/
def greetV (m : Nat) (s : Bool) : Mv := ⟨1, 0, 0, m, s, none, 0, 0, []⟩
theorem greet_ok (m : Nat) (s : Bool) : greetB (greetV m s).ms = true := by
  have hf : Pack.Fine (greetV m s).ms := by
    unfold Pack.Fine greetV Mv.ms
    simp
  show (decide ((1 : Int) = 1) && good (greetV m s).ms) = true
  rw [Pack.good_in hf]
  rfl
theorem greet_at (m : Nat) (s : Bool) (hm : m < 18446744073709551616) (lo hi : Nat) (W : World) : (greetV m s).At lo hi W := ⟨Pack.byteRow_nil lo hi W, hm, (by show _ ≤ (0 : Int); decide), (by show (0 : Int) ≤ _; decide)⟩
set_option maxRecDepth 100000 in
theorem lives_ret : retE (made 16) 0 = 0 := by kernel_rfl
theorem map_one {P : List Mv} {m : Ms} (h : P.map Mv.ms = [m]) : ∃ v, P = [v] ∧ v.ms = m := by
  match P, h with
  | [v], h => exact ⟨v, rfl, by simpa using h⟩
set_option maxRecDepth 100000 in
set_option maxHeartbeats 4000000 in
/-- lives -/
theorem lives_any (w : World) : Calls Tryz.prog 7 #[] w fun e w' => e = .returned (.bool true) ∧ Kept [] w w' := by
  have qa := new_ex 16 (by omega) (by omega) w
  have qb : ∀ (d b1 b2 : Nat) (W : World), DiskAt W d b1 b2 (made 16) → Calls Tryz.prog 10 #[.pointer (some ⟨d, 0, none⟩), .int .i64 0, .int .i64 8, .agg #[.int .i64 1, .int .i64 0, .int .i64 0, .int .u64 0, .bool false, .slice none 0 0], .agg #[.int .i64 1, .int .i64 0, .int .i64 0, .int .u64 0, .bool false, .slice none 0 0]] W fun e w' => ∃ o pl sa n cap P lo, e = .returned (.tuple #[.pointer (some ⟨o, 0, none⟩), .slice sa n cap, .int .i64 0]) ∧ ReAt w' o pl d b1 b2 ⟨retS (made 16) 0, true, 0, true⟩ ∧ (W.heap.size ≤ o ∧ W.heap.size ≤ pl ∧ o < lo ∧ pl < lo ∧ W.heap.size ≤ lo ∧ lo ≤ w'.heap.size) ∧ MRow lo w' (.slice sa n cap) P ∧ P.map Mv.ms = [endM] ∧ (∀ v ∈ P, v.At lo w'.heap.size w') ∧ Kept [d, b1, b2] W w' :=
    fun d b1 b2 W hD => begin_go d b1 b2 (made 16) 0 8 (greetV 0 false) (greetV 0 false) rfl (by show (0 : Nat) ≤ _; omega) rfl (by show (0 : Nat) ≤ _; omega) (by show (0 : Nat) < _; omega) (by show (0 : Nat) < _; omega) (by omega) (by omega) (greet_ok 0 false) (greet_ok 0 false) (.inl rfl) (by decide) lives_ret (fun _ e he => absurd (mem_elems (z := 0).1 he).2 (by rw [Nat.zero_testBit]; decide)) W hD
  generalize retS (made 16) 0 = t at *
  generalize made 16 = s0 at *
  have qs := source_any
  have qo := over_any
  generalize retS (made 16) 0 = t at *
  generalize made 16 = s0 at *
  go_enter Tryz.func7, Tryz.ntmps7
  go_wp2_with (first
    | (go_at_call 8; refine qa.mono ?_; clear qa; rintro e w1 ⟨d, b1, b2, rfl, hD1, hdl, hk1⟩; have hz1 := zero_new w1)
    | (refine wpList_store_blk rfl 26 _ _ rfl w1.heap.size 26 _ [.int .i64 1, .int .i64 0, .int .i64 0, .int .u64 0, .bool false, .slice none 0 0] rfl rfl hz1 rfl Pack.Tryz.sizeM (by simp [Value.oneCell']) ?_; intro w2 hB2 hk2 hz2; have hk12 : Kept [] w1 w2 := (kept_alloc [] w1 _).young hk2 (Nat.le_refl _); have hD2 := hD1.kept hk12 (by simp) (by simp) (by simp); have x0 := hB2.cell 0; have x1 := hB2.cell 1; have x2 := hB2.cell 2; have x3 := hB2.cell 3; have x4 := hB2.cell 4; have x5 := hB2.cell 5; simp at x0 x1 x2 x3 x4 x5)
    | (go_at_call 10; refine (qb d b1 b2 _ hD2).mono ?_; clear qb; rintro e w3 ⟨o, pl, sa, n, cap, P, lo, rfl, hR, hlo, hr, hms, hmem, hk3⟩; obtain ⟨v, rfl, hv⟩ := map_one hms; obtain ⟨hn, hc1, hc2⟩ := hr.len; obtain ⟨g, rfl, hgl, hrg⟩ := hr.at 0 v rfl; have hn1 : n = 1 := hn; subst hn1; have y0 : w3.cell? ⟨g, 0, none⟩ = some (.int .i64 8) := (hrg 0 (.int .i64 v.k) rfl).trans (by rw [show v.k = v.ms.k from rfl, hv]; rfl); unfold maxLen at hc2; clear hv hmem hrg hms hn hr; replace hlo : Hid _ := hlo)
    | (go_at_call 19; refine (qs _ _ _ _ _ _ _ hR).mono ?_; rintro e w3 ⟨rfl, rfl⟩)
    | (go_at_call 20; refine (qo _ _ _ _ _ _ _ hR).mono ?_; rintro e w3 ⟨rfl, rfl⟩))
  go_ret
  have hlo1 := hk1.size
  exact ⟨rfl, (hk1.trans hk12).young3 hk3 (by have := hk1.size; omega) (by have := hk1.size; omega) (by have := hk1.size; omega)⟩
set_option maxRecDepth 100000 in
set_option maxHeartbeats 1000000 in
/-- ResyncNone, of what is let go -/
theorem none_early (x : Mv) (w : World) (hl : x.len ≤ 9223372036854775807) (h : 200 < x.len) : Calls Tryz.prog 6 #[x.val] w fun e w' => e = .returned (.bool true) ∧ Kept [] w w' := by
  obtain ⟨W0, hW0, hX, hk0, hz⟩ := boxed w x
  have q := lives_any
  obtain ⟨a0, a1, a2, a3, a4, a5⟩ := hX.six
  have g : (200 : Int) < (x.len : Int) := by omega
  clear hX h
  unfold Mv.val
  go_enter Tryz.func6, Tryz.ntmps6
  go_wp2_with (go_at_call 7; refine (q _).mono ?_; rintro e w3 ⟨rfl, hk3⟩)
  go_ret
  exact ⟨rfl, hk0.trans hk3⟩
set_option maxRecDepth 100000 in
set_option maxHeartbeats 8000000 in
/-- ResyncNone, of a message -/
theorem none_play (x : Mv) (w : World) (h : x.len ≤ 200) : Calls Tryz.prog 6 #[x.val] w fun e w' => e = .returned (.bool true) ∧ Kept [] w w' := by
  obtain ⟨W0, hW0, hX, hk0, hz⟩ := boxed w x
  have q := lives_any
  have qt := fun p W (h : NoRe W p) => take_none p x W h
  have qs := fun p W (h : NoRe W p) => source_none p W h
  have qo := fun p W (h : NoRe W p) => over_none p W h
  have ql := fun p W (h : NoRe W p) => left_none p W h
  have qb : ∀ W : World, Calls Tryz.prog 10 #[.pointer none, .int .i64 0, .int .i64 16, .agg #[.int .i64 1, .int .i64 0, .int .i64 0, .int .u64 0, .bool false, .slice none 0 0], .agg #[.int .i64 1, .int .i64 0, .int .i64 0, .int .u64 0, .bool false, .slice none 0 0]] W fun e w' => e = .returned (.tuple #[.pointer none, .slice none 0 0, .int .i64 1]) ∧ True ∧ Kept [] W w' := fun W =>
    begin_bad none 0 16 (greetV 0 false) (greetV 0 false) rfl (by show (0 : Nat) ≤ _; omega) rfl (by show (0 : Nat) ≤ _; omega) (by show (0 : Nat) < _; omega) (by show (0 : Nat) < _; omega) (by omega) (by omega) (greet_ok 0 false) (greet_ok 0 false) (.inl rfl) 1 (by decide) (fun _ => True) [] W
      (fun V _ => (retire_none none _ V (.inl rfl)).mono fun e w' ⟨he, hk⟩ => ⟨he, trivial, hk⟩)
  have g : ¬ ((200 : Int) < (x.len : Int)) := by omega
  have kB := kept_alloc [] W0 (.cells #[.pointer none, .pointer none, .bool false, .bool false] 88)
  have hB := blk_new W0 88 #[.pointer none, .pointer none, .bool false, .bool false]
  obtain ⟨a0, a1, a2, a3, a4, a5⟩ := hX.six
  have hS0 : Hid (W0.heap.size = w.heap.size + 1) := hz
  unfold Mv.val at *
  go_enter Tryz.func6, Tryz.ntmps6
  go_upto_region 4 with fail
  have kC := kept_alloc [] (W0.alloc (.cells #[.pointer none, .pointer none, .bool false, .bool false] 88)) (.cells #[.pointer none, .pointer (some ⟨W0.heap.size, 0, none⟩)] 37)
  have hC := blk_new (W0.alloc (.cells #[.pointer none, .pointer none, .bool false, .bool false] 88)) 37 #[.pointer none, .pointer (some ⟨W0.heap.size, 0, none⟩)]
  have hB2 := hB.kept kC (by simp)
  have k2 := (hk0.trans kB).trans kC
  have hX2 := (hX.kept kB (by simp)).kept kC (by simp)
  rw [World.size_alloc] at hC
  obtain ⟨W4, hW4⟩ : ∃ W4, (W0.alloc (.cells #[.pointer none, .pointer none, .bool false, .bool false] 88)).alloc (.cells #[.pointer none, .pointer (some ⟨W0.heap.size, 0, none⟩)] 37) = W4 := ⟨_, rfl⟩
  rw [hW4] at hC hB2 k2 hX2 ⊢
  clear hW4 kB kC hB hX hW0 a0 a1 a2 a3 a4 a5
  generalize W0.heap.size = n0 at *
  go_wp2_with fail
  go_loopw [21] (fun i wr => ∃ j : Nat, j ≤ 2 ∧ i = .int .i64 j ∧ Kept [] W4 wr) (fun i _ => 2 - (RowKit.intOf i).toNat)
  case atStart => exact ⟨0, by omega, rfl, Kept.refl _ _⟩
  case round =>
    obtain ⟨j, hj, rfl, hK⟩ := hrel
    have hXr := hX2.kept hK (by simp)
    have hBr := hB2.kept hK (by simp)
    have hCr := hC.kept hK (by simp)
    obtain ⟨a0, a1, a2, a3, a4, a5⟩ := hXr.six
    by_cases h2 : j < 2
    · rcases (show j = 0 ∨ j = 1 by omega) with rfl | rfl
      · have c := hCr.cell 0
        simp at c
        have hN : ∀ W, NoRe W none := fun W => .inl rfl
        clear h2
        go_wp2_with (first
          | (go_at_call 13; refine (qt none _ (hN _)).mono ?_; rintro e w5 ⟨rfl, hk5⟩)
          | (go_at_call 19; refine (qs none _ (hN _)).mono ?_; rintro e w5 ⟨rfl, rfl⟩)
          | (go_at_call 20; refine (qo none _ (hN _)).mono ?_; rintro e w5 ⟨rfl, rfl⟩)
          | (go_at_call 21; refine (ql none _ (hN _)).mono ?_; rintro e w5 ⟨rfl, rfl⟩))
        go_round
        case rel => exact ⟨1, by omega, rfl, hK.trans hk5⟩
        case measure => simp [RowKit.intOf]
      · have c := hCr.cell 1
        simp at c
        have hN : ∀ W, Kept [] wr W → NoRe W (some ⟨n0, 0, none⟩) := fun W hk => .inr ⟨n0, rfl, hBr.kept hk (by simp)⟩
        clear h2
        go_wp2_with (first
          | (go_at_call 13; refine (qt _ _ (hN _ (Kept.refl _ _))).mono ?_; rintro e w5 ⟨rfl, hk5⟩)
          | (go_at_call 19; refine (qs _ _ (hN _ hk5)).mono ?_; rintro e w5 ⟨rfl, rfl⟩)
          | (go_at_call 20; refine (qo _ _ (hN _ hk5)).mono ?_; rintro e w5 ⟨rfl, rfl⟩)
          | (go_at_call 21; refine (ql _ _ (hN _ hk5)).mono ?_; rintro e w5 ⟨rfl, rfl⟩))
        go_round
        case rel => exact ⟨2, by omega, rfl, hK.trans hk5⟩
        case measure => simp [RowKit.intOf]
    · obtain rfl : j = 2 := by omega
      go_wp2_with (first
        | (go_at_call 10; refine (qb _).mono ?_; rintro e w6 ⟨rfl, -, hk6⟩)
        | (go_at_call 7; refine (q _).mono ?_; rintro e w7 ⟨rfl, hk7⟩))
      go_ret
      exact ⟨rfl, ((k2.trans hK).trans hk6).trans hk7⟩
end Go.Proofs.YtfiofdmefgkloaaGreat.Resync
