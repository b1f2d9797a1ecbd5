/-
  A resync in memory: what it tells of itself, and what a message does.
-/
import Derived.Test.YtfiofdmefgkloaaGreatReA
import Derived.Test.YtfiofdmefgkloaaGreatReN
import Derived.Test.YtfiofdmefgkloaaGreatRoA
import Derived.Test.YtfiofdmefgkloaaGreatPlA
import Derived.Deep.RegionHeld3
namespace Go.Proofs.YtfiofdmefgkloaaGreat.Resync
open Go.RowKit
open Math Copying
open Pack (Mv Ms mv0 good)
open Bits.Math (has without elems)

/-- A resync in memory: its block, its plan's, its disk's three. -/
structure ReAt (W : World) (o pl d b1 b2 : Nat) (r : Rs) : Prop where
  box : Blk W o 88 #[.pointer (some ⟨pl, 0, none⟩), .pointer (some ⟨d, 0, none⟩), .bool r.src, .bool r.over]
  plan : ∃ m, Plan.PlAt W pl m r.left
  disk : DiskAt W d b1 b2 r.d
  ne : o ≠ pl ∧ (o ≠ d ∧ o ≠ b1 ∧ o ≠ b2) ∧ pl ≠ d ∧ pl ≠ b1 ∧ pl ≠ b2
theorem ReAt.kept {K : List Nat} {A B : World} {o pl d b1 b2 : Nat} {r : Rs} (h : ReAt A o pl d b1 b2 r) (hk : Kept K A B) (hK : ∀ k ∈ [o, pl, d, b1, b2], k ∉ K) : ReAt B o pl d b1 b2 r := by
  obtain ⟨m, hp⟩ := h.plan
  exact ⟨h.box.kept hk (hK o (by simp)), ⟨m, hp.kept hk (hK pl (by simp))⟩, h.disk.kept hk (hK d (by simp)) (hK b1 (by simp)) (hK b2 (by simp)), h.ne⟩
theorem ReAt.kept0 {A B : World} {o pl d b1 b2 : Nat} {r : Rs} (h : ReAt A o pl d b1 b2 r) (hk : Kept [] A B) : ReAt B o pl d b1 b2 r := h.kept hk (by simp)
theorem ReAt.lt {W : World} {o pl d b1 b2 : Nat} {r : Rs} (h : ReAt W o pl d b1 b2 r) : o < W.heap.size ∧ pl < W.heap.size ∧ d < W.heap.size ∧ b1 < W.heap.size ∧ b2 < W.heap.size := by
  obtain ⟨m, hp⟩ := h.plan
  exact ⟨h.box.lt, hp.1.lt, h.disk.lt⟩
theorem ReAt.four {W : World} {o pl d b1 b2 : Nat} {r : Rs} (h : ReAt W o pl d b1 b2 r) : W.cell? ⟨o, 0, none⟩ = some (.pointer (some ⟨pl, 0, none⟩)) ∧ W.cell? ⟨o, 1, none⟩ = some (.pointer (some ⟨d, 0, none⟩)) ∧ W.cell? ⟨o, 2, none⟩ = some (.bool r.src) ∧ W.cell? ⟨o, 3, none⟩ = some (.bool r.over) :=
  ⟨(Blk.cell h.box 0).trans rfl, (Blk.cell h.box 1).trans rfl, (Blk.cell h.box 2).trans rfl, (Blk.cell h.box 3).trans rfl⟩
theorem ReAt.turned {A B : World} {o pl d b1 b2 : Nat} {s s' : Dk} {g e : Bool} {l : Nat} (h : ReAt A o pl d b1 b2 ⟨s, g, l, e⟩) (hd : DiskAt B d b1 b2 s') (hk : Kept [d, b1, b2] A B) : ReAt B o pl d b1 b2 ⟨s', g, l, e⟩ := by
  obtain ⟨m, hp⟩ := h.plan
  obtain ⟨-, n1, n2⟩ := h.ne
  exact ⟨h.box.kept hk (by simp; omega), ⟨m, hp.kept hk (by simp; omega)⟩, hd, h.ne⟩
theorem ReAt.struck {A B : World} {o pl d b1 b2 : Nat} {s : Dk} {g e : Bool} {l l' m : Nat} (h : ReAt A o pl d b1 b2 ⟨s, g, l, e⟩) (hp : Plan.PlAt B pl m l') (hk : Kept [pl] A B) : ReAt B o pl d b1 b2 ⟨s, g, l', e⟩ := by
  obtain ⟨n0, n1, n2⟩ := h.ne
  exact ⟨h.box.kept hk (by simp; omega), ⟨m, hp⟩, h.disk.kept hk (by simp; omega) (by simp; omega) (by simp; omega), h.ne⟩
theorem ReAt.ended {A : World} {o pl d b1 b2 : Nat} {s : Dk} {g e : Bool} {l : Nat} (h : ReAt A o pl d b1 b2 ⟨s, g, l, e⟩) : ReAt (A.setCell ⟨o, 3, none⟩ (.bool true)) o pl d b1 b2 ⟨s, g, l, true⟩ := by
  obtain ⟨n0, n1, n2⟩ := h.ne
  obtain ⟨m, hp⟩ := h.plan
  have hk : Kept [o] A (A.setCell ⟨o, 3, none⟩ (.bool true)) := kept_set (by simp) _ _ _
  exact ⟨h.box.set 3 (.bool true), ⟨m, hp.kept hk (by simp; omega)⟩, h.disk.kept hk (by simp; omega) (by simp; omega) (by simp; omega), h.ne⟩
theorem boxed (w : World) (x : Mv) : ∃ W0, w.alloc (.cells #[.int .i64 x.k, .int .i64 x.i, .int .i64 x.o, .int .u64 (x.m : Int), .bool x.s, .slice x.sa x.len x.cap] 26) = W0 ∧ x.In W0 w.heap.size ∧ Kept [] w W0 ∧ Hid (W0.heap.size = w.heap.size + 1) :=
  ⟨_, rfl, blk_new w 26 _, kept_alloc [] w _, show _ = _ by simp⟩
/-- Messages without bytes. -/
def bare (m : Ms) : Mv := ⟨m.k, m.i, m.o, m.m, m.s, none, 0, 0, []⟩
theorem bare_end : bare endM = ⟨8, 0, 0, 0, false, none, 0, 0, []⟩ := rfl
theorem bare_have (o : Int) : bare (haveM o) = ⟨7, 0, o, 0, false, none, 0, 0, []⟩ := rfl
/-- A resync that no call made. -/
def NoRe (W : World) (p : Option Addr) : Prop := p = none ∨ ∃ o, p = some ⟨o, 0, none⟩ ∧ Blk W o 88 #[.pointer none, .pointer none, .bool false, .bool false]
theorem NoRe.kept {A B : World} {p : Option Addr} (h : NoRe A p) (hk : Kept [] A B) : NoRe B p := h.imp id fun ⟨o, e, h⟩ => ⟨o, e, h.kept hk (by simp)⟩
set_option maxRecDepth 100000 in
theorem made_any (o pl d b1 b2 : Nat) (r : Rs) (w : World) (h : ReAt w o pl d b1 b2 r) : Calls Tryz.prog 46 #[.pointer (some ⟨o, 0, none⟩)] w fun e w' => e = .returned (.bool true) ∧ w' = w := by
  have c0 := h.four.1
  go_enter Tryz.func46, Tryz.ntmps46
  go_wp2
  go_ret
  exact ⟨rfl, rfl⟩
set_option maxRecDepth 100000 in
theorem made_none (p : Option Addr) (w : World) (h : NoRe w p) : Calls Tryz.prog 46 #[.pointer p] w fun e w' => e = .returned (.bool false) ∧ w' = w := by
  rcases h with rfl | ⟨o, rfl, h⟩
  · go_enter Tryz.func46, Tryz.ntmps46
    go_wp2
    go_ret
    exact ⟨rfl, rfl⟩
  · have c0 := (h.cell 0).trans rfl
    go_enter Tryz.func46, Tryz.ntmps46
    go_wp2
    go_ret
    exact ⟨rfl, rfl⟩
set_option maxRecDepth 100000 in
theorem source_any (o pl d b1 b2 : Nat) (r : Rs) (w : World) (h : ReAt w o pl d b1 b2 r) : Calls Tryz.prog 19 #[.pointer (some ⟨o, 0, none⟩)] w fun e w' => e = .returned (.bool r.src) ∧ w' = w := by
  have q := made_any o pl d b1 b2 r w h
  have c2 := h.four.2.2.1
  go_enter Tryz.func19, Tryz.ntmps19
  go_wp2_with (go_at_call 46; refine q.mono ?_; rintro e w ⟨rfl, rfl⟩)
  go_ret
  exact ⟨rfl, rfl⟩
set_option maxRecDepth 100000 in
theorem over_any (o pl d b1 b2 : Nat) (r : Rs) (w : World) (h : ReAt w o pl d b1 b2 r) : Calls Tryz.prog 20 #[.pointer (some ⟨o, 0, none⟩)] w fun e w' => e = .returned (.bool r.over) ∧ w' = w := by
  have q := made_any o pl d b1 b2 r w h
  have c3 := h.four.2.2.2
  go_enter Tryz.func20, Tryz.ntmps20
  go_wp2_with (go_at_call 46; refine q.mono ?_; rintro e w ⟨rfl, rfl⟩)
  go_ret
  exact ⟨rfl, rfl⟩
set_option maxRecDepth 100000 in
theorem left_any (o pl d b1 b2 : Nat) (r : Rs) (w : World) (h : ReAt w o pl d b1 b2 r) : Calls Tryz.prog 21 #[.pointer (some ⟨o, 0, none⟩)] w fun e w' => e = .returned (.int .u64 (r.left : Int)) ∧ w' = w := by
  have q := made_any o pl d b1 b2 r w h
  obtain ⟨m, hp⟩ := h.plan
  have q2 := Plan.left_any w hp
  have c0 := h.four.1
  go_enter Tryz.func21, Tryz.ntmps21
  go_wp2_with (first
    | (go_at_call 46; refine q.mono ?_; rintro e w ⟨rfl, rfl⟩)
    | (go_at_call 55; refine q2.mono ?_; rintro e w ⟨rfl, rfl⟩))
  go_ret
  exact ⟨rfl, rfl⟩
set_option maxRecDepth 100000 in
theorem source_none (p : Option Addr) (w : World) (h : NoRe w p) : Calls Tryz.prog 19 #[.pointer p] w fun e w' => e = .returned (.bool false) ∧ w' = w := by
  have q := made_none p w h
  go_enter Tryz.func19, Tryz.ntmps19
  go_wp2_with (go_at_call 46; refine q.mono ?_; rintro e w ⟨rfl, rfl⟩)
  go_ret
  exact ⟨rfl, rfl⟩
set_option maxRecDepth 100000 in
theorem over_none (p : Option Addr) (w : World) (h : NoRe w p) : Calls Tryz.prog 20 #[.pointer p] w fun e w' => e = .returned (.bool false) ∧ w' = w := by
  have q := made_none p w h
  go_enter Tryz.func20, Tryz.ntmps20
  go_wp2_with (go_at_call 46; refine q.mono ?_; rintro e w ⟨rfl, rfl⟩)
  go_ret
  exact ⟨rfl, rfl⟩
set_option maxRecDepth 100000 in
theorem left_none (p : Option Addr) (w : World) (h : NoRe w p) : Calls Tryz.prog 21 #[.pointer p] w fun e w' => e = .returned (.int .u64 0) ∧ w' = w := by
  have q := made_none p w h
  go_enter Tryz.func21, Tryz.ntmps21
  go_wp2_with (go_at_call 46; refine q.mono ?_; rintro e w ⟨rfl, rfl⟩)
  go_ret
  exact ⟨rfl, rfl⟩
set_option maxRecDepth 100000 in
theorem take_none (p : Option Addr) (x : Mv) (w : World) (h : NoRe w p) : Calls Tryz.prog 13 #[.pointer p, x.val] w fun e w' => e = .returned (.tuple #[.slice none 0 0, .int .i64 1]) ∧ Kept [] w w' := by
  obtain ⟨W0, hW0, hX, hk0, hz⟩ := boxed w x
  have q := made_none p W0 (h.kept hk0)
  unfold Mv.val
  go_enter Tryz.func13, Tryz.ntmps13
  go_upto_region 1 with fail
  go_wp2_with (go_at_call 46; refine q.mono ?_; rintro e w ⟨rfl, rfl⟩)
  go_ret2
  exact ⟨rfl, hk0⟩
set_option maxRecDepth 100000 in
theorem pass_any (p : Option Addr) (x : Mv) (w : World) : Calls Tryz.prog 87 #[.pointer p, x.val] w fun e w' => e = .returned (.tuple #[.slice none 0 0, .int .i64 0]) ∧ Kept [] w w' := by
  obtain ⟨W0, hW0, hX, hk0, hz⟩ := boxed w x
  unfold Mv.val
  go_enter Tryz.func87, Tryz.ntmps87
  go_wp2_with fail
  go_ret2
  exact ⟨rfl, hk0⟩
set_option maxRecDepth 100000 in
theorem end_any (o pl d b1 b2 : Nat) (s : Dk) (g e : Bool) (l : Nat) (x : Mv) (w : World) (h : ReAt w o pl d b1 b2 ⟨s, g, l, e⟩) :
    Calls Tryz.prog 90 #[.pointer (some ⟨o, 0, none⟩), x.val] w fun v w' => v = .returned (.tuple #[.slice none 0 0, .int .i64 0]) ∧ ReAt w' o pl d b1 b2 ⟨s, g, l, true⟩ ∧ Kept [o] w w' := by
  obtain ⟨W0, hW0, hX, hk0, hz⟩ := boxed w x
  have h0 := h.kept0 hk0
  have c3 := h0.four.2.2.2
  have hf := h0.box.frozen 3
  unfold Mv.val
  go_enter Tryz.func90, Tryz.ntmps90
  go_upto_region 1 with fail
  go_wp2_with fail
  go_ret2
  exact ⟨rfl, h0.ended, (hk0.mono (by simp)).trans (kept_set (by simp) _ _ _)⟩
end Go.Proofs.YtfiofdmefgkloaaGreat.Resync
