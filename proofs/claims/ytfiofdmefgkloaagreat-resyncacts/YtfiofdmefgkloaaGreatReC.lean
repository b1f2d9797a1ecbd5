/-
  What a message does at a resync in memory.
-/
import Derived.Test.YtfiofdmefgkloaaGreatReB
namespace Go.Proofs.YtfiofdmefgkloaaGreat.Resync
open Go.RowKit
open Math Copying
open Pack (Mv Ms mv0 good)
open Bits.Math (has without elems)

/-- close: the one message, in a row of the call's own. -/
theorem row_end (W : World) : MRow W.heap.size (W.alloc (.cells #[.int .i64 8, .int .i64 0, .int .i64 0, .int .u64 0, .bool false, .slice none 0 0] 26)) (.slice (some ⟨W.heap.size, 0, none⟩) 1 1) [bare endM] :=
  ⟨rfl, .inr ⟨W.heap.size, 1, _, rfl, Nat.le_refl _, heap_alloc_last W _, Nat.le_refl _, by unfold maxLen; omega, rfl, rfl⟩⟩
theorem row_have (W : World) (o : Int) : MRow W.heap.size (W.alloc (.cells #[.int .i64 7, .int .i64 0, .int .i64 o, .int .u64 0, .bool false, .slice none 0 0] 26)) (.slice (some ⟨W.heap.size, 0, none⟩) 1 1) [bare (haveM o)] :=
  ⟨rfl, .inr ⟨W.heap.size, 1, _, rfl, Nat.le_refl _, heap_alloc_last W _, Nat.le_refl _, by unfold maxLen; omega, rfl, rfl⟩⟩
set_option maxRecDepth 100000 in
theorem close_any (o pl d b1 b2 : Nat) (s : Dk) (g e : Bool) (l : Nat) (w : World) (h : ReAt w o pl d b1 b2 ⟨s, g, l, e⟩) :
    Calls Tryz.prog 77 #[.pointer (some ⟨o, 0, none⟩)] w fun x w' => ∃ sa n cap, x = .returned (.slice sa n cap) ∧ MRow w.heap.size w' (.slice sa n cap) [bare endM] ∧ ReAt w' o pl d b1 b2 ⟨s, g, l, true⟩ ∧ Kept [o] w w' := by
  have c3 := h.four.2.2.2
  have hf := h.box.frozen 3
  go_enter Tryz.func77, Tryz.ntmps77
  go_wp2_with fail
  go_ret
  have hz : (w.setCell ⟨o, 3, none⟩ (.bool true)).heap.size = w.heap.size := by simp
  have hr := row_end (w.setCell ⟨o, 3, none⟩ (.bool true))
  rw [hz] at hr
  have hk := kept_alloc [] (w.setCell ⟨o, 3, none⟩ (.bool true)) (.cells #[.int .i64 8, .int .i64 0, .int .i64 0, .int .u64 0, .bool false, .slice none 0 0] 26)
  exact ⟨_, _, _, rfl, hr, h.ended.kept0 hk, (kept_set (by simp) _ _ _).trans (hk.mono (by simp))⟩
set_option maxRecDepth 100000 in
set_option maxHeartbeats 1000000 in
/-- strike: of an extent that is not left. -/
theorem strike_miss (o pl d b1 b2 : Nat) (s : Dk) (g e : Bool) (l : Nat) (x : Mv) (w : World) (h : ReAt w o pl d b1 b2 ⟨s, g, l, e⟩) (hh : has l x.o = false) :
    Calls Tryz.prog 88 #[.pointer (some ⟨o, 0, none⟩), x.val] w fun v w' => v = .returned (.tuple #[.slice none 0 0, .int .i64 0]) ∧ Kept [] w w' := by
  obtain ⟨W0, hW0, hX, hk0, hz⟩ := boxed w x
  have h0 := (h.kept0 hk0).kept0 (kept_drew [] W0)
  have c0 := h0.four.1
  have a2 := (hX.kept (kept_drew [] W0) (by simp)).six.2.2.1
  obtain ⟨m, hp⟩ := h0.plan
  have q1 := Plan.left_any W0.drew hp
  have q2 := Bits.has_any l x.o W0.drew hp.2.2
  rw [hh] at q2
  have hk1 := hk0.trans (kept_drew [] W0)
  unfold Mv.val
  go_enter Tryz.func88, Tryz.ntmps88
  go_upto_region 1 with fail
  go_region_held3 (fun W => W.cell? ⟨o, 0, none⟩ = some (.pointer (some ⟨pl, 0, none⟩)) ∧ W.cell? ⟨w.heap.size, 2, none⟩ = some (.int .i64 x.o)) (exact ⟨c0, a2⟩) (first
    | (go_at_call 55; refine q1.mono ?_; rintro v w1 ⟨rfl, rfl⟩)
    | (go_at_call 131; refine q2.mono ?_; rintro v w1 ⟨rfl, rfl⟩))
  go_wp2_with fail
  go_ret2
  exact ⟨rfl, hk1⟩
set_option maxRecDepth 100000 in
set_option maxHeartbeats 2000000 in
/-- strike: of one whose Told fails. -/
theorem strike_bad (o pl d b1 b2 : Nat) (s : Dk) (g e : Bool) (l : Nat) (x : Mv) (hops : s.ops ≤ 999998) (w : World) (h : ReAt w o pl d b1 b2 ⟨s, g, l, e⟩) (hh : has l x.o = true) (he : toldE s x.o ≠ 0) :
    Calls Tryz.prog 88 #[.pointer (some ⟨o, 0, none⟩), x.val] w fun v w' => v = .returned (.tuple #[.slice none 0 0, .int .i64 (toldE s x.o : Nat)]) ∧ ReAt w' o pl d b1 b2 ⟨toldS s x.o, g, l, e⟩ ∧ Kept [d, b1, b2] w w' := by
  obtain ⟨W0, hW0, hX, hk0, hz⟩ := boxed w x
  have h0 := (h.kept0 hk0).kept0 (kept_drew [] W0)
  have c0 := h0.four.1
  have c1 := (h0.kept0 (kept_drew [] W0.drew)).four.2.1
  have a2 := (hX.kept (kept_drew [] W0) (by simp)).six.2.2.1
  have a2' := ((hX.kept (kept_drew [] W0) (by simp)).kept (kept_drew [] W0.drew) (by simp)).six.2.2.1
  obtain ⟨m, hp⟩ := h0.plan
  have q1 := Plan.left_any W0.drew hp
  have q2 := Bits.has_any l x.o W0.drew hp.2.2
  rw [hh] at q2
  have hk1 := (hk0.trans (kept_drew [] W0)).trans (kept_drew [] W0.drew)
  have h1 := h0.kept0 (kept_drew [] W0.drew)
  have q3 := told_any d b1 b2 s x.o hops W0.drew.drew h1.disk
  have ne : ((toldE s x.o : Int) != 0) = true := by simp; omega
  generalize toldE s x.o = E at *
  generalize toldS s x.o = s' at *
  generalize toldX s x.o = X at *
  unfold Mv.val
  go_enter Tryz.func88, Tryz.ntmps88
  go_upto_region 1 with fail
  go_region_held3 (fun W => W.cell? ⟨o, 0, none⟩ = some (.pointer (some ⟨pl, 0, none⟩)) ∧ W.cell? ⟨w.heap.size, 2, none⟩ = some (.int .i64 x.o)) (exact ⟨c0, a2⟩) (first
    | (go_at_call 55; refine q1.mono ?_; rintro v w1 ⟨rfl, rfl⟩)
    | (go_at_call 131; refine q2.mono ?_; rintro v w1 ⟨rfl, rfl⟩))
  go_wp2_with fail
  go_region_held3 (fun W => W.cell? ⟨o, 1, none⟩ = some (.pointer (some ⟨d, 0, none⟩)) ∧ W.cell? ⟨w.heap.size, 2, none⟩ = some (.int .i64 x.o)) (exact ⟨c1, a2'⟩) (first
    | (go_at_call 132; refine q3.mono ?_; rintro v w1 ⟨rfl, hD, hk2⟩; have h2 := h1.turned hD hk2; have hX2 := ((hX.kept (kept_drew [] W0) (by simp)).kept (kept_drew [] W0.drew) (by simp)).kept hk2 (by have := h.lt; simp; omega); replace c1 := h2.four.2.1; replace a2' := hX2.six.2.2.1))
  go_wp2_with fail
  go_ret2
  exact ⟨rfl, h2, (hk1.mono (by simp)).trans hk2⟩
set_option maxRecDepth 100000 in
set_option maxHeartbeats 4000000 in
/-- strike: of one that is told. -/
theorem strike_go (o pl d b1 b2 : Nat) (s : Dk) (g e : Bool) (l : Nat) (x : Mv) (hops : s.ops ≤ 999998) (w : World) (h : ReAt w o pl d b1 b2 ⟨s, g, l, e⟩) (hh : has l x.o = true) (he : toldE s x.o = 0) :
    Calls Tryz.prog 88 #[.pointer (some ⟨o, 0, none⟩), x.val] w fun v w' => ∃ sa n cap, v = .returned (.tuple #[.slice sa n cap, .int .i64 0]) ∧ MRow w.heap.size w' (.slice sa n cap) (if without l x.o = 0 then [bare endM] else []) ∧ ReAt w' o pl d b1 b2 ⟨toldS s x.o, g, without l x.o, if without l x.o = 0 then true else e⟩ ∧ Kept [o, pl, d, b1, b2] w w' := by
  obtain ⟨W0, hW0, hX, hk0, hz⟩ := boxed w x
  have h0 := (h.kept0 hk0).kept0 (kept_drew [] W0)
  have c0 := h0.four.1
  have hX0 := hX.kept (kept_drew [] W0) (by simp)
  have a2 := hX0.six.2.2.1
  have h1 := h0.kept0 (kept_drew [] W0.drew)
  have c1 := h1.four.2.1
  have hX1 := hX0.kept (kept_drew [] W0.drew) (by simp)
  have b2' := hX1.six.2.2.1
  obtain ⟨m, hp⟩ := h0.plan
  have q1 := Plan.left_any W0.drew hp
  have q2 := Bits.has_any l x.o W0.drew hp.2.2
  rw [hh] at q2
  have hk1 := (hk0.trans (kept_drew [] W0)).trans (kept_drew [] W0.drew)
  have q3 := told_any d b1 b2 s x.o hops W0.drew.drew h1.disk
  rw [he] at q3
  have q4 := fun W m (h : Plan.PlAt W pl m l) => Plan.have_any x.o W h
  have q5 := fun W m (h : Plan.PlAt W pl m (without l x.o)) => Plan.over_any W h
  have q6 := fun W (h : ReAt W o pl d b1 b2 ⟨toldS s x.o, g, without l x.o, e⟩) => close_any o pl d b1 b2 _ _ _ _ W h
  have hlt := h.lt
  have ne := h.ne
  generalize toldS s x.o = s' at *
  generalize toldX s x.o = X at *
  generalize without l x.o = l' at *
  clear he h
  unfold Mv.val
  go_enter Tryz.func88, Tryz.ntmps88
  go_upto_region 1 with fail
  go_region_held3 (fun W => W.cell? ⟨o, 0, none⟩ = some (.pointer (some ⟨pl, 0, none⟩)) ∧ W.cell? ⟨w.heap.size, 2, none⟩ = some (.int .i64 x.o)) (exact ⟨c0, a2⟩) (first
    | (go_at_call 55; refine q1.mono ?_; rintro v w1 ⟨rfl, rfl⟩)
    | (go_at_call 131; refine q2.mono ?_; rintro v w1 ⟨rfl, rfl⟩))
  go_wp2_with fail
  go_region_held3 (fun W => W.cell? ⟨o, 1, none⟩ = some (.pointer (some ⟨d, 0, none⟩)) ∧ W.cell? ⟨w.heap.size, 2, none⟩ = some (.int .i64 x.o)) (exact ⟨c1, b2'⟩) (first
    | (go_at_call 132; refine q3.mono ?_; rintro v w1 ⟨rfl, hD, hk2⟩; have h2 := h1.turned hD hk2; have hX2 := hX1.kept hk2 (by simp; omega); replace c1 := h2.four.2.1; replace b2' := hX2.six.2.2.1))
  have h3 := h2.kept0 (kept_drew [] w1)
  have d0 := h3.four.1
  have hX3 := hX2.kept (kept_drew [] w1) (by simp)
  have d2 := hX3.six.2.2.1
  have hkk := ((hk1.mono (by simp)).trans hk2).trans (kept_drew [d, b1, b2] w1)
  obtain ⟨m3, hp3⟩ := h3.plan
  replace q4 := q4 _ _ hp3
  go_upto_region 6 with fail
  go_region_held3 (fun W => W.cell? ⟨o, 0, none⟩ = some (.pointer (some ⟨pl, 0, none⟩)) ∧ W.cell? ⟨w.heap.size, 2, none⟩ = some (.int .i64 x.o)) (exact ⟨d0, d2⟩) (first
    | (go_at_call 133; refine q4.mono ?_; rintro v w4 ⟨rfl, hp4, hk4⟩; have h4 := h3.struck hp4 hk4; have hX4 := hX3.kept hk4 (by simp; omega); replace d0 := h4.four.1; replace d2 := hX4.six.2.2.1))
  have hk5 : Kept [o, pl, d, b1, b2] w w4 := (hkk.mono (by simp)).trans (hk4.mono (by simp))
  replace q5 := q5 _ _ hp4
  replace q6 := q6 _ h4
  by_cases hz0 : l' = 0
  · have dz : decide (l' = 0) = true := by simpa using hz0
    rw [dz] at q5
    go_wp2_with (first
      | (go_at_call 76; refine q5.mono ?_; rintro v w5 ⟨rfl, rfl⟩)
      | (go_at_call 77; refine q6.mono ?_; rintro v w6 ⟨sa, n, cap, rfl, hr, h6, hk6⟩))
    go_ret2
    rw [hz0] at h6
    exact ⟨sa, n, cap, rfl, hr.low hk5.size, h6, hk5.trans (hk6.mono (by simp))⟩
  · have dz : decide (l' = 0) = false := by simpa using hz0
    rw [dz] at q5
    go_wp2_with (first
      | (go_at_call 76; refine q5.mono ?_; rintro v w5 ⟨rfl, rfl⟩))
    go_ret2
    exact ⟨_, _, _, rfl, MRow.nil _ _, h4, hk5⟩
set_option maxRecDepth 100000 in
theorem step_store_blk {ops : Array Oper} {o : Oper} {a : Act} {w : World} {K : Act → World → Prop} {Q : Exit → Act → World → Prop} {E : Prop} (hgd : o.guard = none) (ty : TypeId) (x y : Operand) (ho : o.op = .store ty x y) (g : Nat) (t : TypeId) (c0 : Array Value) (cs : List Value)
    (hx : a.eval x = .pointer (some ⟨g, 0, none⟩)) (hy : a.eval y = .agg cs.toArray) (h0 : Blk w g t c0) (hl : cs.length = c0.size) (hi : (Tryz.prog.info? ty).map (·.size) = some cs.length) (h1 : ∀ v ∈ cs, v.oneCell' = true)
    (h : ∀ w', Blk w' g t cs.toArray → Kept [g] w w' → K (a.put o.dst undef) w') : if Region.wanted o (yielded ops a.tmps) = true then Oper.wp Tryz.prog o a w K Q else E := by
  have hw : Region.wanted o (yielded ops a.tmps) = true := by simp [Region.wanted, hgd]
  rw [if_pos hw]
  refine wp_store_mid ty x y ho g 0 cs.toArray hx hy ?_ (by simpa using hi) (all_oneCell_toArray h1) ?_
  · intro j hj
    rw [Nat.zero_add]
    refine ⟨?_, h0.frozen j⟩
    rw [h0.cell]
    simp at hj
    simp [show j < c0.size by omega]
  · have e : w.setCells g 0 cs = w.setRow g cs.toArray := setCells_row h0 hl h1
    refine h _ ?_ ?_
    · simp only [] at *
      rw [e]
      exact setRow_heap w g _ _ t _ h0
    · simp only [] at *
      rw [e]
      exact ⟨rfl, rfl, rfl, by simp [World.setRow], fun k _ hk => setRow_other w g k _ (by simpa using hk)⟩
set_option maxRecDepth 100000 in
set_option maxHeartbeats 4000000 in
/-- put: its Put tells an error. -/
theorem put_fails (o pl d b1 b2 : Nat) (s : Dk) (g e : Bool) (l : Nat) (x : Mv) (lo hi : Nat) (hops : s.ops ≤ 900000) (w : World) (h : ReAt w o pl d b1 b2 ⟨s, g, l, e⟩) (hx : x.At lo hi w) (hhi : hi ≤ w.heap.size) (hlen : x.len ≤ 9223372036854775807) (hap : ∀ k ∈ [d, b1, b2], k < lo ∨ hi ≤ k) (he : extE s x.ms ≠ 0) :
    Calls Tryz.prog 89 #[.pointer (some ⟨o, 0, none⟩), x.val] w fun v w' => v = .returned (.tuple #[.slice none 0 0, .int .i64 (extE s x.ms : Nat)]) ∧ ReAt w' o pl d b1 b2 ⟨extS s x.ms, g, l, e⟩ ∧ Kept [d, b1, b2] w w' := by
  obtain ⟨W0, hW0, hX, hk0, hz⟩ := boxed w x
  have hlt := h.lt
  have ne := h.ne
  have h0 := h.kept0 hk0
  have qp := fun W (hk : Kept [] W0 W) => Copying.put_any d b1 b2 s x lo hi W (h0.kept0 hk).disk hops (hx.kept hhi (hk0.trans hk) (by simp)) (Nat.le_trans hhi (hk0.trans hk).size) hlen hap
  have tn := fun A B (hk : Kept [] W0 A) (hd : DiskAt B d b1 b2 (extS s x.ms)) (hk2 : Kept [d, b1, b2] A B) => (h0.kept0 hk).turned hd hk2
  have nE : ((extE s x.ms : Int) != 0) = true := by simp; omega
  generalize extE s x.ms = E at *
  generalize extS s x.ms = s' at *
  generalize extV s x.ms = u at *
  obtain ⟨uk, ui, uo, um, us, usa, ulen, ucap, ud⟩ := u
  have cS : ∀ W, Kept [d, b1, b2] W0 W → W.cell? ⟨o, 1, none⟩ = some (.pointer (some ⟨d, 0, none⟩)) := fun W hk => ((h0.box.kept hk (by simp; omega)).cell 1).trans rfl
  have xS : ∀ W, Kept [d, b1, b2] W0 W → x.In W w.heap.size := fun W hk => hX.kept hk (by simp; omega)
  have hkd : Kept [] W0 W0.drew := kept_drew [] W0
  have hkf : Kept [] W0 (W0.drew.alloc (.cells #[.int .i64 0, .int .i64 0, .int .i64 0, .int .u64 0, .bool false, .slice none 0 0] 26)) := (kept_drew [] W0).trans (kept_alloc [] _ _)
  have hze := zero_new W0.drew
  have hzn : W0.drew.heap.size ∉ [d, b1, b2] := by
    have := h0.lt
    show W0.heap.size ∉ _
    simp
    omega
  clear hap hx hhi hlen hops
  unfold Mv.val at *
  go_enter Tryz.func89, Tryz.ntmps89
  go_upto_region 1 with fail
  go_cut [6, 7] from 8 (fun s6 s7 W => s7 = .int .i64 (E : Int) ∧ ReAt W o pl d b1 b2 ⟨s', g, l, e⟩ ∧ Kept [d, b1, b2] W0 W)
  case first =>
    refine wp_region_held_drew (S := fun A => Kept [d, b1, b2] W0 A) (by kernel_rfl) (kept_drew [d, b1, b2] W0) (fun hP => ?_)
    have hH := hP
    clear hP
    refine wpAnyH_take (i := 0) (oi := { dst := some 9, op := Op.move (Operand.tmp 0), type := 113, pos := "resync.go:136", after := #[], guard := none }) (v := (.pointer (some ⟨o, 0, none⟩))) rfl (by kernel_rfl) (by kernel_rfl) (by kernel_rfl) (fun _ _ _ h => h) (Or.inl ⟨by rfl, fun W hSw => by go_simp⟩) hH ?_
    try simp only [Act.put, List.setIfInBounds_toArray, List.set_cons_zero, List.set_cons_succ]
    refine wpAnyH_take (i := 1) (oi := { dst := some 10, op := Op.nilCheck (Operand.tmp 9), type := 0, pos := "resync.go:136", after := #[{ on := 0, ground := Ground.data }], guard := none }) (v := (.pointer (some ⟨o, 0, none⟩))) rfl (by kernel_rfl) (by kernel_rfl) (by kernel_rfl) (fun _ _ _ h => h) (Or.inl ⟨by rfl, fun W hSw => by go_simp⟩) hH ?_
    try simp only [Act.put, List.setIfInBounds_toArray, List.set_cons_zero, List.set_cons_succ]
    refine wpAnyH_take (i := 2) (oi := { dst := some 11, op := Op.fieldAddr 86 (Operand.tmp 10) 1, type := 0, pos := "resync.go:136", after := #[{ on := 1, ground := Ground.data }], guard := none }) (v := (.pointer (some ⟨o, 1, none⟩))) rfl (by kernel_rfl) (by kernel_rfl) (by kernel_rfl) (fun _ _ _ h => h) (Or.inl ⟨by rfl, fun W hSw => by go_simp⟩) hH ?_
    try simp only [Act.put, List.setIfInBounds_toArray, List.set_cons_zero, List.set_cons_succ]
    refine wpAnyH_take (i := 3) (oi := { dst := some 12, op := Op.load 30 (Operand.tmp 11), type := 30, pos := "resync.go:136", after := #[{ on := 2, ground := Ground.data }], guard := none }) (v := (.pointer (some ⟨d, 0, none⟩))) rfl (by kernel_rfl) (by kernel_rfl) (by kernel_rfl) (fun _ _ _ h => h) (Or.inl ⟨by rfl, fun W hSw => by have c := cS W hSw; go_simp⟩) hH ?_
    try simp only [Act.put, List.setIfInBounds_toArray, List.set_cons_zero, List.set_cons_succ]
    refine wpAnyH_take (i := 4) (oi := { dst := some 13, op := Op.load 26 (Operand.tmp 3), type := 26, pos := "resync.go:136", after := #[], guard := none }) (v := (.agg #[.int .i64 x.k, .int .i64 x.i, .int .i64 x.o, .int .u64 (x.m : Int), .bool x.s, .slice x.sa x.len x.cap])) rfl (by kernel_rfl) (by kernel_rfl) (by kernel_rfl) (fun _ _ _ h => h) (Or.inl ⟨by rfl, fun W hSw => by obtain ⟨a0, a1, a2, a3, a4, a5⟩ := (xS W hSw).six; go_simp⟩) hH ?_
    try simp only [Act.put, List.setIfInBounds_toArray, List.set_cons_zero, List.set_cons_succ]
    refine wpAnyH_ready (rs := [5, 9]) (by kernel_rfl) (by simp) ?_
    refine AllReadyH.cons (o := { dst := some 14, op := Op.call { callee := Callee.value (Operand.func 134), args := #[Operand.tmp 12, Operand.tmp 13], argTypes := #[30, 26] }, type := 146, pos := "resync.go:136", after := #[{ on := 3, ground := Ground.data }, { on := 4, ground := Ground.data }], guard := none }) rfl (fun KK hKK => ?_) (AllReadyH.cons (o := { dst := some 6, op := Op.alloc 26, type := 0, pos := "resync.go:136", after := #[], guard := none }) rfl (fun KK hKK => ?_) AllReadyH.nil)
    · go_simp
      refine (qp _ hkd).mono ?_
      rintro v w1 ⟨rfl, hD, hk2⟩
      go_wp2_with fail
      have hH1 := (hkd.mono (by simp)).trans hk2
      refine hKK.out _ _ hH1 (fun _ => ?_)
      replace hH := hH1
      clear hKK KK hH1
      try simp only [Act.put, List.setIfInBounds_toArray, List.set_cons_zero, List.set_cons_succ]
      refine wpAnyH_take (i := 6) (oi := { dst := some 8, op := Op.move (Operand.tmp 14), type := 146, pos := "resync.go:136", after := #[{ on := 5, ground := Ground.data }], guard := none }) (v := (.tuple #[.agg #[.int .i64 uk, .int .i64 ui, .int .i64 uo, .int .u64 (um : Int), .bool us, .slice usa ulen ucap], .int .i64 (E : Int)])) rfl (by kernel_rfl) (by kernel_rfl) (by kernel_rfl) (fun _ _ _ h => h) (Or.inl ⟨by rfl, fun W hSw => by go_simp⟩) hH ?_
      try simp only [Act.put, List.setIfInBounds_toArray, List.set_cons_zero, List.set_cons_succ]
      refine wpAnyH_take (i := 7) (oi := { dst := some 15, op := Op.extract (Operand.tmp 8) 0, type := 26, pos := "resync.go:136", after := #[{ on := 6, ground := Ground.data }], guard := none }) (v := (.agg #[.int .i64 uk, .int .i64 ui, .int .i64 uo, .int .u64 (um : Int), .bool us, .slice usa ulen ucap])) rfl (by kernel_rfl) (by kernel_rfl) (by kernel_rfl) (fun _ _ _ h => h) (Or.inl ⟨by rfl, fun W hSw => by go_simp⟩) hH ?_
      try simp only [Act.put, List.setIfInBounds_toArray, List.set_cons_zero, List.set_cons_succ]
      refine wpAnyH_take (i := 8) (oi := { dst := some 16, op := Op.extract (Operand.tmp 8) 1, type := 31, pos := "resync.go:136", after := #[{ on := 6, ground := Ground.data }, { on := 10, ground := Ground.gcOnly Departure.lateStores }], guard := none }) (v := (.int .i64 (E : Int))) rfl (by kernel_rfl) (by kernel_rfl) (by kernel_rfl) (fun _ _ _ h => h) (Or.inl ⟨by rfl, fun W hSw => by go_simp⟩) hH ?_
      try simp only [Act.put, List.setIfInBounds_toArray, List.set_cons_zero, List.set_cons_succ]
      refine wpAnyH_ready (rs := [9]) (by kernel_rfl) (by simp) ?_
      refine AllReadyH.cons (o := { dst := some 6, op := Op.alloc 26, type := 0, pos := "resync.go:136", after := #[], guard := none }) rfl (fun KK hKK => ?_) AllReadyH.nil
      go_simp
      have hH1 := hH.trans (kept_alloc [d, b1, b2] _ (.cells #[.int .i64 0, .int .i64 0, .int .i64 0, .int .u64 0, .bool false, .slice none 0 0] 26))
      refine hKK.out _ _ hH1 (fun _ => ?_)
      replace hH := hH1
      clear hKK KK hH1
      try simp only [Act.put, List.setIfInBounds_toArray, List.set_cons_zero, List.set_cons_succ]
      have hb := zero_new w1
      have hge : W0.heap.size ≤ w1.heap.size := Nat.le_trans hkd.size hk2.size
      have h3 := (tn _ _ hkd hD hk2).kept0 (kept_alloc [] w1 (.cells #[.int .i64 0, .int .i64 0, .int .i64 0, .int .u64 0, .bool false, .slice none 0 0] 26))
      have hl3 := (tn _ _ hkd hD hk2).lt
      refine wpAnyH_ready (rs := [10]) (by kernel_rfl) (by simp) ?_
      refine AllReadyH.cons (o := { dst := none, op := Op.store 26 (Operand.tmp 6) (Operand.tmp 15), type := 0, pos := "resync.go:136", after := #[{ on := 9, ground := Ground.data }, { on := 7, ground := Ground.data }, { on := 5, ground := Ground.chain }, { on := 0, ground := Ground.phase }, { on := 1, ground := Ground.phase }, { on := 2, ground := Ground.phase }, { on := 3, ground := Ground.phase }, { on := 4, ground := Ground.phase }, { on := 5, ground := Ground.phase }, { on := 6, ground := Ground.phase }, { on := 7, ground := Ground.phase }, { on := 8, ground := Ground.textOnly Departure.lateStores }, { on := 9, ground := Ground.phase }], guard := none }) rfl (fun KK hKK => ?_) AllReadyH.nil
      refine step_store_blk rfl 26 (.tmp 6) (.tmp 15) rfl (w1.heap.size) 26 _ [.int .i64 uk, .int .i64 ui, .int .i64 uo, .int .u64 (um : Int), .bool us, .slice usa ulen ucap] (by simp [Act.eval]) (by simp [Act.eval]) hb rfl Pack.Tryz.sizeM (by simp [Value.oneCell']) ?_
      intro w5 hb5 hk5
      have hH1 := hH.young (g := w1.heap.size) (hk5.mono (by simp)) hge
      refine hKK.out _ _ hH1 (fun _ => ?_)
      replace hH := hH1
      clear hKK KK hH1
      refine wpAnyH_take (i := 11) (oi := { dst := some 7, op := Op.assign (Operand.tmp 16), type := 31, pos := "resync.go:136", after := #[{ on := 8, ground := Ground.data }, { on := 10, ground := Ground.chain }, { on := 0, ground := Ground.phase }, { on := 1, ground := Ground.phase }, { on := 2, ground := Ground.phase }, { on := 3, ground := Ground.phase }, { on := 4, ground := Ground.phase }, { on := 5, ground := Ground.phase }, { on := 6, ground := Ground.phase }, { on := 7, ground := Ground.phase }, { on := 8, ground := Ground.phase }, { on := 9, ground := Ground.phase }, { on := 10, ground := Ground.phase }], guard := none }) (v := (.int .i64 (E : Int))) rfl (by kernel_rfl) (by kernel_rfl) (by kernel_rfl) (fun _ _ _ h => h) (Or.inl ⟨by rfl, fun W hSw => by go_simp⟩) hH ?_
      refine wpAnyH_done (by kernel_rfl) ?_ _
      go_wp2_with fail
      go_meet
      case rel => exact ⟨rfl, h3.kept hk5 (by have := hl3; simp; omega), hH⟩
    · go_simp
      have hH1 := hH.trans (kept_alloc [d, b1, b2] _ (.cells #[.int .i64 0, .int .i64 0, .int .i64 0, .int .u64 0, .bool false, .slice none 0 0] 26))
      refine hKK.out _ _ hH1 (fun _ => ?_)
      replace hH := hH1
      clear hKK KK hH1
      try simp only [Act.put, List.setIfInBounds_toArray, List.set_cons_zero, List.set_cons_succ]
      refine wpAnyH_ready (rs := [5]) (by kernel_rfl) (by simp) ?_
      refine AllReadyH.cons (o := { dst := some 14, op := Op.call { callee := Callee.value (Operand.func 134), args := #[Operand.tmp 12, Operand.tmp 13], argTypes := #[30, 26] }, type := 146, pos := "resync.go:136", after := #[{ on := 3, ground := Ground.data }, { on := 4, ground := Ground.data }], guard := none }) rfl (fun KK hKK => ?_) AllReadyH.nil
      go_simp
      refine (qp _ hkf).mono ?_
      rintro v w1 ⟨rfl, hD, hk2⟩
      go_wp2_with fail
      have hH1 := (hkf.mono (by simp)).trans hk2
      refine hKK.out _ _ hH1 (fun _ => ?_)
      replace hH := hH1
      clear hKK KK hH1
      try simp only [Act.put, List.setIfInBounds_toArray, List.set_cons_zero, List.set_cons_succ]
      refine wpAnyH_take (i := 6) (oi := { dst := some 8, op := Op.move (Operand.tmp 14), type := 146, pos := "resync.go:136", after := #[{ on := 5, ground := Ground.data }], guard := none }) (v := (.tuple #[.agg #[.int .i64 uk, .int .i64 ui, .int .i64 uo, .int .u64 (um : Int), .bool us, .slice usa ulen ucap], .int .i64 (E : Int)])) rfl (by kernel_rfl) (by kernel_rfl) (by kernel_rfl) (fun _ _ _ h => h) (Or.inl ⟨by rfl, fun W hSw => by go_simp⟩) hH ?_
      try simp only [Act.put, List.setIfInBounds_toArray, List.set_cons_zero, List.set_cons_succ]
      refine wpAnyH_take (i := 7) (oi := { dst := some 15, op := Op.extract (Operand.tmp 8) 0, type := 26, pos := "resync.go:136", after := #[{ on := 6, ground := Ground.data }], guard := none }) (v := (.agg #[.int .i64 uk, .int .i64 ui, .int .i64 uo, .int .u64 (um : Int), .bool us, .slice usa ulen ucap])) rfl (by kernel_rfl) (by kernel_rfl) (by kernel_rfl) (fun _ _ _ h => h) (Or.inl ⟨by rfl, fun W hSw => by go_simp⟩) hH ?_
      try simp only [Act.put, List.setIfInBounds_toArray, List.set_cons_zero, List.set_cons_succ]
      refine wpAnyH_take (i := 8) (oi := { dst := some 16, op := Op.extract (Operand.tmp 8) 1, type := 31, pos := "resync.go:136", after := #[{ on := 6, ground := Ground.data }, { on := 10, ground := Ground.gcOnly Departure.lateStores }], guard := none }) (v := (.int .i64 (E : Int))) rfl (by kernel_rfl) (by kernel_rfl) (by kernel_rfl) (fun _ _ _ h => h) (Or.inl ⟨by rfl, fun W hSw => by go_simp⟩) hH ?_
      try simp only [Act.put, List.setIfInBounds_toArray, List.set_cons_zero, List.set_cons_succ]
      have hb := hze.kept hk2 hzn
      have hge : W0.heap.size ≤ W0.heap.size := Nat.le_refl _
      have h3 := tn _ _ hkf hD hk2
      have hl3 := h0.lt
      refine wpAnyH_ready (rs := [10]) (by kernel_rfl) (by simp) ?_
      refine AllReadyH.cons (o := { dst := none, op := Op.store 26 (Operand.tmp 6) (Operand.tmp 15), type := 0, pos := "resync.go:136", after := #[{ on := 9, ground := Ground.data }, { on := 7, ground := Ground.data }, { on := 5, ground := Ground.chain }, { on := 0, ground := Ground.phase }, { on := 1, ground := Ground.phase }, { on := 2, ground := Ground.phase }, { on := 3, ground := Ground.phase }, { on := 4, ground := Ground.phase }, { on := 5, ground := Ground.phase }, { on := 6, ground := Ground.phase }, { on := 7, ground := Ground.phase }, { on := 8, ground := Ground.textOnly Departure.lateStores }, { on := 9, ground := Ground.phase }], guard := none }) rfl (fun KK hKK => ?_) AllReadyH.nil
      refine step_store_blk rfl 26 (.tmp 6) (.tmp 15) rfl (W0.heap.size) 26 _ [.int .i64 uk, .int .i64 ui, .int .i64 uo, .int .u64 (um : Int), .bool us, .slice usa ulen ucap] (by simp [Act.eval]) (by simp [Act.eval]) hb rfl Pack.Tryz.sizeM (by simp [Value.oneCell']) ?_
      intro w5 hb5 hk5
      have hH1 := hH.young (g := W0.heap.size) (hk5.mono (by simp)) hge
      refine hKK.out _ _ hH1 (fun _ => ?_)
      replace hH := hH1
      clear hKK KK hH1
      refine wpAnyH_take (i := 11) (oi := { dst := some 7, op := Op.assign (Operand.tmp 16), type := 31, pos := "resync.go:136", after := #[{ on := 8, ground := Ground.data }, { on := 10, ground := Ground.chain }, { on := 0, ground := Ground.phase }, { on := 1, ground := Ground.phase }, { on := 2, ground := Ground.phase }, { on := 3, ground := Ground.phase }, { on := 4, ground := Ground.phase }, { on := 5, ground := Ground.phase }, { on := 6, ground := Ground.phase }, { on := 7, ground := Ground.phase }, { on := 8, ground := Ground.phase }, { on := 9, ground := Ground.phase }, { on := 10, ground := Ground.phase }], guard := none }) (v := (.int .i64 (E : Int))) rfl (by kernel_rfl) (by kernel_rfl) (by kernel_rfl) (fun _ _ _ h => h) (Or.inl ⟨by rfl, fun W hSw => by go_simp⟩) hH ?_
      refine wpAnyH_done (by kernel_rfl) ?_ _
      go_wp2_with fail
      go_meet
      case rel => exact ⟨rfl, h3.kept hk5 (by have := hl3; simp; omega), hH⟩
  case rest =>
    obtain ⟨rfl, hR, hk⟩ := hcut
    go_wp2_with fail
    go_ret2
    exact ⟨rfl, hR, (hk0.mono (by simp)).trans hk⟩
theorem ext_told {s : Dk} {m : Ms} (h : extE s m = 0) : extV s m = haveV m.o := by
  unfold extE at h
  by_cases g : isExt m = true
  · rw [if_pos g] at h
    exact if_pos ⟨g, h⟩
  · rw [if_neg g] at h
    cases h
set_option maxRecDepth 100000 in
set_option maxHeartbeats 4000000 in
/-- put: of an extent that is put. -/
theorem put_goes (o pl d b1 b2 : Nat) (s : Dk) (g e : Bool) (l : Nat) (x : Mv) (lo hi : Nat) (hops : s.ops ≤ 900000) (w : World) (h : ReAt w o pl d b1 b2 ⟨s, g, l, e⟩) (hx : x.At lo hi w) (hhi : hi ≤ w.heap.size) (hlen : x.len ≤ 9223372036854775807) (hap : ∀ k ∈ [d, b1, b2], k < lo ∨ hi ≤ k) (he : extE s x.ms = 0) :
    Calls Tryz.prog 89 #[.pointer (some ⟨o, 0, none⟩), x.val] w fun v w' => ∃ sa n cap, v = .returned (.tuple #[.slice sa n cap, .int .i64 0]) ∧ MRow w.heap.size w' (.slice sa n cap) [bare (haveM x.o)] ∧ ReAt w' o pl d b1 b2 ⟨extS s x.ms, g, without l x.o, e⟩ ∧ Kept [o, pl, d, b1, b2] w w' := by
  obtain ⟨W0, hW0, hX, hk0, hz⟩ := boxed w x
  have hlt := h.lt
  have ne := h.ne
  have h0 := h.kept0 hk0
  have qp := fun W (hk : Kept [] W0 W) => Copying.put_any d b1 b2 s x lo hi W (h0.kept0 hk).disk hops (hx.kept hhi (hk0.trans hk) (by simp)) (Nat.le_trans hhi (hk0.trans hk).size) hlen hap
  have tn := fun A B (hk : Kept [] W0 A) (hd : DiskAt B d b1 b2 (extS s x.ms)) (hk2 : Kept [d, b1, b2] A B) => (h0.kept0 hk).turned hd hk2
  rw [he, ext_told he] at qp
  change ∀ (W : World), Kept [] W0 W → Calls Tryz.prog 134 #[.pointer (some ⟨d, 0, none⟩), x.val] W (fun r w' => r = .returned (.tuple #[.agg #[.int .i64 7, .int .i64 0, .int .i64 x.o, .int .u64 0, .bool false, .slice none 0 0], .int .i64 0]) ∧ DiskAt w' d b1 b2 (extS s x.ms) ∧ Kept [d, b1, b2] W w') at qp
  generalize extS s x.ms = s' at *
  have cS : ∀ W, Kept [d, b1, b2] W0 W → W.cell? ⟨o, 1, none⟩ = some (.pointer (some ⟨d, 0, none⟩)) := fun W hk => ((h0.box.kept hk (by simp; omega)).cell 1).trans rfl
  have xS : ∀ W, Kept [d, b1, b2] W0 W → x.In W w.heap.size := fun W hk => hX.kept hk (by simp; omega)
  have hkd : Kept [] W0 W0.drew := kept_drew [] W0
  have hkf : Kept [] W0 (W0.drew.alloc (.cells #[.int .i64 0, .int .i64 0, .int .i64 0, .int .u64 0, .bool false, .slice none 0 0] 26)) := (kept_drew [] W0).trans (kept_alloc [] _ _)
  have hze := zero_new W0.drew
  have hzn : W0.drew.heap.size ∉ [d, b1, b2] := by
    have := h0.lt
    show W0.heap.size ∉ _
    simp
    omega
  clear hap hx hhi hlen hops
  unfold Mv.val at *
  go_enter Tryz.func89, Tryz.ntmps89
  go_upto_region 1 with fail
  go_cut [6, 7] from 8 (fun s6 s7 W => ∃ bm, s6 = .pointer (some ⟨bm, 0, none⟩) ∧ s7 = .int .i64 0 ∧ W0.heap.size ≤ bm ∧ Blk W bm 26 #[.int .i64 7, .int .i64 0, .int .i64 x.o, .int .u64 0, .bool false, .slice none 0 0] ∧ x.In W w.heap.size ∧ ReAt W o pl d b1 b2 ⟨s', g, l, e⟩ ∧ Kept [d, b1, b2] W0 W)
  case first =>
    refine wp_region_held_drew (S := fun A => Kept [d, b1, b2] W0 A) (by kernel_rfl) (kept_drew [d, b1, b2] W0) (fun hP => ?_)
    have hH := hP
    clear hP
    refine wpAnyH_take (i := 0) (oi := { dst := some 9, op := Op.move (Operand.tmp 0), type := 113, pos := "resync.go:136", after := #[], guard := none }) (v := (.pointer (some ⟨o, 0, none⟩))) rfl (by kernel_rfl) (by kernel_rfl) (by kernel_rfl) (fun _ _ _ h => h) (Or.inl ⟨by rfl, fun W hSw => by go_simp⟩) hH ?_
    try simp only [Act.put, List.setIfInBounds_toArray, List.set_cons_zero, List.set_cons_succ]
    refine wpAnyH_take (i := 1) (oi := { dst := some 10, op := Op.nilCheck (Operand.tmp 9), type := 0, pos := "resync.go:136", after := #[{ on := 0, ground := Ground.data }], guard := none }) (v := (.pointer (some ⟨o, 0, none⟩))) rfl (by kernel_rfl) (by kernel_rfl) (by kernel_rfl) (fun _ _ _ h => h) (Or.inl ⟨by rfl, fun W hSw => by go_simp⟩) hH ?_
    try simp only [Act.put, List.setIfInBounds_toArray, List.set_cons_zero, List.set_cons_succ]
    refine wpAnyH_take (i := 2) (oi := { dst := some 11, op := Op.fieldAddr 86 (Operand.tmp 10) 1, type := 0, pos := "resync.go:136", after := #[{ on := 1, ground := Ground.data }], guard := none }) (v := (.pointer (some ⟨o, 1, none⟩))) rfl (by kernel_rfl) (by kernel_rfl) (by kernel_rfl) (fun _ _ _ h => h) (Or.inl ⟨by rfl, fun W hSw => by go_simp⟩) hH ?_
    try simp only [Act.put, List.setIfInBounds_toArray, List.set_cons_zero, List.set_cons_succ]
    refine wpAnyH_take (i := 3) (oi := { dst := some 12, op := Op.load 30 (Operand.tmp 11), type := 30, pos := "resync.go:136", after := #[{ on := 2, ground := Ground.data }], guard := none }) (v := (.pointer (some ⟨d, 0, none⟩))) rfl (by kernel_rfl) (by kernel_rfl) (by kernel_rfl) (fun _ _ _ h => h) (Or.inl ⟨by rfl, fun W hSw => by have c := cS W hSw; go_simp⟩) hH ?_
    try simp only [Act.put, List.setIfInBounds_toArray, List.set_cons_zero, List.set_cons_succ]
    refine wpAnyH_take (i := 4) (oi := { dst := some 13, op := Op.load 26 (Operand.tmp 3), type := 26, pos := "resync.go:136", after := #[], guard := none }) (v := (.agg #[.int .i64 x.k, .int .i64 x.i, .int .i64 x.o, .int .u64 (x.m : Int), .bool x.s, .slice x.sa x.len x.cap])) rfl (by kernel_rfl) (by kernel_rfl) (by kernel_rfl) (fun _ _ _ h => h) (Or.inl ⟨by rfl, fun W hSw => by obtain ⟨a0, a1, a2, a3, a4, a5⟩ := (xS W hSw).six; go_simp⟩) hH ?_
    try simp only [Act.put, List.setIfInBounds_toArray, List.set_cons_zero, List.set_cons_succ]
    refine wpAnyH_ready (rs := [5, 9]) (by kernel_rfl) (by simp) ?_
    refine AllReadyH.cons (o := { dst := some 14, op := Op.call { callee := Callee.value (Operand.func 134), args := #[Operand.tmp 12, Operand.tmp 13], argTypes := #[30, 26] }, type := 146, pos := "resync.go:136", after := #[{ on := 3, ground := Ground.data }, { on := 4, ground := Ground.data }], guard := none }) rfl (fun KK hKK => ?_) (AllReadyH.cons (o := { dst := some 6, op := Op.alloc 26, type := 0, pos := "resync.go:136", after := #[], guard := none }) rfl (fun KK hKK => ?_) AllReadyH.nil)
    · go_simp
      refine (qp _ hkd).mono ?_
      rintro v w1 ⟨rfl, hD, hk2⟩
      go_wp2_with fail
      have hH1 := (hkd.mono (by simp)).trans hk2
      refine hKK.out _ _ hH1 (fun _ => ?_)
      replace hH := hH1
      clear hKK KK hH1
      try simp only [Act.put, List.setIfInBounds_toArray, List.set_cons_zero, List.set_cons_succ]
      refine wpAnyH_take (i := 6) (oi := { dst := some 8, op := Op.move (Operand.tmp 14), type := 146, pos := "resync.go:136", after := #[{ on := 5, ground := Ground.data }], guard := none }) (v := (.tuple #[.agg #[.int .i64 7, .int .i64 0, .int .i64 x.o, .int .u64 0, .bool false, .slice none 0 0], .int .i64 0])) rfl (by kernel_rfl) (by kernel_rfl) (by kernel_rfl) (fun _ _ _ h => h) (Or.inl ⟨by rfl, fun W hSw => by go_simp⟩) hH ?_
      try simp only [Act.put, List.setIfInBounds_toArray, List.set_cons_zero, List.set_cons_succ]
      refine wpAnyH_take (i := 7) (oi := { dst := some 15, op := Op.extract (Operand.tmp 8) 0, type := 26, pos := "resync.go:136", after := #[{ on := 6, ground := Ground.data }], guard := none }) (v := (.agg #[.int .i64 7, .int .i64 0, .int .i64 x.o, .int .u64 0, .bool false, .slice none 0 0])) rfl (by kernel_rfl) (by kernel_rfl) (by kernel_rfl) (fun _ _ _ h => h) (Or.inl ⟨by rfl, fun W hSw => by go_simp⟩) hH ?_
      try simp only [Act.put, List.setIfInBounds_toArray, List.set_cons_zero, List.set_cons_succ]
      refine wpAnyH_take (i := 8) (oi := { dst := some 16, op := Op.extract (Operand.tmp 8) 1, type := 31, pos := "resync.go:136", after := #[{ on := 6, ground := Ground.data }, { on := 10, ground := Ground.gcOnly Departure.lateStores }], guard := none }) (v := (.int .i64 0)) rfl (by kernel_rfl) (by kernel_rfl) (by kernel_rfl) (fun _ _ _ h => h) (Or.inl ⟨by rfl, fun W hSw => by go_simp⟩) hH ?_
      try simp only [Act.put, List.setIfInBounds_toArray, List.set_cons_zero, List.set_cons_succ]
      refine wpAnyH_ready (rs := [9]) (by kernel_rfl) (by simp) ?_
      refine AllReadyH.cons (o := { dst := some 6, op := Op.alloc 26, type := 0, pos := "resync.go:136", after := #[], guard := none }) rfl (fun KK hKK => ?_) AllReadyH.nil
      go_simp
      have hH1 := hH.trans (kept_alloc [d, b1, b2] _ (.cells #[.int .i64 0, .int .i64 0, .int .i64 0, .int .u64 0, .bool false, .slice none 0 0] 26))
      refine hKK.out _ _ hH1 (fun _ => ?_)
      replace hH := hH1
      clear hKK KK hH1
      try simp only [Act.put, List.setIfInBounds_toArray, List.set_cons_zero, List.set_cons_succ]
      have hb := zero_new w1
      have hge : W0.heap.size ≤ w1.heap.size := Nat.le_trans hkd.size hk2.size
      have h3 := (tn _ _ hkd hD hk2).kept0 (kept_alloc [] w1 (.cells #[.int .i64 0, .int .i64 0, .int .i64 0, .int .u64 0, .bool false, .slice none 0 0] 26))
      have hl3 := (tn _ _ hkd hD hk2).lt
      refine wpAnyH_ready (rs := [10]) (by kernel_rfl) (by simp) ?_
      refine AllReadyH.cons (o := { dst := none, op := Op.store 26 (Operand.tmp 6) (Operand.tmp 15), type := 0, pos := "resync.go:136", after := #[{ on := 9, ground := Ground.data }, { on := 7, ground := Ground.data }, { on := 5, ground := Ground.chain }, { on := 0, ground := Ground.phase }, { on := 1, ground := Ground.phase }, { on := 2, ground := Ground.phase }, { on := 3, ground := Ground.phase }, { on := 4, ground := Ground.phase }, { on := 5, ground := Ground.phase }, { on := 6, ground := Ground.phase }, { on := 7, ground := Ground.phase }, { on := 8, ground := Ground.textOnly Departure.lateStores }, { on := 9, ground := Ground.phase }], guard := none }) rfl (fun KK hKK => ?_) AllReadyH.nil
      refine step_store_blk rfl 26 (.tmp 6) (.tmp 15) rfl (w1.heap.size) 26 _ [.int .i64 7, .int .i64 0, .int .i64 x.o, .int .u64 0, .bool false, .slice none 0 0] (by simp [Act.eval]) (by simp [Act.eval]) hb rfl Pack.Tryz.sizeM (by simp [Value.oneCell']) ?_
      intro w5 hb5 hk5
      have hH1 := hH.young (g := w1.heap.size) (hk5.mono (by simp)) hge
      refine hKK.out _ _ hH1 (fun _ => ?_)
      replace hH := hH1
      clear hKK KK hH1
      refine wpAnyH_take (i := 11) (oi := { dst := some 7, op := Op.assign (Operand.tmp 16), type := 31, pos := "resync.go:136", after := #[{ on := 8, ground := Ground.data }, { on := 10, ground := Ground.chain }, { on := 0, ground := Ground.phase }, { on := 1, ground := Ground.phase }, { on := 2, ground := Ground.phase }, { on := 3, ground := Ground.phase }, { on := 4, ground := Ground.phase }, { on := 5, ground := Ground.phase }, { on := 6, ground := Ground.phase }, { on := 7, ground := Ground.phase }, { on := 8, ground := Ground.phase }, { on := 9, ground := Ground.phase }, { on := 10, ground := Ground.phase }], guard := none }) (v := (.int .i64 0)) rfl (by kernel_rfl) (by kernel_rfl) (by kernel_rfl) (fun _ _ _ h => h) (Or.inl ⟨by rfl, fun W hSw => by go_simp⟩) hH ?_
      refine wpAnyH_done (by kernel_rfl) ?_ _
      go_wp2_with fail
      go_meet
      case rel => exact ⟨w1.heap.size, rfl, rfl, hge, hb5, xS _ hH, h3.kept hk5 (by have := hl3; simp; omega), hH⟩
    · go_simp
      have hH1 := hH.trans (kept_alloc [d, b1, b2] _ (.cells #[.int .i64 0, .int .i64 0, .int .i64 0, .int .u64 0, .bool false, .slice none 0 0] 26))
      refine hKK.out _ _ hH1 (fun _ => ?_)
      replace hH := hH1
      clear hKK KK hH1
      try simp only [Act.put, List.setIfInBounds_toArray, List.set_cons_zero, List.set_cons_succ]
      refine wpAnyH_ready (rs := [5]) (by kernel_rfl) (by simp) ?_
      refine AllReadyH.cons (o := { dst := some 14, op := Op.call { callee := Callee.value (Operand.func 134), args := #[Operand.tmp 12, Operand.tmp 13], argTypes := #[30, 26] }, type := 146, pos := "resync.go:136", after := #[{ on := 3, ground := Ground.data }, { on := 4, ground := Ground.data }], guard := none }) rfl (fun KK hKK => ?_) AllReadyH.nil
      go_simp
      refine (qp _ hkf).mono ?_
      rintro v w1 ⟨rfl, hD, hk2⟩
      go_wp2_with fail
      have hH1 := (hkf.mono (by simp)).trans hk2
      refine hKK.out _ _ hH1 (fun _ => ?_)
      replace hH := hH1
      clear hKK KK hH1
      try simp only [Act.put, List.setIfInBounds_toArray, List.set_cons_zero, List.set_cons_succ]
      refine wpAnyH_take (i := 6) (oi := { dst := some 8, op := Op.move (Operand.tmp 14), type := 146, pos := "resync.go:136", after := #[{ on := 5, ground := Ground.data }], guard := none }) (v := (.tuple #[.agg #[.int .i64 7, .int .i64 0, .int .i64 x.o, .int .u64 0, .bool false, .slice none 0 0], .int .i64 0])) rfl (by kernel_rfl) (by kernel_rfl) (by kernel_rfl) (fun _ _ _ h => h) (Or.inl ⟨by rfl, fun W hSw => by go_simp⟩) hH ?_
      try simp only [Act.put, List.setIfInBounds_toArray, List.set_cons_zero, List.set_cons_succ]
      refine wpAnyH_take (i := 7) (oi := { dst := some 15, op := Op.extract (Operand.tmp 8) 0, type := 26, pos := "resync.go:136", after := #[{ on := 6, ground := Ground.data }], guard := none }) (v := (.agg #[.int .i64 7, .int .i64 0, .int .i64 x.o, .int .u64 0, .bool false, .slice none 0 0])) rfl (by kernel_rfl) (by kernel_rfl) (by kernel_rfl) (fun _ _ _ h => h) (Or.inl ⟨by rfl, fun W hSw => by go_simp⟩) hH ?_
      try simp only [Act.put, List.setIfInBounds_toArray, List.set_cons_zero, List.set_cons_succ]
      refine wpAnyH_take (i := 8) (oi := { dst := some 16, op := Op.extract (Operand.tmp 8) 1, type := 31, pos := "resync.go:136", after := #[{ on := 6, ground := Ground.data }, { on := 10, ground := Ground.gcOnly Departure.lateStores }], guard := none }) (v := (.int .i64 0)) rfl (by kernel_rfl) (by kernel_rfl) (by kernel_rfl) (fun _ _ _ h => h) (Or.inl ⟨by rfl, fun W hSw => by go_simp⟩) hH ?_
      try simp only [Act.put, List.setIfInBounds_toArray, List.set_cons_zero, List.set_cons_succ]
      have hb := hze.kept hk2 hzn
      have hge : W0.heap.size ≤ W0.heap.size := Nat.le_refl _
      have h3 := tn _ _ hkf hD hk2
      have hl3 := h0.lt
      refine wpAnyH_ready (rs := [10]) (by kernel_rfl) (by simp) ?_
      refine AllReadyH.cons (o := { dst := none, op := Op.store 26 (Operand.tmp 6) (Operand.tmp 15), type := 0, pos := "resync.go:136", after := #[{ on := 9, ground := Ground.data }, { on := 7, ground := Ground.data }, { on := 5, ground := Ground.chain }, { on := 0, ground := Ground.phase }, { on := 1, ground := Ground.phase }, { on := 2, ground := Ground.phase }, { on := 3, ground := Ground.phase }, { on := 4, ground := Ground.phase }, { on := 5, ground := Ground.phase }, { on := 6, ground := Ground.phase }, { on := 7, ground := Ground.phase }, { on := 8, ground := Ground.textOnly Departure.lateStores }, { on := 9, ground := Ground.phase }], guard := none }) rfl (fun KK hKK => ?_) AllReadyH.nil
      refine step_store_blk rfl 26 (.tmp 6) (.tmp 15) rfl (W0.heap.size) 26 _ [.int .i64 7, .int .i64 0, .int .i64 x.o, .int .u64 0, .bool false, .slice none 0 0] (by simp [Act.eval]) (by simp [Act.eval]) hb rfl Pack.Tryz.sizeM (by simp [Value.oneCell']) ?_
      intro w5 hb5 hk5
      have hH1 := hH.young (g := W0.heap.size) (hk5.mono (by simp)) hge
      refine hKK.out _ _ hH1 (fun _ => ?_)
      replace hH := hH1
      clear hKK KK hH1
      refine wpAnyH_take (i := 11) (oi := { dst := some 7, op := Op.assign (Operand.tmp 16), type := 31, pos := "resync.go:136", after := #[{ on := 8, ground := Ground.data }, { on := 10, ground := Ground.chain }, { on := 0, ground := Ground.phase }, { on := 1, ground := Ground.phase }, { on := 2, ground := Ground.phase }, { on := 3, ground := Ground.phase }, { on := 4, ground := Ground.phase }, { on := 5, ground := Ground.phase }, { on := 6, ground := Ground.phase }, { on := 7, ground := Ground.phase }, { on := 8, ground := Ground.phase }, { on := 9, ground := Ground.phase }, { on := 10, ground := Ground.phase }], guard := none }) (v := (.int .i64 0)) rfl (by kernel_rfl) (by kernel_rfl) (by kernel_rfl) (fun _ _ _ h => h) (Or.inl ⟨by rfl, fun W hSw => by go_simp⟩) hH ?_
      refine wpAnyH_done (by kernel_rfl) ?_ _
      go_wp2_with fail
      go_meet
      case rel => exact ⟨W0.heap.size, rfl, rfl, hge, hb5, xS _ hH, h3.kept hk5 (by have := hl3; simp; omega), hH⟩
  case rest =>
    obtain ⟨bm, rfl, rfl, hbm, hB, hXc, hR, hk⟩ := hcut
    have hRd := hR.kept0 (kept_drew [] wc)
    have hBd := hB.kept (kept_drew [] wc) (by simp)
    have hXd := hXc.kept (kept_drew [] wc) (by simp)
    have c0 := hRd.four.1
    have a2 := hXd.six.2.2.1
    obtain ⟨m, hp⟩ := hRd.plan
    have q4 := Plan.have_any x.o _ hp
    have hkd2 : Kept [d, b1, b2] w wc.drew := ((hk0.mono (by simp)).trans hk).trans (kept_drew _ _)
    have hlc := hR.lt
    have hl0 := h0.lt
    go_upto_region 4 with fail
    go_region_held3 (fun W => W.cell? ⟨o, 0, none⟩ = some (.pointer (some ⟨pl, 0, none⟩)) ∧ W.cell? ⟨w.heap.size, 2, none⟩ = some (.int .i64 x.o)) (exact ⟨c0, a2⟩) (first
      | (go_at_call 133; refine q4.mono ?_; rintro v w4 ⟨rfl, hp4, hk4⟩; have h4 := hRd.struck hp4 hk4; have hX4 := hXd.kept hk4 (by simp; omega); replace c0 := h4.four.1; replace a2 := hX4.six.2.2.1))
    have hB4 := hBd.kept hk4 (by simp; omega)
    have f0 := hB4.cell 0
    have f1 := hB4.cell 1
    have f2 := hB4.cell 2
    have f3 := hB4.cell 3
    have f4 := hB4.cell 4
    have f5 := hB4.cell 5
    simp at f0 f1 f2 f3 f4 f5
    have hkz : Kept [o, pl, d, b1, b2] w w4 := (hkd2.mono (by simp)).trans (hk4.mono (by simp))
    go_wp2_with fail
    go_ret2
    exact ⟨_, _, _, rfl, (row_have w4 x.o).low hkz.size, h4.kept0 (kept_alloc [] w4 _), hkz.trans (kept_alloc _ w4 _)⟩
end Go.Proofs.YtfiofdmefgkloaaGreat.Resync
