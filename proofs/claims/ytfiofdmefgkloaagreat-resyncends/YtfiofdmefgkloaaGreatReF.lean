/-
  Begin of a resync, whole.
-/
import Derived.Test.YtfiofdmefgkloaaGreatReE
namespace Go.Proofs.YtfiofdmefgkloaaGreat.Resync
open Go.RowKit
open Math Copying
open Pack (Mv Ms mv0 good)
open Bits.Math (has without elems)

theorem nodeB (n : Int) (h : n = 0 ∨ n = 1) : decide (n = 0 ∨ n = 1) = true := by simpa using h
set_option maxRecDepth 100000 in
set_option maxHeartbeats 4000000 in
/-- Begin, of what may not be -/
theorem begin_arg (p : Option Addr) (who sectors : Int) (x y : Mv) (hxl : x.len = x.d.length) (hxn : x.len ≤ 9223372036854775807) (hyl : y.len = y.d.length) (hyn : y.len ≤ 9223372036854775807) (w : World) (hno : greetB x.ms = false ∨ greetB y.ms = false ∨ decide (who = 0 ∨ who = 1) = false) :
    Calls Tryz.prog 10 #[.pointer p, .int .i64 who, .int .i64 sectors, x.val, y.val] w fun e w' => e = .returned (.tuple #[.pointer none, .slice none 0 0, .int .i64 2]) ∧ Kept [] w w' := by
  obtain ⟨W0, hW0, hX, hk0, hz0⟩ := boxed w x
  obtain ⟨W1, hW1, hY, hk1, hz1⟩ := boxed W0 y
  have hX1 := hX.kept hk1 (by simp)
  have hk01 := hk0.trans hk1
  have q1 := fun W => isGreet_any x hxl hxn W
  have q2 := fun W => isGreet_any y hyl hyn W
  have q3 := fun W => isNode_any who W
  generalize greetB x.ms = G1 at *
  generalize greetB y.ms = G2 at *
  generalize decide (who = 0 ∨ who = 1) = G3 at *
  have fx : ∀ W, Kept [] W1 W → _ := fun W hk => (hX1.kept hk (by simp)).six
  have fy : ∀ W, Kept [] W1 W → _ := fun W hk => (hY.kept hk (by simp)).six
  obtain ⟨a0, a1, a2, a3, a4, a5⟩ := fx W1 (Kept.refl _ _)
  obtain ⟨b0, b1, b2, b3, b4, b5⟩ := fy W1 (Kept.refl _ _)
  clear hxl hxn hyl hyn hX hY hX1 hk0 hk1
  obtain ⟨k, i, o, m, s, sa, len, cap, d⟩ := x
  obtain ⟨k', i', o', m', s', sa', len', cap', d'⟩ := y
  simp only [Mv.val] at *
  cases G1 with
  | false =>
    go_enter Tryz.func10, Tryz.ntmps10
    go_wp2_with (go_at_call 32; refine (q1 _).mono ?_; rintro e w1 ⟨rfl, hk2⟩)
    go_ret3
    exact ⟨rfl, hk01.trans hk2⟩
  | true =>
    cases G2 with
    | false =>
      go_enter Tryz.func10, Tryz.ntmps10
      go_wp2_with (first
        | (go_at_call 32; refine (q1 _).mono ?_; clear q1; rintro e w1 ⟨rfl, hk2⟩; obtain ⟨f0, f1, f2, f3, f4, f5⟩ := fy w1 hk2)
        | (go_at_call 32; refine (q2 _).mono ?_; rintro e w2 ⟨rfl, hk3⟩))
      go_ret3
      exact ⟨rfl, (hk01.trans hk2).trans hk3⟩
    | true =>
      have e3 : G3 = false := by
        rcases hno with h | h | h
        · cases h
        · cases h
        · exact h
      subst e3
      go_enter Tryz.func10, Tryz.ntmps10
      go_wp2_with (first
        | (go_at_call 32; refine (q1 _).mono ?_; clear q1; rintro e w1 ⟨rfl, hk2⟩; obtain ⟨f0, f1, f2, f3, f4, f5⟩ := fy w1 hk2)
        | (go_at_call 32; refine (q2 _).mono ?_; clear q2; rintro e w2 ⟨rfl, hk3⟩)
        | (go_at_call 33; refine (q3 _).mono ?_; clear q3; rintro e w2 ⟨rfl, rfl⟩))
      go_ret3
      exact ⟨rfl, (hk01.trans hk2).trans hk3⟩
set_option maxRecDepth 100000 in
set_option maxHeartbeats 4000000 in
/-- Begin, where its Retire fails (what it does is handed in) -/
theorem begin_bad (p : Option Addr) (who sectors : Int) (x y : Mv) (hxl : x.len = x.d.length) (hxn : x.len ≤ 9223372036854775807) (hyl : y.len = y.d.length) (hyn : y.len ≤ 9223372036854775807) (hxm : x.m < 18446744073709551616) (hym : y.m < 18446744073709551616) (hs0 : -9223372036854775808 ≤ sectors) (hs1 : sectors ≤ 9223372036854775807)
    (hgx : greetB x.ms = true) (hgy : greetB y.ms = true) (hwho : who = 0 ∨ who = 1) (E : Nat) (hE : E ≠ 0) (P : World → Prop) (L : List Nat) (w : World)
    (q5 : ∀ W, Kept [] w W → Calls Tryz.prog 35 #[.pointer p, .int .u64 ((Role.uni x.m y.m sectors : Nat) : Int)] W fun e w' => e = .returned (.int .i64 (E : Int)) ∧ P w' ∧ Kept L W w') :
    Calls Tryz.prog 10 #[.pointer p, .int .i64 who, .int .i64 sectors, x.val, y.val] w fun e w' => e = .returned (.tuple #[.pointer none, .slice none 0 0, .int .i64 (E : Int)]) ∧ P w' ∧ Kept L w w' := by
  obtain ⟨W0, hW0, hX, hk0, hz0⟩ := boxed w x
  obtain ⟨W1, hW1, hY, hk1, hz1⟩ := boxed W0 y
  have hX1 := hX.kept hk1 (by simp)
  have hk01 := hk0.trans hk1
  have q1 := fun W => isGreet_any x hxl hxn W
  have q2 := fun W => isGreet_any y hyl hyn W
  have q3 := fun W => isNode_any who W
  rw [hgx] at q1
  rw [hgy] at q2
  rw [nodeB who hwho] at q3
  have q4 := fun W => Role.union_any x.m y.m sectors hxm hym hs0 hs1 W
  generalize Role.uni x.m y.m sectors = z at *
  have fx : ∀ W, Kept [] W1 W → _ := fun W hk => (hX1.kept hk (by simp)).six
  have fy : ∀ W, Kept [] W1 W → _ := fun W hk => (hY.kept hk (by simp)).six
  obtain ⟨a0, a1, a2, a3, a4, a5⟩ := fx W1 (Kept.refl _ _)
  obtain ⟨b0, b1, b2, b3, b4, b5⟩ := fy W1 (Kept.refl _ _)
  clear hxl hxn hyl hyn hX hY hX1 hk0 hk1 hgx hgy hs0 hs1 hxm hym
  have nE : ((E : Int) != 0) = true := by simp; omega
  obtain ⟨k, i, o, m, s, sa, len, cap, d⟩ := x
  obtain ⟨k', i', o', m', s', sa', len', cap', d'⟩ := y
  simp only [Mv.val] at *
  go_enter Tryz.func10, Tryz.ntmps10
  go_wp2_with (first
    | (go_at_call 32; refine (q1 _).mono ?_; clear q1; rintro e w1 ⟨rfl, hk2⟩; obtain ⟨f0, f1, f2, f3, f4, f5⟩ := fy w1 hk2)
    | (go_at_call 32; refine (q2 _).mono ?_; clear q2; rintro e w2 ⟨rfl, hk3⟩; have hk23 := hk2.trans hk3; obtain ⟨g0, g1, g2, g3, g4, g5⟩ := fy w2 hk23; obtain ⟨d0, d1, d2, d3, d4, d5⟩ := fx w2 hk23)
    | (go_at_call 33; refine (q3 _).mono ?_; clear q3; rintro e w2 ⟨rfl, rfl⟩)
    | (go_at_call 34; refine (q4 _).mono ?_; clear q4; rintro e w2 ⟨rfl, rfl⟩)
    | (go_at_call 35; refine (q5 _ (hk01.trans hk23)).mono ?_; clear q5; rintro e w5 ⟨rfl, hP, hk5⟩))
  go_ret3
  exact ⟨rfl, hP, ((hk01.trans hk23).mono (by simp)).trans hk5⟩
set_option maxRecDepth 100000 in
set_option maxHeartbeats 8000000 in
/-- Begin, where its Retire is done -/
theorem begin_go (d b1 b2 : Nat) (s : Dk) (who sectors : Int) (x y : Mv) (hxl : x.len = x.d.length) (hxn : x.len ≤ 9223372036854775807) (hyl : y.len = y.d.length) (hyn : y.len ≤ 9223372036854775807) (hxm : x.m < 18446744073709551616) (hym : y.m < 18446744073709551616) (hs0 : -9223372036854775808 ≤ sectors) (hs1 : sectors ≤ 9223372036854775807)
    (hgx : greetB x.ms = true) (hgy : greetB y.ms = true) (hwho : who = 0 ∨ who = 1) (hops : s.ops ≤ 900000) (hr0 : retE s (Role.uni x.m y.m sectors) = 0)
    (hg : Role.gives who x.s y.s = true → ∀ e ∈ elems (Role.uni x.m y.m sectors), gotE (retS s (Role.uni x.m y.m sectors)) (Span.wOff (e : Nat)) (Span.wLen (e : Nat)) = 0) (w : World) (hD : DiskAt w d b1 b2 s) :
    Calls Tryz.prog 10 #[.pointer (some ⟨d, 0, none⟩), .int .i64 who, .int .i64 sectors, x.val, y.val] w fun e w' => ∃ o pl sa n cap P lo, e = .returned (.tuple #[.pointer (some ⟨o, 0, none⟩), .slice sa n cap, .int .i64 0]) ∧ ReAt w' o pl d b1 b2 (beginR (retS s (Role.uni x.m y.m sectors)) (Role.uni x.m y.m sectors) (Role.gives who x.s y.s)) ∧ (w.heap.size ≤ o ∧ w.heap.size ≤ pl ∧ o < lo ∧ pl < lo ∧ w.heap.size ≤ lo ∧ lo ≤ w'.heap.size) ∧ MRow lo w' (.slice sa n cap) P ∧ P.map Mv.ms = beginL (retS s (Role.uni x.m y.m sectors)) (Role.uni x.m y.m sectors) (Role.gives who x.s y.s) ∧ (∀ v ∈ P, v.At lo w'.heap.size w') ∧ Kept [d, b1, b2] w w' := by
  obtain ⟨W0, hW0, hX, hk0, hz0⟩ := boxed w x
  obtain ⟨W1, hW1, hY, hk1, hz1⟩ := boxed W0 y
  have hX1 := hX.kept hk1 (by simp)
  have hk01 := hk0.trans hk1
  have q1 := fun W => isGreet_any x hxl hxn W
  have q2 := fun W => isGreet_any y hyl hyn W
  have q3 := fun W => isNode_any who W
  rw [hgx] at q1
  rw [hgy] at q2
  rw [nodeB who hwho] at q3
  have q4 := fun W => Role.union_any x.m y.m sectors hxm hym hs0 hs1 W
  have hz := Role.uni_lt x.m y.m sectors hxm hym
  have hDl := hD.lt
  have q5 := fun W (h : DiskAt W d b1 b2 s) => retire_any d b1 b2 s (Role.uni x.m y.m sectors) hz (by omega) W h
  rw [hr0] at q5
  have q6 := fun W => Plan.new_any (Role.uni x.m y.m sectors) hz W
  have q7 := fun W => Role.source_any who x.s y.s W
  generalize Role.uni x.m y.m sectors = z at *
  generalize Role.gives who x.s y.s = g at *
  have q8 := fun o pl W h hp => open_any o pl d b1 b2 (retS s z) g z hg W h hp
  generalize retS s z = t at *
  have hD1 := hD.kept hk01 (by simp) (by simp) (by simp)
  have fx : ∀ W, Kept [d, b1, b2] W1 W → x.In W w.heap.size := fun W hk => hX1.kept hk (by simp; omega)
  have hw0 := hk0.size
  have fy : ∀ W, Kept [d, b1, b2] W1 W → y.In W W0.heap.size := fun W hk => hY.kept hk (by simp; omega)
  obtain ⟨a0, a1, a2, a3, a4, a5⟩ := (fx W1 (Kept.refl _ _)).six
  obtain ⟨c0, c1, c2, c3, c4, c5⟩ := (fy W1 (Kept.refl _ _)).six
  clear hxl hxn hyl hyn hX hY hX1 hk0 hk1 hgx hgy hs0 hs1 hxm hym hg hr0 hops hD
  obtain ⟨k, i, o, m, sx, sa, len, cap, dx⟩ := x
  obtain ⟨k', i', o', m', sy, sa', len', cap', dy⟩ := y
  simp only [Mv.val] at *
  go_enter Tryz.func10, Tryz.ntmps10
  go_upto_region 7 with (first
    | (go_at_call 32; refine (q1 _).mono ?_; clear q1; rintro e w1 ⟨rfl, hk2⟩; obtain ⟨f0, f1, f2, f3, f4, f5⟩ := (fy w1 (hk2.mono (by simp))).six)
    | (go_at_call 32; refine (q2 _).mono ?_; clear q2; rintro e w2 ⟨rfl, hk3⟩; have hk23 := hk2.trans hk3; obtain ⟨g0, g1, g2, g3, g4, g5⟩ := (fy w2 (hk23.mono (by simp))).six; obtain ⟨d0, d1, d2, d3, d4, d5⟩ := (fx w2 (hk23.mono (by simp))).six; have hD2 := hD1.kept hk23 (by simp) (by simp) (by simp))
    | (go_at_call 33; refine (q3 _).mono ?_; clear q3; rintro e w2 ⟨rfl, rfl⟩)
    | (go_at_call 34; refine (q4 _).mono ?_; clear q4; rintro e w2 ⟨rfl, rfl⟩)
    | (go_at_call 35; refine (q5 _ hD2).mono ?_; clear q5; rintro e w5 ⟨rfl, hD5, hk5⟩))
  have hkR : Kept [d, b1, b2] W1 w5 := (hk23.mono (by simp)).trans hk5
  have hX5 := fx w5.drew (hkR.trans (kept_drew _ _))
  have hY5 := fy w5.drew (hkR.trans (kept_drew _ _))
  have p4 := hX5.six.2.2.2.2.1
  have r4 := hY5.six.2.2.2.2.1
  clear a0 a1 a2 a3 a4 a5 c0 c1 c2 c3 c4 c5 f0 f1 f2 f3 f4 f5 g0 g1 g2 g3 g4 g5 d0 d1 d2 d3 d4 d5 fx fy
  have hW5 : w.heap.size ≤ w5.heap.size := Nat.le_trans hk01.size hkR.size
  replace q6 : Calls Tryz.prog 36 #[.int .u64 (z : Int)] w5.drew fun e w' => e = .returned (.pointer (some ⟨w5.heap.size, 0, none⟩)) ∧ Plan.PlAt w' w5.heap.size z z ∧ Hid (w'.heap.size = w5.heap.size + 1) ∧ Kept [] w5.drew w' := q6 _
  simp only at p4 r4
  go_region_held3 (fun W => W.cell? ⟨w.heap.size, 4, none⟩ = some (.bool sx) ∧ W.cell? ⟨W0.heap.size, 4, none⟩ = some (.bool sy)) (first | exact ⟨p4, r4⟩ | exact ⟨p5, r5⟩) (first
    | (go_at_call 36; refine q6.mono ?_; rintro e w6 ⟨rfl, hp6, hz6, hk6⟩; have hX6 := hX5.kept hk6 (by simp); have hY6 := hY5.kept hk6 (by simp); replace p4 := hX6.six.2.2.2.2.1; replace r4 := hY6.six.2.2.2.2.1; simp only at p4 r4)
    | (go_at_call 37; refine (q7 _).mono ?_; rintro e w7 ⟨rfl, hB7⟩; have hk7 := Kept.of_below hB7 []; have hX7 := hX6.kept hk7 (by simp); have hY7 := hY6.kept hk7 (by simp); replace p4 := hX7.six.2.2.2.2.1; replace r4 := hY7.six.2.2.2.2.1; simp only at p4 r4; have hkb := kept_alloc [] w7 (.cells #[.pointer (some ⟨w5.heap.size, 0, none⟩), .pointer (some ⟨d, 0, none⟩), .bool g, .bool false] 88); have p5 := (hX7.kept hkb (by simp)).six.2.2.2.2.1; have r5 := (hY7.kept hkb (by simp)).six.2.2.2.2.1; simp only at p5 r5))
  have hb := blk_new w7 88 #[.pointer (some ⟨w5.heap.size, 0, none⟩), .pointer (some ⟨d, 0, none⟩), .bool g, .bool false]
  have hkA : Kept [] w5 (w7.alloc (.cells #[.pointer (some ⟨w5.heap.size, 0, none⟩), .pointer (some ⟨d, 0, none⟩), .bool g, .bool false] 88)) := (((kept_drew [] w5).trans hk6).trans hk7).trans hkb
  have hpA := (hp6.kept hk7 (by simp)).kept hkb (by simp)
  have hl5 := hD5.lt
  have hs6 := hz6.out
  have hs7 := hk7.size
  have hRA : ReAt (w7.alloc (.cells #[.pointer (some ⟨w5.heap.size, 0, none⟩), .pointer (some ⟨d, 0, none⟩), .bool g, .bool false] 88)) w7.heap.size w5.heap.size d b1 b2 ⟨t, g, z, false⟩ :=
    ⟨hb, ⟨z, hpA⟩, hD5.kept hkA (by simp) (by simp) (by simp), ⟨by omega, ⟨by omega, by omega, by omega⟩, by omega, by omega, by omega⟩⟩
  replace q8 := q8 _ _ _ hRA hpA
  have hsA : (w7.alloc (.cells #[.pointer (some ⟨w5.heap.size, 0, none⟩), .pointer (some ⟨d, 0, none⟩), .bool g, .bool false] 88)).heap.size = w7.heap.size + 1 := by simp
  have hKA : Kept [d, b1, b2] w (w7.alloc (.cells #[.pointer (some ⟨w5.heap.size, 0, none⟩), .pointer (some ⟨d, 0, none⟩), .bool g, .bool false] 88)) := ((hk01.mono (by simp)).trans hkR).trans (hkA.mono (by simp))
  clear hX5 hY5 hX6 hY6 hX7 hY7 p4 r4 p5 r5
  go_wp2_with (first
    | (go_at_call 38; refine q8.mono ?_; rintro e w9 ⟨sa9, n9, cap9, P, rfl, hr9, hms, hmem, hR9, hk9⟩))
  go_ret3
  rw [hsA] at hr9 hmem
  have hs9 := hk9.size
  exact ⟨_, _, sa9, n9, cap9, P, w7.heap.size + 1, rfl, hR9, ⟨by omega, by omega, by omega, by omega, by omega, by omega⟩, hr9, hms, hmem, hKA.young (g := w7.heap.size) (hk9.mono (by simp)) (by omega)⟩
end Go.Proofs.YtfiofdmefgkloaaGreat.Resync
