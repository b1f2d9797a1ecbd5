/-
  An act of CopyingActs, in a block; the walk of CopyingNone.
-/
import Derived.Test.YtcmfejgimnjbgaaGreatCpG
import Derived.Test.YtcmfejgimnjbgaaGreatPkE
namespace Go.Proofs.YtcmfejgimnjbgaaGreat.Copying
open Go.RowKit
open Math
open Pack (Mv Ms mv0 good)

/-- An act. -/
structure Ac where
  k : Int
  t : Int
  m : Nat
  x : Mv
def Ac.cells (a : Ac) : List Value := [.int .i64 a.k, .int .i64 a.t, .int .u64 (a.m : Int), .int .i64 a.x.k, .int .i64 a.x.i, .int .i64 a.x.o, .int .u64 (a.x.m : Int), .bool a.x.s, .slice a.x.sa a.x.len a.x.cap]
theorem Ac.one (a : Ac) : ∀ v ∈ a.cells, v.oneCell' = true := by
  intro v hv
  simp only [Ac.cells, List.mem_cons, List.not_mem_nil, or_false] at hv
  rcases hv with rfl | rfl | rfl | rfl | rfl | rfl | rfl | rfl | rfl <;> rfl
set_option maxRecDepth 100000 in
theorem Tryz.size36 : (Tryz.prog.info? 36).map (·.size) = some 9 := by kernel_rfl
/-- A block that holds an act. -/
def Ac.In (a : Ac) (W : World) (g : Nat) : Prop := Blk W g 36 a.cells.toArray
theorem Ac.In.kept {L : List Nat} {A B : World} {g : Nat} {a : Ac} (h : a.In A g) (hK : Kept L A B) (hg : g ∉ L) : a.In B g := Blk.kept h hK hg
theorem Ac.In.nine {a : Ac} {W : World} {g : Nat} (h : a.In W g) : W.cell? ⟨g, 0, none⟩ = some (.int .i64 a.k) ∧ W.cell? ⟨g, 1, none⟩ = some (.int .i64 a.t) ∧ W.cell? ⟨g, 2, none⟩ = some (.int .u64 (a.m : Int)) ∧
    W.cell? ⟨g, 3, none⟩ = some (.int .i64 a.x.k) ∧ W.cell? ⟨g, 4, none⟩ = some (.int .i64 a.x.i) ∧ W.cell? ⟨g, 5, none⟩ = some (.int .i64 a.x.o) ∧ W.cell? ⟨g, 6, none⟩ = some (.int .u64 (a.x.m : Int)) ∧ W.cell? ⟨g, 7, none⟩ = some (.bool a.x.s) ∧ W.cell? ⟨g, 8, none⟩ = some (.slice a.x.sa a.x.len a.x.cap) :=
  ⟨(Blk.cell h 0).trans rfl, (Blk.cell h 1).trans rfl, (Blk.cell h 2).trans rfl, (Blk.cell h 3).trans rfl, (Blk.cell h 4).trans rfl, (Blk.cell h 5).trans rfl, (Blk.cell h 6).trans rfl, (Blk.cell h 7).trans rfl, (Blk.cell h 8).trans rfl⟩
/-- What an act has, as it came in. -/
structure Ac.Ok (a : Ac) (n : Nat) (W : World) : Prop where
  t0 : -9223372036854775808 ≤ a.t
  t1 : a.t ≤ 9223372036854775807
  m0 : a.m < 18446744073709551616
  len0 : a.x.len ≤ 9223372036854775807
  row : a.x.At 0 n W
set_option maxRecDepth 100000 in
theorem same_zero (W : World) : Calls Tryz.prog 11 #[.agg #[.int .i64 0, .int .i64 0, .int .i64 0, .int .u64 0, .bool false, .slice none 0 0], .agg #[.int .i64 0, .int .i64 0, .int .i64 0, .int .u64 0, .bool false, .slice none 0 0]] W fun e w' => e = .returned (.bool true) ∧ Kept [] W w' := by
  have h := Pack.refSame_any mv0 mv0 0 0 0 0 W (Pack.mv0_at _ _ _) (Nat.zero_le _) (Pack.mv0_at _ _ _) (Nat.zero_le _)
  rw [Pack.sameB_refl] at h
  exact h
set_option maxRecDepth 100000 in
set_option maxHeartbeats 1000000 in
/-- CopyingNone, of what is let go -/
theorem none_early (a : Ac) (w : World) (hl : a.x.len ≤ 9223372036854775807) (h : 200 < a.x.len) : Calls Tryz.prog 5 #[.agg a.cells.toArray] w fun e w' => e = .returned (.bool true) ∧ Kept [] w w' := by
  have hk0 := kept_alloc [] w (.cells a.cells.toArray 36)
  have hX : a.In (w.alloc (.cells a.cells.toArray 36)) w.heap.size := blk_new w 36 _
  obtain ⟨c0, c1, c2, c3, c4, c5, c6, c7, c8⟩ := hX.nine
  have hh : (200 : Int) < (a.x.len : Int) := by omega
  have q := lives_any
  obtain ⟨k, t, m, xk, xi, xo, xm, xs, sa, len, cap, d⟩ := a
  simp only [Ac.cells] at *
  clear hX h
  go_enter Tryz.func5, Tryz.ntmps5
  go_wp2_with (first
    | (go_at_call 6; refine (q _).mono ?_; rintro e w3 ⟨rfl, hk3⟩))
  go_ret
  exact ⟨rfl, hk0.trans hk3⟩
set_option maxRecDepth 100000 in
set_option maxHeartbeats 4000000 in
/-- CopyingNone -/
theorem none_play (a : Ac) (w : World) (ha : a.Ok w.heap.size w) (h : a.x.len ≤ 200) : Calls Tryz.prog 5 #[.agg a.cells.toArray] w fun e w' => e = .returned (.bool true) ∧ Kept [] w w' := by
  have hk0 := kept_alloc [] w (.cells a.cells.toArray 36)
  have hX : a.In (w.alloc (.cells a.cells.toArray 36)) w.heap.size := blk_new w 36 _
  obtain ⟨c0, c1, c2, c3, c4, c5, c6, c7, c8⟩ := hX.nine
  have hh : ¬ ((200 : Int) < (a.x.len : Int)) := by omega
  have q := lives_any
  have q1 := fun W => give_none none a.t W (.inl rfl)
  have q2 := fun W => put_none none a.x ha.row.len ha.len0 W (.inl rfl)
  have q3 := fun W => told_none none a.t W (.inl rfl)
  have q4 := same_zero
  clear ha h
  obtain ⟨k, t, m, xk, xi, xo, xm, xs, sa, len, cap, d⟩ := a
  simp only [Ac.cells, Mv.val, mv0, show ((0 : Nat) : Int) = 0 from rfl] at *
  go_enter Tryz.func5, Tryz.ntmps5
  go_wp2_with (first
    | (go_at_call 9; refine (q1 _).mono ?_; clear q1; rintro e w1 ⟨rfl, hk1⟩; have hb1 := zero_new w1)
    | (refine wpList_store_blk rfl 34 _ _ rfl w1.heap.size 34 _ [.int .i64 0, .int .i64 0, .int .i64 0, .int .u64 0, .bool false, .slice none 0 0] rfl rfl hb1 rfl Pack.Tryz.sizeM (by simp [Value.oneCell']) ?_; clear hb1; intro w2 hB2 hk2 hz2; replace hz2 : Hid _ := hz2; have hk12 : Kept [] w1 w2 := (kept_alloc [] w1 _).young hk2 (Nat.le_refl _); obtain ⟨d0, d1, d2, d3, d4, d5, d6, d7, d8⟩ := ((hX.kept hk1 (by simp)).kept hk12 (by simp)).nine; simp only at d3 d4 d5 d6 d7 d8)
    | (go_at_call 12; refine (q2 _).mono ?_; clear q2; rintro e w3 ⟨er3, rfl, hne3, hk3⟩; have hx3 : ((er3 : Int) != 0) = true := (by simp; omega); have hb3 := zero_new w3)
    | (refine wpList_store_blk rfl 34 _ _ rfl w3.heap.size 34 _ [.int .i64 0, .int .i64 0, .int .i64 0, .int .u64 0, .bool false, .slice none 0 0] rfl rfl hb3 rfl Pack.Tryz.sizeM (by simp [Value.oneCell']) ?_; clear hb3; intro w4 hB4 hk4 hz4; replace hz4 : Hid _ := hz4; have hk34 : Kept [] w3 w4 := (kept_alloc [] w3 _).young hk4 (Nat.le_refl _); obtain ⟨f0, f1, f2, f3, f4, f5, f6, f7, f8⟩ := ((((hX.kept hk1 (by simp)).kept hk12 (by simp)).kept hk3 (by simp)).kept hk34 (by simp)).nine; have hB24 := (hB2.kept hk3 (by simp)).kept hk34 (by simp))
    | (go_at_call 14; refine (q3 _).mono ?_; clear q3; rintro e w5 ⟨er5, rfl, hne5, hk5⟩; have hx5 : ((er5 : Int) != 0) = true := (by simp; omega); obtain ⟨g0, g1, g2, g3, g4, g5⟩ := Mv.In.six (x := mv0) (hB24.kept hk5 (by simp)); simp only [mv0, show ((0 : Nat) : Int) = 0 from rfl] at g0 g1 g2 g3 g4 g5; have hB45 := hB4.kept hk5 (by simp))
    | (go_at_call 11; refine (q4 w5).mono ?_; rintro e w6 ⟨rfl, hk6⟩; obtain ⟨h0, h1, h2, h3, h4, h5⟩ := Mv.In.six (x := mv0) (hB45.kept hk6 (by simp)); simp only [mv0, show ((0 : Nat) : Int) = 0 from rfl] at h0 h1 h2 h3 h4 h5)
    | (go_at_call 11; refine (q4 w6).mono ?_; rintro e w7 ⟨rfl, hk7⟩)
    | (go_at_call 6; refine (q _).mono ?_; rintro e w8 ⟨rfl, hk8⟩))
  go_ret
  exact ⟨rfl, ((((((((hk0.trans hk1).trans hk12).trans hk3).trans hk34).trans hk5).trans hk6).trans hk7).trans hk8)⟩
end Go.Proofs.YtcmfejgimnjbgaaGreat.Copying
