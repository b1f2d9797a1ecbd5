import Derived.Test.YtfiofdmefgkloaaGreatPkD
/-
  The walks of package pack: Bytes, Same.
-/
namespace Go.Proofs.YtfiofdmefgkloaaGreat.Pack
open Go.RowKit
open Seal (enc ret_bool ret_int)
open Seal.Math

theorem own_nil (W : World) (base : Nat) (hb : base ≤ W.heap.size) : Own W base (.slice none 0 0) [] := ⟨⟨by simp, .inl ⟨rfl, rfl⟩⟩, by simp, hb⟩
theorem txt_eq {a b : List Nat} (ha : ∀ x ∈ a, x < 256) (hb : ∀ x ∈ b, x < 256) : ((txt a).toList == (txt b).toList) = decide (a = b) := by
  by_cases h : a = b
  · subst h
    simp
  · rw [decide_eq_false h]
    apply Bool.eq_false_iff.2
    intro e
    have e1 : (txt a).toList = (txt b).toList := by simpa using e
    apply h
    apply txt_inj ha hb
    unfold txt at *
    rw [Lib.strOfNums_toList, Lib.strOfNums_toList] at e1
    have e2 : (strOfNums (a.map Int.ofNat)).data.toList = (strOfNums (b.map Int.ofNat)).data.toList := e1
    have e3 := congrArg List.toArray e2
    simp only [Array.toArray_toList] at e3
    exact congrArg ByteArray.mk e3
/-- Are both alike? -/
def sameB (a b : Ms) : Bool := decide (a.k = b.k) && decide (a.i = b.i) && decide (a.o = b.o) && decide (a.m = b.m) && decide (a.s = b.s) && decide (a.d = b.d)
theorem sameB_eq {a b : Ms} : sameB a b = true ↔ a = b := by
  obtain ⟨k, i, o, m, s, d⟩ := a
  obtain ⟨k', i', o', m', s', d'⟩ := b
  simp [sameB, and_assoc]
theorem sameB_refl (a : Ms) : sameB a a = true := sameB_eq.2 rfl
/-- Two messages in blocks. -/
structure Pair (w : World) (x y : Mv) (g h : Nat) (W : World) : Prop where
  one : x.In W g
  two : y.In W h
  kept : Kept [] w W
theorem pair_new (w : World) (x y : Mv) : Pair w x y w.heap.size (w.heap.size + 1) ((w.alloc (.cells #[.int .i64 x.k, .int .i64 x.i, .int .i64 x.o, .int .u64 (x.m : Int), .bool x.s, .slice x.sa x.len x.cap] 26)).alloc (.cells #[.int .i64 y.k, .int .i64 y.i, .int .i64 y.o, .int .u64 (y.m : Int), .bool y.s, .slice y.sa y.len y.cap] 26)) := by
  have h1 : x.In (w.alloc (.cells #[.int .i64 x.k, .int .i64 x.i, .int .i64 x.o, .int .u64 (x.m : Int), .bool x.s, .slice x.sa x.len x.cap] 26)) w.heap.size := blk_new w 26 _
  have k1 := kept_alloc [] w (.cells #[.int .i64 x.k, .int .i64 x.i, .int .i64 x.o, .int .u64 (x.m : Int), .bool x.s, .slice x.sa x.len x.cap] 26)
  have e1 : (w.alloc (.cells #[.int .i64 x.k, .int .i64 x.i, .int .i64 x.o, .int .u64 (x.m : Int), .bool x.s, .slice x.sa x.len x.cap] 26)).heap.size = w.heap.size + 1 := by simp
  obtain ⟨W, hW⟩ : ∃ W, w.alloc (.cells #[.int .i64 x.k, .int .i64 x.i, .int .i64 x.o, .int .u64 (x.m : Int), .bool x.s, .slice x.sa x.len x.cap] 26) = W := ⟨_, rfl⟩
  rw [hW] at h1 k1 e1 ⊢
  have h2 : y.In (W.alloc (.cells #[.int .i64 y.k, .int .i64 y.i, .int .i64 y.o, .int .u64 (y.m : Int), .bool y.s, .slice y.sa y.len y.cap] 26)) W.heap.size := blk_new W 26 _
  rw [e1] at h2
  exact ⟨h1.kept (kept_alloc [] W _) (by simp), h2, k1.trans (kept_alloc [] W _)⟩
set_option maxRecDepth 100000 in
set_option maxHeartbeats 4000000 in
/-- twainref17.Same -/
theorem refSame_any (x y : Mv) (lo hi lo' hi' : Nat) (w : World) (h : x.At lo hi w) (hh : hi ≤ w.heap.size) (hy : y.At lo' hi' w) (hyy : hi' ≤ w.heap.size) :
    Calls Tryz.prog 45 #[x.val, y.val] w fun e w' => e = .returned (.bool (sameB x.ms y.ms)) ∧ Kept [] w w' := by
  have hP := pair_new w x y
  have r1 := h.row.kept hh hP.kept (by simp)
  have r2 := hy.row.kept hyy hP.kept (by simp)
  have ht : Hid (((txt x.d).toList == (txt y.d).toList) = decide (x.d = y.d)) := txt_eq h.row.1 hy.row.1
  have t1 := conv_txt r1
  have t2 := conv_txt r2
  generalize txt x.d = T1 at *
  generalize txt y.d = T2 at *
  obtain ⟨k, i, o, m, s, sa, len, cap, d⟩ := x
  obtain ⟨k', i', o', m', s', sb, len', cap', d'⟩ := y
  simp only [Mv.ms, Mv.val] at *
  have hG : Hid (sameB ⟨k, i, o, m, s, d⟩ ⟨k', i', o', m', s', d'⟩ = (decide (k = k') && decide (i = i') && decide (o = o') && decide (m = m') && decide (s = s') && decide (d = d'))) := rfl
  generalize sameB ⟨k, i, o, m, s, d⟩ ⟨k', i', o', m', s', d'⟩ = G at *
  generalize hD : decide (d = d') = D at *
  clear hD
  obtain ⟨c0, c1, c2, c3, c4, c5⟩ := hP.one.six
  obtain ⟨e0, e1, e2, e3, e4, e5⟩ := hP.two.six
  have hk := hP.kept
  clear hP r1 r2 h hy
  by_cases gk : k = k'
  · subst gk
    by_cases gi : i = i'
    · subst gi
      by_cases go : o = o'
      · subst go
        by_cases gm : m = m'
        · subst gm
          by_cases gs : s = s'
          · subst gs
            go_enter Tryz.func45, Tryz.ntmps45
            go_wp2_with fail
            go_ret
            exact ⟨ret_bool (by rw [hG.out]; rw [ht.out]; simp), hk⟩
          · have hn : Hid (¬ s = s') := gs
            have hq : (s == s') = false := by simp [hn.out]
            go_enter Tryz.func45, Tryz.ntmps45
            go_wp2_with fail
            go_ret
            exact ⟨ret_bool (by rw [hG.out]; simp [hn.out]), hk⟩
        · have hn : Hid (¬ m = m') := gm
          have hq : ((m : Int) == (m' : Int)) = false := by simp; omega
          go_enter Tryz.func45, Tryz.ntmps45
          go_wp2_with fail
          go_ret
          exact ⟨ret_bool (by rw [hG.out]; simp [hn.out]), hk⟩
      · have hn : Hid (¬ o = o') := go
        have hq : (o == o') = false := by simp; omega
        go_enter Tryz.func45, Tryz.ntmps45
        go_wp2_with fail
        go_ret
        exact ⟨ret_bool (by rw [hG.out]; simp [hn.out]), hk⟩
    · have hn : Hid (¬ i = i') := gi
      have hq : (i == i') = false := by simp; omega
      go_enter Tryz.func45, Tryz.ntmps45
      go_wp2_with fail
      go_ret
      exact ⟨ret_bool (by rw [hG.out]; simp [hn.out]), hk⟩
  · have hn : Hid (¬ k = k') := gk
    have hq : (k == k') = false := by simp; omega
    go_enter Tryz.func45, Tryz.ntmps45
    go_wp2_with fail
    go_ret
    exact ⟨ret_bool (by rw [hG.out]; simp [hn.out]), hk⟩
end Go.Proofs.YtfiofdmefgkloaaGreat.Pack

