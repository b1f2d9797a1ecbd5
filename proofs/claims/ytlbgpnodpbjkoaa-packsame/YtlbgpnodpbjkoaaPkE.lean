/-
  The walks of package pack: Bytes, Same.
-/
import Derived.Test.YtlbgpnodpbjkoaaPkD
namespace Go.Proofs.Ytlbgpnodpbjkoaa.Pack
open Go.RowKit
open Seal (enc ret_bool ret_int)
open Seal.Math

theorem own_nil (W : World) (base : Nat) (hb : base ≤ W.heap.size) : Own W base (.slice none 0 0) [] := ⟨⟨by simp, .inl ⟨rfl, rfl⟩⟩, by simp, hb⟩
set_option maxRecDepth 100000 in
set_option maxHeartbeats 4000000 in
/-- Bytes -/
theorem bytes_any (x : Mv) (lo hi : Nat) (w : World) (h : x.At lo hi w) (hh : hi ≤ w.heap.size) (hlen : x.len ≤ 9223372036854775807) :
    Calls Try.prog 10 #[x.val] w fun e w' => ∃ sa cap, e = .returned (.slice sa (bytesL x.ms).length cap) ∧ Own w' w.heap.size (.slice sa (bytesL x.ms).length cap) (bytesL x.ms) ∧ Kept [] w w' := by
  have hb0 : x.In (w.alloc (.cells #[.int .i64 x.k, .int .i64 x.i, .int .i64 x.o, .int .u64 (x.m : Int), .bool x.s, .slice x.sa x.len x.cap] 25)) w.heap.size := blk_new w 25 _
  have hk0 := kept_alloc [] w (.cells #[.int .i64 x.k, .int .i64 x.i, .int .i64 x.o, .int .u64 (x.m : Int), .bool x.s, .slice x.sa x.len x.cap] 25)
  have q := good_any x h.len hlen (w.alloc (.cells #[.int .i64 x.k, .int .i64 x.i, .int .i64 x.o, .int .u64 (x.m : Int), .bool x.s, .slice x.sa x.len x.cap] 25))
  obtain ⟨W, hW⟩ : ∃ W, w.alloc (.cells #[.int .i64 x.k, .int .i64 x.i, .int .i64 x.o, .int .u64 (x.m : Int), .bool x.s, .slice x.sa x.len x.cap] 25) = W := ⟨_, rfl⟩
  rw [hW] at hb0 hk0 q
  by_cases hf : Fine x.ms
  · rw [good_in hf] at q
    rw [bytesL_in hf]
    have hfl := fine_len hf
    have hkn : x.k = ((x.k.toNat : Nat) : Int) := by have := hf.1; simp only [Mv.ms] at this; omega
    have hK : x.k.toNat < 256 := by have := hf.2.1; simp only [Mv.ms] at this; omega
    have hdl := hd_length x.ms
    have hnl := needN_le x.ms.k
    have hlen3 : Hid ((hd x.ms).length + x.d.length ≤ 1000000) := by
      show _ ≤ _
      rw [hdl]
      simp only [Mv.ms] at *
      omega
    have qh := fun W' : World => head_any x x.k.toNat hK hkn h.m W'
    have S0 : ∀ A, Kept [] W A → A.cell? ⟨w.heap.size, 0, none⟩ = some (.int .i64 x.k) ∧ A.cell? ⟨w.heap.size, 1, none⟩ = some (.int .i64 x.i) ∧ A.cell? ⟨w.heap.size, 2, none⟩ = some (.int .i64 x.o) ∧ A.cell? ⟨w.heap.size, 3, none⟩ = some (.int .u64 (x.m : Int)) ∧ A.cell? ⟨w.heap.size, 4, none⟩ = some (.bool x.s) ∧ A.cell? ⟨w.heap.size, 5, none⟩ = some (.slice x.sa x.len x.cap) := fun A hA => (hb0.kept hA (by simp)).six
    obtain ⟨c0, c1, c2, c3, c4, c5⟩ := S0 W (Kept.refl _ _)
    have hrow : Hid (ByteRow lo hi w (.slice x.sa x.len x.cap) x.d) := h.row
    replace hk0 : Hid (Kept [] w W) := hk0
    unfold Mv.val at *
    clear hfl hkn hK hdl hnl
    go_enter Try.func10, Try.ntmps10
    go_wp2_with (first
      | (go_at_call 8; refine q.mono ?_; rintro e w1 ⟨rfl, hk1⟩; have hk1' := hk1.trans (kept_drew [] w1); clear q))
    go_region_held3 (fun A => A.cell? ⟨w.heap.size, 0, none⟩ = some (.int .i64 x.k) ∧ A.cell? ⟨w.heap.size, 1, none⟩ = some (.int .i64 x.i) ∧ A.cell? ⟨w.heap.size, 2, none⟩ = some (.int .i64 x.o) ∧ A.cell? ⟨w.heap.size, 3, none⟩ = some (.int .u64 (x.m : Int)) ∧ A.cell? ⟨w.heap.size, 4, none⟩ = some (.bool x.s) ∧ A.cell? ⟨w.heap.size, 5, none⟩ = some (.slice x.sa x.len x.cap)) (first
      | exact S0 _ hk1'
      | exact S0 _ hk2'
      | exact S0 _ hk3') (first
      | (go_at_call 25; refine (qh _).mono ?_; rintro e w2 ⟨v2, rfl, hR2, hk2⟩; have hk2' := hk1'.trans hk2)
      | (refine step_append_bytes rfl (.tmp 7) (.tmp 9) rfl w1.drew.heap.size v2 (.slice x.sa x.len x.cap) lo hi (hd x.ms) x.d (by simp [Act.eval]) hR2.row hR2.byt (by simp [Act.eval]) (hrow.out.kept hh (hk0.out.trans hk2') (by simp)) hlen3.out hR2.le ?_; intro sa3 cap3 w3 hb3 hr3 hg3; have hk3' : Kept [] W w3 := kept_grown hR2.row hg3 W hk2' hk1'.size))
    go_wp2_with fail
    go_ret
    have hs := hk0.out.size
    have hr3' : Own w3 w1.drew.heap.size (.slice sa3 (hd x.ms ++ x.d).length cap3) (hd x.ms ++ x.d) := ⟨hr3, hb3.1, Nat.le_trans hR2.le hg3.size⟩
    exact ⟨sa3, cap3, by simp [Mv.ms], hr3'.low (Nat.le_trans hs hk1'.size), hk0.out.trans hk3'⟩
  · rw [good_out hf] at q
    rw [bytesL_out hf]
    obtain ⟨c0, c1, c2, c3, c4, c5⟩ := hb0.six
    replace hk0 : Hid (Kept [] w W) := hk0
    unfold Mv.val at *
    go_enter Try.func10, Try.ntmps10
    go_wp2_with (first
      | (go_at_call 8; refine q.mono ?_; rintro e w1 ⟨rfl, hk1⟩; clear q))
    go_ret
    exact ⟨none, 0, rfl, own_nil _ _ (Nat.le_trans hk0.out.size hk1.size), hk0.out.trans hk1⟩
theorem txt_eq {a b : List Nat} (ha : ∀ x ∈ a, x < 256) (hb : ∀ x ∈ b, x < 256) : ((txt a).toList == (txt b).toList) = decide (a = b) := by
  by_cases h : a = b
  · subst h
    simp
  · rw [decide_eq_false h]
    apply Bool.eq_false_iff.2
    intro e
    have e1 : (txt a).toList = (txt b).toList := by simpa using e
    apply h
    apply txt_inj ha hb
    unfold txt at *
    rw [Lib.strOfNums_toList, Lib.strOfNums_toList] at e1
    have e2 : (strOfNums (a.map Int.ofNat)).data.toList = (strOfNums (b.map Int.ofNat)).data.toList := e1
    have e3 := congrArg List.toArray e2
    simp only [Array.toArray_toList] at e3
    exact congrArg ByteArray.mk e3
set_option maxRecDepth 100000 in
/-- bytes.Equal -/
theorem equal_any (u v : Value) (lo hi lo' hi' : Nat) (a b : List Nat) (w : World) (h : ByteRow lo hi w u a) (k : ByteRow lo' hi' w v b) : Calls Try.prog 29 #[u, v] w fun e w' => e = .returned (.bool (decide (a = b))) ∧ w' = w := by
  have t1 := conv_txt h
  have t2 := conv_txt k
  have hi : Hid (((txt a).toList == (txt b).toList) = decide (a = b)) := txt_eq h.1 k.1
  obtain ⟨_, sa, cap, rfl, _⟩ := h
  obtain ⟨_, sb, cbp, rfl, _⟩ := k
  go_enter Try.func29, Try.ntmps29
  go_wp2_with fail
  go_ret
  exact ⟨ret_bool hi.out, rfl⟩
/-- Are both alike? -/
def sameB (a b : Ms) : Bool := decide (a.k = b.k) && decide (a.i = b.i) && decide (a.o = b.o) && decide (a.m = b.m) && decide (a.s = b.s) && decide (a.d = b.d)
theorem sameB_eq {a b : Ms} : sameB a b = true ↔ a = b := by
  obtain ⟨k, i, o, m, s, d⟩ := a
  obtain ⟨k', i', o', m', s', d'⟩ := b
  simp [sameB, and_assoc]
theorem sameB_refl (a : Ms) : sameB a a = true := sameB_eq.2 rfl
/-- Two messages in blocks. -/
structure Pair (w : World) (x y : Mv) (g h : Nat) (W : World) : Prop where
  one : x.In W g
  two : y.In W h
  kept : Kept [] w W
theorem pair_new (w : World) (x y : Mv) : Pair w x y w.heap.size (w.heap.size + 1) ((w.alloc (.cells #[.int .i64 x.k, .int .i64 x.i, .int .i64 x.o, .int .u64 (x.m : Int), .bool x.s, .slice x.sa x.len x.cap] 25)).alloc (.cells #[.int .i64 y.k, .int .i64 y.i, .int .i64 y.o, .int .u64 (y.m : Int), .bool y.s, .slice y.sa y.len y.cap] 25)) := by
  have h1 : x.In (w.alloc (.cells #[.int .i64 x.k, .int .i64 x.i, .int .i64 x.o, .int .u64 (x.m : Int), .bool x.s, .slice x.sa x.len x.cap] 25)) w.heap.size := blk_new w 25 _
  have k1 := kept_alloc [] w (.cells #[.int .i64 x.k, .int .i64 x.i, .int .i64 x.o, .int .u64 (x.m : Int), .bool x.s, .slice x.sa x.len x.cap] 25)
  have e1 : (w.alloc (.cells #[.int .i64 x.k, .int .i64 x.i, .int .i64 x.o, .int .u64 (x.m : Int), .bool x.s, .slice x.sa x.len x.cap] 25)).heap.size = w.heap.size + 1 := by simp
  obtain ⟨W, hW⟩ : ∃ W, w.alloc (.cells #[.int .i64 x.k, .int .i64 x.i, .int .i64 x.o, .int .u64 (x.m : Int), .bool x.s, .slice x.sa x.len x.cap] 25) = W := ⟨_, rfl⟩
  rw [hW] at h1 k1 e1 ⊢
  have h2 : y.In (W.alloc (.cells #[.int .i64 y.k, .int .i64 y.i, .int .i64 y.o, .int .u64 (y.m : Int), .bool y.s, .slice y.sa y.len y.cap] 25)) W.heap.size := blk_new W 25 _
  rw [e1] at h2
  exact ⟨h1.kept (kept_alloc [] W _) (by simp), h2, k1.trans (kept_alloc [] W _)⟩
set_option maxRecDepth 100000 in
set_option maxHeartbeats 4000000 in
/-- Same -/
theorem same_any (x y : Mv) (lo hi lo' hi' : Nat) (w : World) (h : x.At lo hi w) (hh : hi ≤ w.heap.size) (hy : y.At lo' hi' w) (hyy : hi' ≤ w.heap.size) :
    Calls Try.prog 17 #[x.val, y.val] w fun e w' => e = .returned (.bool (sameB x.ms y.ms)) ∧ Kept [] w w' := by
  have hP := pair_new w x y
  have r1 := h.row.kept hh hP.kept (by simp)
  have r2 := hy.row.kept hyy hP.kept (by simp)
  have ht : Hid (((txt x.d).toList == (txt y.d).toList) = decide (x.d = y.d)) := txt_eq h.row.1 hy.row.1
  have q := equal_any _ _ _ _ _ _ _ _ _ r1 r2
  obtain ⟨k, i, o, m, s, sa, len, cap, d⟩ := x
  obtain ⟨k', i', o', m', s', sb, len', cap', d'⟩ := y
  simp only [Mv.ms, Mv.val] at *
  have hG : Hid (sameB ⟨k, i, o, m, s, d⟩ ⟨k', i', o', m', s', d'⟩ = (decide (k = k') && decide (i = i') && decide (o = o') && decide (m = m') && decide (s = s') && decide (d = d'))) := rfl
  generalize sameB ⟨k, i, o, m, s, d⟩ ⟨k', i', o', m', s', d'⟩ = G at *
  generalize hD : decide (d = d') = D at *
  clear hD
  obtain ⟨c0, c1, c2, c3, c4, c5⟩ := hP.one.six
  obtain ⟨e0, e1, e2, e3, e4, e5⟩ := hP.two.six
  have hk := hP.kept
  clear hP r1 r2 h hy
  by_cases gk : k = k'
  · subst gk
    by_cases gi : i = i'
    · subst gi
      by_cases go : o = o'
      · subst go
        by_cases gm : m = m'
        · subst gm
          by_cases gs : s = s'
          · subst gs
            go_enter Try.func17, Try.ntmps17
            go_wp2_with (first
                | (go_at_call 29; refine q.mono ?_; rintro e w1 ⟨rfl, rfl⟩))
            go_ret
            exact ⟨ret_bool (by rw [hG.out]; simp), hk⟩
          · have hn : Hid (¬ s = s') := gs
            have hq : (s == s') = false := by simp [hn.out]
            go_enter Try.func17, Try.ntmps17
            go_wp2_with (first
                | (go_at_call 29; refine q.mono ?_; rintro e w1 ⟨rfl, rfl⟩))
            go_ret
            exact ⟨ret_bool (by rw [hG.out]; simp [hn.out]), hk⟩
        · have hn : Hid (¬ m = m') := gm
          have hq : ((m : Int) == (m' : Int)) = false := by simp; omega
          go_enter Try.func17, Try.ntmps17
          go_wp2_with (first
              | (go_at_call 29; refine q.mono ?_; rintro e w1 ⟨rfl, rfl⟩))
          go_ret
          exact ⟨ret_bool (by rw [hG.out]; simp [hn.out]), hk⟩
      · have hn : Hid (¬ o = o') := go
        have hq : (o == o') = false := by simp; omega
        go_enter Try.func17, Try.ntmps17
        go_wp2_with (first
            | (go_at_call 29; refine q.mono ?_; rintro e w1 ⟨rfl, rfl⟩))
        go_ret
        exact ⟨ret_bool (by rw [hG.out]; simp [hn.out]), hk⟩
    · have hn : Hid (¬ i = i') := gi
      have hq : (i == i') = false := by simp; omega
      go_enter Try.func17, Try.ntmps17
      go_wp2_with (first
          | (go_at_call 29; refine q.mono ?_; rintro e w1 ⟨rfl, rfl⟩))
      go_ret
      exact ⟨ret_bool (by rw [hG.out]; simp [hn.out]), hk⟩
  · have hn : Hid (¬ k = k') := gk
    have hq : (k == k') = false := by simp; omega
    go_enter Try.func17, Try.ntmps17
    go_wp2_with (first
        | (go_at_call 29; refine q.mono ?_; rintro e w1 ⟨rfl, rfl⟩))
    go_ret
    exact ⟨ret_bool (by rw [hG.out]; simp [hn.out]), hk⟩
set_option maxRecDepth 100000 in
set_option maxHeartbeats 4000000 in
/-- twainref17.Same -/
theorem refSame_any (x y : Mv) (lo hi lo' hi' : Nat) (w : World) (h : x.At lo hi w) (hh : hi ≤ w.heap.size) (hy : y.At lo' hi' w) (hyy : hi' ≤ w.heap.size) :
    Calls Try.prog 16 #[x.val, y.val] w fun e w' => e = .returned (.bool (sameB x.ms y.ms)) ∧ Kept [] w w' := by
  have hP := pair_new w x y
  have r1 := h.row.kept hh hP.kept (by simp)
  have r2 := hy.row.kept hyy hP.kept (by simp)
  have ht : Hid (((txt x.d).toList == (txt y.d).toList) = decide (x.d = y.d)) := txt_eq h.row.1 hy.row.1
  have t1 := conv_txt r1
  have t2 := conv_txt r2
  generalize txt x.d = T1 at *
  generalize txt y.d = T2 at *
  obtain ⟨k, i, o, m, s, sa, len, cap, d⟩ := x
  obtain ⟨k', i', o', m', s', sb, len', cap', d'⟩ := y
  simp only [Mv.ms, Mv.val] at *
  have hG : Hid (sameB ⟨k, i, o, m, s, d⟩ ⟨k', i', o', m', s', d'⟩ = (decide (k = k') && decide (i = i') && decide (o = o') && decide (m = m') && decide (s = s') && decide (d = d'))) := rfl
  generalize sameB ⟨k, i, o, m, s, d⟩ ⟨k', i', o', m', s', d'⟩ = G at *
  generalize hD : decide (d = d') = D at *
  clear hD
  obtain ⟨c0, c1, c2, c3, c4, c5⟩ := hP.one.six
  obtain ⟨e0, e1, e2, e3, e4, e5⟩ := hP.two.six
  have hk := hP.kept
  clear hP r1 r2 h hy
  by_cases gk : k = k'
  · subst gk
    by_cases gi : i = i'
    · subst gi
      by_cases go : o = o'
      · subst go
        by_cases gm : m = m'
        · subst gm
          by_cases gs : s = s'
          · subst gs
            go_enter Try.func16, Try.ntmps16
            go_wp2_with fail
            go_ret
            exact ⟨ret_bool (by rw [hG.out]; rw [ht.out]; simp), hk⟩
          · have hn : Hid (¬ s = s') := gs
            have hq : (s == s') = false := by simp [hn.out]
            go_enter Try.func16, Try.ntmps16
            go_wp2_with fail
            go_ret
            exact ⟨ret_bool (by rw [hG.out]; simp [hn.out]), hk⟩
        · have hn : Hid (¬ m = m') := gm
          have hq : ((m : Int) == (m' : Int)) = false := by simp; omega
          go_enter Try.func16, Try.ntmps16
          go_wp2_with fail
          go_ret
          exact ⟨ret_bool (by rw [hG.out]; simp [hn.out]), hk⟩
      · have hn : Hid (¬ o = o') := go
        have hq : (o == o') = false := by simp; omega
        go_enter Try.func16, Try.ntmps16
        go_wp2_with fail
        go_ret
        exact ⟨ret_bool (by rw [hG.out]; simp [hn.out]), hk⟩
    · have hn : Hid (¬ i = i') := gi
      have hq : (i == i') = false := by simp; omega
      go_enter Try.func16, Try.ntmps16
      go_wp2_with fail
      go_ret
      exact ⟨ret_bool (by rw [hG.out]; simp [hn.out]), hk⟩
  · have hn : Hid (¬ k = k') := gk
    have hq : (k == k') = false := by simp; omega
    go_enter Try.func16, Try.ntmps16
    go_wp2_with fail
    go_ret
    exact ⟨ret_bool (by rw [hG.out]; simp [hn.out]), hk⟩
end Go.Proofs.Ytlbgpnodpbjkoaa.Pack
