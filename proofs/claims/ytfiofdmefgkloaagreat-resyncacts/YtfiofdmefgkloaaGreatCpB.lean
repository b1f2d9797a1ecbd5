import Derived.Test.YtfiofdmefgkloaaGreatCpA
/-
  The walk of a variadic function of closures, and of Put, whatever disk there is.
-/
namespace Go.Proofs.YtfiofdmefgkloaaGreat.Copying
open Go.RowKit
open Math
open Pack (Mv Ms mv0)

/-- The closures of a Put. -/
def stepsV (a b : Nat) : Array Value := #[.func (.func 161) #[] #[.pointer (some ⟨a, 0, none⟩), .pointer (some ⟨b, 0, none⟩)], .func (.func 163) #[] #[.pointer (some ⟨a, 0, none⟩)], .func (.func 164) #[] #[.pointer (some ⟨a, 0, none⟩), .pointer (some ⟨b, 0, none⟩)]]
set_option maxRecDepth 100000 in
set_option maxHeartbeats 4000000 in
/-- behind, of the three steps of a Put -/
theorem behind_of (a b g e1 e2 e3 er : Nat) (tg : TypeId) (x v : Mv) (P1 P2 P3 P : World → Prop) (L : List Nat) (w : World) (hL : ∀ k ∈ L, k < w.heap.size) (hgL : g ∉ L)
    (hg : Blk w g tg #[.func (.func 161) #[] #[.pointer (some ⟨a, 0, none⟩), .pointer (some ⟨b, 0, none⟩)], .func (.func 163) #[] #[.pointer (some ⟨a, 0, none⟩)], .func (.func 164) #[] #[.pointer (some ⟨a, 0, none⟩), .pointer (some ⟨b, 0, none⟩)]])
    (q1 : ∀ W, Kept [] w W → Calls Tryz.prog 161 #[.pointer (some ⟨a, 0, none⟩), .pointer (some ⟨b, 0, none⟩)] W fun e w' => e = .returned (.int .i64 (e1 : Int)) ∧ P1 w' ∧ Kept L W w')
    (q2 : e1 = 0 → ∀ W, P1 W → Kept L w W → Calls Tryz.prog 163 #[.pointer (some ⟨a, 0, none⟩)] W fun e w' => e = .returned (.int .i64 (e2 : Int)) ∧ P2 w' ∧ Kept L W w')
    (q3 : e1 = 0 → e2 = 0 → ∀ W, P2 W → Kept L w W → Calls Tryz.prog 164 #[.pointer (some ⟨a, 0, none⟩), .pointer (some ⟨b, 0, none⟩)] W fun e w' => e = .returned (.int .i64 (e3 : Int)) ∧ P3 w' ∧ Kept L W w')
    (h1 : e1 ≠ 0 → er = e1 ∧ v = mv0 ∧ ∀ A B k, w.heap.size ≤ k → P1 A → Kept [k] A B → P B)
    (h2 : e1 = 0 → e2 ≠ 0 → er = e2 ∧ v = mv0 ∧ ∀ A B k, w.heap.size ≤ k → P2 A → Kept [k] A B → P B)
    (h3 : e1 = 0 → e2 = 0 → e3 ≠ 0 → er = e3 ∧ v = mv0 ∧ ∀ A B k, w.heap.size ≤ k → P3 A → Kept [k] A B → P B)
    (h4 : e1 = 0 → e2 = 0 → e3 = 0 → er = 0 ∧ v = x ∧ ∀ A B k, w.heap.size ≤ k → P3 A → Kept [k] A B → P B) :
    Calls Tryz.prog 160 #[x.val, .slice (some ⟨g, 0, none⟩) 3 3] w fun e w' => e = .returned (.tuple #[v.val, .int .i64 (er : Int)]) ∧ P w' ∧ Kept L w w' := by
  have g1 : Hid (e1 ≠ 0 → er = e1 ∧ v = mv0 ∧ ∀ A B k, w.heap.size ≤ k → P1 A → Kept [k] A B → P B) := h1
  have g2 : Hid (e1 = 0 → e2 ≠ 0 → er = e2 ∧ v = mv0 ∧ ∀ A B k, w.heap.size ≤ k → P2 A → Kept [k] A B → P B) := h2
  have g3 : Hid (e1 = 0 → e2 = 0 → e3 ≠ 0 → er = e3 ∧ v = mv0 ∧ ∀ A B k, w.heap.size ≤ k → P3 A → Kept [k] A B → P B) := h3
  have g4 : Hid (e1 = 0 → e2 = 0 → e3 = 0 → er = 0 ∧ v = x ∧ ∀ A B k, w.heap.size ≤ k → P3 A → Kept [k] A B → P B) := h4
  clear h1 h2 h3 h4
  obtain ⟨k, i, o, m, s, sa, len, cap, d⟩ := x
  have hx : Hid ((⟨k, i, o, m, s, sa, len, cap, d⟩ : Mv).val = .agg #[.int .i64 k, .int .i64 i, .int .i64 o, .int .u64 (m : Int), .bool s, .slice sa len cap]) := rfl
  rw [hx.out]
  have hA0 : Blk ((w.alloc (.cells #[.int .i64 k, .int .i64 i, .int .i64 o, .int .u64 (m : Int), .bool s, .slice sa len cap] 26)).alloc (.cells #[.int .i64 0, .int .i64 0, .int .i64 0, .int .u64 0, .bool false, .slice none 0 0] 26)) w.heap.size 26 #[.int .i64 k, .int .i64 i, .int .i64 o, .int .u64 (m : Int), .bool s, .slice sa len cap] :=
    (blk_new w 26 _).kept (kept_alloc [] _ _) (by simp)
  have hB0 : Blk ((w.alloc (.cells #[.int .i64 k, .int .i64 i, .int .i64 o, .int .u64 (m : Int), .bool s, .slice sa len cap] 26)).alloc (.cells #[.int .i64 0, .int .i64 0, .int .i64 0, .int .u64 0, .bool false, .slice none 0 0] 26)) (w.heap.size + 1) 26 #[.int .i64 0, .int .i64 0, .int .i64 0, .int .u64 0, .bool false, .slice none 0 0] := by
    have := zero_new (w.alloc (.cells #[.int .i64 k, .int .i64 i, .int .i64 o, .int .u64 (m : Int), .bool s, .slice sa len cap] 26))
    rw [show (w.alloc (.cells #[.int .i64 k, .int .i64 i, .int .i64 o, .int .u64 (m : Int), .bool s, .slice sa len cap] 26)).heap.size = w.heap.size + 1 by simp] at this
    exact this
  have hk0 : Kept [] w ((w.alloc (.cells #[.int .i64 k, .int .i64 i, .int .i64 o, .int .u64 (m : Int), .bool s, .slice sa len cap] 26)).alloc (.cells #[.int .i64 0, .int .i64 0, .int .i64 0, .int .u64 0, .bool false, .slice none 0 0] 26)) := (kept_alloc [] _ _).trans (kept_alloc [] _ _)
  have hgl := hg.lt
  have hAL : w.heap.size ∉ L := fun hm => by have := hL _ hm; omega
  have hBL : w.heap.size + 1 ∉ L := fun hm => by have := hL _ hm; omega
  clear hL
  go_enter Tryz.func160, Tryz.ntmps160
  go_wp2_with fail
  obtain ⟨w0, hw0⟩ : ∃ w0, ((w.alloc (.cells #[.int .i64 k, .int .i64 i, .int .i64 o, .int .u64 (m : Int), .bool s, .slice sa len cap] 26)).alloc (.cells #[.int .i64 0, .int .i64 0, .int .i64 0, .int .u64 0, .bool false, .slice none 0 0] 26)) = w0 := ⟨_, rfl⟩
  simp only [hw0] at *
  clear hw0
  have hkL := hk0.mono (L' := L) (by simp)
  go_loopw [11] (fun i wr => ((i = .int .i64 0 ∧ wr = w0) ∨ (i = .int .i64 1 ∧ Hid (e1 = 0) ∧ P1 wr ∧ Kept L w0 wr) ∨ (i = .int .i64 2 ∧ Hid (e1 = 0) ∧ Hid (e2 = 0) ∧ P2 wr ∧ Kept L w0 wr) ∨ (i = .int .i64 3 ∧ Hid (e1 = 0) ∧ Hid (e2 = 0) ∧ Hid (e3 = 0) ∧ P3 wr ∧ Kept L w0 wr))) (fun i _ => 3 - (RowKit.intOf i).toNat)
  case atStart => exact .inl ⟨rfl, rfl⟩
  case round =>
    rcases hrel with ⟨rfl, rfl⟩ | ⟨rfl, hz, hP, hk⟩ | ⟨rfl, hz, hy, hP, hk⟩ | ⟨rfl, hz, hy, hx3, hP, hk⟩
    · have c0 := (hg.kept hk0 (by simp)).cell 0
      simp at c0
      have q := q1 _ hk0
      by_cases he : e1 = 0
      · have he' : ((e1 : Int) != 0) = false := by simp; omega
        have hz : Hid (e1 = 0) := he
        clear he
        go_wp2_with (first
          | (go_at_call 161; refine q.mono ?_; rintro e w1 ⟨rfl, hP1, hk1⟩))
        go_roundw
        case rel => exact .inr (.inl ⟨rfl, hz, hP1, hk1⟩)
        case measure => simp [RowKit.intOf]
      · have he' : ((e1 : Int) != 0) = true := by simp; omega
        have hn : Hid (e1 ≠ 0) := he
        clear he
        go_wp2_with (first
          | (go_at_call 161; refine q.mono ?_; rintro e w1 ⟨rfl, hP1, hk1⟩; have hB1 := hB0.kept hk1 hBL)
          | (refine wpList_store_blk rfl 26 _ _ rfl (w.heap.size + 1) 26 _ [.int .i64 0, .int .i64 0, .int .i64 0, .int .u64 0, .bool false, .slice none 0 0] rfl rfl hB1 rfl Pack.Tryz.sizeM (by simp [Value.oneCell']) ?_; intro w4 hB4 hk4 hz4; replace hz4 : Hid _ := hz4))
        obtain ⟨f1, f2, f3⟩ := g1.out hn.out
        subst f1
        subst f2
        refine bodyPost_ret (results_msg rfl _ _ (w.heap.size + 1) _ _ _ _ _ _ rfl hB4) rfl ⟨rfl, f3 _ _ _ (by omega) hP1 hk4, (hkL.trans (hk1)).young (g := w.heap.size + 1) (hk4.mono (by simp)) (by omega)⟩
    · have c0 := ((hg.kept hkL hgL).kept hk hgL).cell 1
      simp at c0
      have q := q2 hz.out _ hP (hkL.trans hk)
      by_cases he : e2 = 0
      · have he' : ((e2 : Int) != 0) = false := by simp; omega
        have hy : Hid (e2 = 0) := he
        clear he
        go_wp2_with (first
          | (go_at_call 163; refine q.mono ?_; rintro e w1 ⟨rfl, hP1, hk1⟩))
        go_roundw
        case rel => exact .inr (.inr (.inl ⟨rfl, hz, hy, hP1, hk.trans hk1⟩))
        case measure => simp [RowKit.intOf]
      · have he' : ((e2 : Int) != 0) = true := by simp; omega
        have hn : Hid (e2 ≠ 0) := he
        clear he
        go_wp2_with (first
          | (go_at_call 163; refine q.mono ?_; rintro e w1 ⟨rfl, hP1, hk1⟩; have hB1 := (hB0.kept hk hBL).kept hk1 hBL)
          | (refine wpList_store_blk rfl 26 _ _ rfl (w.heap.size + 1) 26 _ [.int .i64 0, .int .i64 0, .int .i64 0, .int .u64 0, .bool false, .slice none 0 0] rfl rfl hB1 rfl Pack.Tryz.sizeM (by simp [Value.oneCell']) ?_; intro w4 hB4 hk4 hz4; replace hz4 : Hid _ := hz4))
        obtain ⟨f1, f2, f3⟩ := g2.out hz.out hn.out
        subst f1
        subst f2
        refine bodyPost_ret (results_msg rfl _ _ (w.heap.size + 1) _ _ _ _ _ _ rfl hB4) rfl ⟨rfl, f3 _ _ _ (by omega) hP1 hk4, (hkL.trans (hk.trans hk1)).young (g := w.heap.size + 1) (hk4.mono (by simp)) (by omega)⟩
    · have c0 := ((hg.kept hkL hgL).kept hk hgL).cell 2
      simp at c0
      have q := q3 hz.out hy.out _ hP (hkL.trans hk)
      by_cases he : e3 = 0
      · have he' : ((e3 : Int) != 0) = false := by simp; omega
        have hx3 : Hid (e3 = 0) := he
        clear he
        go_wp2_with (first
          | (go_at_call 164; refine q.mono ?_; rintro e w1 ⟨rfl, hP1, hk1⟩))
        go_roundw
        case rel => exact .inr (.inr (.inr ⟨rfl, hz, hy, hx3, hP1, hk.trans hk1⟩))
        case measure => simp [RowKit.intOf]
      · have he' : ((e3 : Int) != 0) = true := by simp; omega
        have hn : Hid (e3 ≠ 0) := he
        clear he
        go_wp2_with (first
          | (go_at_call 164; refine q.mono ?_; rintro e w1 ⟨rfl, hP1, hk1⟩; have hB1 := (hB0.kept hk hBL).kept hk1 hBL)
          | (refine wpList_store_blk rfl 26 _ _ rfl (w.heap.size + 1) 26 _ [.int .i64 0, .int .i64 0, .int .i64 0, .int .u64 0, .bool false, .slice none 0 0] rfl rfl hB1 rfl Pack.Tryz.sizeM (by simp [Value.oneCell']) ?_; intro w4 hB4 hk4 hz4; replace hz4 : Hid _ := hz4))
        obtain ⟨f1, f2, f3⟩ := g3.out hz.out hy.out hn.out
        subst f1
        subst f2
        refine bodyPost_ret (results_msg rfl _ _ (w.heap.size + 1) _ _ _ _ _ _ rfl hB4) rfl ⟨rfl, f3 _ _ _ (by omega) hP1 hk4, (hkL.trans (hk.trans hk1)).young (g := w.heap.size + 1) (hk4.mono (by simp)) (by omega)⟩
    · obtain ⟨f1, f2, f3⟩ := g4.out hz.out hy.out hx3.out
      subst f1
      subst f2
      obtain ⟨a0, a1, a2, a3, a4, a5⟩ := Mv.In.six (x := ⟨k, i, o, m, s, sa, len, cap, d⟩) (hA0.kept hk hAL)
      have hB1 := hB0.kept hk hBL
      go_wp2_with (first
          | (refine wpList_store_blk rfl 26 _ _ rfl (w.heap.size + 1) 26 _ [.int .i64 k, .int .i64 i, .int .i64 o, .int .u64 (m : Int), .bool s, .slice sa len cap] rfl rfl hB1 rfl Pack.Tryz.sizeM (by simp [Value.oneCell']) ?_; intro w4 hB4 hk4 hz4; replace hz4 : Hid _ := hz4))
      refine bodyPost_ret (results_msg rfl _ _ (w.heap.size + 1) _ _ _ _ _ _ rfl hB4) rfl ⟨rfl, f3 _ _ _ (by omega) hP hk4, (hkL.trans hk).young (g := w.heap.size + 1) (hk4.mono (by simp)) (by omega)⟩
end Go.Proofs.YtfiofdmefgkloaaGreat.Copying

