/-
  The walks of Same, the program's and the document's, and of lives.
-/
import Derived.Test.YtlbajnffbiaooaaWrG
namespace Go.Proofs.Ytlbajnffbiaooaa.Wire
open Go.RowKit
open Seal (enc ret_bool ret_int)
open Seal.Math

/-- Are both alike? -/
def sameB (a b : Ps) : Bool := decide (a.f = b.f) && decide (a.t = b.t) && decide (a.k = b.k) && decide (a.s = b.s) && decide (a.a = b.a) && decide (a.d = b.d)
theorem sameB_eq {a b : Ps} : sameB a b = true ↔ a = b := by
  obtain ⟨f, t, k, s, z, d⟩ := a
  obtain ⟨f', t', k', s', z', d'⟩ := b
  simp [sameB, and_assoc]
theorem sameB_refl (a : Ps) : sameB a a = true := sameB_eq.2 rfl
set_option maxRecDepth 100000 in
set_option maxHeartbeats 4000000 in
/-- Same -/
theorem same_any (x y : Pv) (lo hi lo' hi' : Nat) (w : World) (h : x.At lo hi w) (hh : hi ≤ w.heap.size) (hy : y.At lo' hi' w) (hyy : hi' ≤ w.heap.size) :
    Calls Try.prog 17 #[x.val, y.val] w fun e w' => e = .returned (.bool (sameB x.ps y.ps)) ∧ Kept [] w w' := by
  have hP := pair_new w x y
  have r1 := h.row.kept hh hP.kept (by simp)
  have r2 := hy.row.kept hyy hP.kept (by simp)
  have q := equal_any _ _ _ _ _ _ _ _ _ r1 r2
  obtain ⟨f, t, k, s, a, sa, len, cap, d⟩ := x
  obtain ⟨f', t', k', s', a', sb, len', cap', d'⟩ := y
  simp only [Pv.ps, Pv.val] at *
  have hG : Hid (sameB ⟨f, t, k, s, a, d⟩ ⟨f', t', k', s', a', d'⟩ = (decide (f = f') && decide (t = t') && decide (k = k') && decide (s = s') && decide (a = a') && decide (d = d'))) := rfl
  generalize sameB ⟨f, t, k, s, a, d⟩ ⟨f', t', k', s', a', d'⟩ = G at *
  generalize hD : decide (d = d') = D at *
  clear hD
  obtain ⟨c0, c1, c2, c3, c4, c5⟩ := hP.one.six
  obtain ⟨e0, e1, e2, e3, e4, e5⟩ := hP.two.six
  have hk := hP.kept
  clear hP r1 r2 h hy
  by_cases gf : f = f'
  · subst gf
    by_cases gt : t = t'
    · subst gt
      by_cases gk : k = k'
      · subst gk
        by_cases gs : s = s'
        · subst gs
          by_cases ga : a = a'
          · subst ga
            go_enter Try.func17, Try.ntmps17
            go_wp2_with (first
                | (go_at_call 30; refine q.mono ?_; rintro e w1 ⟨rfl, rfl⟩))
            go_ret
            exact ⟨ret_bool (by rw [hG.out]; simp), hk⟩
          · have hn : Hid (¬ a = a') := ga
            have hq : ((a : Int) == (a' : Int)) = false := by simp; omega
            go_enter Try.func17, Try.ntmps17
            go_wp2_with (first
                | (go_at_call 30; refine q.mono ?_; rintro e w1 ⟨rfl, rfl⟩))
            go_ret
            exact ⟨ret_bool (by rw [hG.out]; simp [hn.out]), hk⟩
        · have hn : Hid (¬ s = s') := gs
          have hq : ((s : Int) == (s' : Int)) = false := by simp; omega
          go_enter Try.func17, Try.ntmps17
          go_wp2_with (first
              | (go_at_call 30; refine q.mono ?_; rintro e w1 ⟨rfl, rfl⟩))
          go_ret
          exact ⟨ret_bool (by rw [hG.out]; simp [hn.out]), hk⟩
      · have hn : Hid (¬ k = k') := gk
        have hq : ((k : Int) == (k' : Int)) = false := by simp; omega
        go_enter Try.func17, Try.ntmps17
        go_wp2_with (first
            | (go_at_call 30; refine q.mono ?_; rintro e w1 ⟨rfl, rfl⟩))
        go_ret
        exact ⟨ret_bool (by rw [hG.out]; simp [hn.out]), hk⟩
    · have hn : Hid (¬ t = t') := gt
      have hq : ((t : Int) == (t' : Int)) = false := by simp; omega
      go_enter Try.func17, Try.ntmps17
      go_wp2_with (first
          | (go_at_call 30; refine q.mono ?_; rintro e w1 ⟨rfl, rfl⟩))
      go_ret
      exact ⟨ret_bool (by rw [hG.out]; simp [hn.out]), hk⟩
  · have hn : Hid (¬ f = f') := gf
    have hq : ((f : Int) == (f' : Int)) = false := by simp; omega
    go_enter Try.func17, Try.ntmps17
    go_wp2_with (first
        | (go_at_call 30; refine q.mono ?_; rintro e w1 ⟨rfl, rfl⟩))
    go_ret
    exact ⟨ret_bool (by rw [hG.out]; simp [hn.out]), hk⟩
set_option maxRecDepth 100000 in
set_option maxHeartbeats 4000000 in
/-- twainref18.Same -/
theorem refSame_any (x y : Pv) (lo hi lo' hi' : Nat) (w : World) (h : x.At lo hi w) (hh : hi ≤ w.heap.size) (hy : y.At lo' hi' w) (hyy : hi' ≤ w.heap.size) :
    Calls Try.prog 16 #[x.val, y.val] w fun e w' => e = .returned (.bool (sameB x.ps y.ps)) ∧ Kept [] w w' := by
  have hP := pair_new w x y
  have r1 := h.row.kept hh hP.kept (by simp)
  have r2 := hy.row.kept hyy hP.kept (by simp)
  have ht : Hid (((txt x.d).toList == (txt y.d).toList) = decide (x.d = y.d)) := txt_eq h.row.1 hy.row.1
  have t1 := conv_txt r1
  have t2 := conv_txt r2
  generalize txt x.d = T1 at *
  generalize txt y.d = T2 at *
  obtain ⟨f, t, k, s, a, sa, len, cap, d⟩ := x
  obtain ⟨f', t', k', s', a', sb, len', cap', d'⟩ := y
  simp only [Pv.ps, Pv.val] at *
  have hG : Hid (sameB ⟨f, t, k, s, a, d⟩ ⟨f', t', k', s', a', d'⟩ = (decide (f = f') && decide (t = t') && decide (k = k') && decide (s = s') && decide (a = a') && decide (d = d'))) := rfl
  generalize sameB ⟨f, t, k, s, a, d⟩ ⟨f', t', k', s', a', d'⟩ = G at *
  generalize hD : decide (d = d') = D at *
  clear hD
  obtain ⟨c0, c1, c2, c3, c4, c5⟩ := hP.one.six
  obtain ⟨e0, e1, e2, e3, e4, e5⟩ := hP.two.six
  have hk := hP.kept
  clear hP r1 r2 h hy
  by_cases gf : f = f'
  · subst gf
    by_cases gt : t = t'
    · subst gt
      by_cases gk : k = k'
      · subst gk
        by_cases gs : s = s'
        · subst gs
          by_cases ga : a = a'
          · subst ga
            go_enter Try.func16, Try.ntmps16
            go_wp2_with fail
            go_ret
            exact ⟨ret_bool (by rw [hG.out]; rw [ht.out]; simp), hk⟩
          · have hn : Hid (¬ a = a') := ga
            have hq : ((a : Int) == (a' : Int)) = false := by simp; omega
            go_enter Try.func16, Try.ntmps16
            go_wp2_with fail
            go_ret
            exact ⟨ret_bool (by rw [hG.out]; simp [hn.out]), hk⟩
        · have hn : Hid (¬ s = s') := gs
          have hq : ((s : Int) == (s' : Int)) = false := by simp; omega
          go_enter Try.func16, Try.ntmps16
          go_wp2_with fail
          go_ret
          exact ⟨ret_bool (by rw [hG.out]; simp [hn.out]), hk⟩
      · have hn : Hid (¬ k = k') := gk
        have hq : ((k : Int) == (k' : Int)) = false := by simp; omega
        go_enter Try.func16, Try.ntmps16
        go_wp2_with fail
        go_ret
        exact ⟨ret_bool (by rw [hG.out]; simp [hn.out]), hk⟩
    · have hn : Hid (¬ t = t') := gt
      have hq : ((t : Int) == (t' : Int)) = false := by simp; omega
      go_enter Try.func16, Try.ntmps16
      go_wp2_with fail
      go_ret
      exact ⟨ret_bool (by rw [hG.out]; simp [hn.out]), hk⟩
  · have hn : Hid (¬ f = f') := gf
    have hq : ((f : Int) == (f' : Int)) = false := by simp; omega
    go_enter Try.func16, Try.ntmps16
    go_wp2_with fail
    go_ret
    exact ⟨ret_bool (by rw [hG.out]; simp [hn.out]), hk⟩
theorem fine_hello : Fine ⟨1, 0, 1, 0, 0, []⟩ := ⟨by decide, ⟨by decide, by decide⟩, ⟨by decide, by decide⟩, .inl ⟨rfl, rfl, rfl, rfl, rfl⟩⟩
theorem parse_few {l : List Nat} (h : l.length < 23) : parseE l = 8 := if_pos h
set_option maxRecDepth 100000 in
set_option maxHeartbeats 4000000 in
/-- lives -/
theorem lives_any (w : World) : Calls Try.prog 7 #[] w fun e w' => e = .returned (.bool true) ∧ Kept [] w w' := by
  have q1 : ∀ A : World, Calls Try.prog 10 #[.agg #[.int .u32 1, .int .u32 0, .int .i64 1, .int .i64 0, .int .i64 0, .slice none 0 0]] A fun e w' => ∃ sa cap, e = .returned (.slice sa 23 cap) ∧ Kept [] A w' := fun A => by
    have := bytes_any ⟨1, 0, 1, 0, 0, none, 0, 0, []⟩ 0 0 A ⟨byteRow_nil _ _ _, by show (1 : Nat) < _; decide, by show (0 : Nat) < _; decide⟩ (Nat.zero_le _) (by show (0 : Nat) ≤ _; decide)
    have hl : (bytesL ⟨1, 0, 1, 0, 0, []⟩).length = 23 := bytesL_length fine_hello
    simp only [Pv.ps, hl] at this
    exact this.mono fun _ _ ⟨sa, cap, e, _, hk⟩ => ⟨sa, cap, e, hk⟩
  have hmk : ∀ w : World, (Instr.makeSlice 23 (.int .i64 22) (.int .i64 22)).run Try.prog w = .ok (.slice (some ⟨w.heap.size, 0, none⟩) 22 22) (w.alloc (.cells (Seal.zeros 22 |>.map enc).toArray 5)) := fun _ => by kernel_rfl
  have q2 : ∀ A : World, Calls Try.prog 14 #[.slice (some ⟨A.heap.size, 0, none⟩) 22 22] (A.alloc (.cells (Seal.zeros 22 |>.map enc).toArray 5)) fun e w' => ∃ y : Pv, e = .returned (.tuple #[.agg #[.int .u32 (y.f : Int), .int .u32 (y.t : Int), .int .i64 y.k, .int .i64 y.s, .int .i64 y.a, .slice y.sa y.len y.cap], .int .i64 8]) ∧ Kept [] (A.alloc (.cells (Seal.zeros 22 |>.map enc).toArray 5)) w' := fun A => by
    have ho := own_arr (base := A.heap.size) (Seal.arr_new A 5 (Seal.zeros 22)) (Nat.le_refl _) (by decide) (by decide)
    have := parse_any _ (Seal.zeros 22) _ _ _ ho.byteRow (Nat.le_refl _) (by decide)
    rw [parse_few (by decide)] at this
    exact this.mono fun _ _ ⟨y, e, _, _, hk⟩ => ⟨y, e, hk⟩
  have q3 : ∀ A : World, Calls Try.prog 12 #[.int .i64 2] A fun e w' => e = .returned (.string { data := #[112, 105, 110, 103] }) ∧ Kept [] A w' := fun A => name_any 2 A
  have hka : ∀ A : World, Kept [] A (A.alloc (.cells (Seal.zeros 22 |>.map enc).toArray 5)) := fun A => kept_alloc [] _ _
  generalize (Seal.zeros 22 |>.map enc).toArray = ZZ at *
  go_enter Try.func7, Try.ntmps7
  go_wp2_with (first
    | (go_at_call 10; refine (q1 _).mono ?_; rintro e w1 ⟨sa1, cap1, rfl, hk1⟩)
    | (go_at_call 14; refine (q2 _).mono ?_; rintro e w2 ⟨y, rfl, hk2⟩)
    | (go_at_call 12; refine (q3 _).mono ?_; rintro e w3 ⟨rfl, hk3⟩))
  go_ret
  exact ⟨rfl, ((hk1.trans (hka _)).trans hk2).trans ((kept_alloc [] _ _).trans hk3)⟩
end Go.Proofs.Ytlbajnffbiaooaa.Wire
