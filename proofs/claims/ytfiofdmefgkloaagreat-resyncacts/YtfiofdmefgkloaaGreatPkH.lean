import Derived.Test.YtfiofdmefgkloaaGreatPkE
/-
  The walks of the document's pack: what a kind has, need, Good.
-/
namespace Go.Proofs.YtfiofdmefgkloaaGreat.Pack
open Go.RowKit
open Seal (enc ret_bool ret_int)
open Seal.Math

theorem fine1 {x : Ms} (h : x.k = 1) : Fine x ↔ x.i = 0 ∧ x.o = 0 ∧ x.d.length = 0 := by
  obtain ⟨k, i, o, m, s, d⟩ := x
  unfold Fine
  simp only at *
  generalize d.length = L
  cases s <;> simp <;> omega
theorem fine2 {x : Ms} (h : x.k = 2) : Fine x ↔ x.s = false ∧ x.m = 0 ∧ (1 ≤ x.i ∧ x.i ≤ 72057594037927935) ∧ (0 ≤ x.o ∧ x.o ≤ 255) ∧ x.d.length % 16 = 0 ∧ 16 ≤ x.d.length ∧ x.d.length ≤ 128 := by
  obtain ⟨k, i, o, m, s, d⟩ := x
  unfold Fine
  simp only at *
  generalize d.length = L
  cases s <;> simp <;> omega
theorem fine3 {x : Ms} (h : 3 ≤ x.k ∧ x.k ≤ 5) : Fine x ↔ x.s = false ∧ x.m = 0 ∧ (1 ≤ x.i ∧ x.i ≤ 72057594037927935) ∧ x.o = 0 ∧ x.d.length = 0 := by
  obtain ⟨k, i, o, m, s, d⟩ := x
  unfold Fine
  simp only at *
  generalize d.length = L
  cases s <;> simp <;> omega
theorem fine6 {x : Ms} (h : x.k = 6) : Fine x ↔ x.s = false ∧ x.m = 0 ∧ x.i = 0 ∧ (0 ≤ x.o ∧ x.o ≤ 63) ∧ x.d.length = 64 := by
  obtain ⟨k, i, o, m, s, d⟩ := x
  unfold Fine
  simp only at *
  generalize d.length = L
  cases s <;> simp <;> omega
theorem fine7 {x : Ms} (h : x.k = 7) : Fine x ↔ x.s = false ∧ x.m = 0 ∧ x.i = 0 ∧ (0 ≤ x.o ∧ x.o ≤ 63) ∧ x.d.length = 0 := by
  obtain ⟨k, i, o, m, s, d⟩ := x
  unfold Fine
  simp only at *
  generalize d.length = L
  cases s <;> simp <;> omega
theorem fine8 {x : Ms} (h : x.k = 8) : Fine x ↔ x.s = false ∧ x.m = 0 ∧ x.i = 0 ∧ x.o = 0 ∧ x.d.length = 0 := by
  obtain ⟨k, i, o, m, s, d⟩ := x
  unfold Fine
  simp only at *
  generalize d.length = L
  cases s <;> simp <;> omega
set_option maxRecDepth 100000 in
/-- twainref17.hasWas -/
theorem hasWas_any (k : Int) (w : World) : Calls Tryz.prog 124 #[.int .i64 k] w fun e w' => e = .returned (.bool (decide (k = 1))) ∧ w' = w := by
  have hd : Hid (∀ b : Bool, (b = true ↔ (k = 1)) → b = decide (k = 1)) := fun b hb => by cases b <;> simp_all
  generalize decide (k = 1) = B at *
  by_cases h1 : k = 1
  · go_enter Tryz.func124, Tryz.ntmps124
    go_wp2_with fail
    go_ret
    refine ⟨ret_bool (hd.out _ ?_), rfl⟩
    first
      | (simp; done)
      | (simp; omega)
      | omega
  · go_enter Tryz.func124, Tryz.ntmps124
    go_wp2_with fail
    go_ret
    refine ⟨ret_bool (hd.out _ ?_), rfl⟩
    first
      | (simp; done)
      | (simp; omega)
      | omega
set_option maxRecDepth 100000 in
/-- twainref17.hasId -/
theorem hasId_any (k : Int) (w : World) : Calls Tryz.prog 125 #[.int .i64 k] w fun e w' => e = .returned (.bool (decide (2 ≤ k ∧ k ≤ 5))) ∧ w' = w := by
  have hd : Hid (∀ b : Bool, (b = true ↔ (2 ≤ k ∧ k ≤ 5)) → b = decide (2 ≤ k ∧ k ≤ 5)) := fun b hb => by cases b <;> simp_all
  generalize decide (2 ≤ k ∧ k ≤ 5) = B at *
  by_cases h2 : k < 2
  · go_enter Tryz.func125, Tryz.ntmps125
    go_wp2_with fail
    go_ret
    refine ⟨ret_bool (hd.out _ ?_), rfl⟩
    first
      | (simp; done)
      | (simp; omega)
      | omega
  · by_cases h1 : 5 < k
    · go_enter Tryz.func125, Tryz.ntmps125
      go_wp2_with fail
      go_ret
      refine ⟨ret_bool (hd.out _ ?_), rfl⟩
      first
        | (simp; done)
        | (simp; omega)
        | omega
    · go_enter Tryz.func125, Tryz.ntmps125
      go_wp2_with fail
      go_ret
      refine ⟨ret_bool (hd.out _ ?_), rfl⟩
      first
        | (simp; done)
        | (simp; omega)
        | omega
set_option maxRecDepth 100000 in
/-- twainref17.hasOff -/
theorem hasOff_any (k : Int) (w : World) : Calls Tryz.prog 126 #[.int .i64 k] w fun e w' => e = .returned (.bool (decide (k = 2 ∨ k = 6 ∨ k = 7))) ∧ w' = w := by
  have hd : Hid (∀ b : Bool, (b = true ↔ (k = 2 ∨ k = 6 ∨ k = 7)) → b = decide (k = 2 ∨ k = 6 ∨ k = 7)) := fun b hb => by cases b <;> simp_all
  generalize decide (k = 2 ∨ k = 6 ∨ k = 7) = B at *
  by_cases h2 : k = 2
  · go_enter Tryz.func126, Tryz.ntmps126
    go_wp2_with fail
    go_ret
    refine ⟨ret_bool (hd.out _ ?_), rfl⟩
    first
      | (simp; done)
      | (simp; omega)
      | omega
  · by_cases h1 : k = 6
    · go_enter Tryz.func126, Tryz.ntmps126
      go_wp2_with fail
      go_ret
      refine ⟨ret_bool (hd.out _ ?_), rfl⟩
      first
        | (simp; done)
        | (simp; omega)
        | omega
    · go_enter Tryz.func126, Tryz.ntmps126
      go_wp2_with fail
      go_ret
      refine ⟨ret_bool (hd.out _ ?_), rfl⟩
      first
        | (simp; done)
        | (simp; omega)
        | omega
set_option maxRecDepth 100000 in
/-- twainref17.hasData -/
theorem hasData_any (k : Int) (w : World) : Calls Tryz.prog 127 #[.int .i64 k] w fun e w' => e = .returned (.bool (decide (k = 2 ∨ k = 6))) ∧ w' = w := by
  have hd : Hid (∀ b : Bool, (b = true ↔ (k = 2 ∨ k = 6)) → b = decide (k = 2 ∨ k = 6)) := fun b hb => by cases b <;> simp_all
  generalize decide (k = 2 ∨ k = 6) = B at *
  by_cases h1 : k = 2
  · go_enter Tryz.func127, Tryz.ntmps127
    go_wp2_with fail
    go_ret
    refine ⟨ret_bool (hd.out _ ?_), rfl⟩
    first
      | (simp; done)
      | (simp; omega)
      | omega
  · go_enter Tryz.func127, Tryz.ntmps127
    go_wp2_with fail
    go_ret
    refine ⟨ret_bool (hd.out _ ?_), rfl⟩
    first
      | (simp; done)
      | (simp; omega)
      | omega
set_option maxRecDepth 100000 in
set_option maxHeartbeats 4000000 in
/-- twainref17.Good -/
theorem refGood_any (x : Mv) (hl : x.len = x.d.length) (hlen : x.len ≤ 9223372036854775807) (w : World) : Calls Tryz.prog 80 #[x.val] w fun e w' => e = .returned (.bool (good x.ms)) ∧ Kept [] w w' := by
  have hb0 : x.In (w.alloc (.cells #[.int .i64 x.k, .int .i64 x.i, .int .i64 x.o, .int .u64 (x.m : Int), .bool x.s, .slice x.sa x.len x.cap] 26)) w.heap.size := blk_new w 26 _
  have hk0 := kept_alloc [] w (.cells #[.int .i64 x.k, .int .i64 x.i, .int .i64 x.o, .int .u64 (x.m : Int), .bool x.s, .slice x.sa x.len x.cap] 26)
  obtain ⟨W, hW⟩ : ∃ W, w.alloc (.cells #[.int .i64 x.k, .int .i64 x.i, .int .i64 x.o, .int .u64 (x.m : Int), .bool x.s, .slice x.sa x.len x.cap] 26) = W := ⟨_, rfl⟩
  rw [hW] at hb0 hk0
  obtain ⟨c0, c1, c2, c3, c4, c5⟩ := hb0.six
  clear hb0
  have q1 := hasWas_any x.k
  have q2 := hasId_any x.k
  have q3 := hasOff_any x.k
  have q4 := hasData_any x.k
  have hT : ∀ P : Prop, (Fine x.ms ↔ P) → (good x.ms = true ↔ P) := fun P hP => ⟨fun h => hP.1 (fine_of h), fun h => good_in (hP.2 h)⟩
  obtain ⟨k, i, o, m, s, sa, len, cap, d⟩ := x
  simp only [Mv.ms, Mv.val] at *
  have hout : k < 1 ∨ 8 < k → good ⟨k, i, o, m, s, d⟩ = false := fun h => good_out (not_fine_kind h)
  have t1 := fun h => hT _ (fine1 (x := ⟨k, i, o, m, s, d⟩) h)
  have t2 := fun h => hT _ (fine2 (x := ⟨k, i, o, m, s, d⟩) h)
  have t3 := fun h => hT _ (fine3 (x := ⟨k, i, o, m, s, d⟩) h)
  have t6 := fun h => hT _ (fine6 (x := ⟨k, i, o, m, s, d⟩) h)
  have t7 := fun h => hT _ (fine7 (x := ⟨k, i, o, m, s, d⟩) h)
  have t8 := fun h => hT _ (fine8 (x := ⟨k, i, o, m, s, d⟩) h)
  simp only at t1 t2 t3 t6 t7 t8
  clear hT
  generalize good ⟨k, i, o, m, s, d⟩ = G at *
  subst hl
  generalize d.length = len at *
  by_cases hlow : k < 1
  · have t := hout (by omega)
    clear t1 t2 t3 t6 t7 t8 hout q1 q2 q3 q4
    replace t : Hid _ := t
    go_enter Tryz.func80, Tryz.ntmps80
    go_wp2_with fail
    go_ret
    exact ⟨ret_bool t.out.symm, hk0⟩
  · by_cases hhigh : 8 < k
    · have t := hout (by omega)
      clear t1 t2 t3 t6 t7 t8 hout q1 q2 q3 q4
      replace t : Hid _ := t
      go_enter Tryz.func80, Tryz.ntmps80
      go_wp2_with fail
      go_ret
      exact ⟨ret_bool t.out.symm, hk0⟩
    · by_cases h1 : k = 1
      · subst h1
        have t := t1 (by omega)
        clear t1 t2 t3 t6 t7 t8 hout
        rw [decide_eq_true (by omega : (1 : Int) = 1)] at q1
        rw [decide_eq_false (by omega : ¬ (2 ≤ (1 : Int) ∧ (1 : Int) ≤ 5))] at q2
        rw [decide_eq_false (by omega : ¬ ((1 : Int) = 2 ∨ (1 : Int) = 6 ∨ (1 : Int) = 7))] at q3
        rw [decide_eq_false (by omega : ¬ ((1 : Int) = 2 ∨ (1 : Int) = 6))] at q4
        replace t : Hid _ := t
        go_enter Tryz.func80, Tryz.ntmps80
        go_wp2_with (first
          | (go_at_call 124; refine (q1 _).mono ?_; rintro e w5 ⟨rfl, rfl⟩)
          | (go_at_call 125; refine (q2 _).mono ?_; rintro e w5 ⟨rfl, rfl⟩)
          | (go_at_call 126; refine (q3 _).mono ?_; rintro e w5 ⟨rfl, rfl⟩)
          | (go_at_call 127; refine (q4 _).mono ?_; rintro e w5 ⟨rfl, rfl⟩))
        all_goals
          go_ret
          refine ⟨ret_bool ?_, hk0⟩
          have := t.out
          clear t
          revert this
          cases G <;> simp <;> omega
      · by_cases h2 : k = 2
        · subst h2
          have t := t2 (by omega)
          clear t1 t2 t3 t6 t7 t8 hout
          rw [decide_eq_false (by omega : ¬ (2 : Int) = 1)] at q1
          rw [decide_eq_true (by omega : (2 ≤ (2 : Int) ∧ (2 : Int) ≤ 5))] at q2
          rw [decide_eq_true (by omega : ((2 : Int) = 2 ∨ (2 : Int) = 6 ∨ (2 : Int) = 7))] at q3
          rw [decide_eq_true (by omega : ((2 : Int) = 2 ∨ (2 : Int) = 6))] at q4
          replace t : Hid _ := t
          cases s with
          | true =>
            go_enter Tryz.func80, Tryz.ntmps80
            go_wp2_with (first
              | (go_at_call 124; refine (q1 _).mono ?_; rintro e w5 ⟨rfl, rfl⟩)
              | (go_at_call 125; refine (q2 _).mono ?_; rintro e w5 ⟨rfl, rfl⟩)
              | (go_at_call 126; refine (q3 _).mono ?_; rintro e w5 ⟨rfl, rfl⟩)
              | (go_at_call 127; refine (q4 _).mono ?_; rintro e w5 ⟨rfl, rfl⟩))
            all_goals
              go_ret
              refine ⟨ret_bool ?_, hk0⟩
              have := t.out
              clear t
              revert this
              cases G <;> simp <;> omega
          | false =>
            go_enter Tryz.func80, Tryz.ntmps80
            go_wp2_with (first
              | (go_at_call 124; refine (q1 _).mono ?_; rintro e w5 ⟨rfl, rfl⟩)
              | (go_at_call 125; refine (q2 _).mono ?_; rintro e w5 ⟨rfl, rfl⟩)
              | (go_at_call 126; refine (q3 _).mono ?_; rintro e w5 ⟨rfl, rfl⟩)
              | (go_at_call 127; refine (q4 _).mono ?_; rintro e w5 ⟨rfl, rfl⟩))
            all_goals
              go_ret
              refine ⟨ret_bool ?_, hk0⟩
              have := t.out
              clear t
              revert this
              cases G <;> simp <;> omega
        · by_cases h3 : k ≤ 5
          · have t := t3 (by omega)
            clear t1 t2 t3 t6 t7 t8 hout
            rw [decide_eq_false (by omega : ¬ k = 1)] at q1
            rw [decide_eq_true (by omega : (2 ≤ k ∧ k ≤ 5))] at q2
            rw [decide_eq_false (by omega : ¬ (k = 2 ∨ k = 6 ∨ k = 7))] at q3
            rw [decide_eq_false (by omega : ¬ (k = 2 ∨ k = 6))] at q4
            replace t : Hid _ := t
            cases s with
            | true =>
              go_enter Tryz.func80, Tryz.ntmps80
              go_wp2_with (first
                | (go_at_call 124; refine (q1 _).mono ?_; rintro e w5 ⟨rfl, rfl⟩)
                | (go_at_call 125; refine (q2 _).mono ?_; rintro e w5 ⟨rfl, rfl⟩)
                | (go_at_call 126; refine (q3 _).mono ?_; rintro e w5 ⟨rfl, rfl⟩)
                | (go_at_call 127; refine (q4 _).mono ?_; rintro e w5 ⟨rfl, rfl⟩))
              all_goals
                go_ret
                refine ⟨ret_bool ?_, hk0⟩
                have := t.out
                clear t
                revert this
                cases G <;> simp <;> omega
            | false =>
              go_enter Tryz.func80, Tryz.ntmps80
              go_wp2_with (first
                | (go_at_call 124; refine (q1 _).mono ?_; rintro e w5 ⟨rfl, rfl⟩)
                | (go_at_call 125; refine (q2 _).mono ?_; rintro e w5 ⟨rfl, rfl⟩)
                | (go_at_call 126; refine (q3 _).mono ?_; rintro e w5 ⟨rfl, rfl⟩)
                | (go_at_call 127; refine (q4 _).mono ?_; rintro e w5 ⟨rfl, rfl⟩))
              all_goals
                go_ret
                refine ⟨ret_bool ?_, hk0⟩
                have := t.out
                clear t
                revert this
                cases G <;> simp <;> omega
          · by_cases h6 : k = 6
            · subst h6
              have t := t6 (by omega)
              clear t1 t2 t3 t6 t7 t8 hout
              rw [decide_eq_false (by omega : ¬ (6 : Int) = 1)] at q1
              rw [decide_eq_false (by omega : ¬ (2 ≤ (6 : Int) ∧ (6 : Int) ≤ 5))] at q2
              rw [decide_eq_true (by omega : ((6 : Int) = 2 ∨ (6 : Int) = 6 ∨ (6 : Int) = 7))] at q3
              rw [decide_eq_true (by omega : ((6 : Int) = 2 ∨ (6 : Int) = 6))] at q4
              replace t : Hid _ := t
              cases s with
              | true =>
                go_enter Tryz.func80, Tryz.ntmps80
                go_wp2_with (first
                  | (go_at_call 124; refine (q1 _).mono ?_; rintro e w5 ⟨rfl, rfl⟩)
                  | (go_at_call 125; refine (q2 _).mono ?_; rintro e w5 ⟨rfl, rfl⟩)
                  | (go_at_call 126; refine (q3 _).mono ?_; rintro e w5 ⟨rfl, rfl⟩)
                  | (go_at_call 127; refine (q4 _).mono ?_; rintro e w5 ⟨rfl, rfl⟩))
                all_goals
                  go_ret
                  refine ⟨ret_bool ?_, hk0⟩
                  have := t.out
                  clear t
                  revert this
                  cases G <;> simp <;> omega
              | false =>
                go_enter Tryz.func80, Tryz.ntmps80
                go_wp2_with (first
                  | (go_at_call 124; refine (q1 _).mono ?_; rintro e w5 ⟨rfl, rfl⟩)
                  | (go_at_call 125; refine (q2 _).mono ?_; rintro e w5 ⟨rfl, rfl⟩)
                  | (go_at_call 126; refine (q3 _).mono ?_; rintro e w5 ⟨rfl, rfl⟩)
                  | (go_at_call 127; refine (q4 _).mono ?_; rintro e w5 ⟨rfl, rfl⟩))
                all_goals
                  go_ret
                  refine ⟨ret_bool ?_, hk0⟩
                  have := t.out
                  clear t
                  revert this
                  cases G <;> simp <;> omega
            · by_cases h7 : k = 7
              · subst h7
                have t := t7 (by omega)
                clear t1 t2 t3 t6 t7 t8 hout
                rw [decide_eq_false (by omega : ¬ (7 : Int) = 1)] at q1
                rw [decide_eq_false (by omega : ¬ (2 ≤ (7 : Int) ∧ (7 : Int) ≤ 5))] at q2
                rw [decide_eq_true (by omega : ((7 : Int) = 2 ∨ (7 : Int) = 6 ∨ (7 : Int) = 7))] at q3
                rw [decide_eq_false (by omega : ¬ ((7 : Int) = 2 ∨ (7 : Int) = 6))] at q4
                replace t : Hid _ := t
                cases s with
                | true =>
                  go_enter Tryz.func80, Tryz.ntmps80
                  go_wp2_with (first
                    | (go_at_call 124; refine (q1 _).mono ?_; rintro e w5 ⟨rfl, rfl⟩)
                    | (go_at_call 125; refine (q2 _).mono ?_; rintro e w5 ⟨rfl, rfl⟩)
                    | (go_at_call 126; refine (q3 _).mono ?_; rintro e w5 ⟨rfl, rfl⟩)
                    | (go_at_call 127; refine (q4 _).mono ?_; rintro e w5 ⟨rfl, rfl⟩))
                  all_goals
                    go_ret
                    refine ⟨ret_bool ?_, hk0⟩
                    have := t.out
                    clear t
                    revert this
                    cases G <;> simp <;> omega
                | false =>
                  go_enter Tryz.func80, Tryz.ntmps80
                  go_wp2_with (first
                    | (go_at_call 124; refine (q1 _).mono ?_; rintro e w5 ⟨rfl, rfl⟩)
                    | (go_at_call 125; refine (q2 _).mono ?_; rintro e w5 ⟨rfl, rfl⟩)
                    | (go_at_call 126; refine (q3 _).mono ?_; rintro e w5 ⟨rfl, rfl⟩)
                    | (go_at_call 127; refine (q4 _).mono ?_; rintro e w5 ⟨rfl, rfl⟩))
                  all_goals
                    go_ret
                    refine ⟨ret_bool ?_, hk0⟩
                    have := t.out
                    clear t
                    revert this
                    cases G <;> simp <;> omega
              · obtain h8 : k = 8 := by omega
                subst h8
                have t := t8 (by omega)
                clear t1 t2 t3 t6 t7 t8 hout
                rw [decide_eq_false (by omega : ¬ (8 : Int) = 1)] at q1
                rw [decide_eq_false (by omega : ¬ (2 ≤ (8 : Int) ∧ (8 : Int) ≤ 5))] at q2
                rw [decide_eq_false (by omega : ¬ ((8 : Int) = 2 ∨ (8 : Int) = 6 ∨ (8 : Int) = 7))] at q3
                rw [decide_eq_false (by omega : ¬ ((8 : Int) = 2 ∨ (8 : Int) = 6))] at q4
                replace t : Hid _ := t
                cases s with
                | true =>
                  go_enter Tryz.func80, Tryz.ntmps80
                  go_wp2_with (first
                    | (go_at_call 124; refine (q1 _).mono ?_; rintro e w5 ⟨rfl, rfl⟩)
                    | (go_at_call 125; refine (q2 _).mono ?_; rintro e w5 ⟨rfl, rfl⟩)
                    | (go_at_call 126; refine (q3 _).mono ?_; rintro e w5 ⟨rfl, rfl⟩)
                    | (go_at_call 127; refine (q4 _).mono ?_; rintro e w5 ⟨rfl, rfl⟩))
                  all_goals
                    go_ret
                    refine ⟨ret_bool ?_, hk0⟩
                    have := t.out
                    clear t
                    revert this
                    cases G <;> simp <;> omega
                | false =>
                  go_enter Tryz.func80, Tryz.ntmps80
                  go_wp2_with (first
                    | (go_at_call 124; refine (q1 _).mono ?_; rintro e w5 ⟨rfl, rfl⟩)
                    | (go_at_call 125; refine (q2 _).mono ?_; rintro e w5 ⟨rfl, rfl⟩)
                    | (go_at_call 126; refine (q3 _).mono ?_; rintro e w5 ⟨rfl, rfl⟩)
                    | (go_at_call 127; refine (q4 _).mono ?_; rintro e w5 ⟨rfl, rfl⟩))
                  all_goals
                    go_ret
                    refine ⟨ret_bool ?_, hk0⟩
                    have := t.out
                    clear t
                    revert this
                    cases G <;> simp <;> omega
end Go.Proofs.YtfiofdmefgkloaaGreat.Pack

