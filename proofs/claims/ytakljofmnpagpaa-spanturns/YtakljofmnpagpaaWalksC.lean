/-
  The walks of Overlap, Holds, Whole and Extents on both sides: what each call answers, in the plain words of the Math text.
-/
import Derived.Test.YtakljofmnpagpaaWalksB
import Derived.RegionTactic
import Derived.Maps.AppendAt
namespace Go.Proofs.Ytakljofmnpagpaa
open Go.RowKit
open Math

/-- Behind the head of a call with two spans: they lie in two new blocks. -/
structure Pair (w : World) (o l p m : Int) (W : World) : Prop where
  below : Below w.heap.size w W
  room : w.heap.size + 1 < W.heap.size
  one : Box W w.heap.size (.int .i64 o) (.int .i64 l)
  two : Box W (w.heap.size + 1) (.int .i64 p) (.int .i64 m)
theorem Pair.after {w W W' : World} {o l p m : Int} (h : Pair w o l p m W) (hB : Below W.heap.size W W') : Pair w o l p m W' :=
  have r := h.room
  have g := hB.size
  ⟨h.below.trans (hB.mono h.below.size), by omega, h.one.below hB (by omega), h.two.below hB (by omega)⟩
theorem Pair.drewN {w W : World} {o l p m : Int} (h : Pair w o l p m W) (n : Nat) : Pair w o l p m (W.drewN n) := ⟨⟨h.below.os, h.below.tape, h.below.output, h.below.size, h.below.block⟩, h.room, h.one, h.two⟩
theorem pair_new (w : World) (o l p m : Int) : Pair w o l p m ((w.alloc (.cells #[.int .i64 o, .int .i64 l] 23)).alloc (.cells #[.int .i64 p, .int .i64 m] 23)) := by
  have b1 := below_new w (.cells #[.int .i64 o, .int .i64 l] 23)
  have b2 := below_new (w.alloc (.cells #[.int .i64 o, .int .i64 l] 23)) (.cells #[.int .i64 p, .int .i64 m] 23)
  have x1 := box_new w (.int .i64 o) (.int .i64 l) 23
  have x2 := box_new (w.alloc (.cells #[.int .i64 o, .int .i64 l] 23)) (.int .i64 p) (.int .i64 m) 23
  have s1 : (w.alloc (.cells #[.int .i64 o, .int .i64 l] 23)).heap.size = w.heap.size + 1 := by simp
  rw [s1] at x2
  exact ⟨b1.trans (b2.mono (by omega)), by simp, x1.below b2 (by omega), x2⟩
theorem Pair.cells {w W : World} {o l p m : Int} (h : Pair w o l p m W) :
    W.cell? ⟨w.heap.size, 0, none⟩ = some (.int .i64 o) ∧ W.cell? ⟨w.heap.size, 1, none⟩ = some (.int .i64 l) ∧ W.cell? ⟨w.heap.size + 1, 0, none⟩ = some (.int .i64 p) ∧ W.cell? ⟨w.heap.size + 1, 1, none⟩ = some (.int .i64 m) :=
  ⟨h.one.1, h.one.2, h.two.1, h.two.2⟩

/-- span.Overlap -/
theorem overlap_any (o l p m : Int) (w : World) :
    Calls Try.prog 19 #[.agg #[.int .i64 o, .int .i64 l], .agg #[.int .i64 p, .int .i64 m]] w fun e w' => e = .returned (.bool (over o l p m)) ∧ Below w.heap.size w w' := by
  have hP := pair_new w o l p m
  go_enter Try.func19, Try.ntmps19
  go_wp2_with (go_at_call 17; refine (meet_any _ _ _ _ _).mono ?_; rintro e w1 ⟨rfl, hB⟩; replace hP := hP.after hB; clear hB)
  go_ret
  exact ⟨rfl, hP.below.alloc (by have := hP.room; omega) _⟩

/-- twainref04.Overlap -/
theorem refOverlap_any (o l p m : Int) (w : World) :
    Calls Try.prog 23 #[.agg #[.int .i64 o, .int .i64 l], .agg #[.int .i64 p, .int .i64 m]] w fun e w' => e = .returned (.bool (over o l p m)) ∧ Below w.heap.size w w' := by
  have hP := pair_new w o l p m
  go_enter Try.func23, Try.ntmps23
  go_wp2_with (go_at_call 18; refine (refMeet_any _ _ _ _ _).mono ?_; rintro e w1 ⟨rfl, hB⟩; replace hP := hP.after hB; clear hB)
  go_ret
  exact ⟨rfl, hP.below.alloc (by have := hP.room; omega) _⟩

/-- span.Holds -/
theorem holds_any (o l p m : Int) (w : World) :
    Calls Try.prog 20 #[.agg #[.int .i64 o, .int .i64 l], .agg #[.int .i64 p, .int .i64 m]] w fun e w' => e = .returned (.bool (holds o l p m)) ∧ Below w.heap.size w w' := by
  have hP := pair_new w o l p m
  have mc := meet_any o l p m
  cases ho : over o l p m with
  | false =>
    rw [ho] at mc
    have hh : holds o l p m = false := by unfold holds; rw [ho]; rfl
    rw [hh]
    go_enter Try.func20, Try.ntmps20
    go_wp2_with (go_at_call 17; refine (mc _).mono ?_; rintro e w1 ⟨rfl, hB⟩; replace hP := hP.after hB; obtain ⟨c1, c2, c3, c4⟩ := hP.cells; clear hB)
    go_ret
    exact ⟨rfl, hP.below.alloc (by have := hP.room; omega) _⟩
  | true =>
    rw [ho] at mc
    have hh : holds o l p m = (mOff o l p m == p && mLen o l p m == m) := by unfold holds; rw [ho]; rfl
    rw [hh]
    go_enter Try.func20, Try.ntmps20
    go_wp2_with (go_at_call 17; refine (mc _).mono ?_; rintro e w1 ⟨rfl, hB⟩; replace hP := hP.after hB; have hr := hP.room; have d3 := fun x => (hP.after (below_new w1 x)).cells.2.2.1; have d4 := fun x => (hP.after (below_new w1 x)).cells.2.2.2; clear hB)
    all_goals (go_ret; refine ⟨ret_bool ?_, hP.below.alloc (by omega) _⟩; clear mc d3 d4; simp [*])

/-- twainref04.Holds -/
theorem refHolds_any (o l p m : Int) (w : World) :
    Calls Try.prog 21 #[.agg #[.int .i64 o, .int .i64 l], .agg #[.int .i64 p, .int .i64 m]] w fun e w' => e = .returned (.bool (holds o l p m)) ∧ Below w.heap.size w w' := by
  have hP := pair_new w o l p m
  have mc := refMeet_any o l p m
  cases ho : over o l p m with
  | false =>
    rw [ho] at mc
    have hh : holds o l p m = false := by unfold holds; rw [ho]; rfl
    rw [hh]
    go_enter Try.func21, Try.ntmps21
    go_wp2_with (go_at_call 18; refine (mc _).mono ?_; rintro e w1 ⟨rfl, hB⟩; replace hP := hP.after hB; obtain ⟨c1, c2, c3, c4⟩ := hP.cells; clear hB)
    go_ret
    exact ⟨rfl, hP.below.alloc (by have := hP.room; omega) _⟩
  | true =>
    rw [ho] at mc
    have hh : holds o l p m = (mOff o l p m == p && mLen o l p m == m) := by unfold holds; rw [ho]; rfl
    rw [hh]
    go_enter Try.func21, Try.ntmps21
    go_wp2_with (go_at_call 18; refine (mc _).mono ?_; rintro e w1 ⟨rfl, hB⟩; replace hP := hP.after hB; have hr := hP.room; have d3 := fun x => (hP.after (below_new w1 x)).cells.2.2.1; have d4 := fun x => (hP.after (below_new w1 x)).cells.2.2.2; clear hB)
    all_goals (go_ret; refine ⟨ret_bool ?_, hP.below.alloc (by omega) _⟩; clear mc d3 d4; simp [*])

/-- The sectors of extent e. -/
def wOff (e : Int) : Int := if 0 ≤ e ∧ e ≤ 63 then 4 * e else 0
def wLen (e : Int) : Int := if 0 ≤ e ∧ e ≤ 63 then 4 else 0
theorem wOff_in {e : Int} (h : 0 ≤ e) (h' : e ≤ 63) : wOff e = 4 * e := if_pos ⟨h, h'⟩
theorem wLen_in {e : Int} (h : 0 ≤ e) (h' : e ≤ 63) : wLen e = 4 := if_pos ⟨h, h'⟩
theorem wOff_out {e : Int} (h : e < 0 ∨ 63 < e) : wOff e = 0 := if_neg (by omega)
theorem wLen_out {e : Int} (h : e < 0 ∨ 63 < e) : wLen e = 0 := if_neg (by omega)

/-- span.Whole -/
theorem whole_any (e : Int) (w : World) :
    Calls Try.prog 14 #[.int .i64 e] w fun x w' => x = .returned (.agg #[.int .i64 (wOff e), .int .i64 (wLen e)]) ∧ Below w.heap.size w w' := by
  by_cases h1 : e < 0
  · rw [wOff_out (.inl h1), wLen_out (.inl h1)]
    go_enter Try.func14, Try.ntmps14
    go_wp2
    refine bodyPost_ret (results_cell_row rfl _ _ w.heap.size 23 #[_, _] (0, 0) _ rfl (heap_alloc_new w _) Try.underlying23 rfl size23) rfl ⟨rfl, below_new w _⟩
  · by_cases h2 : 63 < e
    · rw [wOff_out (.inr h2), wLen_out (.inr h2)]
      go_enter Try.func14, Try.ntmps14
      go_wp2
      refine bodyPost_ret (results_cell_row rfl _ _ w.heap.size 23 #[_, _] (0, 0) _ rfl (heap_alloc_new w _) Try.underlying23 rfl size23) rfl ⟨rfl, below_new w _⟩
    · rw [wOff_in (by omega) (by omega), wLen_in (by omega) (by omega)]
      go_enter Try.func14, Try.ntmps14
      go_wp2
      refine bodyPost_ret (results_cell_row rfl _ _ w.heap.size 23 #[_, _] (0, 0) _ rfl (heap_alloc_new w _) Try.underlying23 rfl size23) rfl ⟨rfl, below_new w _⟩

/-- twainref04.Whole -/
theorem refWhole_any (e : Int) (w : World) :
    Calls Try.prog 15 #[.int .i64 e] w fun x w' => x = .returned (.agg #[.int .i64 (wOff e), .int .i64 (wLen e)]) ∧ Below w.heap.size w w' := by
  by_cases h1 : e < 0
  · rw [wOff_out (.inl h1), wLen_out (.inl h1)]
    go_enter Try.func15, Try.ntmps15
    go_wp2
    refine bodyPost_ret (results_cell_row rfl _ _ w.heap.size 23 #[_, _] (0, 0) _ rfl (heap_alloc_new w _) Try.underlying23 rfl size23) rfl ⟨rfl, below_new w _⟩
  · by_cases h2 : 63 < e
    · rw [wOff_out (.inr h2), wLen_out (.inr h2)]
      go_enter Try.func15, Try.ntmps15
      go_wp2
      refine bodyPost_ret (results_cell_row rfl _ _ w.heap.size 23 #[_, _] (0, 0) _ rfl (heap_alloc_new w _) Try.underlying23 rfl size23) rfl ⟨rfl, below_new w _⟩
    · rw [wOff_in (by omega) (by omega), wLen_in (by omega) (by omega)]
      go_enter Try.func15, Try.ntmps15
      go_wp2
      refine bodyPost_ret (results_cell_row rfl _ _ w.heap.size 23 #[_, _] (0, 0) _ rfl (heap_alloc_new w _) Try.underlying23 rfl size23) rfl ⟨rfl, below_new w _⟩

/-- Row, as Extents asks it. -/
theorem row_ext {o l : Int} (h : plain o l = true) (hl : 1 ≤ l) (w : World) :
    Calls Try.prog 22 #[.int .i64 (o / 4), .int .i64 ((o + l - 1) / 4 - o / 4 + 1)] w fun e w' => e = .returned (.int .u64 (ext o l)) ∧ w' = w := by
  have hp := of_plain h
  by_cases ho : o < 256
  · have q := rowIn_any (o / 4).toNat ((o + l - 1) / 4 - o / 4 + 1) w (by omega) (by omega)
    rw [show (((o / 4).toNat : Nat) : Int) = o / 4 from by omega, ← ext_row h hl ho] at q
    exact q
  · have q := rowOut_any (o / 4) ((o + l - 1) / 4 - o / 4 + 1) w (by omega)
    rw [ext_zero (.inr (.inr (by omega)))]
    exact q

/-- span.Extents -/
theorem extents_any (o l : Int) (w : World) :
    Calls Try.prog 12 #[.agg #[.int .i64 o, .int .i64 l]] w fun e w' => e = .returned (.int .u64 (ext o l)) ∧ Below w.heap.size w w' := by
  have hb := below_new w (.cells #[.int .i64 o, .int .i64 l] 23)
  have hx := box_new w (.int .i64 o) (.int .i64 l) 23
  have pc := plain_any o l
  cases hp : plain o l with
  | false =>
    rw [hp] at pc
    rw [ext_zero (.inl hp)]
    go_enter Try.func12, Try.ntmps12
    go_wp2_with (go_at_call 6; refine (pc _).mono ?_; rintro e w1 ⟨rfl, hB⟩; replace hb := hb.trans (hB.mono hb.size))
    go_ret
    exact ⟨rfl, hb⟩
  | true =>
    rw [hp] at pc
    have hq := of_plain hp
    by_cases hl : l = 0
    · subst hl
      have hz : ext o 0 = 0 := ext_zero (.inr (.inl (by omega)))
      rw [hz]
      go_enter Try.func12, Try.ntmps12
      go_wp2_with (go_at_call 6; refine (pc _).mono ?_; rintro e w1 ⟨rfl, hB⟩; obtain ⟨c1, c2⟩ := hx.below hB (by simp); replace hb := hb.trans (hB.mono hb.size))
      go_ret
      exact ⟨rfl, hb⟩
    · have rc := fun w' => row_ext hp (by omega) w'
      have ec := end_any o l
      rw [show endN o l = o + l from by unfold endN; rw [hp]; rfl] at ec
      clear hp
      go_enter Try.func12, Try.ntmps12
      go_wp2_with (first
        | (go_at_call 6; refine (pc _).mono ?_; rintro e w1 ⟨rfl, hB⟩; replace hx := hx.below hB (by simp); obtain ⟨c1, c2⟩ := hx; replace hb := hb.trans (hB.mono hb.size); clear hB)
        | (go_at_call 8; refine (ec _).mono ?_; rintro e w1 ⟨rfl, hB⟩; replace hb := hb.trans (hB.mono hb.size); clear hB)
        | (go_at_call 22; refine (rc _).mono ?_; rintro e w1 ⟨rfl, rfl⟩))
      go_ret
      exact ⟨rfl, hb⟩

end Go.Proofs.Ytakljofmnpagpaa
