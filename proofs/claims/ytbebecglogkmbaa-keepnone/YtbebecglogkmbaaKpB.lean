/-
  The document's keep: New, Tick, Alive; lives.
-/
import Derived.Test.YtbebecglogkmbaaKpA
namespace Go.Proofs.Ytbebecglogkmbaa.Keep
open Go.RowKit

/-- The document's Keep in its block. -/
def RefAt (W : World) (r P a : Nat) : Prop := Blk W r 32 #[.int .i64 (a : Int), .int .i64 (P : Int)] ∧ 1 ≤ P ∧ P ≤ 100 ∧ a ≤ P
theorem RefAt.kept {K : List Nat} {A B : World} {o P a : Nat} (h : RefAt A o P a) (hk : Kept K A B) (ho : o ∉ K) : RefAt B o P a := ⟨h.1.kept hk ho, h.2⟩
theorem RefAt.two {W : World} {o P a : Nat} (h : RefAt W o P a) : W.cell? ⟨o, 0, none⟩ = some (.int .i64 (a : Int)) ∧ W.cell? ⟨o, 1, none⟩ = some (.int .i64 (P : Int)) := ⟨(Blk.cell h.1 0).trans rfl, (Blk.cell h.1 1).trans rfl⟩
set_option maxRecDepth 100000 in
/-- The document's New -/
theorem rnew_good (P : Nat) (h1 : 1 ≤ P) (h2 : P ≤ 100) (w : World) :
    Calls Try.prog 8 #[.int .i64 (P : Int)] w fun e w' => e = .returned (.tuple #[.pointer (some ⟨w.heap.size, 0, none⟩), .int .i64 0]) ∧ RefAt w' w.heap.size P 0 ∧ Hid (w'.heap.size = w.heap.size + 1) ∧ Kept [] w w' := by
  have i1 : ¬ ((P : Int) < 1) := by omega
  have i2 : ¬ ((100 : Int) < (P : Int)) := by omega
  go_enter Try.func8, Try.ntmps8
  go_wp2
  go_ret2
  exact ⟨rfl, ⟨blk_new w 32 #[.int .i64 0, .int .i64 (P : Int)], h1, h2, by omega⟩, by show _ = _; simp, kept_alloc [] _ _⟩
set_option maxRecDepth 100000 in
theorem rnew_bad (p : Int) (h : p < 1 ∨ 100 < p) (w : World) :
    Calls Try.prog 8 #[.int .i64 p] w fun e w' => e = .returned (.tuple #[.pointer none, .int .i64 2]) ∧ w' = w := by
  rcases h with h | h
  · go_enter Try.func8, Try.ntmps8
    go_wp2
    go_ret2
    exact ⟨rfl, rfl⟩
  · have i1 : ¬ (p < 1) := by omega
    go_enter Try.func8, Try.ntmps8
    go_wp2
    go_ret2
    exact ⟨rfl, rfl⟩
set_option maxRecDepth 100000 in
/-- The document's Alive -/
theorem ralive_drew {r P a : Nat} (w : World) (h : RefAt w r P a) :
    Calls Try.prog 14 #[.pointer (some ⟨r, 0, none⟩)] w fun e w' => e = .returned (.bool (decide (a < P))) ∧ ∃ n, w' = w.drewN n := by
  have c := fun n => (h.kept (kept_drewN [] w n) (by simp)).two
  go_enter Try.func14, Try.ntmps14
  go_wp2_with fail
  go_quiet (fail)
  go_wp2
  go_ret
  exact ⟨rfl, _, rfl⟩
set_option maxRecDepth 100000 in
/-- The document's Tick -/
theorem rtick_any {r P a : Nat} (w : World) (h : RefAt w r P a) :
    Calls Try.prog 10 #[.pointer (some ⟨r, 0, none⟩)] w fun e w' => e = .returned (.tuple #[]) ∧ RefAt w' r P (tickN P a) ∧ Kept [r] w w' := by
  have c := fun n => (h.kept (kept_drewN [] w n) (by simp)).two
  have hI := fun n => h.kept (kept_drewN [] w n) (by simp)
  have hf := fun n => (hI n).1.frozen 0
  have hle : (a : Int) ≤ 100 := by have := h.2; omega
  by_cases hlt : a < P
  · have e : tickN P a = a + 1 := by simp [tickN, hlt]
    rw [e]
    clear e
    go_enter Try.func10, Try.ntmps10
    go_wp2_with fail
    go_quiet (fail)
    go_wp2_with fail
    go_end0
    exact ⟨rfl, ⟨by have := (hI nq).1.set 0 (.int .i64 ((a : Int) + 1)); simp at this; exact this, h.2.1, h.2.2.1, by omega⟩, (kept_drewN [r] _ _).trans (kept_set (by simp) _ _ _)⟩
  · have e : tickN P a = a := by have := h.2.2.2; unfold tickN; split <;> omega
    rw [e]
    clear e
    go_enter Try.func10, Try.ntmps10
    go_wp2_with fail
    go_quiet (fail)
    go_wp2_with fail
    go_end0
    exact ⟨rfl, hI _, kept_drewN [r] _ _⟩
set_option maxRecDepth 100000 in
theorem lives_any (w : World) : Calls Try.prog 6 #[] w fun e w' => e = .returned (.bool true) ∧ Kept [] w w' := by
  have qn := new_good 2 (by omega) (by omega) w
  have q1 := fun W (h : KpAt W w.heap.size 2 0) => tick_any W h
  have q2 := fun W (h : KpAt W w.heap.size 2 1) => tick_any W h
  have q3 := fun W (h : KpAt W w.heap.size 2 1) => alive_any W h
  have q4 := fun W (h : KpAt W w.heap.size 2 2) => alive_any W h
  have q5 := fun W (h : KpAt W w.heap.size 2 2) => age_any W h
  rw [show tickN 2 0 = 1 from rfl] at q1
  rw [show tickN 2 1 = 2 from rfl] at q2
  simp only [show decide (1 < 2) = true from rfl, show decide (2 < 2) = false from rfl] at q3 q4
  go_enter Try.func6, Try.ntmps6
  go_wp2_with (first
    | (go_at_call 7; refine qn.mono ?_; rintro e w1 ⟨rfl, h1, hs1, hk1⟩; clear qn)
    | (go_at_call 9; refine (q1 _ h1).mono ?_; rintro e w2 ⟨rfl, h2, hk2⟩; clear q1)
    | (go_at_call 13; refine (q3 _ h2).mono ?_; rintro e w3 ⟨rfl, hk3⟩; have h3 := h2.kept hk3 (by simp); clear q3)
    | (go_at_call 9; refine (q2 _ h3).mono ?_; rintro e w4 ⟨rfl, h4, hk4⟩; clear q2)
    | (go_at_call 13; refine (q4 _ h4).mono ?_; rintro e w5 ⟨rfl, hk5⟩; have h5 := h4.kept hk5 (by simp); clear q4)
    | (go_at_call 12; refine (q5 _ h5).mono ?_; rintro e w5 ⟨rfl, rfl⟩; clear q5))
  go_ret
  exact ⟨rfl, hk1.young (((hk2.trans (hk3.mono (by simp))).trans hk4).trans (hk5.mono (by simp))) (Nat.le_refl _)⟩
end Go.Proofs.Ytbebecglogkmbaa.Keep
