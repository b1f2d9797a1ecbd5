import Derived.Test.YtnbkbakbjllmcaaBase
/-
  The walks of the program's inbox: New, isMade, isNext, count, doneIf, Take, Ack; of an In that no call made; the document's Take.
-/
namespace Go.Proofs.Ytnbkbakbjllmcaa.Inbox
open Go.RowKit

theorem ret_int {k : IntKind} {a b : Int} (h : a = b) : Ending.returned (.int k a) = .returned (.int k b) := by rw [h]
theorem ret_bool {a b : Bool} (h : a = b) : Ending.returned (.bool a) = .returned (.bool b) := by rw [h]
/-- Is z the one behind the last, L? -/
def takeB (L : Nat) (z : Int) : Bool := decide (L < 2147483647) && (z == (L : Int) + 1)
/-- The last one behind a Take of z. -/
def takeL (L : Nat) (z : Int) : Nat := if takeB L z then L + 1 else L
theorem takeB_is {L : Nat} {z : Int} (h : takeB L z = true) : L < 2147483647 ∧ z = (L : Int) + 1 := by
  unfold takeB at h
  simpa using h
/-- An In in its block, L the last one that was taken. -/
def InAt (W : World) (o L : Nat) : Prop := Blk W o 86 #[.bool true, .int .i64 (L : Int)] ∧ L ≤ 2147483647
theorem InAt.kept {K : List Nat} {A B : World} {o L : Nat} (h : InAt A o L) (hk : Kept K A B) (ho : o ∉ K) : InAt B o L := ⟨h.1.kept hk ho, h.2⟩
theorem InAt.two {W : World} {o L : Nat} (h : InAt W o L) : W.cell? ⟨o, 0, none⟩ = some (.bool true) ∧ W.cell? ⟨o, 1, none⟩ = some (.int .i64 (L : Int)) := ⟨(Blk.cell h.1 0).trans rfl, (Blk.cell h.1 1).trans rfl⟩
set_option maxRecDepth 100000 in
/-- New -/
theorem new_any (w : World) :
    Calls Try.prog 19 #[] w fun e w' => e = .returned (.pointer (some ⟨w.heap.size, 0, none⟩)) ∧ InAt w' w.heap.size 0 ∧ Hid (w'.heap.size = w.heap.size + 1) ∧ Kept [] w w' := by
  go_enter Try.func19, Try.ntmps19
  go_wp2
  go_ret
  exact ⟨rfl, ⟨blk_new w 86 #[.bool true, .int .i64 0], by omega⟩, by show _ = _; simp, kept_alloc [] _ _⟩
set_option maxRecDepth 100000 in
/-- isMade -/
theorem made_any {o L : Nat} (w : World) (h : InAt w o L) :
    Calls Try.prog 60 #[.pointer (some ⟨o, 0, none⟩)] w fun e w' => e = .returned (.bool true) ∧ w' = w := by
  have c0 := h.two.1
  go_enter Try.func60, Try.ntmps60
  go_wp2
  go_ret
  exact ⟨rfl, rfl⟩
set_option maxRecDepth 100000 in
/-- isNext -/
theorem next_any {o L : Nat} (z : Int) (w : World) (h : InAt w o L) :
    Calls Try.prog 68 #[.pointer (some ⟨o, 0, none⟩), .int .i64 z] w fun e w' => e = .returned (.bool (takeB L z)) ∧ w' = w := by
  have c1 := h.two.2
  have hL := h.2
  by_cases hlt : L < 2147483647
  · have i1 : (L : Int) < 2147483647 := by omega
    have e : takeB L z = (z == (L : Int) + 1) := by simp [takeB, hlt]
    rw [e]
    go_enter Try.func68, Try.ntmps68
    go_wp2
    go_ret
    exact ⟨rfl, rfl⟩
  · have i1 : ¬ ((L : Int) < 2147483647) := by omega
    have e : takeB L z = false := by simp [takeB, hlt]
    rw [e]
    go_enter Try.func68, Try.ntmps68
    go_wp2
    go_ret
    exact ⟨rfl, rfl⟩
set_option maxRecDepth 100000 in
/-- count -/
theorem count_any {o L : Nat} (w : World) (h : InAt w o L) (hL : L < 2147483647) :
    Calls Try.prog 69 #[.pointer (some ⟨o, 0, none⟩)] w fun e w' => e = .returned (.tuple #[]) ∧ InAt w' o (L + 1) ∧ Kept [o] w w' := by
  have c1 := h.two.2
  have hf := h.1.frozen 1
  have hb : (L : Int) < 2147483647 := by omega
  go_enter Try.func69, Try.ntmps69
  go_wp2
  go_end0
  exact ⟨rfl, ⟨by have := h.1.set 1 (.int .i64 ((L : Int) + 1)); simpa using this, by omega⟩, kept_set (by simp) _ _ _⟩
set_option maxRecDepth 100000 in
/-- doneIf, where it may be -/
theorem done_yes {o L : Nat} (w : World) (h : InAt w o L) (hL : L < 2147483647) :
    Calls Try.prog 67 #[.bool true, .func (.func 69) #[.pointer (some ⟨o, 0, none⟩)] #[]] w fun e w' => e = .returned (.bool true) ∧ InAt w' o (L + 1) ∧ Kept [o] w w' := by
  have q := count_any w h hL
  go_enter Try.func67, Try.ntmps67
  go_wp2_with (go_at_call 69; refine q.mono ?_; rintro e w1 ⟨rfl, h1, hk1⟩)
  go_ret
  exact ⟨rfl, h1, hk1⟩
set_option maxRecDepth 100000 in
/-- doneIf, where it may not be -/
theorem done_no (f : Value) (w : World) :
    Calls Try.prog 67 #[.bool false, f] w fun e w' => e = .returned (.bool false) ∧ w' = w := by
  go_enter Try.func67, Try.ntmps67
  go_wp2
  go_ret
  exact ⟨rfl, rfl⟩
set_option maxRecDepth 100000 in
/-- Take -/
theorem take_any {o L : Nat} (z : Int) (w : World) (h : InAt w o L) :
    Calls Try.prog 55 #[.pointer (some ⟨o, 0, none⟩), .int .i64 z] w fun e w' => e = .returned (.bool (takeB L z)) ∧ InAt w' o (takeL L z) ∧ Kept [o] w w' := by
  have qm := made_any w h
  have qn := next_any z w h
  obtain ⟨t, ht⟩ : ∃ t, takeB L z = t := ⟨_, rfl⟩
  unfold takeL
  rw [ht] at qn ⊢
  cases t
  · have hI := h
    have qd := fun f => done_no f w
    go_enter Try.func55, Try.ntmps55
    go_wp2_with (first
      | (go_at_call 60; refine qm.mono ?_; rintro e w ⟨rfl, rfl⟩)
      | (go_at_call 68; refine qn.mono ?_; rintro e w ⟨rfl, rfl⟩)
      | (go_at_call 67; refine (qd _).mono ?_; rintro e w ⟨rfl, rfl⟩))
    go_ret
    exact ⟨rfl, hI, Kept.refl _ _⟩
  · have qd := done_yes w h (takeB_is ht).1
    go_enter Try.func55, Try.ntmps55
    go_wp2_with (first
      | (go_at_call 60; refine qm.mono ?_; rintro e w ⟨rfl, rfl⟩)
      | (go_at_call 68; refine qn.mono ?_; rintro e w ⟨rfl, rfl⟩)
      | (go_at_call 67; refine qd.mono ?_; rintro e w1 ⟨rfl, h1, hk1⟩))
    go_ret
    exact ⟨rfl, h1, hk1⟩
set_option maxRecDepth 100000 in
/-- Ack -/
theorem ack_any {o L : Nat} (w : World) (h : InAt w o L) :
    Calls Try.prog 45 #[.pointer (some ⟨o, 0, none⟩)] w fun e w' => e = .returned (.int .i64 (L : Int)) ∧ w' = w := by
  have c1 := h.two.2
  have q := made_any w h
  go_enter Try.func45, Try.ntmps45
  go_wp2_with (go_at_call 60; refine q.mono ?_; rintro e w ⟨rfl, rfl⟩)
  go_ret
  exact ⟨rfl, rfl⟩
/-- An In that no call made: nil, or noughts. -/
def NoIn (W : World) (p : Option Addr) : Prop := p = none ∨ ∃ o, p = some ⟨o, 0, none⟩ ∧ Blk W o 86 #[.bool false, .int .i64 0]
theorem NoIn.kept {A B : World} {p : Option Addr} (h : NoIn A p) (hk : Kept [] A B) : NoIn B p := h.imp id fun ⟨o, e, hb⟩ => ⟨o, e, hb.kept hk (by simp)⟩
end Go.Proofs.Ytnbkbakbjllmcaa.Inbox

