/-
  The document's inbox, and what the statements are made of: the document's Take, lives, numbers that came in; the walks of InboxTakes, InboxOnce and InboxNone.
-/
import Derived.Test.YtnghfkmaadoppaaIbA
namespace Go.Proofs.Ytnghfkmaadoppaa.Inbox
open Go.RowKit

/-- The document's In in its block. -/
def RefAt (W : World) (r L : Nat) : Prop := Blk W r 28 #[.int .i64 (L : Int)] ∧ L ≤ 2147483647
theorem RefAt.kept {K : List Nat} {A B : World} {o L : Nat} (h : RefAt A o L) (hk : Kept K A B) (ho : o ∉ K) : RefAt B o L := ⟨h.1.kept hk ho, h.2⟩
theorem RefAt.one {W : World} {r L : Nat} (h : RefAt W r L) : W.cell? ⟨r, 0, none⟩ = some (.int .i64 (L : Int)) := (Blk.cell h.1 0).trans rfl
set_option maxRecDepth 100000 in
/-- The document's Take -/
theorem rtake_any {r L : Nat} (z : Int) (w : World) (h : RefAt w r L) :
    Calls Try.prog 9 #[.pointer (some ⟨r, 0, none⟩), .int .i64 z] w fun e w' => e = .returned (.bool (takeB L z)) ∧ RefAt w' r (takeL L z) ∧ Kept [r] w w' := by
  have hI := h
  have c0 := h.one
  have hL := h.2
  by_cases hlt : L < 2147483647
  · have i1 : ¬ ((2147483647 : Int) ≤ (L : Int)) := by omega
    by_cases hz : z = (L : Int) + 1
    · have e1 : takeB L z = true := by simp [takeB, hlt, hz]
      have e2 : takeL L z = L + 1 := by simp [takeL, e1]
      have hf := h.1.frozen 0
      rw [e1, e2]
      clear e1 e2
      subst hz
      go_enter Try.func9, Try.ntmps9
      go_wp2
      go_ret
      exact ⟨rfl, ⟨by have := hI.1.set 0 (.int .i64 ((L : Int) + 1)); simpa using this, by omega⟩, kept_set (by simp) _ _ _⟩
    · have e1 : takeB L z = false := by simp [takeB, hz]
      have e2 : takeL L z = L := by simp [takeL, e1]
      rw [e1, e2]
      clear e1 e2
      have hz' : (z != (L : Int) + 1) = true := by simp [hz]
      go_enter Try.func9, Try.ntmps9
      go_wp2
      go_ret
      exact ⟨rfl, hI, Kept.refl _ _⟩
  · have i1 : (2147483647 : Int) ≤ (L : Int) := by omega
    have e1 : takeB L z = false := by simp [takeB, hlt]
    have e2 : takeL L z = L := by simp [takeL, e1]
    rw [e1, e2]
    clear e1 e2
    go_enter Try.func9, Try.ntmps9
    go_wp2
    go_ret
    exact ⟨rfl, hI, Kept.refl _ _⟩
set_option maxRecDepth 100000 in
theorem lives_any (w : World) : Calls Try.prog 6 #[] w fun e w' => e = .returned (.bool true) ∧ Kept [] w w' := by
  have qn := new_any w
  have q1 := fun W (h : InAt W w.heap.size 0) => take_any 2 W h
  have q2 := fun W (h : InAt W w.heap.size 0) => take_any 1 W h
  have q3 := fun W (h : InAt W w.heap.size 1) => take_any 1 W h
  have q4 := fun W (h : InAt W w.heap.size 1) => take_any 2 W h
  have q5 := fun W (h : InAt W w.heap.size 2) => ack_any W h
  rw [show takeB 0 2 = false from by decide, show takeL 0 2 = 0 from by decide] at q1
  rw [show takeB 0 1 = true from by decide, show takeL 0 1 = 1 from by decide] at q2
  rw [show takeB 1 1 = false from by decide, show takeL 1 1 = 1 from by decide] at q3
  rw [show takeB 1 2 = true from by decide, show takeL 1 2 = 2 from by decide] at q4
  go_enter Try.func6, Try.ntmps6
  go_wp2_with (first
    | (go_at_call 7; refine qn.mono ?_; rintro e w1 ⟨rfl, h1, hs1, hk1⟩; clear qn)
    | (go_at_call 8; refine (q1 _ h1).mono ?_; rintro e w2 ⟨rfl, h2, hk2⟩; clear q1)
    | (go_at_call 8; refine (q2 _ h2).mono ?_; rintro e w3 ⟨rfl, h3, hk3⟩; clear q2)
    | (go_at_call 8; refine (q3 _ h3).mono ?_; rintro e w4 ⟨rfl, h4, hk4⟩; clear q3)
    | (go_at_call 8; refine (q4 _ h4).mono ?_; rintro e w5 ⟨rfl, h5, hk5⟩; clear q4)
    | (go_at_call 10; refine (q5 _ h5).mono ?_; rintro e w5 ⟨rfl, rfl⟩; clear q5))
  go_ret
  exact ⟨rfl, hk1.young (((hk2.trans hk3).trans hk4).trans hk5) (Nat.le_refl _)⟩
end Go.Proofs.Ytnghfkmaadoppaa.Inbox
