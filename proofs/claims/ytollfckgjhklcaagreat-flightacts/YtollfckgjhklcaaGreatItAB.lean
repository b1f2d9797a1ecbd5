import Derived.Test.YtollfckgjhklcaaGreatItZ
/-
  All that have one of the sectors from one place on ahead of another: the walk of between.
-/
namespace Go.Proofs.YtollfckgjhklcaaGreat.Itree
open Go.RowKit

/-- The ids of those that end behind f, and begin ahead of e. -/
def btw (f e : Int) (L : List It) : List Int := (L.filter fun y => decide (f < y.o + y.l ∧ y.o < e)).map (·.i)
theorem btw_append (f e : Int) (A B : List It) : btw f e (A ++ B) = btw f e A ++ btw f e B := by simp [btw]
theorem btw_cons (f e : Int) (x : It) (B : List It) : btw f e (x :: B) = (if f < x.o + x.l ∧ x.o < e then [x.i] else []) ++ btw f e B := by
  unfold btw
  rw [List.filter_cons]
  by_cases h : f < x.o + x.l ∧ x.o < e
  · simp [h]
  · simp [h]
theorem btw_low {f e : Int} {A : List It} (h : ∀ a ∈ A, a.o + a.l ≤ f) : btw f e A = [] := by
  unfold btw
  rw [List.filter_eq_nil_iff.2]
  · rfl
  · intro a ha
    have := h a ha
    simp
    omega
theorem btw_high {f e : Int} {A : List It} (h : ∀ a ∈ A, e ≤ a.o) : btw f e A = [] := by
  unfold btw
  rw [List.filter_eq_nil_iff.2]
  · rfl
  · intro a ha
    have := h a ha
    simp
    omega
theorem btw_length (f e : Int) (A : List It) : (btw f e A).length ≤ A.length := by
  unfold btw
  rw [List.length_map]
  exact List.length_filter_le _ _
theorem ahead_off {a b : It} (h : ahead a b = true) : a.o ≤ b.o := by
  rw [ahead_iff] at h
  omega
/-- What is still to come of a node that was gone down from: itself, and all behind it. -/
def Tr.later : Tr → List It
  | .nil => []
  | .node _ x _ _ _ r => x :: r.toL
def pendS : List Tr → List It
  | [] => []
  | s :: R => s.later ++ pendS R
/-- Nodes in memory, each good. -/
def NodesAt (W : World) (R : List Tr) : Prop := ∀ s ∈ R, s ≠ .nil ∧ Good s ∧ TrAt W s
theorem pendS_length {W : World} : ∀ {R : List Tr}, NodesAt W R → R.length ≤ (pendS R).length
  | [], _ => Nat.zero_le _
  | s :: R, h => by
    have h1 := pendS_length (R := R) (W := W) (fun a ha => h a (by simp [ha]))
    have h2 := (h s (by simp)).1
    cases s with
    | nil => exact absurd rfl h2
    | node b x e hh l r =>
      simp only [pendS, Tr.later, List.length_append, List.length_cons]
      omega
theorem PRow.empty {W : World} {e : TypeId} {base : Nat} {v : Value} (h : PRow W e base v []) : ∃ a cap, v = .slice a 0 cap := by
  rcases h.2 with ⟨rfl, _⟩ | ⟨g, cap, cur, rfl, _⟩
  · exact ⟨none, 0, rfl⟩
  · exact ⟨_, cap, rfl⟩
/-- The last of a row left out. -/
theorem PRow.pop {W : World} {e : TypeId} {base g n cap : Nat} {l : List Value} {u : Value} (h : PRow W e base (.slice (some ⟨g, 0, none⟩) (n + 1) cap) (l ++ [u])) (hn : l.length = n) : PRow W e base (.slice (some ⟨g, 0, none⟩) n cap) l := by
  rcases h.2 with ⟨h0, _⟩ | ⟨g', cap', cur, hv, hb, hg, h1, h2, h3, h4⟩
  · cases h0
  · injection hv with e1 e2 e3
    injection e1 with e1
    injection e1 with e1 _ _
    subst e1 e3
    refine ⟨by simp, .inr ⟨g, cap, cur, by rw [hn], hb, hg, by simp at h1; omega, h2, h3, ?_⟩⟩
    have := congrArg (List.take l.length) h4
    rw [List.take_take, List.take_left] at this
    simpa using this
/-- Rows of unlike things lie apart. -/
theorem rows_apart {W : World} {e e' : TypeId} {b b' z z' n n' : Nat} {v v' : Value} {l l' : List Value} (h : W.ownsRow b e z v n l) (h' : W.ownsRow b' e' z' v' n' l') (hne : e ≠ e') : v.ownBlock = none ∨ v.ownBlock ≠ v'.ownBlock := by
  rcases h.2 with ⟨rfl, _⟩ | ⟨g, cap, cur, rfl, _, hg, _⟩
  · exact .inl rfl
  · right
    rcases h'.2 with ⟨rfl, _⟩ | ⟨g', cap', cur', rfl, _, hg', _⟩
    · simp [Value.ownBlock]
    · intro k
      have k' : g = g' := by simpa [Value.ownBlock] using k
      subst k'
      rw [hg] at hg'
      injection hg' with h1
      injection h1 with _ h2 _
      exact hne h2
end Go.Proofs.YtollfckgjhklcaaGreat.Itree

