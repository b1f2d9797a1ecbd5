import Derived.Test.YtollfckgjhklcaaGreatItB
/-
  The walks of Insert and Delete of twainref14.
-/
namespace Go.Proofs.YtollfckgjhklcaaGreat.Itree
open Go.RowKit

theorem ItemsAt.take {W : World} {b off cap : Nat} {ob : Option Nat} {L : List It} (h : ItemsAt W (.slice (some ⟨b, off, none⟩) L.length cap) ob L) (n : Nat) (hn : n ≤ L.length) : ItemsAt W (.slice (some ⟨b, off, none⟩) n cap) ob (L.take n) := by
  obtain ⟨a, cap', he, hc, hm, ⟨h1, h2, h3, h4⟩ | ⟨b', off', h1, h2, h3, h4⟩⟩ := h
  · subst h1
    simp at he
  · subst h1
    simp at he
    obtain ⟨⟨rfl, rfl⟩, rfl⟩ := he
    refine ⟨_, cap, by rw [List.length_take, Nat.min_eq_left hn], by rw [List.length_take, Nat.min_eq_left hn]; omega, hm, .inr ⟨b, off, rfl, h2, h3, fun j y hy => ?_⟩⟩
    rw [List.getElem?_take] at hy
    split at hy
    · exact h4 j y hy
    · cases hy
theorem ItemsAt.drop_all {W : World} {b off cap : Nat} {ob : Option Nat} {L : List It} (h : ItemsAt W (.slice (some ⟨b, off, none⟩) L.length cap) ob L) (n : Nat) (hn : L.length ≤ n) : ItemsAt W (.slice (some ⟨b, off, none⟩) 0 0) ob (L.drop n) := by
  rw [List.drop_eq_nil_of_le hn]
  obtain ⟨a, cap', he, hc, hm, ⟨h1, h2, h3, h4⟩ | ⟨b', off', h1, h2, h3, h4⟩⟩ := h
  · subst h1
    simp at he
  · subst h1
    simp at he
    obtain ⟨⟨rfl, rfl⟩, rfl⟩ := he
    exact ⟨_, 0, rfl, Nat.le_refl _, by omega, .inr ⟨b, off, rfl, h2, h3, fun j y hy => by simp at hy⟩⟩
theorem ItemsAt.drop {W : World} {b off cap : Nat} {ob : Option Nat} {L : List It} (h : ItemsAt W (.slice (some ⟨b, off, none⟩) L.length cap) ob L) (n : Nat) (hn : n ≤ L.length) : ItemsAt W (.slice (some ⟨b, off + n * 3, none⟩) (L.length - n) (cap - n)) ob (L.drop n) := by
  obtain ⟨a, cap', he, hc, hm, ⟨h1, h2, h3, h4⟩ | ⟨b', off', h1, h2, h3, h4⟩⟩ := h
  · subst h1
    simp at he
  · subst h1
    simp at he
    obtain ⟨⟨rfl, rfl⟩, rfl⟩ := he
    refine ⟨_, cap - n, by rw [List.length_drop], by rw [List.length_drop]; omega, by omega, .inr ⟨b, off + n * 3, rfl, h2, h3, fun j y hy => ?_⟩⟩
    rw [List.getElem?_drop] at hy
    have := h4 (n + j) y hy
    rwa [show off + (n + j) * 3 = off + n * 3 + j * 3 by omega] at this

end Go.Proofs.YtollfckgjhklcaaGreat.Itree

