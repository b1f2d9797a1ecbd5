/-
  The walk of an act at both disks.
-/
import Derived.Test.YtekjlmnnaaodjaaGreatWalksQ
namespace Go.Proofs.YtekjlmnnaaodjaaGreat
open Go.RowKit Go.Maps Go.Shelf
open Math

/-- The blocks of two disks are others. -/
structure Apart (d b1 b2 r g : Nat) : Prop where
  dr : d ≠ r
  dg : d ≠ g
  ar : b1 ≠ r
  ag : b1 ≠ g
  br : b2 ≠ r
  bg : b2 ≠ g
/-- Both disks, alike. -/
structure Both (W : World) (d b1 b2 r g cap : Nat) (s : Dk) : Prop where
  disk : DiskAt W d b1 b2 s
  ref : RefAt W r g cap s
  apart : Apart d b1 b2 r g
theorem Both.kept {A B : World} {d b1 b2 r g cap : Nat} {s : Dk} (h : Both A d b1 b2 r g cap s) (hk : Kept [] A B) : Both B d b1 b2 r g cap s := ⟨h.disk.kept hk (by simp) (by simp) (by simp), h.ref.kept hk (by simp) (by simp), h.apart⟩
theorem Both.turned {A B C : World} {d b1 b2 r g cap : Nat} {s s' : Dk} (h : Both A d b1 b2 r g cap s) (h1 : DiskAt B d b1 b2 s') (k1 : Kept [d, b1, b2] A B) (h2 : RefAt C r g cap s') (k2 : Kept [r, g] B C) : Both C d b1 b2 r g cap s' ∧ Kept [d, b1, b2, r, g] A C := by
  have p := h.apart
  refine ⟨⟨h1.kept k2 (by simp [p.dr, p.dg]) (by simp [p.ar, p.ag]) (by simp [p.br, p.bg]), h2, p⟩, (k1.mono ?_).trans (k2.mono ?_)⟩
  · intro k hk; simp at hk ⊢; omega
  · intro k hk; simp at hk ⊢; omega
theorem Both.ref_kept {A B : World} {d b1 b2 r g cap : Nat} {s : Dk} (h : Both A d b1 b2 r g cap s) (k1 : Kept [d, b1, b2] A B) : RefAt B r g cap s := by
  have p := h.apart
  exact h.ref.kept k1 (by simp [p.dr.symm, p.ar.symm, p.br.symm]) (by simp [p.dg.symm, p.ag.symm, p.bg.symm])
theorem Both.lt {W : World} {d b1 b2 r g cap : Nat} {s : Dk} (h : Both W d b1 b2 r g cap s) : d < W.heap.size ∧ b1 < W.heap.size ∧ b2 < W.heap.size ∧ r < W.heap.size ∧ g < W.heap.size := ⟨h.disk.lt.1, h.disk.lt.2.1, h.disk.lt.2.2, h.ref.1.lt.1, h.ref.1.lt.2⟩

end Go.Proofs.YtekjlmnnaaodjaaGreat
