/-
  Acts in memory.
-/
import Derived.Test.YtollfckgjhklcaaGreatFlA
namespace Go.Proofs.YtollfckgjhklcaaGreat.Flight
open Go.RowKit

/-- An act: its kind, ticket, number, span, and bytes. -/
structure Ac where
  k : Int
  t : Int
  n : Int
  o : Int
  l : Int
  sa : Option Addr
  len : Nat
  cap : Nat
  bs : List Nat
def Ac.cells (a : Ac) : List Value := [.int .i64 a.k, .int .i64 a.t, .int .i64 a.n, .int .i64 a.o, .int .i64 a.l, .slice a.sa a.len a.cap]
structure Ac.Ok (a : Ac) (hi : Nat) (W : World) : Prop where
  t0 : -9223372036854775808 ≤ a.t
  t1 : a.t ≤ 9223372036854775807
  o0 : -9223372036854775808 ≤ a.o
  o1 : a.o ≤ 9223372036854775807
  l0 : -9223372036854775808 ≤ a.l
  l1 : a.l ≤ 9223372036854775807
  len0 : a.len ≤ 9223372036854775807
  row : ByteRow hi W (.slice a.sa a.len a.cap) a.bs
theorem Ac.Ok.it {a : Ac} {hi : Nat} {W : World} (h : a.Ok hi W) : (Itree.It.mk a.o a.l a.t).Ok := ⟨h.o0, h.o1, h.l0, h.l1, h.t0, h.t1⟩
theorem Ac.Ok.blen {a : Ac} {hi : Nat} {W : World} (h : a.Ok hi W) : a.bs.length = a.len := by
  obtain ⟨_, _, _, e, _⟩ := h.row
  injection e with _ e _
  exact e.symm
/-- The acts lie in a slice, below block n. -/
def AcsAt (n : Nat) (W : World) (a : Option Addr) (len cap : Nat) (acts : List Ac) : Prop :=
  acts.length = len ∧ (∀ x ∈ acts, x.Ok n W) ∧ (acts = [] ∨ ∃ b off, a = some ⟨b, off, none⟩ ∧ len ≤ cap ∧ b < n ∧ ∀ j x, acts[j]? = some x → ∀ i v, x.cells[i]? = some v → W.cell? ⟨b, off + j * 6 + i, none⟩ = some v)
theorem AcsAt.kept {n : Nat} {L : List Nat} {A B : World} {a : Option Addr} {len cap : Nat} {acts : List Ac} (h : AcsAt n A a len cap acts) (hn : n ≤ A.heap.size) (hK : Kept L A B) (hL : ∀ k ∈ L, n ≤ k) : AcsAt n B a len cap acts := by
  obtain ⟨h1, h2, h3⟩ := h
  refine ⟨h1, fun x hx => ?_, ?_⟩
  · have := h2 x hx
    exact ⟨this.t0, this.t1, this.o0, this.o1, this.l0, this.l1, this.len0, this.row.kept hn hK hL⟩
  · rcases h3 with h3 | ⟨b, off, e, hl, hb, hc⟩
    · exact .inl h3
    · refine .inr ⟨b, off, e, hl, hb, fun j x hx i v hv => ?_⟩
      rw [World.cell?_of_block (w := A) (w' := B) (hK.block b (by omega) (fun hm => by have := hL b hm; omega))]
      exact hc j x hx i v hv
/-- What lies at a place. -/
theorem AcsAt.at {n : Nat} {W : World} {a : Option Addr} {len cap : Nat} {acts : List Ac} (h : AcsAt n W a len cap acts) {j : Nat} (hj : j < len) : ∃ x b off, acts[j]? = some x ∧ x.Ok n W ∧ a = some ⟨b, off, none⟩ ∧ W.cell? ⟨b, off + j * 6, none⟩ = some (.int .i64 x.k) ∧ W.cell? ⟨b, off + j * 6 + 1, none⟩ = some (.int .i64 x.t) ∧ W.cell? ⟨b, off + j * 6 + 2, none⟩ = some (.int .i64 x.n) ∧ W.cell? ⟨b, off + j * 6 + 3, none⟩ = some (.int .i64 x.o) ∧ W.cell? ⟨b, off + j * 6 + 4, none⟩ = some (.int .i64 x.l) ∧ W.cell? ⟨b, off + j * 6 + 5, none⟩ = some (.slice x.sa x.len x.cap) := by
  obtain ⟨h1, h2, h3 | ⟨b, off, e, hl, hb, hc⟩⟩ := h
  · rw [h3] at h1
    simp at h1
    omega
  · obtain ⟨x, hx⟩ : ∃ x, acts[j]? = some x := ⟨_, List.getElem?_eq_getElem (by omega)⟩
    exact ⟨x, b, off, hx, h2 x (List.mem_of_getElem? hx), e, hc j x hx 0 _ rfl, hc j x hx 1 _ rfl, hc j x hx 2 _ rfl, hc j x hx 3 _ rfl, hc j x hx 4 _ rfl, hc j x hx 5 _ rfl⟩
end Go.Proofs.YtollfckgjhklcaaGreat.Flight
