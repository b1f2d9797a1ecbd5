/-
  Acts in memory.
-/
import Derived.Test.YthlnhmdeoapoeaaLtA
namespace Go.Proofs.Ythlnhmdeoapoeaa.Later
open Go.RowKit
open Clash (Ow OwsAt)

/-- An act: is it a Next; its id, span, bytes, and own writes. -/
structure Ac where
  nx : Bool
  id : Int
  o : Int
  l : Int
  sa : Option Addr
  len : Nat
  cap : Nat
  bs : List Nat
  oa : Option Addr
  olen : Nat
  ocap : Nat
  O : List Ow
def Ac.cells (a : Ac) : List Value := [.bool a.nx, .int .i64 a.id, .int .i64 a.o, .int .i64 a.l, .slice a.sa a.len a.cap, .slice a.oa a.olen a.ocap]
structure Ac.Ok (a : Ac) (hi : Nat) (W : World) : Prop where
  len0 : a.len ≤ 9223372036854775807
  olen0 : a.olen ≤ 9223372036854775807
  row : ByteRow hi W (.slice a.sa a.len a.cap) a.bs
  ows : OwsAt W a.oa a.olen a.ocap a.O
theorem Ac.Ok.kept {a : Ac} {hi : Nat} {A B : World} (h : a.Ok hi A) (hn : hi ≤ A.heap.size) (hk : Kept [] A B) : a.Ok hi B := ⟨h.len0, h.olen0, h.row.kept hn hk (by simp), h.ows.kept hk⟩
theorem Ac.Ok.blen {a : Ac} {hi : Nat} {W : World} (h : a.Ok hi W) : a.bs.length = a.len := by
  obtain ⟨_, _, _, e, _⟩ := h.row
  injection e with _ e _
  exact e.symm
/-- The acts lie in a slice, below block n. -/
def AcsAt (n : Nat) (W : World) (a : Option Addr) (len cap : Nat) (acts : List Ac) : Prop :=
  acts.length = len ∧ (∀ x ∈ acts, x.Ok n W) ∧ (acts = [] ∨ ∃ b off, a = some ⟨b, off, none⟩ ∧ len ≤ cap ∧ b < n ∧ ∀ j x, acts[j]? = some x → ∀ i v, x.cells[i]? = some v → W.cell? ⟨b, off + j * 6 + i, none⟩ = some v)
theorem AcsAt.kept {n : Nat} {A B : World} {a : Option Addr} {len cap : Nat} {acts : List Ac} (h : AcsAt n A a len cap acts) (hn : n ≤ A.heap.size) (hK : Kept [] A B) : AcsAt n B a len cap acts := by
  obtain ⟨h1, h2, h3⟩ := h
  refine ⟨h1, fun x hx => (h2 x hx).kept hn hK, ?_⟩
  rcases h3 with h3 | ⟨b, off, e, hl, hb, hc⟩
  · exact .inl h3
  · refine .inr ⟨b, off, e, hl, hb, fun j x hx i v hv => ?_⟩
    rw [World.cell?_of_block (w := A) (w' := B) (hK.block b (by omega) (by simp))]
    exact hc j x hx i v hv
/-- What lies at a place. -/
theorem AcsAt.at {n : Nat} {W : World} {a : Option Addr} {len cap : Nat} {acts : List Ac} (h : AcsAt n W a len cap acts) {j : Nat} (hj : j < len) : ∃ x b off, acts[j]? = some x ∧ x.Ok n W ∧ a = some ⟨b, off, none⟩ ∧ W.cell? ⟨b, off + j * 6, none⟩ = some (.bool x.nx) ∧ W.cell? ⟨b, off + j * 6 + 1, none⟩ = some (.int .i64 x.id) ∧ W.cell? ⟨b, off + j * 6 + 2, none⟩ = some (.int .i64 x.o) ∧ W.cell? ⟨b, off + j * 6 + 3, none⟩ = some (.int .i64 x.l) ∧ W.cell? ⟨b, off + j * 6 + 4, none⟩ = some (.slice x.sa x.len x.cap) ∧ W.cell? ⟨b, off + j * 6 + 5, none⟩ = some (.slice x.oa x.olen x.ocap) := by
  obtain ⟨h1, h2, h3 | ⟨b, off, e, hl, hb, hc⟩⟩ := h
  · rw [h3] at h1
    simp at h1
    omega
  · obtain ⟨x, hx⟩ : ∃ x, acts[j]? = some x := ⟨_, List.getElem?_eq_getElem (by omega)⟩
    exact ⟨x, b, off, hx, h2 x (List.mem_of_getElem? hx), e, hc j x hx 0 _ rfl, hc j x hx 1 _ rfl, hc j x hx 2 _ rfl, hc j x hx 3 _ rfl, hc j x hx 4 _ rfl, hc j x hx 5 _ rfl⟩
theorem AcsAt.cap {n : Nat} {W : World} {a : Option Addr} {len cap : Nat} {acts : List Ac} (h : AcsAt n W a len cap acts) (hl : 0 < len) : len ≤ cap := by
  obtain ⟨h1, h2, h3 | ⟨b, off, e, hl, hb, hc⟩⟩ := h
  · rw [h3] at h1
    simp at h1
    omega
  · exact hl
end Go.Proofs.Ythlnhmdeoapoeaa.Later
