/-
  Bytes that the laws of layer 3 make: a copy of bytes, and bytes behind others.
-/
import Derived.Test.YtlnkmbcbifopoaaWalksC
import Derived.Laws.BytesArg
import Derived.Deep.CutRange
namespace Go.Proofs.Ytlnkmbcbifopoaa
open Go.RowKit
open Crc

theorem Try.info5 : (Try.prog.info? 5).map (fun i => (i.zero, i.size, i.bytes)) = some (some (.int .u8 0), 1, 1) := by kernel_rfl
theorem owns_le {w : World} {base base' : Nat} {e : TypeId} {size : Nat} {v : Value} {n : Nat} {xs : List Value} (h : w.ownsRow base e size v n xs) (hb : base' ≤ base) : w.ownsRow base' e size v n xs :=
  ⟨h.1, h.2.imp id fun ⟨g, cap, cur, e, hg, r⟩ => ⟨g, cap, cur, e, Nat.le_trans hb hg, r⟩⟩

theorem below_append {w W w1 : World} {n₀ : Nat} {e : TypeId} {size k : Nat} {v : Value} {xs : List Value} (hn : n₀ ≤ w.heap.size) (hB : Below n₀ w W) (hrow : W.ownsRow n₀ e size v k xs) (hgrow : W.grownBy w1 v.ownBlock) : Below n₀ w w1 := by
  have hsz := hB.size
  refine hB.grown hgrow (by omega) fun j ej => ?_
  rcases hrow.2 with ⟨rfl, _⟩ | ⟨g, cap, cur, rfl, hb, _, _⟩
  · simp [Value.ownBlock] at ej
  · obtain rfl : g = j := by simpa [Value.ownBlock] using ej
    exact hb

/-- Cells of a slice of bytes, as a row of values. -/
theorem cells_of {w : World} {b off : Nat} {bs : List Nat} (hc : ∀ j, j < bs.length → w.cell? ⟨b, off + j, none⟩ = some (.int .u8 ((bs[j]?.getD 0 : Nat) : Int))) :
    ∀ j u, (bs.map enc)[j]? = some u → w.cell? ((⟨b, off, none⟩ : Addr).add j) = some u := by
  intro j u hj
  have hl : j < bs.length := by
    rcases Nat.lt_or_ge j bs.length with h | h
    · exact h
    · simp [List.getElem?_eq_none h] at hj
  have hplain : (⟨b, off, none⟩ : Addr).add j = ⟨b, off + j, none⟩ := by unfold Addr.add; split <;> simp_all
  rw [hplain, hc j hl]
  rw [enc_get bs j hl] at hj
  exact hj

/-- A sum goes on from any place. -/
theorem more_more (xs bs : List Nat) : more (more 0 xs) bs = more 0 (xs ++ bs) := by
  unfold more
  rw [← Nat.xor_assoc, Nat.xor_self, Nat.zero_xor, run_append]

/-- Bytes that came in, as a row of values. -/
theorem BytesAt.values {n₀ : Nat} {W : World} {a : Addr} {n cap : Nat} {bs : List Nat} (h : BytesAt n₀ W (.slice (some a) n cap) bs) : ∀ j u, (bs.map enc)[j]? = some u → W.cell? (a.add j) = some u := by
  obtain ⟨_, a', cap', e, _, h⟩ := h
  injection e with e1 e2 e3
  subst e1
  rcases h with rfl | ⟨b, off, e, _, _, hc⟩
  · intro j u hj; simp at hj
  · obtain rfl : a = ⟨b, off, none⟩ := by simpa using e
    exact cells_of hc

end Go.Proofs.Ytlnkmbcbifopoaa
