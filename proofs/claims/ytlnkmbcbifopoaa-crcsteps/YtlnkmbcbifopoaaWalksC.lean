/-
  Bytes that came in: from what a law's frame is told of a slice of bytes to the plain words of the walks.
-/
import Derived.Test.YtlnkmbcbifopoaaWalksB
import Derived.ProofKit
import Derived.OpenShut
namespace Go.Proofs.Ytlnkmbcbifopoaa
open Go.RowKit
open Crc

/-- A slice of numbers that came in: nil, or a row of cap cells that hold zs, of which the first len are its elements. -/
def IsRow (k : IntKind) (w : World) (a : Option Addr) (len cap : Nat) (zs : List Int) : Prop :=
  (a = none ∧ len = 0 ∧ cap = 0 ∧ zs = []) ∨
  ∃ x, a = some x ∧ len ≤ cap ∧ cap ≤ maxLen ∧ zs.length = cap ∧ (∀ i, i < zs.length → w.cell? (x.add i) = some (.int k (zs.getD i 0))) ∧ ∀ n ∈ zs, (Lit.int k n).wf = true

theorem byte_of {n : Int} (h : (Lit.int .u8 n).wf = true) : 0 ≤ n ∧ n < 256 := by
  have := bounds_u8 h
  omega

/-- A slice of bytes that came in, up to its length. -/
theorem bytesAt_row {w : World} {a : Option Addr} {len cap : Nat} {zs : List Int} (h : IsRow .u8 w a len cap zs) : len ≤ 9223372036854775807 ∧ ∃ bs, bs.length = len ∧ BytesAt w.heap.size w (.slice a len cap) bs := by
  rcases h with ⟨rfl, rfl, rfl, rfl⟩ | ⟨x, rfl, hl, hm, hz, hc, hw⟩
  · exact ⟨by omega, [], rfl, by simp, none, 0, rfl, fun _ => rfl, .inl rfl⟩
  · unfold maxLen at hm
    refine ⟨by omega, (zs.take len).map Int.toNat, by simp; omega, ?_, some x, cap, by simp; omega, fun h => by simp at h, ?_⟩
    · intro b hb
      obtain ⟨n, hn, rfl⟩ := List.mem_map.1 hb
      have := byte_of (hw n (List.mem_of_mem_take hn))
      omega
    · by_cases hlen : len = 0
      · left; subst hlen; simp
      · right
        obtain ⟨b, off, rfl, hc'⟩ := ints_at hc (by omega)
        refine ⟨b, off, rfl, by simp; omega, World.block_lt_of_cell? w _ (hc' 0 (by omega)), fun j hj => ?_⟩
        have hj' : j < len := by simp at hj; omega
        have hjz : j < zs.length := by omega
        have hb := byte_of (hw (zs[j]) (List.getElem_mem hjz))
        rw [hc' j (by omega)]
        simp [hj', hjz]
        omega

end Go.Proofs.Ytlnkmbcbifopoaa
