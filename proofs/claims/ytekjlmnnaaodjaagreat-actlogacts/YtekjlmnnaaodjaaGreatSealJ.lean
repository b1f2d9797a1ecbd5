/-
  The walk of the document's Get of layer 5.
-/
import Derived.Test.YtekjlmnnaaodjaaGreatSealI
import Derived.Lib.Bytes
namespace Go.Proofs.YtekjlmnnaaodjaaGreat.Seal
open Go.RowKit
open Math
open Crc

/-- Some bytes' text. -/
def txt (l : List Nat) : ByteArray := strOfNums (l.map Int.ofNat)
theorem txt_ne (l k : List Nat) (hl : ∀ b ∈ l, b < 256) (hk : ∀ b ∈ k, b < 256) (h : l ≠ k) : ((txt l).toList == (txt k).toList) = false := by
  rw [beq_eq_false_iff_ne]
  intro e
  apply h
  apply ofNat_inj l k hl hk
  have e2 : (txt l).data.toList = (txt k).data.toList := by
    rw [ByteArray.toList_eq, ByteArray.toList_eq] at e
    exact e
  unfold txt at e2
  rw [strOfNums_data, strOfNums_data, List.map_map, List.map_map] at e2
  exact e2
set_option maxRecDepth 100000 in
theorem conv_txt {W : World} {v : Value} {l : List Nat} {n₀ : Nat} (h : BytesAt n₀ W v l) : (convert 88 9 v).run Tryz.prog W = .ok (.string (txt l)) W := conv_bytes h
set_option maxRecDepth 100000 in
theorem refPut5_bytes (sv : Value) (bs : List Nat) (w : World) (hb : bs.length ≤ 2000) (hI : BytesAt w.heap.size w sv bs) :
    Calls Tryz.prog 56 #[sv] w fun e w' => ∃ v, e = .returned v ∧ BytesAt w'.heap.size w' v (sealed bs) ∧ Below w.heap.size w w' := by
  refine (refPut5_any sv bs w hb hI).mono ?_
  rintro e w' ⟨v', rfl, ho, hB⟩
  exact ⟨v', rfl, bytesAt_owns (sealed_byte bs hI.1) (Nat.le_refl _) (by rw [sealed_length]; exact ho), hB⟩

end Go.Proofs.YtekjlmnnaaodjaaGreat.Seal
