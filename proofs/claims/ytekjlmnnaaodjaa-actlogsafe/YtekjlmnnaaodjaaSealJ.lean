/-
  The walk of the document's Get of layer 5.
-/
import Derived.Test.YtekjlmnnaaodjaaSealI
import Derived.Lib.Bytes
namespace Go.Proofs.Ytekjlmnnaaodjaa.Seal
open Go.RowKit
open Math
open Crc

/-- Some bytes' text. -/
def txt (l : List Nat) : ByteArray := strOfNums (l.map Int.ofNat)
theorem txt_ne (l k : List Nat) (hl : ∀ b ∈ l, b < 256) (hk : ∀ b ∈ k, b < 256) (h : l ≠ k) : ((txt l).toList == (txt k).toList) = false := by
  rw [beq_eq_false_iff_ne]
  intro e
  apply h
  apply ofNat_inj l k hl hk
  have e2 : (txt l).data.toList = (txt k).data.toList := by
    rw [ByteArray.toList_eq, ByteArray.toList_eq] at e
    exact e
  unfold txt at e2
  rw [strOfNums_data, strOfNums_data, List.map_map, List.map_map] at e2
  exact e2
set_option maxRecDepth 100000 in
theorem conv_txt {W : World} {v : Value} {l : List Nat} {n₀ : Nat} (h : BytesAt n₀ W v l) : (convert 68 9 v).run Try.prog W = .ok (.string (txt l)) W := conv_bytes h
end Go.Proofs.Ytekjlmnnaaodjaa.Seal
