/-
  The walks of the document's ring: ring, Place, Latest.
-/
import Derived.Test.YtekjlmnnaaodjaaSlotC
namespace Go.Proofs.Ytekjlmnnaaodjaa
open Go.RowKit Go.Maps Go.Shelf
open Math

theorem has_is {s : Dk} (hv : Valid s) {base r : Int} (h : hasRing s base r = true) : isRing base r = true := by
  have v2 := hv.top
  simp only [hasRing, isRing, Bool.and_eq_true, decide_eq_true_eq] at *
  omega

end Go.Proofs.Ytekjlmnnaaodjaa
