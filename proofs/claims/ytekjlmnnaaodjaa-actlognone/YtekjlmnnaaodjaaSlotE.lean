/-
  The walk of the document's Put.
-/
import Derived.Test.YtekjlmnnaaodjaaSlotD
namespace Go.Proofs.Ytekjlmnnaaodjaa
open Go.RowKit Go.Maps Go.Shelf
open Math

end Go.Proofs.Ytekjlmnnaaodjaa
