/-
  The walks of super.Boot, super.Next, and of the document's.
-/
import Derived.Test.YtekjlmnnaaodjaaSlotE
import Derived.Test.YtekjlmnnaaodjaaRing2
namespace Go.Proofs.Ytekjlmnnaaodjaa
open Go.RowKit Go.Maps Go.Shelf
open Math

/-- The boot's number; a new start: its number, its error, the disk behind it. -/
def boot (s : Dk) : Nat := latestY s 0 2 % 4294967296
def nextE (s : Dk) : Nat := if boot s = 4294967295 then 13 else putE s 0 2 (boot s + 1)
def nextN (s : Dk) : Nat := if nextE s = 0 then boot s + 1 else 0
def nextS (s : Dk) : Dk := if boot s = 4294967295 then s else putS s 0 2 (boot s + 1)
theorem boot_lt (s : Dk) : boot s < 4294967296 := Nat.mod_lt _ (by decide)

end Go.Proofs.Ytekjlmnnaaodjaa
