/-
  The walk of an act at both disks.
-/
import Derived.Test.YtekjlmnnaaodjaaWalksQ
namespace Go.Proofs.Ytekjlmnnaaodjaa
open Go.RowKit Go.Maps Go.Shelf
open Math

/-- The blocks of two disks are others. -/
structure Apart (d b1 b2 r g : Nat) : Prop where
  dr : d ≠ r
  dg : d ≠ g
  ar : b1 ≠ r
  ag : b1 ≠ g
  br : b2 ≠ r
  bg : b2 ≠ g
end Go.Proofs.Ytekjlmnnaaodjaa
