import Derived.Test.YtollfckgjhklcaaItC
/-
  The walk of Delete of twainref14.
-/
namespace Go.Proofs.Ytollfckgjhklcaa.Itree
open Go.RowKit

end Go.Proofs.Ytollfckgjhklcaa.Itree

