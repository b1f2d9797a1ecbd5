import Derived.Test.YtollfckgjhklcaaGreatItC
/-
  The walk of Delete of twainref14.
-/
namespace Go.Proofs.YtollfckgjhklcaaGreat.Itree
open Go.RowKit

end Go.Proofs.YtollfckgjhklcaaGreat.Itree

