/-
  The walk of the document's Put of layer 5.
-/
import Derived.Test.YtekjlmnnaaodjaaSealF
namespace Go.Proofs.Ytekjlmnnaaodjaa.Seal
open Go.RowKit
open Math
open Crc

theorem lay4_take (k m : Nat) (h : k < 4) : (le4 m).take (k + 1) = (le4 m).take k ++ [m / 256 ^ k % 256] := by
  match k, h with
  | 0, _ => simp [le4]
  | 1, _ => simp [le4]
  | 2, _ => simp [le4]
  | 3, _ => simp [le4]

end Go.Proofs.Ytekjlmnnaaodjaa.Seal
