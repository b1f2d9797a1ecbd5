/-
  No cell of these rows narrows 'for every input' (looked for: loops, veiled, ifaces, maps, wideKeys, modest, calm, conditions, laid).
  DERIVED. THE GIVEN ROWS OF THIS SEAT. 2 by the template 'for every input the law returns true; each argument reads behind the call as it read before'; 0 by the template 'total and deterministic' (their statements: YtekjlmnnaaodjaaTotals.lean).
  GIVEN WITH THE SEED: the statements are not yours to turn. If you find one false, say at which input.
  Laid BY PROGRAM, IN A SANDBOX (cutbox-rows.mjs): the forced cells as the released guide's own fill.sh prints them over the translation 4317edff56286327… (all of the seat's roots in one cut). By AI agents, Wed Nov 11 2026. No macro, syntax, notation, axiom, sorry.
-/
import Derived.Test.YtekjlmnnaaodjaaChecked
import GoSem.Claim
import GoSem.ClaimJoined
import GoSem.ClaimMapViews
import Derived.JoinedTies
import Derived.KernelRfl
namespace Go.Proofs.Ytekjlmnnaaodjaa
/- THE CELL 'sum', in the pinned program and in every row, IS THE sha256 OF THE DUMP (.gsa) THAT YtekjlmnnaaodjaaProg.lean LOADS. Nothing in Lean hashes anything: it is a label: what it is worth is what the hold of that sum in a sandbox is worth. -/
noncomputable def Try.pinned : Pinned := { name := "ytekjlmnnaaodjaa", sum := "4317edff56286327a3c4328055a39be89782609f95c861c3005d937dbf8403ac", checked := Try.checked }
namespace Rows
def none {H : Type} : Left H := { results := [], args := [] }

/-- 'twainlaw10.ActlogSafe': WHATEVER THE INPUT: true; the input reads as it did. -/
def actlogSafeSpec : ChangeSpec := { name := "actlogSafe", fn := fun _ => fun
  | [d1, d2, d3] => { results := [.lit (.bool true)], args := [d1, d2, d3] }
  | _ => none }
def actlogSafeRow : OpenClaim := { program := "ytekjlmnnaaodjaa", sum := "4317edff56286327a3c4328055a39be89782609f95c861c3005d937dbf8403ac", func := "twain/twainlaw10.ActlogSafe", spec := "actlogSafe", unfollowed := true, recurses := true, apart := false }
def ActlogSafeSaid : Prop := actlogSafeRow.holds Try.pinned (OpenSpec.ofChange actlogSafeSpec)

/-- ITS FALSE NEIGHBOUR: 'it returns false'. Refute it at one input. -/
def actlogSafeWrong : ChangeSpec := { name := "actlogSafe", fn := fun _ => fun
  | [d1, d2, d3] => { results := [.lit (.bool false)], args := [d1, d2, d3] }
  | _ => none }
def ActlogSafeWrongFalsely : Prop := actlogSafeRow.holds Try.pinned (OpenSpec.ofChange actlogSafeWrong)

/-- 'twainlaw10.ActlogNone': WHATEVER THE INPUT: true; the input reads as it did. -/
def actlogNoneSpec : ChangeSpec := { name := "actlogNone", fn := fun _ => fun
  | [d] => { results := [.lit (.bool true)], args := [d] }
  | _ => none }
def actlogNoneRow : OpenClaim := { program := "ytekjlmnnaaodjaa", sum := "4317edff56286327a3c4328055a39be89782609f95c861c3005d937dbf8403ac", func := "twain/twainlaw10.ActlogNone", spec := "actlogNone", unfollowed := true, recurses := true, apart := false }
def ActlogNoneSaid : Prop := actlogNoneRow.holds Try.pinned (OpenSpec.ofChange actlogNoneSpec)

/-- ITS FALSE NEIGHBOUR: 'it returns false'. Refute it at one input. -/
def actlogNoneWrong : ChangeSpec := { name := "actlogNone", fn := fun _ => fun
  | [d] => { results := [.lit (.bool false)], args := [d] }
  | _ => none }
def ActlogNoneWrongFalsely : Prop := actlogNoneRow.holds Try.pinned (OpenSpec.ofChange actlogNoneWrong)

/- THE SECOND FORM. 'bulk': how many values and letters a reading holds, each counted each time it is reached (what is shared counts as often as it is met; a slice's spare places count too). A statement '..UptoSaid' is the law's where the arguments, and the package variables that the reading takes, are together of bulk at most 1048576: NARROWER than '..Said'. Prove '..Said' where nothing that the law and all that it calls make is longer than what came in: it says more and counts as full. Else prove '..UptoSaid'. A law counts once. -/
mutual
def uptoBulk {H : Type} : DataW H → Nat
  | .lit (.string bytes) => bytes.length + 1
  | .lit _ => 1
  | .nil => 1
  | .ptr d => uptoBulk d + 1
  | .slice elems spare => uptoBulkAll elems + uptoBulkAll spare + 1
  | .agg parts => uptoBulkAll parts + 1
  | .iface _ d => uptoBulk d + 1
  | .map entries => uptoBulkEntries entries + 1
  | .held _ => 1
def uptoBulkAll {H : Type} : List (DataW H) → Nat
  | [] => 0
  | d :: r => uptoBulk d + uptoBulkAll r
def uptoBulkEntries {H : Type} : List (Lit × DataW H) → Nat
  | [] => 0
  | x :: r => uptoBulkEntry x + uptoBulkEntries r
def uptoBulkEntry {H : Type} : Lit × DataW H → Nat
  | (.string bytes, d) => bytes.length + uptoBulk d + 1
  | (_, d) => uptoBulk d + 1
 end
def uptoSmall : (H : Type) → List (DataW H) → Bool := fun _ ds => decide (uptoBulkAll ds ≤ 1048576)
def OpenSpec.upto (s : _root_.Go.ChangeSpec) : _root_.Go.OpenSpec := { _root_.Go.OpenSpec.ofChange s with cond := some uptoSmall }

/-- 'twainlaw10.ActlogSafe', WHERE WHAT IT READS IS OF BULK AT MOST 1048576: true; the input reads as it did. -/
def actlogSafeUptoRow : OpenClaim := { program := "ytekjlmnnaaodjaa", sum := "4317edff56286327a3c4328055a39be89782609f95c861c3005d937dbf8403ac", func := "twain/twainlaw10.ActlogSafe", spec := "actlogSafe", unfollowed := true, recurses := true, apart := false, narrowed := true }
def ActlogSafeUptoSaid : Prop := actlogSafeUptoRow.holds Try.pinned (OpenSpec.upto actlogSafeSpec)

/-- 'twainlaw10.ActlogNone', WHERE WHAT IT READS IS OF BULK AT MOST 1048576: true; the input reads as it did. -/
def actlogNoneUptoRow : OpenClaim := { program := "ytekjlmnnaaodjaa", sum := "4317edff56286327a3c4328055a39be89782609f95c861c3005d937dbf8403ac", func := "twain/twainlaw10.ActlogNone", spec := "actlogNone", unfollowed := true, recurses := true, apart := false, narrowed := true }
def ActlogNoneUptoSaid : Prop := actlogNoneUptoRow.holds Try.pinned (OpenSpec.upto actlogNoneSpec)

end Rows
end Go.Proofs.Ytekjlmnnaaodjaa
