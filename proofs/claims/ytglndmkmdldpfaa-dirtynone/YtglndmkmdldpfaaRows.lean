/-
  No cell of these rows narrows 'for every input' (looked for: loops, veiled, ifaces, maps, wideKeys, modest, calm, conditions, laid).
  DERIVED. THE GIVEN ROWS OF THIS SEAT. 2 by the template 'for every input the law returns true; each argument reads behind the call as it read before'; 0 by the template 'total and deterministic' (their statements: YtglndmkmdldpfaaTotals.lean).
  GIVEN WITH THE SEED: the statements are not yours to turn. If you find one false, say at which input.
  Laid BY PROGRAM, IN A SANDBOX (cutbox-rows.mjs): the forced cells as the released guide's own fill.sh prints them over the translation ff8e71b12dffc714… (all of the seat's roots in one cut). By AI agents, Wed Nov 11 2026. No macro, syntax, notation, axiom, sorry.
-/
import Derived.Test.YtglndmkmdldpfaaChecked
import GoSem.Claim
import GoSem.ClaimJoined
import GoSem.ClaimMapViews
import Derived.JoinedTies
import Derived.KernelRfl
namespace Go.Proofs.Ytglndmkmdldpfaa
/- THE CELL 'sum', in the pinned program and in every row, IS THE sha256 OF THE DUMP (.gsa) THAT YtglndmkmdldpfaaProg.lean LOADS. Nothing in Lean hashes anything: it is a label: what it is worth is what the hold of that sum in a sandbox is worth. -/
noncomputable def Try.pinned : Pinned := { name := "ytglndmkmdldpfaa", sum := "ff8e71b12dffc714301c3e8f721642cffa3533b6aede196e298433b9ed238597", checked := Try.checked }
namespace Rows
def none {H : Type} : Left H := { results := [], args := [] }

/-- 'twainlaw11.DirtySafe': WHATEVER THE INPUT: true; the input reads as it did. -/
def dirtySafeSpec : ChangeSpec := { name := "dirtySafe", fn := fun _ => fun
  | [d1, d2, d3] => { results := [.lit (.bool true)], args := [d1, d2, d3] }
  | _ => none }
def dirtySafeRow : OpenClaim := { program := "ytglndmkmdldpfaa", sum := "ff8e71b12dffc714301c3e8f721642cffa3533b6aede196e298433b9ed238597", func := "twain/twainlaw11.DirtySafe", spec := "dirtySafe", unfollowed := true, recurses := true, apart := false }
def DirtySafeSaid : Prop := dirtySafeRow.holds Try.pinned (OpenSpec.ofChange dirtySafeSpec)

/-- ITS FALSE NEIGHBOUR: 'it returns false'. Refute it at one input. -/
def dirtySafeWrong : ChangeSpec := { name := "dirtySafe", fn := fun _ => fun
  | [d1, d2, d3] => { results := [.lit (.bool false)], args := [d1, d2, d3] }
  | _ => none }
def DirtySafeWrongFalsely : Prop := dirtySafeRow.holds Try.pinned (OpenSpec.ofChange dirtySafeWrong)

/-- 'twainlaw11.DirtyNone': WHATEVER THE INPUT: true; the input reads as it did. -/
def dirtyNoneSpec : ChangeSpec := { name := "dirtyNone", fn := fun _ => fun
  | [d1, d2] => { results := [.lit (.bool true)], args := [d1, d2] }
  | _ => none }
def dirtyNoneRow : OpenClaim := { program := "ytglndmkmdldpfaa", sum := "ff8e71b12dffc714301c3e8f721642cffa3533b6aede196e298433b9ed238597", func := "twain/twainlaw11.DirtyNone", spec := "dirtyNone", unfollowed := true, recurses := true, apart := false }
def DirtyNoneSaid : Prop := dirtyNoneRow.holds Try.pinned (OpenSpec.ofChange dirtyNoneSpec)

/-- ITS FALSE NEIGHBOUR: 'it returns false'. Refute it at one input. -/
def dirtyNoneWrong : ChangeSpec := { name := "dirtyNone", fn := fun _ => fun
  | [d1, d2] => { results := [.lit (.bool false)], args := [d1, d2] }
  | _ => none }
def DirtyNoneWrongFalsely : Prop := dirtyNoneRow.holds Try.pinned (OpenSpec.ofChange dirtyNoneWrong)

/- THE SECOND FORM. 'bulk': how many values and letters a reading holds, each counted each time it is reached (what is shared counts as often as it is met; a slice's spare places count too). A statement '..UptoSaid' is the law's where the arguments, and the package variables that the reading takes, are together of bulk at most 1048576: NARROWER than '..Said'. Prove '..Said' where nothing that the law and all that it calls make is longer than what came in: it says more and counts as full. Else prove '..UptoSaid'. A law counts once. -/
mutual
def uptoBulk {H : Type} : DataW H → Nat
  | .lit (.string bytes) => bytes.length + 1
  | .lit _ => 1
  | .nil => 1
  | .ptr d => uptoBulk d + 1
  | .slice elems spare => uptoBulkAll elems + uptoBulkAll spare + 1
  | .agg parts => uptoBulkAll parts + 1
  | .iface _ d => uptoBulk d + 1
  | .map entries => uptoBulkEntries entries + 1
  | .held _ => 1
def uptoBulkAll {H : Type} : List (DataW H) → Nat
  | [] => 0
  | d :: r => uptoBulk d + uptoBulkAll r
def uptoBulkEntries {H : Type} : List (Lit × DataW H) → Nat
  | [] => 0
  | x :: r => uptoBulkEntry x + uptoBulkEntries r
def uptoBulkEntry {H : Type} : Lit × DataW H → Nat
  | (.string bytes, d) => bytes.length + uptoBulk d + 1
  | (_, d) => uptoBulk d + 1
 end
def uptoSmall : (H : Type) → List (DataW H) → Bool := fun _ ds => decide (uptoBulkAll ds ≤ 1048576)
def OpenSpec.upto (s : _root_.Go.ChangeSpec) : _root_.Go.OpenSpec := { _root_.Go.OpenSpec.ofChange s with cond := some uptoSmall }

/-- 'twainlaw11.DirtySafe', WHERE WHAT IT READS IS OF BULK AT MOST 1048576: true; the input reads as it did. -/
def dirtySafeUptoRow : OpenClaim := { program := "ytglndmkmdldpfaa", sum := "ff8e71b12dffc714301c3e8f721642cffa3533b6aede196e298433b9ed238597", func := "twain/twainlaw11.DirtySafe", spec := "dirtySafe", unfollowed := true, recurses := true, apart := false, narrowed := true }
def DirtySafeUptoSaid : Prop := dirtySafeUptoRow.holds Try.pinned (OpenSpec.upto dirtySafeSpec)

/-- 'twainlaw11.DirtyNone', WHERE WHAT IT READS IS OF BULK AT MOST 1048576: true; the input reads as it did. -/
def dirtyNoneUptoRow : OpenClaim := { program := "ytglndmkmdldpfaa", sum := "ff8e71b12dffc714301c3e8f721642cffa3533b6aede196e298433b9ed238597", func := "twain/twainlaw11.DirtyNone", spec := "dirtyNone", unfollowed := true, recurses := true, apart := false, narrowed := true }
def DirtyNoneUptoSaid : Prop := dirtyNoneUptoRow.holds Try.pinned (OpenSpec.upto dirtyNoneSpec)

end Rows
end Go.Proofs.Ytglndmkmdldpfaa
