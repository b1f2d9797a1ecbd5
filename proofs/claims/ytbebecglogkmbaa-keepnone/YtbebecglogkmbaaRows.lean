/-
  No cell of these rows narrows 'for every input' (looked for: loops, veiled, ifaces, maps, wideKeys, modest, calm, conditions, laid).
  DERIVED. THE GIVEN ROWS OF THIS SEAT. 3 by the template 'for every input the law returns true; each argument reads behind the call as it read before'; 0 by the template 'total and deterministic' (their statements: YtbebecglogkmbaaTotals.lean).
  GIVEN WITH THE SEED: the statements are not yours to turn. If you find one false, say at which input.
  Laid BY PROGRAM, IN A SANDBOX (cutbox-rows.mjs): the forced cells as the released guide's own fill.sh prints them over the translation d844515480e02554… (all of the seat's roots in one cut). By AI agents, Wed Nov 11 2026. No macro, syntax, notation, axiom, sorry.
-/
import Derived.Test.YtbebecglogkmbaaChecked
import GoSem.Claim
import GoSem.ClaimJoined
import GoSem.ClaimMapViews
import Derived.JoinedTies
import Derived.KernelRfl
namespace Go.Proofs.Ytbebecglogkmbaa
/- THE CELL 'sum', in the pinned program and in every row, IS THE sha256 OF THE DUMP (.gsa) THAT YtbebecglogkmbaaProg.lean LOADS. Nothing in Lean hashes anything: it is a label: what it is worth is what the hold of that sum in a sandbox is worth. -/
noncomputable def Try.pinned : Pinned := { name := "ytbebecglogkmbaa", sum := "d844515480e025546af4b9067493f31aeb469cf6e2b372688338a7260bcb877d", checked := Try.checked }
namespace Rows
def none {H : Type} : Left H := { results := [], args := [] }

/-- 'twainlaw21.KeepActs': WHATEVER THE INPUT: true; the input reads as it did. -/
def keepActsSpec : ChangeSpec := { name := "keepActs", fn := fun _ => fun
  | [d1, d2] => { results := [.lit (.bool true)], args := [d1, d2] }
  | _ => none }
def keepActsRow : OpenClaim := { program := "ytbebecglogkmbaa", sum := "d844515480e025546af4b9067493f31aeb469cf6e2b372688338a7260bcb877d", func := "twain/twainlaw21.KeepActs", spec := "keepActs", unfollowed := true, recurses := true, apart := false }
def KeepActsSaid : Prop := keepActsRow.holds Try.pinned (OpenSpec.ofChange keepActsSpec)

/-- ITS FALSE NEIGHBOUR: 'it returns false'. Refute it at one input. -/
def keepActsWrong : ChangeSpec := { name := "keepActs", fn := fun _ => fun
  | [d1, d2] => { results := [.lit (.bool false)], args := [d1, d2] }
  | _ => none }
def KeepActsWrongFalsely : Prop := keepActsRow.holds Try.pinned (OpenSpec.ofChange keepActsWrong)

/-- 'twainlaw21.KeepWaits': WHATEVER THE INPUT: true; the input reads as it did. -/
def keepWaitsSpec : ChangeSpec := { name := "keepWaits", fn := fun _ => fun
  | [d1, d2] => { results := [.lit (.bool true)], args := [d1, d2] }
  | _ => none }
def keepWaitsRow : OpenClaim := { program := "ytbebecglogkmbaa", sum := "d844515480e025546af4b9067493f31aeb469cf6e2b372688338a7260bcb877d", func := "twain/twainlaw21.KeepWaits", spec := "keepWaits", unfollowed := true, recurses := true, apart := false }
def KeepWaitsSaid : Prop := keepWaitsRow.holds Try.pinned (OpenSpec.ofChange keepWaitsSpec)

/-- ITS FALSE NEIGHBOUR: 'it returns false'. Refute it at one input. -/
def keepWaitsWrong : ChangeSpec := { name := "keepWaits", fn := fun _ => fun
  | [d1, d2] => { results := [.lit (.bool false)], args := [d1, d2] }
  | _ => none }
def KeepWaitsWrongFalsely : Prop := keepWaitsRow.holds Try.pinned (OpenSpec.ofChange keepWaitsWrong)

/-- 'twainlaw21.KeepNone': WHATEVER THE INPUT: true; the input reads as it did. -/
def keepNoneSpec : ChangeSpec := { name := "keepNone", fn := fun _ => fun
  | [d] => { results := [.lit (.bool true)], args := [d] }
  | _ => none }
def keepNoneRow : OpenClaim := { program := "ytbebecglogkmbaa", sum := "d844515480e025546af4b9067493f31aeb469cf6e2b372688338a7260bcb877d", func := "twain/twainlaw21.KeepNone", spec := "keepNone", unfollowed := true, recurses := true, apart := false }
def KeepNoneSaid : Prop := keepNoneRow.holds Try.pinned (OpenSpec.ofChange keepNoneSpec)

/-- ITS FALSE NEIGHBOUR: 'it returns false'. Refute it at one input. -/
def keepNoneWrong : ChangeSpec := { name := "keepNone", fn := fun _ => fun
  | [d] => { results := [.lit (.bool false)], args := [d] }
  | _ => none }
def KeepNoneWrongFalsely : Prop := keepNoneRow.holds Try.pinned (OpenSpec.ofChange keepNoneWrong)

/- THE SECOND FORM. 'bulk': how many values and letters a reading holds, each counted each time it is reached (what is shared counts as often as it is met; a slice's spare places count too). A statement '..UptoSaid' is the law's where the arguments, and the package variables that the reading takes, are together of bulk at most 1048576: NARROWER than '..Said'. Prove '..Said' where nothing that the law and all that it calls make is longer than what came in: it says more and counts as full. Else prove '..UptoSaid'. A law counts once. -/
mutual
def uptoBulk {H : Type} : DataW H → Nat
  | .lit (.string bytes) => bytes.length + 1
  | .lit _ => 1
  | .nil => 1
  | .ptr d => uptoBulk d + 1
  | .slice elems spare => uptoBulkAll elems + uptoBulkAll spare + 1
  | .agg parts => uptoBulkAll parts + 1
  | .iface _ d => uptoBulk d + 1
  | .map entries => uptoBulkEntries entries + 1
  | .held _ => 1
def uptoBulkAll {H : Type} : List (DataW H) → Nat
  | [] => 0
  | d :: r => uptoBulk d + uptoBulkAll r
def uptoBulkEntries {H : Type} : List (Lit × DataW H) → Nat
  | [] => 0
  | x :: r => uptoBulkEntry x + uptoBulkEntries r
def uptoBulkEntry {H : Type} : Lit × DataW H → Nat
  | (.string bytes, d) => bytes.length + uptoBulk d + 1
  | (_, d) => uptoBulk d + 1
 end
def uptoSmall : (H : Type) → List (DataW H) → Bool := fun _ ds => decide (uptoBulkAll ds ≤ 1048576)
def OpenSpec.upto (s : _root_.Go.ChangeSpec) : _root_.Go.OpenSpec := { _root_.Go.OpenSpec.ofChange s with cond := some uptoSmall }

/-- 'twainlaw21.KeepActs', WHERE WHAT IT READS IS OF BULK AT MOST 1048576: true; the input reads as it did. -/
def keepActsUptoRow : OpenClaim := { program := "ytbebecglogkmbaa", sum := "d844515480e025546af4b9067493f31aeb469cf6e2b372688338a7260bcb877d", func := "twain/twainlaw21.KeepActs", spec := "keepActs", unfollowed := true, recurses := true, apart := false, narrowed := true }
def KeepActsUptoSaid : Prop := keepActsUptoRow.holds Try.pinned (OpenSpec.upto keepActsSpec)

/-- 'twainlaw21.KeepWaits', WHERE WHAT IT READS IS OF BULK AT MOST 1048576: true; the input reads as it did. -/
def keepWaitsUptoRow : OpenClaim := { program := "ytbebecglogkmbaa", sum := "d844515480e025546af4b9067493f31aeb469cf6e2b372688338a7260bcb877d", func := "twain/twainlaw21.KeepWaits", spec := "keepWaits", unfollowed := true, recurses := true, apart := false, narrowed := true }
def KeepWaitsUptoSaid : Prop := keepWaitsUptoRow.holds Try.pinned (OpenSpec.upto keepWaitsSpec)

/-- 'twainlaw21.KeepNone', WHERE WHAT IT READS IS OF BULK AT MOST 1048576: true; the input reads as it did. -/
def keepNoneUptoRow : OpenClaim := { program := "ytbebecglogkmbaa", sum := "d844515480e025546af4b9067493f31aeb469cf6e2b372688338a7260bcb877d", func := "twain/twainlaw21.KeepNone", spec := "keepNone", unfollowed := true, recurses := true, apart := false, narrowed := true }
def KeepNoneUptoSaid : Prop := keepNoneUptoRow.holds Try.pinned (OpenSpec.upto keepNoneSpec)

end Rows
end Go.Proofs.Ytbebecglogkmbaa
