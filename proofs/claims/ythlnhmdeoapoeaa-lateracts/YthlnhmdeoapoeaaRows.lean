/-
  No cell of these rows narrows 'for every input' (looked for: loops, veiled, ifaces, maps, wideKeys, modest, calm, conditions, laid).
  DERIVED. THE GIVEN ROWS OF THIS SEAT. 3 by the template 'for every input the law returns true; each argument reads behind the call as it read before'; 0 by the template 'total and deterministic' (their statements: YthlnhmdeoapoeaaTotals.lean).
  GIVEN WITH THE SEED: the statements are not yours to turn. If you find one false, say at which input.
  Laid BY PROGRAM, IN A SANDBOX (cutbox-rows.mjs): the forced cells as the released guide's own fill.sh prints them over the translation ef8838cba8d3192b… (all of the seat's roots in one cut). By AI agents, Wed Nov 11 2026. No macro, syntax, notation, axiom, sorry.
-/
import Derived.Test.YthlnhmdeoapoeaaChecked
import GoSem.Claim
import GoSem.ClaimJoined
import GoSem.ClaimMapViews
import Derived.JoinedTies
import Derived.KernelRfl
namespace Go.Proofs.Ythlnhmdeoapoeaa
/- THE CELL 'sum', in the pinned program and in every row, IS THE sha256 OF THE DUMP (.gsa) THAT YthlnhmdeoapoeaaProg.lean LOADS. Nothing in Lean hashes anything: it is a label: what it is worth is what the hold of that sum in a sandbox is worth. -/
noncomputable def Try.pinned : Pinned := { name := "ythlnhmdeoapoeaa", sum := "ef8838cba8d3192b8e7df1c786e270e3ec7987853eba735a6c1fe65247b57307", checked := Try.checked }
namespace Rows
def none {H : Type} : Left H := { results := [], args := [] }

/-- 'twainlaw25.LaterActs': WHATEVER THE INPUT: true; the input reads as it did. -/
def laterActsSpec : ChangeSpec := { name := "laterActs", fn := fun _ => fun
  | [d1, d2] => { results := [.lit (.bool true)], args := [d1, d2] }
  | _ => none }
def laterActsRow : OpenClaim := { program := "ythlnhmdeoapoeaa", sum := "ef8838cba8d3192b8e7df1c786e270e3ec7987853eba735a6c1fe65247b57307", func := "twain/twainlaw25.LaterActs", spec := "laterActs", unfollowed := true, recurses := true, apart := false }
def LaterActsSaid : Prop := laterActsRow.holds Try.pinned (OpenSpec.ofChange laterActsSpec)

/-- ITS FALSE NEIGHBOUR: 'it returns false'. Refute it at one input. -/
def laterActsWrong : ChangeSpec := { name := "laterActs", fn := fun _ => fun
  | [d1, d2] => { results := [.lit (.bool false)], args := [d1, d2] }
  | _ => none }
def LaterActsWrongFalsely : Prop := laterActsRow.holds Try.pinned (OpenSpec.ofChange laterActsWrong)

/-- 'twainlaw25.LaterOrder': WHATEVER THE INPUT: true; the input reads as it did. -/
def laterOrderSpec : ChangeSpec := { name := "laterOrder", fn := fun _ => fun
  | [d] => { results := [.lit (.bool true)], args := [d] }
  | _ => none }
def laterOrderRow : OpenClaim := { program := "ythlnhmdeoapoeaa", sum := "ef8838cba8d3192b8e7df1c786e270e3ec7987853eba735a6c1fe65247b57307", func := "twain/twainlaw25.LaterOrder", spec := "laterOrder", unfollowed := true, recurses := true, apart := false }
def LaterOrderSaid : Prop := laterOrderRow.holds Try.pinned (OpenSpec.ofChange laterOrderSpec)

/-- ITS FALSE NEIGHBOUR: 'it returns false'. Refute it at one input. -/
def laterOrderWrong : ChangeSpec := { name := "laterOrder", fn := fun _ => fun
  | [d] => { results := [.lit (.bool false)], args := [d] }
  | _ => none }
def LaterOrderWrongFalsely : Prop := laterOrderRow.holds Try.pinned (OpenSpec.ofChange laterOrderWrong)

/-- 'twainlaw25.LaterNone': WHATEVER THE INPUT: true; the input reads as it did. -/
def laterNoneSpec : ChangeSpec := { name := "laterNone", fn := fun _ => fun
  | [d] => { results := [.lit (.bool true)], args := [d] }
  | _ => none }
def laterNoneRow : OpenClaim := { program := "ythlnhmdeoapoeaa", sum := "ef8838cba8d3192b8e7df1c786e270e3ec7987853eba735a6c1fe65247b57307", func := "twain/twainlaw25.LaterNone", spec := "laterNone", unfollowed := true, recurses := true, apart := false }
def LaterNoneSaid : Prop := laterNoneRow.holds Try.pinned (OpenSpec.ofChange laterNoneSpec)

/-- ITS FALSE NEIGHBOUR: 'it returns false'. Refute it at one input. -/
def laterNoneWrong : ChangeSpec := { name := "laterNone", fn := fun _ => fun
  | [d] => { results := [.lit (.bool false)], args := [d] }
  | _ => none }
def LaterNoneWrongFalsely : Prop := laterNoneRow.holds Try.pinned (OpenSpec.ofChange laterNoneWrong)

/- THE SECOND FORM. 'bulk': how many values and letters a reading holds, each counted each time it is reached (what is shared counts as often as it is met; a slice's spare places count too). A statement '..UptoSaid' is the law's where the arguments, and the package variables that the reading takes, are together of bulk at most 1048576: NARROWER than '..Said'. Prove '..Said' where nothing that the law and all that it calls make is longer than what came in: it says more and counts as full. Else prove '..UptoSaid'. A law counts once. -/
mutual
def uptoBulk {H : Type} : DataW H → Nat
  | .lit (.string bytes) => bytes.length + 1
  | .lit _ => 1
  | .nil => 1
  | .ptr d => uptoBulk d + 1
  | .slice elems spare => uptoBulkAll elems + uptoBulkAll spare + 1
  | .agg parts => uptoBulkAll parts + 1
  | .iface _ d => uptoBulk d + 1
  | .map entries => uptoBulkEntries entries + 1
  | .held _ => 1
def uptoBulkAll {H : Type} : List (DataW H) → Nat
  | [] => 0
  | d :: r => uptoBulk d + uptoBulkAll r
def uptoBulkEntries {H : Type} : List (Lit × DataW H) → Nat
  | [] => 0
  | x :: r => uptoBulkEntry x + uptoBulkEntries r
def uptoBulkEntry {H : Type} : Lit × DataW H → Nat
  | (.string bytes, d) => bytes.length + uptoBulk d + 1
  | (_, d) => uptoBulk d + 1
 end
def uptoSmall : (H : Type) → List (DataW H) → Bool := fun _ ds => decide (uptoBulkAll ds ≤ 1048576)
def OpenSpec.upto (s : _root_.Go.ChangeSpec) : _root_.Go.OpenSpec := { _root_.Go.OpenSpec.ofChange s with cond := some uptoSmall }

/-- 'twainlaw25.LaterActs', WHERE WHAT IT READS IS OF BULK AT MOST 1048576: true; the input reads as it did. -/
def laterActsUptoRow : OpenClaim := { program := "ythlnhmdeoapoeaa", sum := "ef8838cba8d3192b8e7df1c786e270e3ec7987853eba735a6c1fe65247b57307", func := "twain/twainlaw25.LaterActs", spec := "laterActs", unfollowed := true, recurses := true, apart := false, narrowed := true }
def LaterActsUptoSaid : Prop := laterActsUptoRow.holds Try.pinned (OpenSpec.upto laterActsSpec)

/-- 'twainlaw25.LaterOrder', WHERE WHAT IT READS IS OF BULK AT MOST 1048576: true; the input reads as it did. -/
def laterOrderUptoRow : OpenClaim := { program := "ythlnhmdeoapoeaa", sum := "ef8838cba8d3192b8e7df1c786e270e3ec7987853eba735a6c1fe65247b57307", func := "twain/twainlaw25.LaterOrder", spec := "laterOrder", unfollowed := true, recurses := true, apart := false, narrowed := true }
def LaterOrderUptoSaid : Prop := laterOrderUptoRow.holds Try.pinned (OpenSpec.upto laterOrderSpec)

/-- 'twainlaw25.LaterNone', WHERE WHAT IT READS IS OF BULK AT MOST 1048576: true; the input reads as it did. -/
def laterNoneUptoRow : OpenClaim := { program := "ythlnhmdeoapoeaa", sum := "ef8838cba8d3192b8e7df1c786e270e3ec7987853eba735a6c1fe65247b57307", func := "twain/twainlaw25.LaterNone", spec := "laterNone", unfollowed := true, recurses := true, apart := false, narrowed := true }
def LaterNoneUptoSaid : Prop := laterNoneUptoRow.holds Try.pinned (OpenSpec.upto laterNoneSpec)

end Rows
end Go.Proofs.Ythlnhmdeoapoeaa
