/-
  No cell of these rows narrows 'for every input' (looked for: loops, veiled, ifaces, maps, wideKeys, modest, calm, conditions, laid).
  DERIVED. THE GIVEN ROWS OF THIS SEAT. 3 by the template 'for every input the law returns true; each argument reads behind the call as it read before'; 0 by the template 'total and deterministic' (their statements: YtphkpplbihnmiaaTotals.lean).
  GIVEN WITH THE SEED: the statements are not yours to turn. If you find one false, say at which input.
  Laid BY PROGRAM, IN A SANDBOX (cutbox-rows.mjs): the forced cells as the released guide's own fill.sh prints them over the translation 6dfc26a7cdafdaa6… (all of the seat's roots in one cut). By AI agents, Wed Nov 11 2026. No macro, syntax, notation, axiom, sorry.
-/
import Derived.Test.YtphkpplbihnmiaaChecked
import GoSem.Claim
import GoSem.ClaimJoined
import GoSem.ClaimMapViews
import Derived.JoinedTies
import Derived.KernelRfl
namespace Go.Proofs.Ytphkpplbihnmiaa
/- THE CELL 'sum', in the pinned program and in every row, IS THE sha256 OF THE DUMP (.gsa) THAT YtphkpplbihnmiaaProg.lean LOADS. Nothing in Lean hashes anything: it is a label: what it is worth is what the hold of that sum in a sandbox is worth. -/
noncomputable def Try.pinned : Pinned := { name := "ytphkpplbihnmiaa", sum := "6dfc26a7cdafdaa6fff874d6dde5115a399fc4b590c3a027059b622aa36c9889", checked := Try.checked }
namespace Rows
def none {H : Type} : Left H := { results := [], args := [] }

/-- 'twainlaw08.SuperActs': WHATEVER THE INPUT: true; the input reads as it did. -/
def superActsSpec : ChangeSpec := { name := "superActs", fn := fun _ => fun
  | [d1, d2] => { results := [.lit (.bool true)], args := [d1, d2] }
  | _ => none }
def superActsRow : OpenClaim := { program := "ytphkpplbihnmiaa", sum := "6dfc26a7cdafdaa6fff874d6dde5115a399fc4b590c3a027059b622aa36c9889", func := "twain/twainlaw08.SuperActs", spec := "superActs", unfollowed := true, recurses := true, apart := false }
def SuperActsSaid : Prop := superActsRow.holds Try.pinned (OpenSpec.ofChange superActsSpec)

/-- ITS FALSE NEIGHBOUR: 'it returns false'. Refute it at one input. -/
def superActsWrong : ChangeSpec := { name := "superActs", fn := fun _ => fun
  | [d1, d2] => { results := [.lit (.bool false)], args := [d1, d2] }
  | _ => none }
def SuperActsWrongFalsely : Prop := superActsRow.holds Try.pinned (OpenSpec.ofChange superActsWrong)

/-- 'twainlaw08.SuperRises': WHATEVER THE INPUT: true; the input reads as it did. -/
def superRisesSpec : ChangeSpec := { name := "superRises", fn := fun _ => fun
  | [d] => { results := [.lit (.bool true)], args := [d] }
  | _ => none }
def superRisesRow : OpenClaim := { program := "ytphkpplbihnmiaa", sum := "6dfc26a7cdafdaa6fff874d6dde5115a399fc4b590c3a027059b622aa36c9889", func := "twain/twainlaw08.SuperRises", spec := "superRises", unfollowed := true, recurses := true, apart := false }
def SuperRisesSaid : Prop := superRisesRow.holds Try.pinned (OpenSpec.ofChange superRisesSpec)

/-- ITS FALSE NEIGHBOUR: 'it returns false'. Refute it at one input. -/
def superRisesWrong : ChangeSpec := { name := "superRises", fn := fun _ => fun
  | [d] => { results := [.lit (.bool false)], args := [d] }
  | _ => none }
def SuperRisesWrongFalsely : Prop := superRisesRow.holds Try.pinned (OpenSpec.ofChange superRisesWrong)

/-- 'twainlaw08.SuperNone': WHATEVER THE INPUT: true; the input reads as it did. -/
def superNoneSpec : ChangeSpec := { name := "superNone", fn := fun _ => fun
  | [d] => { results := [.lit (.bool true)], args := [d] }
  | _ => none }
def superNoneRow : OpenClaim := { program := "ytphkpplbihnmiaa", sum := "6dfc26a7cdafdaa6fff874d6dde5115a399fc4b590c3a027059b622aa36c9889", func := "twain/twainlaw08.SuperNone", spec := "superNone", unfollowed := true, recurses := true, apart := false }
def SuperNoneSaid : Prop := superNoneRow.holds Try.pinned (OpenSpec.ofChange superNoneSpec)

/-- ITS FALSE NEIGHBOUR: 'it returns false'. Refute it at one input. -/
def superNoneWrong : ChangeSpec := { name := "superNone", fn := fun _ => fun
  | [d] => { results := [.lit (.bool false)], args := [d] }
  | _ => none }
def SuperNoneWrongFalsely : Prop := superNoneRow.holds Try.pinned (OpenSpec.ofChange superNoneWrong)

/- THE SECOND FORM. 'bulk': how many values and letters a reading holds, each counted each time it is reached (what is shared counts as often as it is met; a slice's spare places count too). A statement '..UptoSaid' is the law's where the arguments, and the package variables that the reading takes, are together of bulk at most 1048576: NARROWER than '..Said'. Prove '..Said' where nothing that the law and all that it calls make is longer than what came in: it says more and counts as full. Else prove '..UptoSaid'. A law counts once. -/
mutual
def uptoBulk {H : Type} : DataW H → Nat
  | .lit (.string bytes) => bytes.length + 1
  | .lit _ => 1
  | .nil => 1
  | .ptr d => uptoBulk d + 1
  | .slice elems spare => uptoBulkAll elems + uptoBulkAll spare + 1
  | .agg parts => uptoBulkAll parts + 1
  | .iface _ d => uptoBulk d + 1
  | .map entries => uptoBulkEntries entries + 1
  | .held _ => 1
def uptoBulkAll {H : Type} : List (DataW H) → Nat
  | [] => 0
  | d :: r => uptoBulk d + uptoBulkAll r
def uptoBulkEntries {H : Type} : List (Lit × DataW H) → Nat
  | [] => 0
  | x :: r => uptoBulkEntry x + uptoBulkEntries r
def uptoBulkEntry {H : Type} : Lit × DataW H → Nat
  | (.string bytes, d) => bytes.length + uptoBulk d + 1
  | (_, d) => uptoBulk d + 1
 end
def uptoSmall : (H : Type) → List (DataW H) → Bool := fun _ ds => decide (uptoBulkAll ds ≤ 1048576)
def OpenSpec.upto (s : _root_.Go.ChangeSpec) : _root_.Go.OpenSpec := { _root_.Go.OpenSpec.ofChange s with cond := some uptoSmall }

/-- 'twainlaw08.SuperActs', WHERE WHAT IT READS IS OF BULK AT MOST 1048576: true; the input reads as it did. -/
def superActsUptoRow : OpenClaim := { program := "ytphkpplbihnmiaa", sum := "6dfc26a7cdafdaa6fff874d6dde5115a399fc4b590c3a027059b622aa36c9889", func := "twain/twainlaw08.SuperActs", spec := "superActs", unfollowed := true, recurses := true, apart := false, narrowed := true }
def SuperActsUptoSaid : Prop := superActsUptoRow.holds Try.pinned (OpenSpec.upto superActsSpec)

/-- 'twainlaw08.SuperRises', WHERE WHAT IT READS IS OF BULK AT MOST 1048576: true; the input reads as it did. -/
def superRisesUptoRow : OpenClaim := { program := "ytphkpplbihnmiaa", sum := "6dfc26a7cdafdaa6fff874d6dde5115a399fc4b590c3a027059b622aa36c9889", func := "twain/twainlaw08.SuperRises", spec := "superRises", unfollowed := true, recurses := true, apart := false, narrowed := true }
def SuperRisesUptoSaid : Prop := superRisesUptoRow.holds Try.pinned (OpenSpec.upto superRisesSpec)

/-- 'twainlaw08.SuperNone', WHERE WHAT IT READS IS OF BULK AT MOST 1048576: true; the input reads as it did. -/
def superNoneUptoRow : OpenClaim := { program := "ytphkpplbihnmiaa", sum := "6dfc26a7cdafdaa6fff874d6dde5115a399fc4b590c3a027059b622aa36c9889", func := "twain/twainlaw08.SuperNone", spec := "superNone", unfollowed := true, recurses := true, apart := false, narrowed := true }
def SuperNoneUptoSaid : Prop := superNoneUptoRow.holds Try.pinned (OpenSpec.upto superNoneSpec)

end Rows
end Go.Proofs.Ytphkpplbihnmiaa
