/-
  No cell of these rows narrows 'for every input' (looked for: loops, veiled, ifaces, maps, wideKeys, modest, calm, conditions, laid).
  DERIVED. THE GIVEN ROWS OF THIS SEAT. 3 by the template 'for every input the law returns true; each argument reads behind the call as it read before'; 0 by the template 'total and deterministic' (their statements: YthhdfndgkkjkpaaTotals.lean).
  GIVEN WITH THE SEED: the statements are not yours to turn. If you find one false, say at which input.
  Laid BY PROGRAM, IN A SANDBOX (cutbox-rows.mjs): the forced cells as the released guide's own fill.sh prints them over the translation b3116c558a622ade… (all of the seat's roots in one cut). By AI agents, Wed Nov 11 2026. No macro, syntax, notation, axiom, sorry.
-/
import Derived.Test.YthhdfndgkkjkpaaChecked
import GoSem.Claim
import GoSem.ClaimJoined
import GoSem.ClaimMapViews
import Derived.JoinedTies
import Derived.KernelRfl
namespace Go.Proofs.Ythhdfndgkkjkpaa
/- THE CELL 'sum', in the pinned program and in every row, IS THE sha256 OF THE DUMP (.gsa) THAT YthhdfndgkkjkpaaProg.lean LOADS. Nothing in Lean hashes anything: it is a label: what it is worth is what the hold of that sum in a sandbox is worth. -/
noncomputable def Try.pinned : Pinned := { name := "ythhdfndgkkjkpaa", sum := "b3116c558a622ade54fe481d278e19fc3af87744b756e64b9787ed2216b87547", checked := Try.checked }
namespace Rows
def none {H : Type} : Left H := { results := [], args := [] }

/-- 'twainlaw27.PlanActs': WHATEVER THE INPUT: true; the input reads as it did. -/
def planActsSpec : ChangeSpec := { name := "planActs", fn := fun _ => fun
  | [d1, d2] => { results := [.lit (.bool true)], args := [d1, d2] }
  | _ => none }
def planActsRow : OpenClaim := { program := "ythhdfndgkkjkpaa", sum := "b3116c558a622ade54fe481d278e19fc3af87744b756e64b9787ed2216b87547", func := "twain/twainlaw27.PlanActs", spec := "planActs", unfollowed := true, recurses := true, apart := false }
def PlanActsSaid : Prop := planActsRow.holds Try.pinned (OpenSpec.ofChange planActsSpec)

/-- ITS FALSE NEIGHBOUR: 'it returns false'. Refute it at one input. -/
def planActsWrong : ChangeSpec := { name := "planActs", fn := fun _ => fun
  | [d1, d2] => { results := [.lit (.bool false)], args := [d1, d2] }
  | _ => none }
def PlanActsWrongFalsely : Prop := planActsRow.holds Try.pinned (OpenSpec.ofChange planActsWrong)

/-- 'twainlaw27.PlanOver': WHATEVER THE INPUT: true; the input reads as it did. -/
def planOverSpec : ChangeSpec := { name := "planOver", fn := fun _ => fun
  | [d1, d2] => { results := [.lit (.bool true)], args := [d1, d2] }
  | _ => none }
def planOverRow : OpenClaim := { program := "ythhdfndgkkjkpaa", sum := "b3116c558a622ade54fe481d278e19fc3af87744b756e64b9787ed2216b87547", func := "twain/twainlaw27.PlanOver", spec := "planOver", unfollowed := true, recurses := true, apart := false }
def PlanOverSaid : Prop := planOverRow.holds Try.pinned (OpenSpec.ofChange planOverSpec)

/-- ITS FALSE NEIGHBOUR: 'it returns false'. Refute it at one input. -/
def planOverWrong : ChangeSpec := { name := "planOver", fn := fun _ => fun
  | [d1, d2] => { results := [.lit (.bool false)], args := [d1, d2] }
  | _ => none }
def PlanOverWrongFalsely : Prop := planOverRow.holds Try.pinned (OpenSpec.ofChange planOverWrong)

/-- 'twainlaw27.PlanNone': WHATEVER THE INPUT: true; the input reads as it did. -/
def planNoneSpec : ChangeSpec := { name := "planNone", fn := fun _ => fun
  | [d] => { results := [.lit (.bool true)], args := [d] }
  | _ => none }
def planNoneRow : OpenClaim := { program := "ythhdfndgkkjkpaa", sum := "b3116c558a622ade54fe481d278e19fc3af87744b756e64b9787ed2216b87547", func := "twain/twainlaw27.PlanNone", spec := "planNone", unfollowed := true, recurses := true, apart := false }
def PlanNoneSaid : Prop := planNoneRow.holds Try.pinned (OpenSpec.ofChange planNoneSpec)

/-- ITS FALSE NEIGHBOUR: 'it returns false'. Refute it at one input. -/
def planNoneWrong : ChangeSpec := { name := "planNone", fn := fun _ => fun
  | [d] => { results := [.lit (.bool false)], args := [d] }
  | _ => none }
def PlanNoneWrongFalsely : Prop := planNoneRow.holds Try.pinned (OpenSpec.ofChange planNoneWrong)

/- THE SECOND FORM. 'bulk': how many values and letters a reading holds, each counted each time it is reached (what is shared counts as often as it is met; a slice's spare places count too). A statement '..UptoSaid' is the law's where the arguments, and the package variables that the reading takes, are together of bulk at most 1048576: NARROWER than '..Said'. Prove '..Said' where nothing that the law and all that it calls make is longer than what came in: it says more and counts as full. Else prove '..UptoSaid'. A law counts once. -/
mutual
def uptoBulk {H : Type} : DataW H → Nat
  | .lit (.string bytes) => bytes.length + 1
  | .lit _ => 1
  | .nil => 1
  | .ptr d => uptoBulk d + 1
  | .slice elems spare => uptoBulkAll elems + uptoBulkAll spare + 1
  | .agg parts => uptoBulkAll parts + 1
  | .iface _ d => uptoBulk d + 1
  | .map entries => uptoBulkEntries entries + 1
  | .held _ => 1
def uptoBulkAll {H : Type} : List (DataW H) → Nat
  | [] => 0
  | d :: r => uptoBulk d + uptoBulkAll r
def uptoBulkEntries {H : Type} : List (Lit × DataW H) → Nat
  | [] => 0
  | x :: r => uptoBulkEntry x + uptoBulkEntries r
def uptoBulkEntry {H : Type} : Lit × DataW H → Nat
  | (.string bytes, d) => bytes.length + uptoBulk d + 1
  | (_, d) => uptoBulk d + 1
 end
def uptoSmall : (H : Type) → List (DataW H) → Bool := fun _ ds => decide (uptoBulkAll ds ≤ 1048576)
def OpenSpec.upto (s : _root_.Go.ChangeSpec) : _root_.Go.OpenSpec := { _root_.Go.OpenSpec.ofChange s with cond := some uptoSmall }

/-- 'twainlaw27.PlanActs', WHERE WHAT IT READS IS OF BULK AT MOST 1048576: true; the input reads as it did. -/
def planActsUptoRow : OpenClaim := { program := "ythhdfndgkkjkpaa", sum := "b3116c558a622ade54fe481d278e19fc3af87744b756e64b9787ed2216b87547", func := "twain/twainlaw27.PlanActs", spec := "planActs", unfollowed := true, recurses := true, apart := false, narrowed := true }
def PlanActsUptoSaid : Prop := planActsUptoRow.holds Try.pinned (OpenSpec.upto planActsSpec)

/-- 'twainlaw27.PlanOver', WHERE WHAT IT READS IS OF BULK AT MOST 1048576: true; the input reads as it did. -/
def planOverUptoRow : OpenClaim := { program := "ythhdfndgkkjkpaa", sum := "b3116c558a622ade54fe481d278e19fc3af87744b756e64b9787ed2216b87547", func := "twain/twainlaw27.PlanOver", spec := "planOver", unfollowed := true, recurses := true, apart := false, narrowed := true }
def PlanOverUptoSaid : Prop := planOverUptoRow.holds Try.pinned (OpenSpec.upto planOverSpec)

/-- 'twainlaw27.PlanNone', WHERE WHAT IT READS IS OF BULK AT MOST 1048576: true; the input reads as it did. -/
def planNoneUptoRow : OpenClaim := { program := "ythhdfndgkkjkpaa", sum := "b3116c558a622ade54fe481d278e19fc3af87744b756e64b9787ed2216b87547", func := "twain/twainlaw27.PlanNone", spec := "planNone", unfollowed := true, recurses := true, apart := false, narrowed := true }
def PlanNoneUptoSaid : Prop := planNoneUptoRow.holds Try.pinned (OpenSpec.upto planNoneSpec)

end Rows
end Go.Proofs.Ythhdfndgkkjkpaa
