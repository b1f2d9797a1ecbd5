/-
  No cell of these rows narrows 'for every input' (looked for: loops, veiled, ifaces, maps, wideKeys, modest, calm, conditions, laid).
  DERIVED. THE GIVEN ROWS OF THIS SEAT. 4 by the template 'for every input the law returns true; each argument reads behind the call as it read before'; 0 by the template 'total and deterministic' (their statements: YtoaeficfmcncjaaGreatTotals.lean).
  GIVEN WITH THE SEED: the statements are not yours to turn. If you find one false, say at which input.
  Laid BY PROGRAM, IN A SANDBOX (cutbox-rows.mjs): the forced cells as the released guide's own fill.sh prints them over the translation fda4b9cb3e8f51ca… (all of the seat's roots in one cut). By AI agents, Wed Nov 11 2026. No macro, syntax, notation, axiom, sorry.
-/
import Derived.Test.YtoaeficfmcncjaaGreatChecked
import GoSem.Claim
import GoSem.ClaimJoined
import GoSem.ClaimMapViews
import Derived.JoinedTies
import Derived.KernelRfl
namespace Go.Proofs.YtoaeficfmcncjaaGreat
/- THE CELL 'sum', in the pinned program and in every row, IS THE sha256 OF THE DUMP (.gsa) THAT YtoaeficfmcncjaaGreatProg.lean LOADS. Nothing in Lean hashes anything: it is a label: what it is worth is what the hold of that sum in a sandbox is worth. -/
noncomputable def Tryz.pinned : Pinned := { name := "ytoaeficfmcncjaagreat", sum := "fda4b9cb3e8f51ca5f15e8019bf225fe92a32d46cd910ac7ecec0d802903f3fa", checked := Tryz.checked }
namespace Rows
def none {H : Type} : Left H := { results := [], args := [] }

/-- 'twainlaw31.MirrorActs': WHATEVER THE INPUT: true; the input reads as it did. -/
def mirrorActsSpec : ChangeSpec := { name := "mirrorActs", fn := fun _ => fun
  | [d1, d2] => { results := [.lit (.bool true)], args := [d1, d2] }
  | _ => none }
def mirrorActsRow : OpenClaim := { program := "ytoaeficfmcncjaagreat", sum := "fda4b9cb3e8f51ca5f15e8019bf225fe92a32d46cd910ac7ecec0d802903f3fa", func := "twain/twainlaw31.MirrorActs", spec := "mirrorActs", unfollowed := true, recurses := true, plainKeys := false, apart := false }
def MirrorActsSaid : Prop := mirrorActsRow.holds Tryz.pinned (OpenSpec.ofChange mirrorActsSpec)

/-- ITS FALSE NEIGHBOUR: 'it returns false'. Refute it at one input. -/
def mirrorActsWrong : ChangeSpec := { name := "mirrorActs", fn := fun _ => fun
  | [d1, d2] => { results := [.lit (.bool false)], args := [d1, d2] }
  | _ => none }
def MirrorActsWrongFalsely : Prop := mirrorActsRow.holds Tryz.pinned (OpenSpec.ofChange mirrorActsWrong)

/-- 'twainlaw31.MirrorMeets': WHATEVER THE INPUT: true; the input reads as it did. -/
def mirrorMeetsSpec : ChangeSpec := { name := "mirrorMeets", fn := fun _ => fun
  | [d1, d2] => { results := [.lit (.bool true)], args := [d1, d2] }
  | _ => none }
def mirrorMeetsRow : OpenClaim := { program := "ytoaeficfmcncjaagreat", sum := "fda4b9cb3e8f51ca5f15e8019bf225fe92a32d46cd910ac7ecec0d802903f3fa", func := "twain/twainlaw31.MirrorMeets", spec := "mirrorMeets", unfollowed := true, recurses := true, plainKeys := false, apart := false }
def MirrorMeetsSaid : Prop := mirrorMeetsRow.holds Tryz.pinned (OpenSpec.ofChange mirrorMeetsSpec)

/-- ITS FALSE NEIGHBOUR: 'it returns false'. Refute it at one input. -/
def mirrorMeetsWrong : ChangeSpec := { name := "mirrorMeets", fn := fun _ => fun
  | [d1, d2] => { results := [.lit (.bool false)], args := [d1, d2] }
  | _ => none }
def MirrorMeetsWrongFalsely : Prop := mirrorMeetsRow.holds Tryz.pinned (OpenSpec.ofChange mirrorMeetsWrong)

/-- 'twainlaw31.MirrorDurable': WHATEVER THE INPUT: true; the input reads as it did. -/
def mirrorDurableSpec : ChangeSpec := { name := "mirrorDurable", fn := fun _ => fun
  | [d1, d2] => { results := [.lit (.bool true)], args := [d1, d2] }
  | _ => none }
def mirrorDurableRow : OpenClaim := { program := "ytoaeficfmcncjaagreat", sum := "fda4b9cb3e8f51ca5f15e8019bf225fe92a32d46cd910ac7ecec0d802903f3fa", func := "twain/twainlaw31.MirrorDurable", spec := "mirrorDurable", unfollowed := true, recurses := true, plainKeys := false, apart := false }
def MirrorDurableSaid : Prop := mirrorDurableRow.holds Tryz.pinned (OpenSpec.ofChange mirrorDurableSpec)

/-- ITS FALSE NEIGHBOUR: 'it returns false'. Refute it at one input. -/
def mirrorDurableWrong : ChangeSpec := { name := "mirrorDurable", fn := fun _ => fun
  | [d1, d2] => { results := [.lit (.bool false)], args := [d1, d2] }
  | _ => none }
def MirrorDurableWrongFalsely : Prop := mirrorDurableRow.holds Tryz.pinned (OpenSpec.ofChange mirrorDurableWrong)

/-- 'twainlaw31.MirrorNone': WHATEVER THE INPUT: true; the input reads as it did. -/
def mirrorNoneSpec : ChangeSpec := { name := "mirrorNone", fn := fun _ => fun
  | [d] => { results := [.lit (.bool true)], args := [d] }
  | _ => none }
def mirrorNoneRow : OpenClaim := { program := "ytoaeficfmcncjaagreat", sum := "fda4b9cb3e8f51ca5f15e8019bf225fe92a32d46cd910ac7ecec0d802903f3fa", func := "twain/twainlaw31.MirrorNone", spec := "mirrorNone", unfollowed := true, recurses := true, plainKeys := false, apart := false }
def MirrorNoneSaid : Prop := mirrorNoneRow.holds Tryz.pinned (OpenSpec.ofChange mirrorNoneSpec)

/-- ITS FALSE NEIGHBOUR: 'it returns false'. Refute it at one input. -/
def mirrorNoneWrong : ChangeSpec := { name := "mirrorNone", fn := fun _ => fun
  | [d] => { results := [.lit (.bool false)], args := [d] }
  | _ => none }
def MirrorNoneWrongFalsely : Prop := mirrorNoneRow.holds Tryz.pinned (OpenSpec.ofChange mirrorNoneWrong)

/- THE SECOND FORM. 'bulk': how many values and letters a reading holds, each counted each time it is reached (what is shared counts as often as it is met; a slice's spare places count too). A statement '..UptoSaid' is the law's where the arguments, and the package variables that the reading takes, are together of bulk at most 1048576: NARROWER than '..Said'. Prove '..Said' where nothing that the law and all that it calls make is longer than what came in: it says more and counts as full. Else prove '..UptoSaid'. A law counts once. -/
mutual
def uptoBulk {H : Type} : DataW H → Nat
  | .lit (.string bytes) => bytes.length + 1
  | .lit _ => 1
  | .nil => 1
  | .ptr d => uptoBulk d + 1
  | .slice elems spare => uptoBulkAll elems + uptoBulkAll spare + 1
  | .agg parts => uptoBulkAll parts + 1
  | .iface _ d => uptoBulk d + 1
  | .map entries => uptoBulkEntries entries + 1
  | .held _ => 1
def uptoBulkAll {H : Type} : List (DataW H) → Nat
  | [] => 0
  | d :: r => uptoBulk d + uptoBulkAll r
def uptoBulkEntries {H : Type} : List (Lit × DataW H) → Nat
  | [] => 0
  | x :: r => uptoBulkEntry x + uptoBulkEntries r
def uptoBulkEntry {H : Type} : Lit × DataW H → Nat
  | (.string bytes, d) => bytes.length + uptoBulk d + 1
  | (_, d) => uptoBulk d + 1
 end
def uptoSmall : (H : Type) → List (DataW H) → Bool := fun _ ds => decide (uptoBulkAll ds ≤ 1048576)
def OpenSpec.upto (s : _root_.Go.ChangeSpec) : _root_.Go.OpenSpec := { _root_.Go.OpenSpec.ofChange s with cond := some uptoSmall }

/-- 'twainlaw31.MirrorActs', WHERE WHAT IT READS IS OF BULK AT MOST 1048576: true; the input reads as it did. -/
def mirrorActsUptoRow : OpenClaim := { program := "ytoaeficfmcncjaagreat", sum := "fda4b9cb3e8f51ca5f15e8019bf225fe92a32d46cd910ac7ecec0d802903f3fa", func := "twain/twainlaw31.MirrorActs", spec := "mirrorActs", unfollowed := true, recurses := true, plainKeys := false, apart := false, narrowed := true }
def MirrorActsUptoSaid : Prop := mirrorActsUptoRow.holds Tryz.pinned (OpenSpec.upto mirrorActsSpec)

/-- 'twainlaw31.MirrorMeets', WHERE WHAT IT READS IS OF BULK AT MOST 1048576: true; the input reads as it did. -/
def mirrorMeetsUptoRow : OpenClaim := { program := "ytoaeficfmcncjaagreat", sum := "fda4b9cb3e8f51ca5f15e8019bf225fe92a32d46cd910ac7ecec0d802903f3fa", func := "twain/twainlaw31.MirrorMeets", spec := "mirrorMeets", unfollowed := true, recurses := true, plainKeys := false, apart := false, narrowed := true }
def MirrorMeetsUptoSaid : Prop := mirrorMeetsUptoRow.holds Tryz.pinned (OpenSpec.upto mirrorMeetsSpec)

/-- 'twainlaw31.MirrorDurable', WHERE WHAT IT READS IS OF BULK AT MOST 1048576: true; the input reads as it did. -/
def mirrorDurableUptoRow : OpenClaim := { program := "ytoaeficfmcncjaagreat", sum := "fda4b9cb3e8f51ca5f15e8019bf225fe92a32d46cd910ac7ecec0d802903f3fa", func := "twain/twainlaw31.MirrorDurable", spec := "mirrorDurable", unfollowed := true, recurses := true, plainKeys := false, apart := false, narrowed := true }
def MirrorDurableUptoSaid : Prop := mirrorDurableUptoRow.holds Tryz.pinned (OpenSpec.upto mirrorDurableSpec)

/-- 'twainlaw31.MirrorNone', WHERE WHAT IT READS IS OF BULK AT MOST 1048576: true; the input reads as it did. -/
def mirrorNoneUptoRow : OpenClaim := { program := "ytoaeficfmcncjaagreat", sum := "fda4b9cb3e8f51ca5f15e8019bf225fe92a32d46cd910ac7ecec0d802903f3fa", func := "twain/twainlaw31.MirrorNone", spec := "mirrorNone", unfollowed := true, recurses := true, plainKeys := false, apart := false, narrowed := true }
def MirrorNoneUptoSaid : Prop := mirrorNoneUptoRow.holds Tryz.pinned (OpenSpec.upto mirrorNoneSpec)

end Rows
end Go.Proofs.YtoaeficfmcncjaaGreat
