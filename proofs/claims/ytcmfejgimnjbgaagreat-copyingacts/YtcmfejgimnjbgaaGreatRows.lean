/-
  No cell of these rows narrows 'for every input' (looked for: loops, veiled, ifaces, maps, wideKeys, modest, calm, conditions, laid).
  DERIVED. THE GIVEN ROWS OF THIS SEAT. 3 by the template 'for every input the law returns true; each argument reads behind the call as it read before'; 0 by the template 'total and deterministic' (their statements: YtcmfejgimnjbgaaGreatTotals.lean).
  GIVEN WITH THE SEED: the statements are not yours to turn. If you find one false, say at which input.
  Laid BY PROGRAM, IN A SANDBOX (cutbox-rows.mjs): the forced cells as the released guide's own fill.sh prints them over the translation 6cc6b6da51545472… (all of the seat's roots in one cut). By AI agents, Wed Nov 11 2026. No macro, syntax, notation, axiom, sorry.
-/
import Derived.Test.YtcmfejgimnjbgaaGreatChecked
import GoSem.Claim
import GoSem.ClaimJoined
import GoSem.ClaimMapViews
import Derived.JoinedTies
import Derived.KernelRfl
namespace Go.Proofs.YtcmfejgimnjbgaaGreat
/- THE CELL 'sum', in the pinned program and in every row, IS THE sha256 OF THE DUMP (.gsa) THAT YtcmfejgimnjbgaaGreatProg.lean LOADS. Nothing in Lean hashes anything: it is a label: what it is worth is what the hold of that sum in a sandbox is worth. -/
noncomputable def Tryz.pinned : Pinned := { name := "ytcmfejgimnjbgaagreat", sum := "6cc6b6da515454728f9e3264220fe04cfc0d241e671fffc2bf2b5085a2992461", checked := Tryz.checked }
namespace Rows
def none {H : Type} : Left H := { results := [], args := [] }

/-- 'twainlaw29.CopyingActs': WHATEVER THE INPUT: true; the input reads as it did. -/
def copyingActsSpec : ChangeSpec := { name := "copyingActs", fn := fun _ => fun
  | [d1, d2] => { results := [.lit (.bool true)], args := [d1, d2] }
  | _ => none }
def copyingActsRow : OpenClaim := { program := "ytcmfejgimnjbgaagreat", sum := "6cc6b6da515454728f9e3264220fe04cfc0d241e671fffc2bf2b5085a2992461", func := "twain/twainlaw29.CopyingActs", spec := "copyingActs", unfollowed := true, recurses := true, apart := false }
def CopyingActsSaid : Prop := copyingActsRow.holds Tryz.pinned (OpenSpec.ofChange copyingActsSpec)

/-- ITS FALSE NEIGHBOUR: 'it returns false'. Refute it at one input. -/
def copyingActsWrong : ChangeSpec := { name := "copyingActs", fn := fun _ => fun
  | [d1, d2] => { results := [.lit (.bool false)], args := [d1, d2] }
  | _ => none }
def CopyingActsWrongFalsely : Prop := copyingActsRow.holds Tryz.pinned (OpenSpec.ofChange copyingActsWrong)

/-- 'twainlaw29.CopyingAlike': WHATEVER THE INPUT: true; the input reads as it did. -/
def copyingAlikeSpec : ChangeSpec := { name := "copyingAlike", fn := fun _ => fun
  | [d1, d2, d3] => { results := [.lit (.bool true)], args := [d1, d2, d3] }
  | _ => none }
def copyingAlikeRow : OpenClaim := { program := "ytcmfejgimnjbgaagreat", sum := "6cc6b6da515454728f9e3264220fe04cfc0d241e671fffc2bf2b5085a2992461", func := "twain/twainlaw29.CopyingAlike", spec := "copyingAlike", unfollowed := true, recurses := true, apart := false }
def CopyingAlikeSaid : Prop := copyingAlikeRow.holds Tryz.pinned (OpenSpec.ofChange copyingAlikeSpec)

/-- ITS FALSE NEIGHBOUR: 'it returns false'. Refute it at one input. -/
def copyingAlikeWrong : ChangeSpec := { name := "copyingAlike", fn := fun _ => fun
  | [d1, d2, d3] => { results := [.lit (.bool false)], args := [d1, d2, d3] }
  | _ => none }
def CopyingAlikeWrongFalsely : Prop := copyingAlikeRow.holds Tryz.pinned (OpenSpec.ofChange copyingAlikeWrong)

/-- 'twainlaw29.CopyingNone': WHATEVER THE INPUT: true; the input reads as it did. -/
def copyingNoneSpec : ChangeSpec := { name := "copyingNone", fn := fun _ => fun
  | [d] => { results := [.lit (.bool true)], args := [d] }
  | _ => none }
def copyingNoneRow : OpenClaim := { program := "ytcmfejgimnjbgaagreat", sum := "6cc6b6da515454728f9e3264220fe04cfc0d241e671fffc2bf2b5085a2992461", func := "twain/twainlaw29.CopyingNone", spec := "copyingNone", unfollowed := true, recurses := true, apart := false }
def CopyingNoneSaid : Prop := copyingNoneRow.holds Tryz.pinned (OpenSpec.ofChange copyingNoneSpec)

/-- ITS FALSE NEIGHBOUR: 'it returns false'. Refute it at one input. -/
def copyingNoneWrong : ChangeSpec := { name := "copyingNone", fn := fun _ => fun
  | [d] => { results := [.lit (.bool false)], args := [d] }
  | _ => none }
def CopyingNoneWrongFalsely : Prop := copyingNoneRow.holds Tryz.pinned (OpenSpec.ofChange copyingNoneWrong)

/- THE SECOND FORM. 'bulk': how many values and letters a reading holds, each counted each time it is reached (what is shared counts as often as it is met; a slice's spare places count too). A statement '..UptoSaid' is the law's where the arguments, and the package variables that the reading takes, are together of bulk at most 1048576: NARROWER than '..Said'. Prove '..Said' where nothing that the law and all that it calls make is longer than what came in: it says more and counts as full. Else prove '..UptoSaid'. A law counts once. -/
mutual
def uptoBulk {H : Type} : DataW H → Nat
  | .lit (.string bytes) => bytes.length + 1
  | .lit _ => 1
  | .nil => 1
  | .ptr d => uptoBulk d + 1
  | .slice elems spare => uptoBulkAll elems + uptoBulkAll spare + 1
  | .agg parts => uptoBulkAll parts + 1
  | .iface _ d => uptoBulk d + 1
  | .map entries => uptoBulkEntries entries + 1
  | .held _ => 1
def uptoBulkAll {H : Type} : List (DataW H) → Nat
  | [] => 0
  | d :: r => uptoBulk d + uptoBulkAll r
def uptoBulkEntries {H : Type} : List (Lit × DataW H) → Nat
  | [] => 0
  | x :: r => uptoBulkEntry x + uptoBulkEntries r
def uptoBulkEntry {H : Type} : Lit × DataW H → Nat
  | (.string bytes, d) => bytes.length + uptoBulk d + 1
  | (_, d) => uptoBulk d + 1
 end
def uptoSmall : (H : Type) → List (DataW H) → Bool := fun _ ds => decide (uptoBulkAll ds ≤ 1048576)
def OpenSpec.upto (s : _root_.Go.ChangeSpec) : _root_.Go.OpenSpec := { _root_.Go.OpenSpec.ofChange s with cond := some uptoSmall }

/-- 'twainlaw29.CopyingActs', WHERE WHAT IT READS IS OF BULK AT MOST 1048576: true; the input reads as it did. -/
def copyingActsUptoRow : OpenClaim := { program := "ytcmfejgimnjbgaagreat", sum := "6cc6b6da515454728f9e3264220fe04cfc0d241e671fffc2bf2b5085a2992461", func := "twain/twainlaw29.CopyingActs", spec := "copyingActs", unfollowed := true, recurses := true, apart := false, narrowed := true }
def CopyingActsUptoSaid : Prop := copyingActsUptoRow.holds Tryz.pinned (OpenSpec.upto copyingActsSpec)

/-- 'twainlaw29.CopyingAlike', WHERE WHAT IT READS IS OF BULK AT MOST 1048576: true; the input reads as it did. -/
def copyingAlikeUptoRow : OpenClaim := { program := "ytcmfejgimnjbgaagreat", sum := "6cc6b6da515454728f9e3264220fe04cfc0d241e671fffc2bf2b5085a2992461", func := "twain/twainlaw29.CopyingAlike", spec := "copyingAlike", unfollowed := true, recurses := true, apart := false, narrowed := true }
def CopyingAlikeUptoSaid : Prop := copyingAlikeUptoRow.holds Tryz.pinned (OpenSpec.upto copyingAlikeSpec)

/-- 'twainlaw29.CopyingNone', WHERE WHAT IT READS IS OF BULK AT MOST 1048576: true; the input reads as it did. -/
def copyingNoneUptoRow : OpenClaim := { program := "ytcmfejgimnjbgaagreat", sum := "6cc6b6da515454728f9e3264220fe04cfc0d241e671fffc2bf2b5085a2992461", func := "twain/twainlaw29.CopyingNone", spec := "copyingNone", unfollowed := true, recurses := true, apart := false, narrowed := true }
def CopyingNoneUptoSaid : Prop := copyingNoneUptoRow.holds Tryz.pinned (OpenSpec.upto copyingNoneSpec)

end Rows
end Go.Proofs.YtcmfejgimnjbgaaGreat
