/-
  No cell of these rows narrows 'for every input' (looked for: loops, veiled, ifaces, maps, wideKeys, modest, calm, conditions, laid).
  DERIVED. THE GIVEN ROWS OF THIS SEAT. 3 by the template 'for every input the law returns true; each argument reads behind the call as it read before'; 0 by the template 'total and deterministic' (their statements: YtldeecjocapfgaaTotals.lean).
  GIVEN WITH THE SEED: the statements are not yours to turn. If you find one false, say at which input.
  Laid BY PROGRAM, IN A SANDBOX (cutbox-rows.mjs): the forced cells as the released guide's own fill.sh prints them over the translation 9fd720184f63a18f… (all of the seat's roots in one cut). By AI agents, Wed Nov 11 2026. No macro, syntax, notation, axiom, sorry.
-/
import Derived.Test.YtldeecjocapfgaaChecked
import GoSem.Claim
import GoSem.ClaimJoined
import GoSem.ClaimMapViews
import Derived.JoinedTies
import Derived.KernelRfl
namespace Go.Proofs.Ytldeecjocapfgaa
/- THE CELL 'sum', in the pinned program and in every row, IS THE sha256 OF THE DUMP (.gsa) THAT YtldeecjocapfgaaProg.lean LOADS. Nothing in Lean hashes anything: it is a label: what it is worth is what the hold of that sum in a sandbox is worth. -/
noncomputable def Try.pinned : Pinned := { name := "ytldeecjocapfgaa", sum := "9fd720184f63a18f0b62585328cd7dd63cc1cde3839d204b1be921b2856e0f8c", checked := Try.checked }
namespace Rows
def none {H : Type} : Left H := { results := [], args := [] }

/-- 'twainlaw09.HotActs': WHATEVER THE INPUT: true; the input reads as it did. -/
def hotActsSpec : ChangeSpec := { name := "hotActs", fn := fun _ => fun
  | [d1, d2] => { results := [.lit (.bool true)], args := [d1, d2] }
  | _ => none }
def hotActsRow : OpenClaim := { program := "ytldeecjocapfgaa", sum := "9fd720184f63a18f0b62585328cd7dd63cc1cde3839d204b1be921b2856e0f8c", func := "twain/twainlaw09.HotActs", spec := "hotActs", unfollowed := true, recurses := true, apart := false }
def HotActsSaid : Prop := hotActsRow.holds Try.pinned (OpenSpec.ofChange hotActsSpec)

/-- ITS FALSE NEIGHBOUR: 'it returns false'. Refute it at one input. -/
def hotActsWrong : ChangeSpec := { name := "hotActs", fn := fun _ => fun
  | [d1, d2] => { results := [.lit (.bool false)], args := [d1, d2] }
  | _ => none }
def HotActsWrongFalsely : Prop := hotActsRow.holds Try.pinned (OpenSpec.ofChange hotActsWrong)

/-- 'twainlaw09.HotKeeps': WHATEVER THE INPUT: true; the input reads as it did. -/
def hotKeepsSpec : ChangeSpec := { name := "hotKeeps", fn := fun _ => fun
  | [d1, d2] => { results := [.lit (.bool true)], args := [d1, d2] }
  | _ => none }
def hotKeepsRow : OpenClaim := { program := "ytldeecjocapfgaa", sum := "9fd720184f63a18f0b62585328cd7dd63cc1cde3839d204b1be921b2856e0f8c", func := "twain/twainlaw09.HotKeeps", spec := "hotKeeps", unfollowed := true, recurses := true, apart := false }
def HotKeepsSaid : Prop := hotKeepsRow.holds Try.pinned (OpenSpec.ofChange hotKeepsSpec)

/-- ITS FALSE NEIGHBOUR: 'it returns false'. Refute it at one input. -/
def hotKeepsWrong : ChangeSpec := { name := "hotKeeps", fn := fun _ => fun
  | [d1, d2] => { results := [.lit (.bool false)], args := [d1, d2] }
  | _ => none }
def HotKeepsWrongFalsely : Prop := hotKeepsRow.holds Try.pinned (OpenSpec.ofChange hotKeepsWrong)

/-- 'twainlaw09.HotNone': WHATEVER THE INPUT: true; the input reads as it did. -/
def hotNoneSpec : ChangeSpec := { name := "hotNone", fn := fun _ => fun
  | [d] => { results := [.lit (.bool true)], args := [d] }
  | _ => none }
def hotNoneRow : OpenClaim := { program := "ytldeecjocapfgaa", sum := "9fd720184f63a18f0b62585328cd7dd63cc1cde3839d204b1be921b2856e0f8c", func := "twain/twainlaw09.HotNone", spec := "hotNone", unfollowed := true, recurses := true, apart := false }
def HotNoneSaid : Prop := hotNoneRow.holds Try.pinned (OpenSpec.ofChange hotNoneSpec)

/-- ITS FALSE NEIGHBOUR: 'it returns false'. Refute it at one input. -/
def hotNoneWrong : ChangeSpec := { name := "hotNone", fn := fun _ => fun
  | [d] => { results := [.lit (.bool false)], args := [d] }
  | _ => none }
def HotNoneWrongFalsely : Prop := hotNoneRow.holds Try.pinned (OpenSpec.ofChange hotNoneWrong)

/- THE SECOND FORM. 'bulk': how many values and letters a reading holds, each counted each time it is reached (what is shared counts as often as it is met; a slice's spare places count too). A statement '..UptoSaid' is the law's where the arguments, and the package variables that the reading takes, are together of bulk at most 1048576: NARROWER than '..Said'. Prove '..Said' where nothing that the law and all that it calls make is longer than what came in: it says more and counts as full. Else prove '..UptoSaid'. A law counts once. -/
mutual
def uptoBulk {H : Type} : DataW H → Nat
  | .lit (.string bytes) => bytes.length + 1
  | .lit _ => 1
  | .nil => 1
  | .ptr d => uptoBulk d + 1
  | .slice elems spare => uptoBulkAll elems + uptoBulkAll spare + 1
  | .agg parts => uptoBulkAll parts + 1
  | .iface _ d => uptoBulk d + 1
  | .map entries => uptoBulkEntries entries + 1
  | .held _ => 1
def uptoBulkAll {H : Type} : List (DataW H) → Nat
  | [] => 0
  | d :: r => uptoBulk d + uptoBulkAll r
def uptoBulkEntries {H : Type} : List (Lit × DataW H) → Nat
  | [] => 0
  | x :: r => uptoBulkEntry x + uptoBulkEntries r
def uptoBulkEntry {H : Type} : Lit × DataW H → Nat
  | (.string bytes, d) => bytes.length + uptoBulk d + 1
  | (_, d) => uptoBulk d + 1
 end
def uptoSmall : (H : Type) → List (DataW H) → Bool := fun _ ds => decide (uptoBulkAll ds ≤ 1048576)
def OpenSpec.upto (s : _root_.Go.ChangeSpec) : _root_.Go.OpenSpec := { _root_.Go.OpenSpec.ofChange s with cond := some uptoSmall }

/-- 'twainlaw09.HotActs', WHERE WHAT IT READS IS OF BULK AT MOST 1048576: true; the input reads as it did. -/
def hotActsUptoRow : OpenClaim := { program := "ytldeecjocapfgaa", sum := "9fd720184f63a18f0b62585328cd7dd63cc1cde3839d204b1be921b2856e0f8c", func := "twain/twainlaw09.HotActs", spec := "hotActs", unfollowed := true, recurses := true, apart := false, narrowed := true }
def HotActsUptoSaid : Prop := hotActsUptoRow.holds Try.pinned (OpenSpec.upto hotActsSpec)

/-- 'twainlaw09.HotKeeps', WHERE WHAT IT READS IS OF BULK AT MOST 1048576: true; the input reads as it did. -/
def hotKeepsUptoRow : OpenClaim := { program := "ytldeecjocapfgaa", sum := "9fd720184f63a18f0b62585328cd7dd63cc1cde3839d204b1be921b2856e0f8c", func := "twain/twainlaw09.HotKeeps", spec := "hotKeeps", unfollowed := true, recurses := true, apart := false, narrowed := true }
def HotKeepsUptoSaid : Prop := hotKeepsUptoRow.holds Try.pinned (OpenSpec.upto hotKeepsSpec)

/-- 'twainlaw09.HotNone', WHERE WHAT IT READS IS OF BULK AT MOST 1048576: true; the input reads as it did. -/
def hotNoneUptoRow : OpenClaim := { program := "ytldeecjocapfgaa", sum := "9fd720184f63a18f0b62585328cd7dd63cc1cde3839d204b1be921b2856e0f8c", func := "twain/twainlaw09.HotNone", spec := "hotNone", unfollowed := true, recurses := true, apart := false, narrowed := true }
def HotNoneUptoSaid : Prop := hotNoneUptoRow.holds Try.pinned (OpenSpec.upto hotNoneSpec)

end Rows
end Go.Proofs.Ytldeecjocapfgaa
