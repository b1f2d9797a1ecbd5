/-
  No cell of these rows narrows 'for every input' (looked for: loops, veiled, ifaces, maps, wideKeys, modest, calm, conditions, laid).
  DERIVED. THE GIVEN ROWS OF THIS SEAT. 3 by the template 'for every input the law returns true; each argument reads behind the call as it read before'; 0 by the template 'total and deterministic' (their statements: YtgddpfcnngglaaaTotals.lean).
  GIVEN WITH THE SEED: the statements are not yours to turn. If you find one false, say at which input.
  Laid BY PROGRAM, IN A SANDBOX (cutbox-rows.mjs): the forced cells as the released guide's own fill.sh prints them over the translation 8cf0ec3bc43f4255… (all of the seat's roots in one cut). By AI agents, Wed Nov 11 2026. No macro, syntax, notation, axiom, sorry.
-/
import Derived.Test.YtgddpfcnngglaaaChecked
import GoSem.Claim
import GoSem.ClaimJoined
import GoSem.ClaimMapViews
import Derived.JoinedTies
import Derived.KernelRfl
namespace Go.Proofs.Ytgddpfcnngglaaa
/- THE CELL 'sum', in the pinned program and in every row, IS THE sha256 OF THE DUMP (.gsa) THAT YtgddpfcnngglaaaProg.lean LOADS. Nothing in Lean hashes anything: it is a label: what it is worth is what the hold of that sum in a sandbox is worth. -/
noncomputable def Try.pinned : Pinned := { name := "ytgddpfcnngglaaa", sum := "8cf0ec3bc43f42559cccdfc7f3fa8267d7f39e82bc8c824260d51a52c743d81f", checked := Try.checked }
namespace Rows
def none {H : Type} : Left H := { results := [], args := [] }

/-- 'twainlaw12.DataActs': WHATEVER THE INPUT: true; the input reads as it did. -/
def dataActsSpec : ChangeSpec := { name := "dataActs", fn := fun _ => fun
  | [d1, d2] => { results := [.lit (.bool true)], args := [d1, d2] }
  | _ => none }
def dataActsRow : OpenClaim := { program := "ytgddpfcnngglaaa", sum := "8cf0ec3bc43f42559cccdfc7f3fa8267d7f39e82bc8c824260d51a52c743d81f", func := "twain/twainlaw12.DataActs", spec := "dataActs", unfollowed := true, recurses := true, apart := false }
def DataActsSaid : Prop := dataActsRow.holds Try.pinned (OpenSpec.ofChange dataActsSpec)

/-- ITS FALSE NEIGHBOUR: 'it returns false'. Refute it at one input. -/
def dataActsWrong : ChangeSpec := { name := "dataActs", fn := fun _ => fun
  | [d1, d2] => { results := [.lit (.bool false)], args := [d1, d2] }
  | _ => none }
def DataActsWrongFalsely : Prop := dataActsRow.holds Try.pinned (OpenSpec.ofChange dataActsWrong)

/-- 'twainlaw12.DataKeeps': WHATEVER THE INPUT: true; the input reads as it did. -/
def dataKeepsSpec : ChangeSpec := { name := "dataKeeps", fn := fun _ => fun
  | [d1, d2] => { results := [.lit (.bool true)], args := [d1, d2] }
  | _ => none }
def dataKeepsRow : OpenClaim := { program := "ytgddpfcnngglaaa", sum := "8cf0ec3bc43f42559cccdfc7f3fa8267d7f39e82bc8c824260d51a52c743d81f", func := "twain/twainlaw12.DataKeeps", spec := "dataKeeps", unfollowed := true, recurses := true, apart := false }
def DataKeepsSaid : Prop := dataKeepsRow.holds Try.pinned (OpenSpec.ofChange dataKeepsSpec)

/-- ITS FALSE NEIGHBOUR: 'it returns false'. Refute it at one input. -/
def dataKeepsWrong : ChangeSpec := { name := "dataKeeps", fn := fun _ => fun
  | [d1, d2] => { results := [.lit (.bool false)], args := [d1, d2] }
  | _ => none }
def DataKeepsWrongFalsely : Prop := dataKeepsRow.holds Try.pinned (OpenSpec.ofChange dataKeepsWrong)

/-- 'twainlaw12.DataNone': WHATEVER THE INPUT: true; the input reads as it did. -/
def dataNoneSpec : ChangeSpec := { name := "dataNone", fn := fun _ => fun
  | [d] => { results := [.lit (.bool true)], args := [d] }
  | _ => none }
def dataNoneRow : OpenClaim := { program := "ytgddpfcnngglaaa", sum := "8cf0ec3bc43f42559cccdfc7f3fa8267d7f39e82bc8c824260d51a52c743d81f", func := "twain/twainlaw12.DataNone", spec := "dataNone", unfollowed := true, recurses := true, apart := false }
def DataNoneSaid : Prop := dataNoneRow.holds Try.pinned (OpenSpec.ofChange dataNoneSpec)

/-- ITS FALSE NEIGHBOUR: 'it returns false'. Refute it at one input. -/
def dataNoneWrong : ChangeSpec := { name := "dataNone", fn := fun _ => fun
  | [d] => { results := [.lit (.bool false)], args := [d] }
  | _ => none }
def DataNoneWrongFalsely : Prop := dataNoneRow.holds Try.pinned (OpenSpec.ofChange dataNoneWrong)

/- THE SECOND FORM. 'bulk': how many values and letters a reading holds, each counted each time it is reached (what is shared counts as often as it is met; a slice's spare places count too). A statement '..UptoSaid' is the law's where the arguments, and the package variables that the reading takes, are together of bulk at most 1048576: NARROWER than '..Said'. Prove '..Said' where nothing that the law and all that it calls make is longer than what came in: it says more and counts as full. Else prove '..UptoSaid'. A law counts once. -/
mutual
def uptoBulk {H : Type} : DataW H → Nat
  | .lit (.string bytes) => bytes.length + 1
  | .lit _ => 1
  | .nil => 1
  | .ptr d => uptoBulk d + 1
  | .slice elems spare => uptoBulkAll elems + uptoBulkAll spare + 1
  | .agg parts => uptoBulkAll parts + 1
  | .iface _ d => uptoBulk d + 1
  | .map entries => uptoBulkEntries entries + 1
  | .held _ => 1
def uptoBulkAll {H : Type} : List (DataW H) → Nat
  | [] => 0
  | d :: r => uptoBulk d + uptoBulkAll r
def uptoBulkEntries {H : Type} : List (Lit × DataW H) → Nat
  | [] => 0
  | x :: r => uptoBulkEntry x + uptoBulkEntries r
def uptoBulkEntry {H : Type} : Lit × DataW H → Nat
  | (.string bytes, d) => bytes.length + uptoBulk d + 1
  | (_, d) => uptoBulk d + 1
 end
def uptoSmall : (H : Type) → List (DataW H) → Bool := fun _ ds => decide (uptoBulkAll ds ≤ 1048576)
def OpenSpec.upto (s : _root_.Go.ChangeSpec) : _root_.Go.OpenSpec := { _root_.Go.OpenSpec.ofChange s with cond := some uptoSmall }

/-- 'twainlaw12.DataActs', WHERE WHAT IT READS IS OF BULK AT MOST 1048576: true; the input reads as it did. -/
def dataActsUptoRow : OpenClaim := { program := "ytgddpfcnngglaaa", sum := "8cf0ec3bc43f42559cccdfc7f3fa8267d7f39e82bc8c824260d51a52c743d81f", func := "twain/twainlaw12.DataActs", spec := "dataActs", unfollowed := true, recurses := true, apart := false, narrowed := true }
def DataActsUptoSaid : Prop := dataActsUptoRow.holds Try.pinned (OpenSpec.upto dataActsSpec)

/-- 'twainlaw12.DataKeeps', WHERE WHAT IT READS IS OF BULK AT MOST 1048576: true; the input reads as it did. -/
def dataKeepsUptoRow : OpenClaim := { program := "ytgddpfcnngglaaa", sum := "8cf0ec3bc43f42559cccdfc7f3fa8267d7f39e82bc8c824260d51a52c743d81f", func := "twain/twainlaw12.DataKeeps", spec := "dataKeeps", unfollowed := true, recurses := true, apart := false, narrowed := true }
def DataKeepsUptoSaid : Prop := dataKeepsUptoRow.holds Try.pinned (OpenSpec.upto dataKeepsSpec)

/-- 'twainlaw12.DataNone', WHERE WHAT IT READS IS OF BULK AT MOST 1048576: true; the input reads as it did. -/
def dataNoneUptoRow : OpenClaim := { program := "ytgddpfcnngglaaa", sum := "8cf0ec3bc43f42559cccdfc7f3fa8267d7f39e82bc8c824260d51a52c743d81f", func := "twain/twainlaw12.DataNone", spec := "dataNone", unfollowed := true, recurses := true, apart := false, narrowed := true }
def DataNoneUptoSaid : Prop := dataNoneUptoRow.holds Try.pinned (OpenSpec.upto dataNoneSpec)

end Rows
end Go.Proofs.Ytgddpfcnngglaaa
