/-
  DataKeeps: what was written is read, all other bytes of the area are as they were, and what is refused changes nothing; the law returns true.
  Conditions: none beyond the row's own; each argument reads behind the call as it read before it.
-/
import Derived.Test.YtgddpfcnngglaaaRows
import Derived.Test.YtgddpfcnngglaaaDataD
import Derived.WalkKit
import Derived.ProofKit
import Derived.OpenShut
import Derived.ShutString
import Derived.ChangeOld
import Derived.Below
import Derived.Lib.SmallJoins
namespace Go.Proofs.Ytgddpfcnngglaaa
open Math
namespace dataKeeps
open Go.ChangeShapes Go.WideShapes Go.ChangeAt Go.RowKit
set_option linter.unusedVariables false

theorem own : ownKnob Try.prog.godebug = none := by kernel_rfl
theorem laidOut : laidOutB Try.prog = true := by kernel_rfl

theorem walk (k1 t1 : Int) (m1 : Nat) (o1 l1 : Int) (sa1 : Option Addr) (len1 cap1 : Nat) (bs1 : List Nat) (k2 t2 : Int) (m2 : Nat) (o2 l2 : Int) (sa2 : Option Addr) (len2 cap2 : Nat) (bs2 : List Nat) (w : World)
    (hl1 : len1 ≤ 9223372036854775807) (hl2 : len2 ≤ 9223372036854775807) (hr1 : ByteRow 0 w.heap.size w (.slice sa1 len1 cap1) bs1) (hr2 : ByteRow 0 w.heap.size w (.slice sa2 len2 cap2) bs2) :
    Calls Try.prog 4 #[.agg (actCells k1 t1 m1 o1 l1 (.slice sa1 len1 cap1)), .agg (actCells k2 t2 m2 o2 l2 (.slice sa2 len2 cap2))] w fun e w' => e = .returned (.bool true) ∧ Below w.heap.size w w' := by
  by_cases h : 400 < len1 ∨ 400 < len2
  · exact (keeps_early k1 t1 m1 o1 l1 sa1 len1 cap1 k2 t2 m2 o2 l2 sa2 len2 cap2 w hl1 hl2 h).mono fun e w' ⟨he, hk⟩ => ⟨he, hk.below (Nat.le_refl _) (by simp)⟩
  · exact (keeps_play k1 t1 m1 o1 l1 sa1 len1 cap1 bs1 k2 t2 m2 o2 l2 sa2 len2 cap2 bs2 w hr1 hr2 (by omega) (by omega)).mono fun e w' ⟨he, hk⟩ => ⟨he, hk.below (Nat.le_refl _) (by simp)⟩

set_option maxRecDepth 100000 in
theorem lifted (os : Os) (started : os.Started) (H : Type) (enc : TypeId × Value → H) :
    ReturnsInHanded {} Try.checked os 4 .any (Rows.dataKeepsSpec.pre6 enc Try.prog Try.f4 Rows.dataKeepsRow.domain false) (Rows.dataKeepsSpec.post enc Try.prog Try.f4 false true false false) := by
  refine returnsInHanded_of_change (C := Try.checked) own started (by kernel_rfl) Try.func4
    (ChangeSpec.witness6 (enc := enc) (C := Try.checked) false ⟨#[], #[.agg #[.int .i64 0, .int .i64 0, .int .u64 0, .int .i64 0, .int .i64 0, .slice none 0 0], .agg #[.int .i64 0, .int .i64 0, .int .u64 0, .int .i64 0, .int .i64 0, .slice none 0 0]], []⟩ 8 (by kernel_rfl) (by kernel_rfl) (by kernel_rfl) (by kernel_rfl)) ?_
  intro W base args ds gs before hval0 hW hcnd _
  have hval : ∀ (j : Nat) t v, Try.f4.params[j]? = some t → args[j]? = some v → Value.okWide Try.prog W .any base t v := hval0
  have hW' := hW
  obtain ⟨p, q, hA0, hV, rfl, hfz, hnd⟩ := hW
  have hA : DataW.TrodAll enc Try.prog W 0 (fun _ => true) true Try.f4.params.toList args.toList ds p := hA0
  rw [Try.params4] at hA hval
  obtain ⟨v0, vs0, d0, ds0, p0, q0, hargs, rfl, rfl, h0, r0⟩ := trodAll_cons hA
  obtain ⟨v1, vs1, d1, ds1, p1, q1, rfl, rfl, rfl, h1, r1⟩ := trodAll_cons r0
  obtain ⟨rfl, rfl, rfl⟩ := trodAll_nil r1
  obtain rfl : args = #[v0, v1] := by cases args; simp_all
  obtain ⟨rfl, rfl⟩ := trodVars_none hV
  have k0 := h0
  have lt0 : ∀ x ∈ p0, x.block < W.heap.size := by obtain ⟨m, hm⟩ := k0; exact DataW.trod_lt m _ _ _ hm
  obtain ⟨xk0, xt0, xm0, xo0, xl0, sa0, len0, cap0, bs0, rfl, ok0, hr0⟩ := act_in (hval 0 36 v0 rfl rfl) h0
  have k1 := h1
  have lt1 : ∀ x ∈ p1, x.block < W.heap.size := by obtain ⟨m, hm⟩ := k1; exact DataW.trod_lt m _ _ _ hm
  obtain ⟨xk1, xt1, xm1, xo1, xl1, sa1, len1, cap1, bs1, rfl, ok1, hr1⟩ := act_in (hval 1 36 v1 rfl rfl) h1
  clear hA0 hval0
  refine (walk xk0 xt0 xm0 xo0 xl0 sa0 len0 cap0 bs0 xk1 xt1 xm1 xo1 xl1 sa1 len1 cap1 bs1 W ok0.2.2 ok1.2.2 hr0 hr1).mono fun e W' ⟨he, bel⟩ => ?_
  subst he
  exact ⟨_, rfl, _, _, _, [], _, [], hW', trodAll_mk1 (shut_bool Try.underlying4 _), (trodAll_cons_mk (Below.trod laidOut (by kernel_rfl) (of_decide_eq_true (by kernel_rfl)) k0 bel lt0) (trodAll_cons_mk (Below.trod laidOut (by kernel_rfl) (of_decide_eq_true (by kernel_rfl)) k1 bel lt1) trodAll_mk0)), rfl, bel.frame _, fun h => by cases h⟩

end dataKeeps

/-- DataKeeps: what was written is read, all other bytes of the area are as they were, and what is refused changes nothing; the law returns true. -/
theorem dataKeeps_holds : Rows.DataKeepsSaid :=
  OpenClaim.holds_of_wide 4 Try.f4 rfl rfl rfl rfl rfl rfl rfl ⟨rfl, rfl, rfl, rfl, rfl⟩ rfl rfl rfl rfl rfl (by kernel_rfl) Try.func4 (by kernel_rfl)
    (of_decide_eq_true (by kernel_rfl)) (by unfold Func.isWrapper; first | (rw [if_pos (by decide +kernel)]; kernel_rfl) | (rw [if_neg (by decide +kernel)]; exact ⟨rfl, rfl⟩))
    (fun os started H enc _ => dataKeeps.lifted os started H enc)
#print axioms dataKeeps_holds
end Go.Proofs.Ytgddpfcnngglaaa
