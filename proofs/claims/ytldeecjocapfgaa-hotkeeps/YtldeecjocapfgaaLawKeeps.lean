/-
  HotKeeps: behind a use all that was needed, and all of the set that was busy, is there, there are at most so many as there may be, and what was not needed is not new; one that does not fit changes nothing; the law returns true.
  Conditions: none beyond the row's own; each argument reads behind the call as it read before it.
-/
import Derived.Test.YtldeecjocapfgaaRows
import Derived.Test.YtldeecjocapfgaaHotH
import Derived.WalkKit
import Derived.ProofKit
import Derived.OpenShut
import Derived.ShutString
import Derived.ChangeOld
import Derived.Below
import Derived.Lib.SmallJoins
namespace Go.Proofs.Ytldeecjocapfgaa
namespace hotKeeps
open Go.ChangeShapes Go.WideShapes Go.ChangeAt Go.RowKit
set_option linter.unusedVariables false

theorem own : ownKnob Try.prog.godebug = none := by kernel_rfl
theorem laidOut : laidOutB Try.prog = true := by kernel_rfl

theorem walk (most m n b : Int) (hm : 0 ≤ m ∧ m ≤ 18446744073709551615) (hn : 0 ≤ n ∧ n ≤ 18446744073709551615) (hb : 0 ≤ b ∧ b ≤ 18446744073709551615) (w : World) :
    Calls Try.prog 4 #[.int .i64 most, .agg #[.int .u64 m, .int .u64 n, .int .u64 b]] w fun e w' => e = .returned (.bool true) ∧ Below w.heap.size w w' := by
  by_cases h : most < 1 ∨ 16 < most
  · exact Hot.keeps_none most m n b w h
  · obtain ⟨s, rfl⟩ : ∃ s : Nat, most = s := ⟨most.toNat, by omega⟩
    obtain ⟨m, rfl⟩ : ∃ s : Nat, m = s := ⟨m.toNat, by omega⟩
    obtain ⟨n, rfl⟩ : ∃ s : Nat, n = s := ⟨n.toNat, by omega⟩
    obtain ⟨b, rfl⟩ : ∃ s : Nat, b = s := ⟨b.toNat, by omega⟩
    cases hf : Hot.fits s n b (Bits.Math.elems m) with
    | false => exact Hot.keeps_bad s m n b (by omega) (by omega) (by omega) (by omega) (by omega) hf w
    | true => exact Hot.keeps_ok s m n b (by omega) (by omega) (by omega) (by omega) (by omega) hf w

set_option maxRecDepth 100000 in
theorem lifted (os : Os) (started : os.Started) (H : Type) (enc : TypeId × Value → H) :
    ReturnsInHanded {} Try.checked os 4 .any (Rows.hotKeepsSpec.pre6 enc Try.prog Try.f4 Rows.hotKeepsRow.domain false) (Rows.hotKeepsSpec.post enc Try.prog Try.f4 false true false false) := by
  refine returnsInHanded_of_change (C := Try.checked) own started (by kernel_rfl) Try.func4
    (ChangeSpec.witness6 (enc := enc) (C := Try.checked) false ⟨#[], #[.int .i64 0, .agg #[.int .u64 0, .int .u64 0, .int .u64 0]], []⟩ 8 (by kernel_rfl) (by kernel_rfl) (by kernel_rfl) (by kernel_rfl)) ?_
  intro W base args ds gs before hval0 hW hcnd _
  have hval : ∀ (j : Nat) t v, Try.f4.params[j]? = some t → args[j]? = some v → Value.okWide Try.prog W .any base t v := hval0
  have hW' := hW
  obtain ⟨p, q, hA0, hV, rfl, hfz, hnd⟩ := hW
  have hA : DataW.TrodAll enc Try.prog W 0 (fun _ => true) true Try.f4.params.toList args.toList ds p := hA0
  rw [Try.params4] at hA hval
  obtain ⟨v0, vs0, d0, ds0, p0, q0, hargs, rfl, rfl, h0, r0⟩ := trodAll_cons hA
  obtain ⟨v1, vs1, d1, ds1, p1, q1, rfl, rfl, rfl, h1, r1⟩ := trodAll_cons r0
  obtain ⟨rfl, rfl, rfl⟩ := trodAll_nil r1
  obtain rfl : args = #[v0, v1] := by cases args; simp_all
  obtain ⟨rfl, rfl⟩ := trodVars_none hV
  obtain ⟨a0, rfl, rfl, rfl, w0⟩ := open_int Try.underlying3 (hval 0 3 v0 rfl rfl) h0
  have k1 := h1
  have lt1 : ∀ x ∈ p1, x.block < W.heap.size := by obtain ⟨m, hm⟩ := k1; exact DataW.trod_lt m _ _ _ hm
  obtain ⟨c10, c11, c12, y10, y11, y12, m1, rfl, -, -, t10, t11, t12⟩ := Go.Joins.open_agg3 Try.underlying46 (by kernel_rfl) (by kernel_rfl) (hval 1 46 v1 rfl rfl) h1
  obtain ⟨n10, e10, -, w10⟩ := DataW.trod_int Try.underlying31 t10
  obtain rfl : c10 = .int .u64 n10 := by simpa using e10
  obtain ⟨n11, e11, -, w11⟩ := DataW.trod_int Try.underlying31 t11
  obtain rfl : c11 = .int .u64 n11 := by simpa using e11
  obtain ⟨n12, e12, -, w12⟩ := DataW.trod_int Try.underlying31 t12
  obtain rfl : c12 = .int .u64 n12 := by simpa using e12
  clear hA0 hval0
  have b0 := bounds_u64 w10
  have b1 := bounds_u64 w11
  have b2 := bounds_u64 w12
  refine (walk a0 n10 n11 n12 ⟨by omega, by omega⟩ ⟨by omega, by omega⟩ ⟨by omega, by omega⟩ W).mono fun e W' ⟨he, bel⟩ => ?_
  subst he
  exact ⟨_, rfl, _, _, _, [], _, [], hW', trodAll_mk1 (shut_bool Try.underlying4 _), (trodAll_cons_mk (shut_int Try.underlying3 w0) (trodAll_cons_mk (Below.trod laidOut (by kernel_rfl) (of_decide_eq_true (by kernel_rfl)) k1 bel lt1) trodAll_mk0)), rfl, bel.frame _, fun h => by cases h⟩

end hotKeeps

/-- HotKeeps: behind a use all that was needed, and all of the set that was busy, is there, there are at most so many as there may be, and what was not needed is not new; one that does not fit changes nothing; the law returns true. -/
theorem hotKeeps_holds : Rows.HotKeepsSaid :=
  OpenClaim.holds_of_wide 4 Try.f4 rfl rfl rfl rfl rfl rfl rfl ⟨rfl, rfl, rfl, rfl, rfl⟩ rfl rfl rfl rfl rfl (by kernel_rfl) Try.func4 (by kernel_rfl)
    (of_decide_eq_true (by kernel_rfl)) (by unfold Func.isWrapper; first | (rw [if_pos (by decide +kernel)]; kernel_rfl) | (rw [if_neg (by decide +kernel)]; exact ⟨rfl, rfl⟩))
    (fun os started H enc _ => hotKeeps.lifted os started H enc)
#print axioms hotKeeps_holds
end Go.Proofs.Ytldeecjocapfgaa
