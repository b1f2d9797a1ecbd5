/-
  BitsRows: wherever a row begins and however long it is, Row of package bits is the document's, and the law returns true.
  Conditions: none beyond the row's own; each argument reads behind the call as it read before it.
-/
import Derived.Test.YtcgjbobniajpbaaRows
import Derived.Test.YtcgjbobniajpbaaWalksD
import Derived.WalkKit
import Derived.ProofKit
import Derived.OpenShut
import Derived.ChangeOld
import Derived.Below
namespace Go.Proofs.Ytcgjbobniajpbaa
open Go.ChangeShapes Go.WideShapes Go.ChangeAt Go.RowKit
open Math
namespace bitsRows

theorem own : ownKnob Try.prog.godebug = none := by kernel_rfl

theorem walk (a0 a1 : Int) (w0 : (Lit.int .i64 a0).wf = true) (w1 : (Lit.int .i64 a1).wf = true) (w : World) :
    Calls Try.prog 5 #[.int .i64 a0, .int .i64 a1] w fun e w' => e = .returned (.bool true) ∧ Below w.heap.size w w' := by
  have b0 := bounds_i64 w0
  have b1 := bounds_i64 w1
  clear w0 w1
  by_cases hf : a0 < 0 ∨ 63 < a0
  · go_enter Try.func5, Try.ntmps5
    go_wp2_with (first
      | (go_at_call 23; refine (rowOut_any _ _ _ (.inr hf)).mono ?_; rintro e w' ⟨rfl, rfl⟩)
      | (go_at_call 24; refine (refRowOut_any _ _ _ hf).mono ?_; rintro e w' ⟨rfl, rfl⟩)
      | (go_at_call 15; refine (lives_any _).mono ?_; rintro e w' ⟨rfl, hB⟩))
    go_ret
    exact ⟨rfl, hB⟩
  · obtain ⟨f, rfl⟩ : ∃ f : Nat, a0 = f := ⟨a0.toNat, by omega⟩
    have hf' : f < 64 := by omega
    clear b0
    by_cases hn : a1 < 1
    · have e0 : row f (min a1.toNat (64 - f)) = 0 := by
        have : min a1.toNat (64 - f) = 0 := by omega
        rw [this, row_zero]
      have r2 := fun w => refRowIn_any f a1 w hf'
      rw [e0] at r2
      clear e0
      go_enter Try.func5, Try.ntmps5
      go_wp2_with (first
        | (go_at_call 23; refine (rowOut_any _ _ _ (.inl hn)).mono ?_; rintro e w' ⟨rfl, rfl⟩)
        | (go_at_call 24; refine (r2 _).mono ?_; clear r2; rintro e w' ⟨rfl, rfl⟩)
        | (go_at_call 15; refine (lives_any _).mono ?_; rintro e w' ⟨rfl, hB⟩))
      go_ret
      exact ⟨rfl, hB⟩
    · have hn' : 1 ≤ a1 := by omega
      go_enter Try.func5, Try.ntmps5
      go_wp2_with (first
        | (go_at_call 23; refine (rowIn_any _ _ _ hf' hn').mono ?_; rintro e w' ⟨rfl, rfl⟩)
        | (go_at_call 24; refine (refRowIn_any _ _ _ hf').mono ?_; rintro e w' ⟨rfl, rfl⟩)
        | (go_at_call 15; refine (lives_any _).mono ?_; rintro e w' ⟨rfl, hB⟩))
      go_ret
      exact ⟨rfl, hB⟩


set_option maxRecDepth 100000 in
theorem lifted (os : Os) (started : os.Started) (H : Type) (enc : TypeId × Value → H) :
    ReturnsInHanded {} Try.checked os 5 .any (Rows.bitsRowsSpec.pre6 enc Try.prog Try.f5 Rows.bitsRowsRow.domain false) (Rows.bitsRowsSpec.post enc Try.prog Try.f5 false true false false) := by
  refine returnsInHanded_of_change (C := Try.checked) own started (by kernel_rfl) Try.func5
    (ChangeSpec.witness6 (enc := enc) (C := Try.checked) false ⟨#[], #[.int .i64 0, .int .i64 0], []⟩ 8 (by kernel_rfl) (by kernel_rfl) (by kernel_rfl) (by kernel_rfl)) ?_
  intro W base args ds gs before hval0 hW hcnd _
  have hval : ∀ (j : Nat) t v, Try.f5.params[j]? = some t → args[j]? = some v → Value.okWide Try.prog W .any base t v := hval0
  have hW' := hW
  obtain ⟨p, q, hA0, hV, rfl, hfz, hnd⟩ := hW
  have hA : DataW.TrodAll enc Try.prog W 0 (fun _ => true) true Try.f5.params.toList args.toList ds p := hA0
  rw [Try.params5] at hA hval
  obtain ⟨v0, vs0, d0, ds0, p0, q0, hargs, rfl, rfl, h0, r0⟩ := trodAll_cons hA
  obtain ⟨v1, vs1, d1, ds1, p1, q1, rfl, rfl, rfl, h1, r1⟩ := trodAll_cons r0
  obtain ⟨rfl, rfl, rfl⟩ := trodAll_nil r1
  obtain rfl : args = #[v0, v1] := by cases args; simp_all
  obtain ⟨rfl, rfl⟩ := trodVars_none hV
  obtain ⟨a0, rfl, rfl, rfl, w0⟩ := open_int Try.underlying3 (hval 0 3 v0 rfl rfl) h0
  obtain ⟨a1, rfl, rfl, rfl, w1⟩ := open_int Try.underlying3 (hval 1 3 v1 rfl rfl) h1
  clear hA0 hval0
  refine (walk a0 a1 w0 w1 W).mono fun e W' ⟨he, bel⟩ => ?_
  subst he
  exact ⟨_, rfl, _, _, _, [], _, [], hW', trodAll_mk1 (shut_bool Try.underlying4 _), (trodAll_cons_mk (shut_int Try.underlying3 w0) (trodAll_cons_mk (shut_int Try.underlying3 w1) trodAll_mk0)), rfl, bel.frame _, fun h => by cases h⟩

end bitsRows

/-- BitsRows: wherever a row begins and however long it is, Row of package bits is the document's, and the law returns true. -/
theorem bitsRows_holds : Rows.BitsRowsSaid :=
  OpenClaim.holds_of_wide 5 Try.f5 rfl rfl rfl rfl rfl rfl rfl ⟨rfl, rfl, rfl, rfl, rfl⟩ rfl rfl rfl rfl rfl (by kernel_rfl) Try.func5 (by kernel_rfl)
    (of_decide_eq_true (by kernel_rfl)) (by unfold Func.isWrapper; first | (rw [if_pos (by decide +kernel)]; kernel_rfl) | (rw [if_neg (by decide +kernel)]; exact ⟨rfl, rfl⟩))
    (fun os started H enc _ => bitsRows.lifted os started H enc)
#print axioms bitsRows_holds
end Go.Proofs.Ytcgjbobniajpbaa
