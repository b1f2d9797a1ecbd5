/-
  NumGets: of any bytes, Get16, Get32 and Get64 of package num tell the document's number and whether there is one, and the law returns true.
  Conditions: none beyond the row's own; each argument reads behind the call as it read before it.
-/
import Derived.Test.YtahfnfpcadjplaaRows
import Derived.Test.YtahfnfpcadjplaaWalksE
import Derived.WalkKit
import Derived.ProofKit
import Derived.OpenShut
import Derived.ShutString
import Derived.ChangeOld
import Derived.Below
namespace Go.Proofs.Ytahfnfpcadjplaa
open Math
namespace numGets
open Go.ChangeShapes Go.WideShapes Go.ChangeAt Go.RowKit
set_option linter.unusedVariables false

theorem own : ownKnob Try.prog.godebug = none := by kernel_rfl
theorem laidOut : laidOutB Try.prog = true := by kernel_rfl

theorem walk (a0 : Option Addr) (len0 cap0 : Nat) (z0 : List Int) (w : World) (w0 : IsRow .u8 w a0 len0 cap0 z0) :
    Calls Try.prog 4 #[.slice a0 len0 cap0] w fun e w' => e = .returned (.bool true) ∧ Below w.heap.size w w' := by
  obtain ⟨hl, bs, rfl, hI⟩ := bytesAt_row w0
  have h2 : getv 2 bs < 65536 := getv_lt hI.1
  have h4 : getv 4 bs < 4294967296 := getv_lt hI.1
  have h8 : getv 8 bs < 18446744073709551616 := getv_lt hI.1
  have q2 := refGet_any _ _ bs 2 w (by omega) hl hI
  have q4 := refGet_any _ _ bs 4 w (by omega) hl hI
  have q8 := refGet_any _ _ bs 8 w (by omega) hl hI
  have r2 := get16_any _ _ bs w hl hI
  have r4 := get32_any _ _ bs w hl hI
  have r8 := get64_any _ _ bs w hl hI
  clear hI w0
  generalize getv 2 bs = v2 at *
  generalize getv 4 bs = v4 at *
  generalize getv 8 bs = v8 at *
  generalize getB 2 bs = t2 at *
  generalize getB 4 bs = t4 at *
  generalize getB 8 bs = t8 at *
  go_enter Try.func4, Try.ntmps4
  go_wp2_with (first
    | (go_at_call 14; refine r2.mono ?_; rintro e w ⟨rfl, rfl⟩)
    | (go_at_call 15; refine r4.mono ?_; rintro e w ⟨rfl, rfl⟩)
    | (go_at_call 16; refine r8.mono ?_; rintro e w ⟨rfl, rfl⟩)
    | (go_at_call 17; refine q2.mono ?_; rintro e w ⟨rfl, rfl⟩; clear q2)
    | (go_at_call 17; refine q4.mono ?_; rintro e w ⟨rfl, rfl⟩; clear q4)
    | (go_at_call 17; refine q8.mono ?_; rintro e w ⟨rfl, rfl⟩; clear q8)
    | (go_at_call 7; refine (lives_any _).mono ?_; rintro e w1 ⟨rfl, hB⟩))
  go_ret
  exact ⟨rfl, hB⟩

set_option maxRecDepth 100000 in
theorem lifted (os : Os) (started : os.Started) (H : Type) (enc : TypeId × Value → H) :
    ReturnsInHanded {} Try.checked os 4 .any (Rows.numGetsSpec.pre6 enc Try.prog Try.f4 Rows.numGetsRow.domain false) (Rows.numGetsSpec.post enc Try.prog Try.f4 false true false false) := by
  refine returnsInHanded_of_change (C := Try.checked) own started (by kernel_rfl) Try.func4
    (ChangeSpec.witness6 (enc := enc) (C := Try.checked) false ⟨#[], #[.slice none 0 0], []⟩ 8 (by kernel_rfl) (by kernel_rfl) (by kernel_rfl) (by kernel_rfl)) ?_
  intro W base args ds gs before hval0 hW hcnd _
  have hval : ∀ (j : Nat) t v, Try.f4.params[j]? = some t → args[j]? = some v → Value.okWide Try.prog W .any base t v := hval0
  have hW' := hW
  obtain ⟨p, q, hA0, hV, rfl, hfz, hnd⟩ := hW
  have hA : DataW.TrodAll enc Try.prog W 0 (fun _ => true) true Try.f4.params.toList args.toList ds p := hA0
  rw [Try.params4] at hA hval
  obtain ⟨v0, vs0, d0, ds0, p0, q0, hargs, rfl, rfl, h0, r0⟩ := trodAll_cons hA
  obtain ⟨rfl, rfl, rfl⟩ := trodAll_nil r0
  obtain rfl : args = #[v0] := by cases args; simp_all
  obtain ⟨rfl, rfl⟩ := trodVars_none hV
  obtain ⟨a0, len0, cap0, rfl⟩ := okWide_slice Try.underlying22 (hval 0 22 v0 rfl rfl)
  have k0 := h0
  have lt0 : ∀ x ∈ p0, x.block < W.heap.size := by obtain ⟨m, hm⟩ := k0; exact DataW.trod_lt m _ _ _ hm
  obtain ⟨z0, w0⟩ : ∃ zs, IsRow .u8 W a0 len0 cap0 zs := by
    obtain ⟨fuel, hf⟩ := h0
    rcases open_ints Try.underlying22 Try.underlying5 (by kernel_rfl) hf with ⟨hcs, _⟩ | ⟨x, l, c, zs, hcs, _, hl, hm, hz, _, hcell, hwz⟩
    · simp [Value.cells] at hcs
      obtain ⟨rfl, rfl, rfl⟩ := hcs
      exact ⟨[], .inl ⟨rfl, rfl, rfl, rfl⟩⟩
    · simp [Value.cells] at hcs
      obtain ⟨rfl, rfl, rfl⟩ := hcs
      exact ⟨zs, .inr ⟨_, rfl, hl, hm, by simpa using hz, hcell, hwz⟩⟩
  clear hA0 hval0
  refine (walk a0 len0 cap0 z0 W w0).mono fun e W' ⟨he, bel⟩ => ?_
  subst he
  exact ⟨_, rfl, _, _, _, [], _, [], hW', trodAll_mk1 (shut_bool Try.underlying4 _), (trodAll_cons_mk (Below.trod laidOut (by kernel_rfl) (of_decide_eq_true (by kernel_rfl)) k0 bel lt0) trodAll_mk0), rfl, bel.frame _, fun h => by cases h⟩

end numGets

/-- NumGets: of any bytes, Get16, Get32 and Get64 of package num tell the document's number and whether there is one, and the law returns true. -/
theorem numGets_holds : Rows.NumGetsSaid :=
  OpenClaim.holds_of_wide 4 Try.f4 rfl rfl rfl rfl rfl rfl rfl ⟨rfl, rfl, rfl, rfl, rfl⟩ rfl rfl rfl rfl rfl (by kernel_rfl) Try.func4 (by kernel_rfl)
    (of_decide_eq_true (by kernel_rfl)) (by unfold Func.isWrapper; first | (rw [if_pos (by decide +kernel)]; kernel_rfl) | (rw [if_neg (by decide +kernel)]; exact ⟨rfl, rfl⟩))
    (fun os started H enc _ => numGets.lifted os started H enc)
#print axioms numGets_holds
end Go.Proofs.Ytahfnfpcadjplaa
