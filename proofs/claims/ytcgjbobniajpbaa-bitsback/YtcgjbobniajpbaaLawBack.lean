/-
  BitsBack: every set comes back from its list, and two sets' counts together are those of their union and their common part; the law returns true.
  Conditions: none beyond the row's own; each argument reads behind the call as it read before it.
-/
import Derived.Test.YtcgjbobniajpbaaRows
import Derived.Test.YtcgjbobniajpbaaWalksD
import Derived.WalkKit
import Derived.ProofKit
import Derived.OpenShut
import Derived.ChangeOld
import Derived.Below
namespace Go.Proofs.Ytcgjbobniajpbaa
open Go.ChangeShapes Go.WideShapes Go.ChangeAt Go.RowKit
open Math
namespace bitsBack

theorem own : ownKnob Try.prog.godebug = none := by kernel_rfl

set_option maxHeartbeats 1000000 in
theorem walk (a0 a1 : Int) (w0 : (Lit.int .u64 a0).wf = true) (w1 : (Lit.int .u64 a1).wf = true) (w : World) :
    Calls Try.prog 6 #[.int .u64 a0, .int .u64 a1] w fun e w' => e = .returned (.bool true) ∧ Below w.heap.size w w' := by
  have b0 := bounds_u64 w0
  have b1 := bounds_u64 w1
  clear w0 w1
  obtain ⟨s, rfl⟩ : ∃ s : Nat, a0 = s := ⟨a0.toNat, by omega⟩
  obtain ⟨t, rfl⟩ : ∃ t : Nat, a1 = t := ⟨a1.toNat, by omega⟩
  have hs : s < 18446744073709551616 := by omega
  have ht : t < 18446744073709551616 := by omega
  clear b0 b1
  have eo := u64_or_nat s t hs ht
  have ea := u64_and_nat s t hs ht
  have ho : s ||| t < 18446744073709551616 := Nat.or_lt_two_pow (n := 64) hs ht
  have ha : s &&& t < 18446744073709551616 := Nat.lt_of_le_of_lt Nat.and_le_left hs
  have p1 := pop_le s
  have p2 := pop_le t
  have p3 := pop_le (s ||| t)
  have p4 := pop_le (s &&& t)
  have hsum : ((pop (s ||| t) : Int) + (pop (s &&& t) : Int)) = (pop s : Int) + (pop t : Int) := by
    have := pop_or_and s t
    omega
  have l2 : ∀ (base : Nat) (v : Value) (w : World), w.ownsRow base 3 1 v (elems s).length ((elems s).map enc) → Calls Try.prog 21 #[v] w fun e w' => e = .returned (.int .u64 s) ∧ Below w.heap.size w w' := fun base v w h => by
    have hl : (elems s).length ≤ 64 := by rw [← pop_elems]; exact p1
    have := of_any v _ w (by simp; omega) (intsAt_of_owns h)
    rwa [ofL_elems s hs] at this
  have hB : Below w.heap.size w w := Below.refl _ _
  have q1 := fun w => count_any (s ||| t) w ho
  have q2 := fun w => count_any (s &&& t) w ha
  have q3 := fun w => count_any s w hs
  have q4 := fun w => count_any t w ht
  go_enter Try.func6, Try.ntmps6
  go_wp2_with (first
    | (go_at_call 20; refine (list_any _ _ hs).mono ?_; rintro e w' ⟨v, rfl, hr, hB'⟩; replace hB := hB.trans (hB'.mono hB.size); clear hB')
    | (go_at_call 21; refine (l2 _ _ _ hr).mono ?_; clear hr l2; rintro e w' ⟨rfl, hB'⟩; replace hB := hB.trans (hB'.mono hB.size); clear hB')
    | (go_at_call 18; refine (q1 _).mono ?_; clear q1; rintro e w' ⟨rfl, hB'⟩; replace hB := hB.trans (hB'.mono hB.size); clear hB')
    | (go_at_call 18; refine (q2 _).mono ?_; clear q2; rintro e w' ⟨rfl, hB'⟩; replace hB := hB.trans (hB'.mono hB.size); clear hB')
    | (go_at_call 18; refine (q3 _).mono ?_; clear q3; rintro e w' ⟨rfl, hB'⟩; replace hB := hB.trans (hB'.mono hB.size); clear hB')
    | (go_at_call 18; refine (q4 _).mono ?_; clear q4; rintro e w' ⟨rfl, hB'⟩; replace hB := hB.trans (hB'.mono hB.size); clear hB')
    | (go_at_call 15; refine (lives_any _).mono ?_; rintro e w' ⟨rfl, hB'⟩; replace hB := hB.trans (hB'.mono hB.size); clear hB'))
  go_ret
  exact ⟨rfl, hB⟩


set_option maxRecDepth 100000 in
theorem lifted (os : Os) (started : os.Started) (H : Type) (enc : TypeId × Value → H) :
    ReturnsInHanded {} Try.checked os 6 .any (Rows.bitsBackSpec.pre6 enc Try.prog Try.f6 Rows.bitsBackRow.domain false) (Rows.bitsBackSpec.post enc Try.prog Try.f6 false true false false) := by
  refine returnsInHanded_of_change (C := Try.checked) own started (by kernel_rfl) Try.func6
    (ChangeSpec.witness6 (enc := enc) (C := Try.checked) false ⟨#[], #[.int .u64 0, .int .u64 0], []⟩ 8 (by kernel_rfl) (by kernel_rfl) (by kernel_rfl) (by kernel_rfl)) ?_
  intro W base args ds gs before hval0 hW hcnd _
  have hval : ∀ (j : Nat) t v, Try.f6.params[j]? = some t → args[j]? = some v → Value.okWide Try.prog W .any base t v := hval0
  have hW' := hW
  obtain ⟨p, q, hA0, hV, rfl, hfz, hnd⟩ := hW
  have hA : DataW.TrodAll enc Try.prog W 0 (fun _ => true) true Try.f6.params.toList args.toList ds p := hA0
  rw [Try.params6] at hA hval
  obtain ⟨v0, vs0, d0, ds0, p0, q0, hargs, rfl, rfl, h0, r0⟩ := trodAll_cons hA
  obtain ⟨v1, vs1, d1, ds1, p1, q1, rfl, rfl, rfl, h1, r1⟩ := trodAll_cons r0
  obtain ⟨rfl, rfl, rfl⟩ := trodAll_nil r1
  obtain rfl : args = #[v0, v1] := by cases args; simp_all
  obtain ⟨rfl, rfl⟩ := trodVars_none hV
  obtain ⟨a0, rfl, rfl, rfl, w0⟩ := open_int Try.underlying22 (hval 0 22 v0 rfl rfl) h0
  obtain ⟨a1, rfl, rfl, rfl, w1⟩ := open_int Try.underlying22 (hval 1 22 v1 rfl rfl) h1
  clear hA0 hval0
  refine (walk a0 a1 w0 w1 W).mono fun e W' ⟨he, bel⟩ => ?_
  subst he
  exact ⟨_, rfl, _, _, _, [], _, [], hW', trodAll_mk1 (shut_bool Try.underlying4 _), (trodAll_cons_mk (shut_int Try.underlying22 w0) (trodAll_cons_mk (shut_int Try.underlying22 w1) trodAll_mk0)), rfl, bel.frame _, fun h => by cases h⟩

end bitsBack

/-- BitsBack: every set comes back from its list, and two sets' counts together are those of their union and their common part; the law returns true. -/
theorem bitsBack_holds : Rows.BitsBackSaid :=
  OpenClaim.holds_of_wide 6 Try.f6 rfl rfl rfl rfl rfl rfl rfl ⟨rfl, rfl, rfl, rfl, rfl⟩ rfl rfl rfl rfl rfl (by kernel_rfl) Try.func6 (by kernel_rfl)
    (of_decide_eq_true (by kernel_rfl)) (by unfold Func.isWrapper; first | (rw [if_pos (by decide +kernel)]; kernel_rfl) | (rw [if_neg (by decide +kernel)]; exact ⟨rfl, rfl⟩))
    (fun os started H enc _ => bitsBack.lifted os started H enc)
#print axioms bitsBack_holds
end Go.Proofs.Ytcgjbobniajpbaa
