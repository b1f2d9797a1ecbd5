/-
  ResyncEnds: two nodes that meet come to an end, both: then all extents that were out of sync are alike, as the one that gives had them, and none is out of sync; the law returns true.
  Conditions: none beyond the row's own; each argument reads behind the call as it read before it.
-/
import Derived.Test.YtfiofdmefgkloaaGreatRows
import Derived.Test.YtfiofdmefgkloaaGreatReY
import Derived.WalkKit
import Derived.ProofKit
import Derived.OpenShut
import Derived.ShutString
import Derived.ChangeOld
import Derived.Below
import Derived.Lib.SmallJoins
namespace Go.Proofs.YtfiofdmefgkloaaGreat
open Math
namespace resyncEnds
open Go.ChangeShapes Go.WideShapes Go.ChangeAt Go.RowKit
set_option linter.unusedVariables false

theorem own : ownKnob Tryz.prog.godebug = none := by kernel_rfl
theorem laidOut : laidOutB Tryz.prog = true := by kernel_rfl

theorem walk (D : Nat) (sa : Option Addr) (la ca : Nat) (wa : Bool) (us : List Nat) (E : Nat) (sb : Option Addr) (lb cb : Nat) (wb : Bool) (bs : List Nat) (w : World) (hla : la ≤ 9223372036854775807) (hlb : lb ≤ 9223372036854775807) (hA : Pack.ByteRow 0 w.heap.size w (.slice sa la ca) us) (hB : Pack.ByteRow 0 w.heap.size w (.slice sb lb cb) bs) :
    Calls Tryz.prog 4 #[.agg #[.int .u64 (D : Int), .slice sa la ca, .bool wa], .agg #[.int .u64 (E : Int), .slice sb lb cb, .bool wb]] w fun e w' => e = .returned (.bool true) ∧ Below w.heap.size w w' := by
  by_cases h : Resync.okB la = true ∧ Resync.okB lb = true
  · obtain ⟨h1, h2⟩ := h
    have h1' : 1 ≤ la ∧ la ≤ 256 ∧ la % 16 = 0 := by simpa [Resync.okB] using h1
    have h2' : 1 ≤ lb ∧ lb ≤ 256 ∧ lb % 16 = 0 := by simpa [Resync.okB] using h2
    exact (Resync.ends_play D E sa la ca wa us sb lb cb wb bs (la / 16) (lb / 16) (by omega) (by omega) (by omega) (by omega) (by omega) (by omega) w hA hB).mono fun e w' ⟨he, hk⟩ => ⟨he, hk.below (Nat.le_refl _) (by simp)⟩
  · refine (Resync.ends_early D E sa la ca wa us sb lb cb wb bs hla hlb w hA hB ?_).mono fun e w' ⟨he, hk⟩ => ⟨he, hk.below (Nat.le_refl _) (by simp)⟩
    cases h1 : Resync.okB la <;> cases h2 : Resync.okB lb <;> simp [h1, h2] at h ⊢

set_option maxRecDepth 100000 in
theorem lifted (os : Os) (started : os.Started) (H : Type) (enc : TypeId × Value → H) :
    ReturnsInHanded {} Tryz.checked os 4 .any (Rows.resyncEndsSpec.pre6 enc Tryz.prog Tryz.f4 Rows.resyncEndsRow.domain false) (Rows.resyncEndsSpec.post enc Tryz.prog Tryz.f4 false true false false) := by
  refine returnsInHanded_of_change (C := Tryz.checked) own started (by kernel_rfl) Tryz.func4
    (ChangeSpec.witness6 (enc := enc) (C := Tryz.checked) false ⟨#[], #[.agg #[.int .u64 0, .slice none 0 0, .bool false], .agg #[.int .u64 0, .slice none 0 0, .bool false]], []⟩ 8 (by kernel_rfl) (by kernel_rfl) (by kernel_rfl) (by kernel_rfl)) ?_
  intro W base args ds gs before hval0 hW hcnd _
  have hval : ∀ (j : Nat) t v, Tryz.f4.params[j]? = some t → args[j]? = some v → Value.okWide Tryz.prog W .any base t v := hval0
  have hW' := hW
  obtain ⟨p, q, hA0, hV, rfl, hfz, hnd⟩ := hW
  have hA : DataW.TrodAll enc Tryz.prog W 0 (fun _ => true) true Tryz.f4.params.toList args.toList ds p := hA0
  rw [Tryz.params4] at hA hval
  obtain ⟨v0, vs0, d0, ds0, p0, q0, hargs, rfl, rfl, h0, r0⟩ := trodAll_cons hA
  obtain ⟨v1, vs1, d1, ds1, p1, q1, rfl, rfl, rfl, h1, r1⟩ := trodAll_cons r0
  obtain ⟨rfl, rfl, rfl⟩ := trodAll_nil r1
  obtain rfl : args = #[v0, v1] := by cases args; simp_all
  obtain ⟨rfl, rfl⟩ := trodVars_none hV
  have k0 := h0
  have lt0 : ∀ x ∈ p0, x.block < W.heap.size := by obtain ⟨m, hm⟩ := k0; exact DataW.trod_lt m _ _ _ hm
  obtain ⟨D0, sa0, len0, cap0, was0, bs0, rfl, hD0, hl0, hb0⟩ := Resync.side_in (hval 0 69 v0 rfl rfl) h0
  have k1 := h1
  have lt1 : ∀ x ∈ p1, x.block < W.heap.size := by obtain ⟨m, hm⟩ := k1; exact DataW.trod_lt m _ _ _ hm
  obtain ⟨D1, sa1, len1, cap1, was1, bs1, rfl, hD1, hl1, hb1⟩ := Resync.side_in (hval 1 69 v1 rfl rfl) h1
  clear hA0 hval0
  refine (walk D0 sa0 len0 cap0 was0 bs0 D1 sa1 len1 cap1 was1 bs1 W hl0 hl1 hb0 hb1).mono fun e W' ⟨he, bel⟩ => ?_
  subst he
  exact ⟨_, rfl, _, _, _, [], _, [], hW', trodAll_mk1 (shut_bool Tryz.underlying4 _), (trodAll_cons_mk (Below.trod laidOut (by kernel_rfl) (of_decide_eq_true (by kernel_rfl)) k0 bel lt0) (trodAll_cons_mk (Below.trod laidOut (by kernel_rfl) (of_decide_eq_true (by kernel_rfl)) k1 bel lt1) trodAll_mk0)), rfl, bel.frame _, fun h => by cases h⟩

end resyncEnds

/-- ResyncEnds: two nodes that meet come to an end, both: then all extents that were out of sync are alike, as the one that gives had them, and none is out of sync; the law returns true. -/
theorem resyncEnds_holds : Rows.ResyncEndsSaid :=
  OpenClaim.holds_of_wide 4 Tryz.f4 rfl rfl rfl rfl rfl rfl rfl ⟨rfl, rfl, rfl, rfl, rfl⟩ rfl rfl rfl rfl rfl (by kernel_rfl) Tryz.func4 (by kernel_rfl)
    (of_decide_eq_true (by kernel_rfl)) (by unfold Func.isWrapper; first | (rw [if_pos (by decide +kernel)]; kernel_rfl) | (rw [if_neg (by decide +kernel)]; exact ⟨rfl, rfl⟩))
    (fun os started H enc _ => resyncEnds.lifted os started H enc)
#print axioms resyncEnds_holds
end Go.Proofs.YtfiofdmefgkloaaGreat
