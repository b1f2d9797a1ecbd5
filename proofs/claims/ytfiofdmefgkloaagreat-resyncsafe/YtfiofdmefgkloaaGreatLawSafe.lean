/-
  ResyncSafe: wherever a crash falls within, on either disk, and whatever it spares: an extent that was out of sync, and is not alike, is still known to be; the law returns true.
  Conditions: none beyond the row's own; each argument reads behind the call as it read before it.
-/
import Derived.Test.YtfiofdmefgkloaaGreatRows
import Derived.Test.YtfiofdmefgkloaaGreatReZ
import Derived.WalkKit
import Derived.ProofKit
import Derived.OpenShut
import Derived.ShutString
import Derived.ChangeOld
import Derived.Below
import Derived.Lib.SmallJoins
namespace Go.Proofs.YtfiofdmefgkloaaGreat
open Math
namespace resyncSafe
open Go.ChangeShapes Go.WideShapes Go.ChangeAt Go.RowKit
set_option linter.unusedVariables false

theorem own : ownKnob Tryz.prog.godebug = none := by kernel_rfl
theorem laidOut : laidOutB Tryz.prog = true := by kernel_rfl

theorem walk (D : Nat) (sa : Option Addr) (la ca : Nat) (wa : Bool) (us : List Nat) (E : Nat) (sb : Option Addr) (lb cb : Nat) (wb : Bool) (bs : List Nat) (who k m : Int) (w : World) (hla : la ≤ 9223372036854775807) (hlb : lb ≤ 9223372036854775807) (hA : Pack.ByteRow 0 w.heap.size w (.slice sa la ca) us) (hB : Pack.ByteRow 0 w.heap.size w (.slice sb lb cb) bs) (hm : 0 ≤ m ∧ m < 18446744073709551616) :
    Calls Tryz.prog 5 #[.agg #[.int .u64 (D : Int), .slice sa la ca, .bool wa], .agg #[.int .u64 (E : Int), .slice sb lb cb, .bool wb], .agg #[.int .i64 who, .int .i64 k, .int .u64 m]] w fun e w' => e = .returned (.bool true) ∧ Below w.heap.size w w' := by
  obtain ⟨M, rfl⟩ : ∃ M : Nat, m = M := ⟨m.toNat, by omega⟩
  by_cases h : Resync.okB la = true ∧ Resync.okB lb = true ∧ 0 ≤ k ∧ k ≤ 200
  · obtain ⟨h1, h2, h3, h4⟩ := h
    have h1' : 1 ≤ la ∧ la ≤ 256 ∧ la % 16 = 0 := by simpa [Resync.okB] using h1
    have h2' : 1 ≤ lb ∧ lb ≤ 256 ∧ lb % 16 = 0 := by simpa [Resync.okB] using h2
    exact (Resync.safe_play D E sa la ca wa us sb lb cb wb bs who k M (by omega) (la / 16) (lb / 16) (by omega) (by omega) (by omega) (by omega) (by omega) (by omega) h3 h4 w hA hB).mono fun e w' ⟨he, hk⟩ => ⟨he, hk.below (Nat.le_refl _) (by simp)⟩
  · refine (Resync.safe_early D E sa la ca wa us sb lb cb wb bs who k M hla hlb w hA hB ?_).mono fun e w' ⟨he, hk⟩ => ⟨he, hk.below (Nat.le_refl _) (by simp)⟩
    cases h1 : Resync.okB la <;> cases h2 : Resync.okB lb <;> simp [h1, h2] at h ⊢ <;> omega

set_option maxRecDepth 100000 in
theorem lifted (os : Os) (started : os.Started) (H : Type) (enc : TypeId × Value → H) :
    ReturnsInHanded {} Tryz.checked os 5 .any (Rows.resyncSafeSpec.pre6 enc Tryz.prog Tryz.f5 Rows.resyncSafeRow.domain false) (Rows.resyncSafeSpec.post enc Tryz.prog Tryz.f5 false true false false) := by
  refine returnsInHanded_of_change (C := Tryz.checked) own started (by kernel_rfl) Tryz.func5
    (ChangeSpec.witness6 (enc := enc) (C := Tryz.checked) false ⟨#[], #[.agg #[.int .u64 0, .slice none 0 0, .bool false], .agg #[.int .u64 0, .slice none 0 0, .bool false], .agg #[.int .i64 0, .int .i64 0, .int .u64 0]], []⟩ 8 (by kernel_rfl) (by kernel_rfl) (by kernel_rfl) (by kernel_rfl)) ?_
  intro W base args ds gs before hval0 hW hcnd _
  have hval : ∀ (j : Nat) t v, Tryz.f5.params[j]? = some t → args[j]? = some v → Value.okWide Tryz.prog W .any base t v := hval0
  have hW' := hW
  obtain ⟨p, q, hA0, hV, rfl, hfz, hnd⟩ := hW
  have hA : DataW.TrodAll enc Tryz.prog W 0 (fun _ => true) true Tryz.f5.params.toList args.toList ds p := hA0
  rw [Tryz.params5] at hA hval
  obtain ⟨v0, vs0, d0, ds0, p0, q0, hargs, rfl, rfl, h0, r0⟩ := trodAll_cons hA
  obtain ⟨v1, vs1, d1, ds1, p1, q1, rfl, rfl, rfl, h1, r1⟩ := trodAll_cons r0
  obtain ⟨v2, vs2, d2, ds2, p2, q2, rfl, rfl, rfl, h2, r2⟩ := trodAll_cons r1
  obtain ⟨rfl, rfl, rfl⟩ := trodAll_nil r2
  obtain rfl : args = #[v0, v1, v2] := by cases args; simp_all
  obtain ⟨rfl, rfl⟩ := trodVars_none hV
  have k0 := h0
  have lt0 : ∀ x ∈ p0, x.block < W.heap.size := by obtain ⟨m, hm⟩ := k0; exact DataW.trod_lt m _ _ _ hm
  obtain ⟨D0, sa0, len0, cap0, was0, bs0, rfl, hD0, hl0, hb0⟩ := Resync.side_in (hval 0 69 v0 rfl rfl) h0
  have k1 := h1
  have lt1 : ∀ x ∈ p1, x.block < W.heap.size := by obtain ⟨m, hm⟩ := k1; exact DataW.trod_lt m _ _ _ hm
  obtain ⟨D1, sa1, len1, cap1, was1, bs1, rfl, hD1, hl1, hb1⟩ := Resync.side_in (hval 1 69 v1 rfl rfl) h1
  have k2 := h2
  have lt2 : ∀ x ∈ p2, x.block < W.heap.size := by obtain ⟨m, hm⟩ := k2; exact DataW.trod_lt m _ _ _ hm
  obtain ⟨c20, c21, c22, y20, y21, y22, m2, rfl, -, -, t20, t21, t22⟩ := Go.Joins.open_agg3 Tryz.underlying82 (by kernel_rfl) (by kernel_rfl) (hval 2 82 v2 rfl rfl) h2
  obtain ⟨n20, e20, -, w20⟩ := DataW.trod_int Tryz.underlying3 t20
  obtain rfl : c20 = .int .i64 n20 := by simpa using e20
  obtain ⟨n21, e21, -, w21⟩ := DataW.trod_int Tryz.underlying3 t21
  obtain rfl : c21 = .int .i64 n21 := by simpa using e21
  obtain ⟨n22, e22, -, w22⟩ := DataW.trod_int Tryz.underlying23 t22
  obtain rfl : c22 = .int .u64 n22 := by simpa using e22
  clear hA0 hval0
  refine (walk D0 sa0 len0 cap0 was0 bs0 D1 sa1 len1 cap1 was1 bs1 n20 n21 n22 W hl0 hl1 hb0 hb1 (by have := bounds_u64 w22; omega)).mono fun e W' ⟨he, bel⟩ => ?_
  subst he
  exact ⟨_, rfl, _, _, _, [], _, [], hW', trodAll_mk1 (shut_bool Tryz.underlying4 _), (trodAll_cons_mk (Below.trod laidOut (by kernel_rfl) (of_decide_eq_true (by kernel_rfl)) k0 bel lt0) (trodAll_cons_mk (Below.trod laidOut (by kernel_rfl) (of_decide_eq_true (by kernel_rfl)) k1 bel lt1) (trodAll_cons_mk (Below.trod laidOut (by kernel_rfl) (of_decide_eq_true (by kernel_rfl)) k2 bel lt2) trodAll_mk0))), rfl, bel.frame _, fun h => by cases h⟩

end resyncSafe

/-- ResyncSafe: wherever a crash falls within, on either disk, and whatever it spares: an extent that was out of sync, and is not alike, is still known to be; the law returns true. -/
theorem resyncSafe_holds : Rows.ResyncSafeSaid :=
  OpenClaim.holds_of_wide 5 Tryz.f5 rfl rfl rfl rfl rfl rfl rfl ⟨rfl, rfl, rfl, rfl, rfl⟩ rfl rfl rfl rfl rfl (by kernel_rfl) Tryz.func5 (by kernel_rfl)
    (of_decide_eq_true (by kernel_rfl)) (by unfold Func.isWrapper; first | (rw [if_pos (by decide +kernel)]; kernel_rfl) | (rw [if_neg (by decide +kernel)]; exact ⟨rfl, rfl⟩))
    (fun os started H enc _ => resyncSafe.lifted os started H enc)
#print axioms resyncSafe_holds
end Go.Proofs.YtfiofdmefgkloaaGreat
