/-
  CopyingAlike: what one disk gives, and the other one puts, is alike on both, and a crash within leaves the extent out of sync, unless it is alike; the law returns true.
  Conditions: none beyond the row's own; each argument reads behind the call as it read before it.
-/
import Derived.Test.YtcmfejgimnjbgaaGreatRows
import Derived.Test.YtcmfejgimnjbgaaGreatCpJ
import Derived.Test.YtcmfejgimnjbgaaGreatPkR
import Derived.WalkKit
import Derived.ProofKit
import Derived.OpenShut
import Derived.ShutString
import Derived.ChangeOld
import Derived.Below
import Derived.Lib.SmallJoins
namespace Go.Proofs.YtcmfejgimnjbgaaGreat
open Math
namespace copyingAlike
open Go.ChangeShapes Go.WideShapes Go.ChangeAt Go.RowKit
set_option linter.unusedVariables false

theorem own : ownKnob Tryz.prog.godebug = none := by kernel_rfl
theorem laidOut : laidOutB Tryz.prog = true := by kernel_rfl

theorem walk (ab : Option Addr) (lb cb : Nat) (bs : List Nat) (ac : Option Addr) (lc cc : Nat) (cs : List Nat) (e k m : Int) (w : World) (hlb : lb ≤ 9223372036854775807) (hlc : lc ≤ 9223372036854775807)
    (hb : Pack.ByteRow 0 w.heap.size w (.slice ab lb cb) bs) (hc : Pack.ByteRow 0 w.heap.size w (.slice ac lc cc) cs) (hm : 0 ≤ m ∧ m < 18446744073709551616) :
    Calls Tryz.prog 4 #[.slice ab lb cb, .slice ac lc cc, .agg #[.int .i64 e, .int .i64 k, .int .u64 m]] w fun x w' => x = .returned (.bool true) ∧ Below w.heap.size w w' := by
  obtain ⟨M, rfl⟩ : ∃ M : Nat, m = M := ⟨m.toNat, by omega⟩
  by_cases h : lb = 64 ∧ lc = 64 ∧ 0 ≤ e ∧ e ≤ 3 ∧ 0 ≤ k ∧ k ≤ 10
  · obtain ⟨rfl, rfl, h0, h1, h2, h3⟩ := h
    obtain ⟨E, rfl⟩ : ∃ E : Nat, e = E := ⟨e.toNat, by omega⟩
    obtain ⟨K, rfl⟩ : ∃ K : Nat, k = K := ⟨k.toNat, by omega⟩
    exact (Copying.alike_play ab cb bs ac cc cs E K M w (Copying.of_pack hb) (Copying.of_pack hc) (by omega) (by omega) (by omega)).mono fun e w' ⟨he, hk⟩ => ⟨he, hk.below (Nat.le_refl _) (by simp)⟩
  · exact (Copying.alike_early ab lb cb ac lc cc e k M w hlb hlc h).mono fun e w' ⟨he, hk⟩ => ⟨he, hk.below (Nat.le_refl _) (by simp)⟩

set_option maxRecDepth 100000 in
theorem lifted (os : Os) (started : os.Started) (H : Type) (enc : TypeId × Value → H) :
    ReturnsInHanded {} Tryz.checked os 4 .any (Rows.copyingAlikeSpec.pre6 enc Tryz.prog Tryz.f4 Rows.copyingAlikeRow.domain false) (Rows.copyingAlikeSpec.post enc Tryz.prog Tryz.f4 false true false false) := by
  refine returnsInHanded_of_change (C := Tryz.checked) own started (by kernel_rfl) Tryz.func4
    (ChangeSpec.witness6 (enc := enc) (C := Tryz.checked) false ⟨#[], #[.slice none 0 0, .slice none 0 0, .agg #[.int .i64 0, .int .i64 0, .int .u64 0]], []⟩ 8 (by kernel_rfl) (by kernel_rfl) (by kernel_rfl) (by kernel_rfl)) ?_
  intro W base args ds gs before hval0 hW hcnd _
  have hval : ∀ (j : Nat) t v, Tryz.f4.params[j]? = some t → args[j]? = some v → Value.okWide Tryz.prog W .any base t v := hval0
  have hW' := hW
  obtain ⟨p, q, hA0, hV, rfl, hfz, hnd⟩ := hW
  have hA : DataW.TrodAll enc Tryz.prog W 0 (fun _ => true) true Tryz.f4.params.toList args.toList ds p := hA0
  rw [Tryz.params4] at hA hval
  obtain ⟨v0, vs0, d0, ds0, p0, q0, hargs, rfl, rfl, h0, r0⟩ := trodAll_cons hA
  obtain ⟨v1, vs1, d1, ds1, p1, q1, rfl, rfl, rfl, h1, r1⟩ := trodAll_cons r0
  obtain ⟨v2, vs2, d2, ds2, p2, q2, rfl, rfl, rfl, h2, r2⟩ := trodAll_cons r1
  obtain ⟨rfl, rfl, rfl⟩ := trodAll_nil r2
  obtain rfl : args = #[v0, v1, v2] := by cases args; simp_all
  obtain ⟨rfl, rfl⟩ := trodVars_none hV
  have k0 := h0
  have lt0 : ∀ x ∈ p0, x.block < W.heap.size := by obtain ⟨m, hm⟩ := k0; exact DataW.trod_lt m _ _ _ hm
  obtain ⟨a0, len0, cap0, rfl⟩ := okWide_slice Tryz.underlying32 (hval 0 32 v0 rfl rfl)
  obtain ⟨hlen0, bs0, hbs0⟩ := Pack.bytes_in h0
  have k1 := h1
  have lt1 : ∀ x ∈ p1, x.block < W.heap.size := by obtain ⟨m, hm⟩ := k1; exact DataW.trod_lt m _ _ _ hm
  obtain ⟨a1, len1, cap1, rfl⟩ := okWide_slice Tryz.underlying32 (hval 1 32 v1 rfl rfl)
  obtain ⟨hlen1, bs1, hbs1⟩ := Pack.bytes_in h1
  have k2 := h2
  have lt2 : ∀ x ∈ p2, x.block < W.heap.size := by obtain ⟨m, hm⟩ := k2; exact DataW.trod_lt m _ _ _ hm
  obtain ⟨c20, c21, c22, y20, y21, y22, m2, rfl, -, -, t20, t21, t22⟩ := Go.Joins.open_agg3 Tryz.underlying62 (by kernel_rfl) (by kernel_rfl) (hval 2 62 v2 rfl rfl) h2
  obtain ⟨n20, e20, -, w20⟩ := DataW.trod_int Tryz.underlying3 t20
  obtain rfl : c20 = .int .i64 n20 := by simpa using e20
  obtain ⟨n21, e21, -, w21⟩ := DataW.trod_int Tryz.underlying3 t21
  obtain rfl : c21 = .int .i64 n21 := by simpa using e21
  obtain ⟨n22, e22, -, w22⟩ := DataW.trod_int Tryz.underlying31 t22
  obtain rfl : c22 = .int .u64 n22 := by simpa using e22
  clear hA0 hval0
  refine (walk a0 len0 cap0 bs0 a1 len1 cap1 bs1 n20 n21 n22 W hlen0 hlen1 hbs0 hbs1 (by have := bounds_u64 w22; omega)).mono fun e W' ⟨he, bel⟩ => ?_
  subst he
  exact ⟨_, rfl, _, _, _, [], _, [], hW', trodAll_mk1 (shut_bool Tryz.underlying4 _), (trodAll_cons_mk (Below.trod laidOut (by kernel_rfl) (of_decide_eq_true (by kernel_rfl)) k0 bel lt0) (trodAll_cons_mk (Below.trod laidOut (by kernel_rfl) (of_decide_eq_true (by kernel_rfl)) k1 bel lt1) (trodAll_cons_mk (Below.trod laidOut (by kernel_rfl) (of_decide_eq_true (by kernel_rfl)) k2 bel lt2) trodAll_mk0))), rfl, bel.frame _, fun h => by cases h⟩

end copyingAlike

/-- CopyingAlike: what one disk gives, and the other one puts, is alike on both, and a crash within leaves the extent out of sync, unless it is alike; the law returns true. -/
theorem copyingAlike_holds : Rows.CopyingAlikeSaid :=
  OpenClaim.holds_of_wide 4 Tryz.f4 rfl rfl rfl rfl rfl rfl rfl ⟨rfl, rfl, rfl, rfl, rfl⟩ rfl rfl rfl rfl rfl (by kernel_rfl) Tryz.func4 (by kernel_rfl)
    (of_decide_eq_true (by kernel_rfl)) (by unfold Func.isWrapper; first | (rw [if_pos (by decide +kernel)]; kernel_rfl) | (rw [if_neg (by decide +kernel)]; exact ⟨rfl, rfl⟩))
    (fun os started H enc _ => copyingAlike.lifted os started H enc)
#print axioms copyingAlike_holds
end Go.Proofs.YtcmfejgimnjbgaaGreat
