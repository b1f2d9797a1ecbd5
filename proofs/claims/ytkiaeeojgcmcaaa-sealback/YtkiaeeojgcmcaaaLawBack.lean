/-
  SealBack: what was sealed is got and a record is opened, with some bytes within four side by side turned neither is, and a sector of noughts is no record; the law returns true.
  Conditions: none beyond the row's own; each argument reads behind the call as it read before it.
-/
import Derived.Test.YtkiaeeojgcmcaaaRows
import Derived.Test.YtkiaeeojgcmcaaaWalksO
import Derived.WalkKit
import Derived.ProofKit
import Derived.OpenShut
import Derived.ShutString
import Derived.ChangeOld
import Derived.Below
import Derived.Lib.SmallJoins
namespace Go.Proofs.Ytkiaeeojgcmcaaa
open Math
namespace sealBack
open Go.ChangeShapes Go.WideShapes Go.ChangeAt Go.RowKit
set_option linter.unusedVariables false

theorem own : ownKnob Try.prog.godebug = none := by kernel_rfl
theorem laidOut : laidOutB Try.prog = true := by kernel_rfl

theorem walk (a0 : Option Addr) (len0 cap0 : Nat) (z0 : List Int) (n y t b : Int) (w : World) (w0 : IsRow .u8 w a0 len0 cap0 z0) (wn : (Lit.int .u32 n).wf = true) (wy : (Lit.int .u64 y).wf = true) (wt : (Lit.int .i64 t).wf = true) (wb : (Lit.int .u32 b).wf = true) :
    Calls Try.prog 5 #[.slice a0 len0 cap0, .agg #[.int .u32 n, .int .u64 y, .int .i64 t, .int .u32 b]] w fun e w' => e = .returned (.bool true) ∧ Below w.heap.size w w' := by
  obtain ⟨hl, bs, hbs, hI⟩ := bytesAt_row w0
  by_cases h : 2000 < len0
  · exact walkLong a0 len0 cap0 n y t b w h hl
  · have b1 := bounds_u32 wn
    have b2 := bounds_u64 wy
    have b3 := bounds_i64 wt
    have b4 := bounds_u32 wb
    obtain ⟨n', rfl⟩ : ∃ x : Nat, n = x := ⟨n.toNat, by omega⟩
    obtain ⟨y', rfl⟩ : ∃ x : Nat, y = x := ⟨y.toNat, by omega⟩
    obtain ⟨b', rfl⟩ : ∃ x : Nat, b = x := ⟨b.toNat, by omega⟩
    exact walkShort _ bs n' y' t b' w (by omega) (by omega) (by omega) (by omega) (by omega) hI

set_option maxRecDepth 100000 in
theorem lifted (os : Os) (started : os.Started) (H : Type) (enc : TypeId × Value → H) :
    ReturnsInHanded {} Try.checked os 5 .any (Rows.sealBackSpec.pre6 enc Try.prog Try.f5 Rows.sealBackRow.domain false) (Rows.sealBackSpec.post enc Try.prog Try.f5 false true false false) := by
  refine returnsInHanded_of_change (C := Try.checked) own started (by kernel_rfl) Try.func5
    (ChangeSpec.witness6 (enc := enc) (C := Try.checked) false ⟨#[], #[.slice none 0 0, .agg #[.int .u32 0, .int .u64 0, .int .i64 0, .int .u32 0]], []⟩ 8 (by kernel_rfl) (by kernel_rfl) (by kernel_rfl) (by kernel_rfl)) ?_
  intro W base args ds gs before hval0 hW hcnd _
  have hval : ∀ (j : Nat) t v, Try.f5.params[j]? = some t → args[j]? = some v → Value.okWide Try.prog W .any base t v := hval0
  have hW' := hW
  obtain ⟨p, q, hA0, hV, rfl, hfz, hnd⟩ := hW
  have hA : DataW.TrodAll enc Try.prog W 0 (fun _ => true) true Try.f5.params.toList args.toList ds p := hA0
  rw [Try.params5] at hA hval
  obtain ⟨v0, vs0, d0, ds0, p0, q0, hargs, rfl, rfl, h0, r0⟩ := trodAll_cons hA
  obtain ⟨v1, vs1, d1, ds1, p1, q1, rfl, rfl, rfl, h1, r1⟩ := trodAll_cons r0
  obtain ⟨rfl, rfl, rfl⟩ := trodAll_nil r1
  obtain rfl : args = #[v0, v1] := by cases args; simp_all
  obtain ⟨rfl, rfl⟩ := trodVars_none hV
  obtain ⟨a0, len0, cap0, rfl⟩ := okWide_slice Try.underlying22 (hval 0 22 v0 rfl rfl)
  have k0 := h0
  have lt0 : ∀ x ∈ p0, x.block < W.heap.size := by obtain ⟨m, hm⟩ := k0; exact DataW.trod_lt m _ _ _ hm
  obtain ⟨z0, w0⟩ : ∃ zs, IsRow .u8 W a0 len0 cap0 zs := by
    obtain ⟨fuel, hf⟩ := h0
    rcases open_ints Try.underlying22 Try.underlying5 (by kernel_rfl) hf with ⟨hcs, _⟩ | ⟨x, l, c, zs, hcs, _, hl, hm, hz, _, hcell, hwz⟩
    · simp [Value.cells] at hcs
      obtain ⟨rfl, rfl, rfl⟩ := hcs
      exact ⟨[], .inl ⟨rfl, rfl, rfl, rfl⟩⟩
    · simp [Value.cells] at hcs
      obtain ⟨rfl, rfl, rfl⟩ := hcs
      exact ⟨zs, .inr ⟨_, rfl, hl, hm, by simpa using hz, hcell, hwz⟩⟩
  have k1 := h1
  have lt1 : ∀ x ∈ p1, x.block < W.heap.size := by obtain ⟨m, hm⟩ := k1; exact DataW.trod_lt m _ _ _ hm
  obtain ⟨c0, c1, c2, c3, y0, y1, y2, y3, fuel, rfl, e1, e2, t0, t1, t2, t3⟩ := Go.Joins.open_agg4 Try.underlying40 (by kernel_rfl) (by kernel_rfl) (hval 1 40 v1 rfl rfl) h1
  obtain ⟨n, hn, _, wn⟩ := DataW.trod_int Try.underlying23 t0
  obtain ⟨y, hy, _, wy⟩ := DataW.trod_int Try.underlying24 t1
  obtain ⟨t, ht, _, wt⟩ := DataW.trod_int Try.underlying3 t2
  obtain ⟨b, hb, _, wb⟩ := DataW.trod_int Try.underlying23 t3
  obtain rfl : c0 = .int .u32 n := by simpa using hn
  obtain rfl : c1 = .int .u64 y := by simpa using hy
  obtain rfl : c2 = .int .i64 t := by simpa using ht
  obtain rfl : c3 = .int .u32 b := by simpa using hb
  clear hA0 hval0
  refine (walk a0 len0 cap0 z0 n y t b W w0 wn wy wt wb).mono fun e W' ⟨he, bel⟩ => ?_
  subst he
  exact ⟨_, rfl, _, _, _, [], _, [], hW', trodAll_mk1 (shut_bool Try.underlying4 _), (trodAll_cons_mk (Below.trod laidOut (by kernel_rfl) (of_decide_eq_true (by kernel_rfl)) k0 bel lt0) (trodAll_cons_mk (Below.trod laidOut (by kernel_rfl) (of_decide_eq_true (by kernel_rfl)) k1 bel lt1) trodAll_mk0)), rfl, bel.frame _, fun h => by cases h⟩

end sealBack

/-- SealBack: what was sealed is got and a record is opened, with some bytes within four side by side turned neither is, and a sector of noughts is no record; the law returns true. -/
theorem sealBack_holds : Rows.SealBackSaid :=
  OpenClaim.holds_of_wide 5 Try.f5 rfl rfl rfl rfl rfl rfl rfl ⟨rfl, rfl, rfl, rfl, rfl⟩ rfl rfl rfl rfl rfl (by kernel_rfl) Try.func5 (by kernel_rfl)
    (of_decide_eq_true (by kernel_rfl)) (by unfold Func.isWrapper; first | (rw [if_pos (by decide +kernel)]; kernel_rfl) | (rw [if_neg (by decide +kernel)]; exact ⟨rfl, rfl⟩))
    (fun os started H enc _ => sealBack.lifted os started H enc)
#print axioms sealBack_holds
end Go.Proofs.Ytkiaeeojgcmcaaa
