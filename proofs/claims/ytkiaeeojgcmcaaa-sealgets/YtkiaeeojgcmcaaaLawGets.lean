/-
  SealGets: of any bytes Get of package seal tells, and of any sector Open tells, what the document tells; the law returns true.
  Conditions: none beyond the row's own; each argument reads behind the call as it read before it.
-/
import Derived.Test.YtkiaeeojgcmcaaaRows
import Derived.Test.YtkiaeeojgcmcaaaWalksM
import Derived.WalkKit
import Derived.ProofKit
import Derived.OpenShut
import Derived.ShutString
import Derived.ChangeOld
import Derived.Below
import Derived.Lib.SmallJoins
namespace Go.Proofs.Ytkiaeeojgcmcaaa
open Math
namespace sealGets
open Go.ChangeShapes Go.WideShapes Go.ChangeAt Go.RowKit
set_option linter.unusedVariables false

theorem own : ownKnob Try.prog.godebug = none := by kernel_rfl
theorem laidOut : laidOutB Try.prog = true := by kernel_rfl

/-- An array that came in by value. -/
theorem okWide_arr {P : Program} {w : World} {r : Reach} {base n : Nat} {e t : TypeId} {v : Value} (ht : P.underlying t = some (.array n e)) (h : Value.okWide P w r base t v) : ∃ cs, v = .agg cs ∧ cs.size = P.cellsOf t := by
  simp only [Value.okWide, ht] at h
  obtain ⟨cs, h1, h2, _⟩ := h
  exact ⟨cs, h1, h2⟩
/-- Cells that are bytes. -/
theorem bytes_of_cells : ∀ (cs : List Value), (∀ v ∈ cs, ∃ n : Nat, v = Ytkiaeeojgcmcaaa.enc n ∧ n < 256) → ∃ s : List Nat, cs = s.map Ytkiaeeojgcmcaaa.enc ∧ ∀ c ∈ s, c < 256
  | [], _ => ⟨[], rfl, by simp⟩
  | v :: cs, h => by
    obtain ⟨n, hv, hn⟩ := h v (by simp)
    obtain ⟨s, hs, hb⟩ := bytes_of_cells cs (fun u hu => h u (by simp [hu]))
    refine ⟨n :: s, by rw [List.map_cons, ← hs, ← hv], fun c hc => ?_⟩
    rcases List.mem_cons.1 hc with rfl | h1
    · exact hn
    · exact hb c h1
/-- A sector that came in. -/
theorem sector_in {H : Type} {enc : TypeId × Value → H} {W : World} {r : Reach} {b0 base : Nat} {spare : Nat → Bool} {held : Bool} {v : Value} {d : DataW H} {p : List MemPlace} (hv : Value.okWide Try.prog W r b0 28 v) (h : DataW.Trod enc Try.prog W base spare held 28 v d p) :
    ∃ s : List Nat, v = .agg (s.map Ytkiaeeojgcmcaaa.enc).toArray ∧ s.length = 16 ∧ ∀ c ∈ s, c < 256 := by
  obtain ⟨cs, rfl, hsz⟩ := okWide_arr Try.underlying28 hv
  obtain ⟨fuel, hf⟩ := h
  obtain ⟨xs, m, -, -, -, hxl, hx⟩ := DataW.trod_array Try.underlying28 hf
  have h16 : cs.size = 16 := hsz
  have e5 : Try.prog.cellsOf 5 = 1 := by kernel_rfl
  obtain ⟨s, hs, hb⟩ := bytes_of_cells cs.toList (fun u hu => by
    obtain ⟨i, hi, rfl⟩ := List.mem_iff_getElem.1 hu
    have hi' : i < 16 := by simpa [h16] using hi
    have ht := hx i hi'
    rw [List.getElem?_eq_getElem (by omega)] at ht
    obtain ⟨n, hn, -, wn⟩ := DataW.trod_int Try.underlying5 ht
    have hb := byte_of wn
    refine ⟨n.toNat, ?_, by omega⟩
    have hd : (cs.toList.drop i).take 1 = [cs.toList[i]] := by
      rw [List.drop_eq_getElem_cons hi]
      rfl
    rw [e5, Nat.mul_one] at hn
    have hn2 : (cs.toList.drop i).take 1 = [.int .u8 n] := by simpa [Value.cells] using hn
    rw [hd] at hn2
    injection hn2 with hn3
    rw [hn3, Ytkiaeeojgcmcaaa.enc]
    congr 1
    omega)
  refine ⟨s, ?_, ?_, hb⟩
  · rw [← hs]
  · have := congrArg List.length hs
    simpa [h16] using this.symm

theorem walk (a0 : Option Addr) (len0 cap0 : Nat) (z0 : List Int) (s : List Nat) (w : World) (w0 : IsRow .u8 w a0 len0 cap0 z0) (hs : s.length = 16) (hb : ∀ c ∈ s, c < 256) :
    Calls Try.prog 4 #[.slice a0 len0 cap0, .agg (s.map Ytkiaeeojgcmcaaa.enc).toArray] w fun e w' => e = .returned (.bool true) ∧ Below w.heap.size w w' := by
  obtain ⟨hl, bs, hbs, hI⟩ := bytesAt_row w0
  by_cases h : 2000 < len0
  · exact walkLong a0 len0 cap0 _ w h hl (by simpa using hs)
  · exact walkShort _ bs s w (by omega) hs hb hI

set_option maxRecDepth 100000 in
theorem lifted (os : Os) (started : os.Started) (H : Type) (enc : TypeId × Value → H) :
    ReturnsInHanded {} Try.checked os 4 .any (Rows.sealGetsSpec.pre6 enc Try.prog Try.f4 Rows.sealGetsRow.domain false) (Rows.sealGetsSpec.post enc Try.prog Try.f4 false true false false) := by
  refine returnsInHanded_of_change (C := Try.checked) own started (by kernel_rfl) Try.func4
    (ChangeSpec.witness6 (enc := enc) (C := Try.checked) false ⟨#[], #[.slice none 0 0, .agg #[.int .u8 0, .int .u8 0, .int .u8 0, .int .u8 0, .int .u8 0, .int .u8 0, .int .u8 0, .int .u8 0, .int .u8 0, .int .u8 0, .int .u8 0, .int .u8 0, .int .u8 0, .int .u8 0, .int .u8 0, .int .u8 0]], []⟩ 8 (by kernel_rfl) (by kernel_rfl) (by kernel_rfl) (by kernel_rfl)) ?_
  intro W base args ds gs before hval0 hW hcnd _
  have hval : ∀ (j : Nat) t v, Try.f4.params[j]? = some t → args[j]? = some v → Value.okWide Try.prog W .any base t v := hval0
  have hW' := hW
  obtain ⟨p, q, hA0, hV, rfl, hfz, hnd⟩ := hW
  have hA : DataW.TrodAll enc Try.prog W 0 (fun _ => true) true Try.f4.params.toList args.toList ds p := hA0
  rw [Try.params4] at hA hval
  obtain ⟨v0, vs0, d0, ds0, p0, q0, hargs, rfl, rfl, h0, r0⟩ := trodAll_cons hA
  obtain ⟨v1, vs1, d1, ds1, p1, q1, rfl, rfl, rfl, h1, r1⟩ := trodAll_cons r0
  obtain ⟨rfl, rfl, rfl⟩ := trodAll_nil r1
  obtain rfl : args = #[v0, v1] := by cases args; simp_all
  obtain ⟨rfl, rfl⟩ := trodVars_none hV
  obtain ⟨a0, len0, cap0, rfl⟩ := okWide_slice Try.underlying22 (hval 0 22 v0 rfl rfl)
  have k0 := h0
  have lt0 : ∀ x ∈ p0, x.block < W.heap.size := by obtain ⟨m, hm⟩ := k0; exact DataW.trod_lt m _ _ _ hm
  obtain ⟨z0, w0⟩ : ∃ zs, IsRow .u8 W a0 len0 cap0 zs := by
    obtain ⟨fuel, hf⟩ := h0
    rcases open_ints Try.underlying22 Try.underlying5 (by kernel_rfl) hf with ⟨hcs, _⟩ | ⟨x, l, c, zs, hcs, _, hl, hm, hz, _, hcell, hwz⟩
    · simp [Value.cells] at hcs
      obtain ⟨rfl, rfl, rfl⟩ := hcs
      exact ⟨[], .inl ⟨rfl, rfl, rfl, rfl⟩⟩
    · simp [Value.cells] at hcs
      obtain ⟨rfl, rfl, rfl⟩ := hcs
      exact ⟨zs, .inr ⟨_, rfl, hl, hm, by simpa using hz, hcell, hwz⟩⟩
  have k1 := h1
  have lt1 : ∀ x ∈ p1, x.block < W.heap.size := by obtain ⟨m, hm⟩ := k1; exact DataW.trod_lt m _ _ _ hm
  obtain ⟨s, rfl, hs, hb⟩ := sector_in (hval 1 28 v1 rfl rfl) h1
  clear hA0 hval0
  refine (walk a0 len0 cap0 z0 s W w0 hs hb).mono fun e W' ⟨he, bel⟩ => ?_
  subst he
  exact ⟨_, rfl, _, _, _, [], _, [], hW', trodAll_mk1 (shut_bool Try.underlying4 _), (trodAll_cons_mk (Below.trod laidOut (by kernel_rfl) (of_decide_eq_true (by kernel_rfl)) k0 bel lt0) (trodAll_cons_mk (Below.trod laidOut (by kernel_rfl) (of_decide_eq_true (by kernel_rfl)) k1 bel lt1) trodAll_mk0)), rfl, bel.frame _, fun h => by cases h⟩

end sealGets

/-- SealGets: of any bytes Get of package seal tells, and of any sector Open tells, what the document tells; the law returns true. -/
theorem sealGets_holds : Rows.SealGetsSaid :=
  OpenClaim.holds_of_wide 4 Try.f4 rfl rfl rfl rfl rfl rfl rfl ⟨rfl, rfl, rfl, rfl, rfl⟩ rfl rfl rfl rfl rfl (by kernel_rfl) Try.func4 (by kernel_rfl)
    (of_decide_eq_true (by kernel_rfl)) (by unfold Func.isWrapper; first | (rw [if_pos (by decide +kernel)]; kernel_rfl) | (rw [if_neg (by decide +kernel)]; exact ⟨rfl, rfl⟩))
    (fun os started H enc _ => sealGets.lifted os started H enc)
#print axioms sealGets_holds
end Go.Proofs.Ytkiaeeojgcmcaaa
