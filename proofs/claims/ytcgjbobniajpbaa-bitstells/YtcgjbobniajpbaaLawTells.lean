/-
  BitsTells: of any numbers l and any set, Count, Lowest, List and Of of package bits are the document's, and the law returns true.
  Conditions: none beyond the row's own; each argument reads behind the call as it read before it.
-/
import Derived.Test.YtcgjbobniajpbaaRows
import Derived.Test.YtcgjbobniajpbaaWalksD
import Derived.WalkKit
import Derived.ProofKit
import Derived.OpenShut
import Derived.ShutString
import Derived.ChangeOld
import Derived.Below
namespace Go.Proofs.Ytcgjbobniajpbaa
open Math
namespace bitsTells
open Go.ChangeShapes Go.WideShapes Go.ChangeAt Go.RowKit
open Go.ChangeMaps (open_string shut_string)
set_option linter.unusedVariables false

theorem own : ownKnob Try.prog.godebug = none := by kernel_rfl
theorem laidOut : laidOutB Try.prog = true := by kernel_rfl

/-- A slice of numbers that came in: nil, or a row of cap cells that hold zs, of which the first len are its elements. -/
def IsRow (k : IntKind) (w : World) (a : Option Addr) (len cap : Nat) (zs : List Int) : Prop :=
  (a = none ∧ len = 0 ∧ cap = 0 ∧ zs = []) ∨
  ∃ x, a = some x ∧ len ≤ cap ∧ cap ≤ maxLen ∧ zs.length = cap ∧ (∀ i, i < zs.length → w.cell? (x.add i) = some (.int k (zs.getD i 0))) ∧ ∀ n ∈ zs, (Lit.int k n).wf = true

/-- What the document's List hands back, of the empty set. -/
theorem list0 (w : World) : Calls Try.prog 16 #[.int .u64 0] w fun e w' => ∃ a cap, e = .returned (.slice a 0 cap) ∧ IntsAt w'.heap.size w' (.slice a 0 cap) [] ∧ Below w.heap.size w w' := by
  refine (refList_any 0 w (by omega)).mono ?_
  rintro e w' ⟨v, rfl, hr, hB⟩
  have h := intsAt_of_owns hr
  rw [elems_zero] at h
  obtain ⟨a, cap, rfl, h'⟩ := h
  exact ⟨a, cap, rfl, ⟨a, cap, rfl, .inl rfl⟩, hB⟩

/-- What the document's List hands back, of a set that has a number. -/
theorem list1 (s : Nat) (h0 : 0 < s) (hs : s < 18446744073709551616) (w : World) : Calls Try.prog 16 #[.int .u64 s] w fun e w' =>
    ∃ g cap, e = .returned (.slice (some ⟨g, 0, none⟩) (elems s).length cap) ∧ g < w'.heap.size ∧ w'.cell? ⟨g, 0, none⟩ = some (.int .i64 (pop (below s))) ∧
      IntsAt w'.heap.size w' (.slice (some ⟨g, 0, none⟩) (elems s).length cap) ((elems s).map Int.ofNat) ∧ Below w.heap.size w w' := by
  refine (refList_any s w hs).mono ?_
  rintro e w' ⟨v, rfl, hr, hB⟩
  have h := intsAt_of_owns hr
  have hl := elems_low s h0 hs
  have hr' := hr
  rw [hl] at hr'
  obtain ⟨g, cap, rfl⟩ := ownsRow_succ hr'
  have hc := hr'.cellAt 0 (by simp)
  have hlt := (hr'.lt g rfl).2
  have e : (pop (below s) :: elems (drop1 s)).length = (elems s).length := by rw [hl]
  have e' : (elems (drop1 s)).length + 1 = (elems s).length := by rw [hl]; rfl
  rw [e'] at h ⊢
  exact ⟨g, cap, rfl, hlt, by simpa [enc] using hc, h, hB⟩

set_option maxHeartbeats 2000000 in
theorem walk0 (sv : Value) (zs : List Int) (w : World) (hlen : zs.length ≤ 9223372036854775807) (hA : IntsAt w.heap.size w sv zs) :
    Calls Try.prog 4 #[.int .u64 0, sv] w fun e w' => e = .returned (.bool true) ∧ Below w.heap.size w w' := by
  obtain ⟨al, capl, hsv, _⟩ := id hA
  subst hsv
  have hB : Below w.heap.size w w := Below.refl _ _
  have q1 : ∀ w, Calls Try.prog 18 #[.int .u64 0] w fun e w' => e = .returned (.int .i64 0) ∧ Below w.heap.size w w' := fun w => by
    have := count_any 0 w (by omega)
    rw [pop_elems, elems_zero] at this
    exact this
  have q2 : ∀ w : World, Calls Try.prog 20 #[.int .u64 0] w fun e w' => ∃ v, e = .returned v ∧ IntsAt w'.heap.size w' v [] ∧ Below w.heap.size w w' := fun w => by
    refine (list_any 0 w (by omega)).mono ?_
    rintro e w' ⟨v, rfl, hr, hB⟩
    have h := intsAt_of_owns hr
    rw [elems_zero] at h
    exact ⟨v, rfl, h, hB⟩
  go_enter Try.func4, Try.ntmps4
  go_wp2_with (first
    | (go_at_call 16; refine (list0 _).mono ?_; rintro e w1 ⟨ax, capx, rfl, hI, hB'⟩; replace hA := (hA.below hB').mono hB'.size; replace hB := hB.trans (hB'.mono hB.size); clear hB')
    | (go_at_call 17; refine (lowest_zero _).mono ?_; rintro e w2 ⟨rfl, rfl⟩)
    | (go_at_call 18; refine (q1 _).mono ?_; clear q1; rintro e w3 ⟨rfl, hB'⟩; replace hA := (hA.below hB').mono hB'.size; replace hI := (hI.below hB').mono hB'.size; replace hB := hB.trans (hB'.mono hB.size); clear hB')
    | (go_at_call 20; refine (q2 _).mono ?_; clear q2; rintro e w4 ⟨v2, rfl, hI2, hB'⟩; replace hA := (hA.below hB').mono hB'.size; replace hI := (hI.below hB').mono hB'.size; replace hB := hB.trans (hB'.mono hB.size); clear hB')
    | (go_at_call 19; refine (ints_any _ _ [] _ (by simp) hI2 hI).mono ?_; clear hI hI2; rintro e w5 ⟨rfl, nd, rfl⟩)
    | (go_at_call 21; refine (of_any _ zs _ hlen ?_).mono ?_; exact (hA.below (below_drewN (Below.refl _ _) _)); rintro e w6 ⟨rfl, hB'⟩; replace hA := (((hA.below (below_drewN (Below.refl _ _) _)).below hB').mono hB'.size); replace hB := (below_drewN hB _).trans (hB'.mono hB.size); clear hB')
    | (go_at_call 22; refine (refOf_any _ zs _ hlen hA).mono ?_; rintro e w7 ⟨rfl, rfl⟩)
    | (go_at_call 15; refine (lives_any _).mono ?_; rintro e w8 ⟨rfl, hB'⟩; replace hB := hB.trans (hB'.mono hB.size); clear hB'))
  go_ret
  exact ⟨rfl, hB⟩

set_option maxHeartbeats 2000000 in
theorem walk1 (s : Nat) (h0 : 0 < s) (hs : s < 18446744073709551616) (sv : Value) (zs : List Int) (w : World) (hlen : zs.length ≤ 9223372036854775807) (hA : IntsAt w.heap.size w sv zs) :
    Calls Try.prog 4 #[.int .u64 s, sv] w fun e w' => e = .returned (.bool true) ∧ Below w.heap.size w w' := by
  obtain ⟨al, capl, hsv, _⟩ := id hA
  subst hsv
  have hB : Below w.heap.size w w := Below.refl _ _
  have hel : (elems s).length ≤ 64 := by rw [← pop_elems]; exact pop_le s
  have hep : 0 < (elems s).length := by rw [elems_low s h0 hs]; simp
  have q1 : ∀ w, Calls Try.prog 18 #[.int .u64 s] w fun e w' => e = .returned (.int .i64 (elems s).length) ∧ Below w.heap.size w w' := fun w => by
    have := count_any s w hs
    rw [pop_elems] at this
    exact this
  have q2 : ∀ w : World, Calls Try.prog 20 #[.int .u64 s] w fun e w' => ∃ v, e = .returned v ∧ IntsAt w'.heap.size w' v ((elems s).map Int.ofNat) ∧ Below w.heap.size w w' := fun w => by
    refine (list_any s w hs).mono ?_
    rintro e w' ⟨v, rfl, hr, hB⟩
    exact ⟨v, rfl, intsAt_of_owns hr, hB⟩
  have hml : ((elems s).map Int.ofNat).length ≤ 9223372036854775807 := by simp; omega
  go_enter Try.func4, Try.ntmps4
  go_wp2_with (first
    | (go_at_call 16; refine (list1 s h0 hs _).mono ?_; rintro e w1 ⟨g, capx, rfl, hg, hc, hI, hB'⟩; replace hA := (hA.below hB').mono hB'.size; replace hB := hB.trans (hB'.mono hB.size); clear hB')
    | (go_at_call 17; refine (lowest_any s _ h0 hs).mono ?_; rintro e w2 ⟨rfl, hB'⟩; replace hc := (hB'.cell (p := ⟨g, 0, none⟩) hg).trans hc; replace hA := (hA.below hB').mono hB'.size; replace hI := (hI.below hB').mono hB'.size; replace hB := hB.trans (hB'.mono hB.size); clear hB')
    | (go_at_call 18; refine (q1 _).mono ?_; clear q1 hc; rintro e w3 ⟨rfl, hB'⟩; replace hA := (hA.below hB').mono hB'.size; replace hI := (hI.below hB').mono hB'.size; replace hB := hB.trans (hB'.mono hB.size); clear hB')
    | (go_at_call 20; refine (q2 _).mono ?_; clear q2; rintro e w4 ⟨v2, rfl, hI2, hB'⟩; replace hA := (hA.below hB').mono hB'.size; replace hI := (hI.below hB').mono hB'.size; replace hB := hB.trans (hB'.mono hB.size); clear hB')
    | (go_at_call 19; refine (ints_any _ _ _ _ hml hI2 hI).mono ?_; clear hI hI2; rintro e w5 ⟨rfl, nd, rfl⟩)
    | (go_at_call 21; refine (of_any _ zs _ hlen ?_).mono ?_; exact (hA.below (below_drewN (Below.refl _ _) _)); rintro e w6 ⟨rfl, hB'⟩; replace hA := (((hA.below (below_drewN (Below.refl _ _) _)).below hB').mono hB'.size); replace hB := (below_drewN hB _).trans (hB'.mono hB.size); clear hB')
    | (go_at_call 22; refine (refOf_any _ zs _ hlen hA).mono ?_; rintro e w7 ⟨rfl, rfl⟩)
    | (go_at_call 15; refine (lives_any _).mono ?_; rintro e w8 ⟨rfl, hB'⟩; replace hB := hB.trans (hB'.mono hB.size); clear hB'))
  go_ret
  exact ⟨rfl, hB⟩

/-- A slice that came in, up to its length. -/
theorem intsAt_row {w : World} {a : Option Addr} {len cap : Nat} {zs : List Int} (h : IsRow .i64 w a len cap zs) : len ≤ 9223372036854775807 ∧ ∃ ys, ys.length = len ∧ IntsAt w.heap.size w (.slice a len cap) ys := by
  rcases h with ⟨rfl, rfl, rfl, rfl⟩ | ⟨x, rfl, hl, hm, hz, hc, _⟩
  · exact ⟨by omega, [], rfl, none, 0, rfl, .inl rfl⟩
  · unfold maxLen at hm
    refine ⟨by omega, zs.take len, by simp; omega, some x, cap, by simp; omega, ?_⟩
    by_cases hlen : len = 0
    · left; subst hlen; simp
    · right
      obtain ⟨b, off, rfl, hc'⟩ := ints_at hc (by omega)
      refine ⟨b, off, rfl, World.block_lt_of_cell? w _ (hc' 0 (by omega)), fun j hj => ?_⟩
      have hj' : j < len := by simp at hj; omega
      rw [hc' j (by omega)]
      simp [hj']

theorem walk (a0 : Int) (a1 : Option Addr) (len1 cap1 : Nat) (z1 : List Int) (w : World) (w0 : (Lit.int .u64 a0).wf = true) (w1 : IsRow .i64 w a1 len1 cap1 z1) :
    Calls Try.prog 4 #[.int .u64 a0, .slice a1 len1 cap1] w fun e w' => e = .returned (.bool true) ∧ Below w.heap.size w w' := by
  have b0 := bounds_u64 w0
  obtain ⟨hl, ys, rfl, hI⟩ := intsAt_row w1
  clear w0
  obtain ⟨s, rfl⟩ : ∃ s : Nat, a0 = s := ⟨a0.toNat, by omega⟩
  have hs : s < 18446744073709551616 := by omega
  by_cases h0 : s = 0
  · subst h0
    exact walk0 _ ys w hl hI
  · exact walk1 s (by omega) hs _ ys w hl hI

set_option maxRecDepth 100000 in
theorem lifted (os : Os) (started : os.Started) (H : Type) (enc : TypeId × Value → H) :
    ReturnsInHanded {} Try.checked os 4 .any (Rows.bitsTellsSpec.pre6 enc Try.prog Try.f4 Rows.bitsTellsRow.domain false) (Rows.bitsTellsSpec.post enc Try.prog Try.f4 false true false false) := by
  refine returnsInHanded_of_change (C := Try.checked) own started (by kernel_rfl) Try.func4
    (ChangeSpec.witness6 (enc := enc) (C := Try.checked) false ⟨#[], #[.int .u64 0, .slice none 0 0], []⟩ 8 (by kernel_rfl) (by kernel_rfl) (by kernel_rfl) (by kernel_rfl)) ?_
  intro W base args ds gs before hval0 hW hcnd _
  have hval : ∀ (j : Nat) t v, Try.f4.params[j]? = some t → args[j]? = some v → Value.okWide Try.prog W .any base t v := hval0
  have hW' := hW
  obtain ⟨p, q, hA0, hV, rfl, hfz, hnd⟩ := hW
  have hA : DataW.TrodAll enc Try.prog W 0 (fun _ => true) true Try.f4.params.toList args.toList ds p := hA0
  rw [Try.params4] at hA hval
  obtain ⟨v0, vs0, d0, ds0, p0, q0, hargs, rfl, rfl, h0, r0⟩ := trodAll_cons hA
  obtain ⟨v1, vs1, d1, ds1, p1, q1, rfl, rfl, rfl, h1, r1⟩ := trodAll_cons r0
  obtain ⟨rfl, rfl, rfl⟩ := trodAll_nil r1
  obtain rfl : args = #[v0, v1] := by cases args; simp_all
  obtain ⟨rfl, rfl⟩ := trodVars_none hV
  obtain ⟨a0, rfl, rfl, rfl, w0⟩ := open_int Try.underlying22 (hval 0 22 v0 rfl rfl) h0
  obtain ⟨a1, len1, cap1, rfl⟩ := okWide_slice Try.underlying27 (hval 1 27 v1 rfl rfl)
  have k1 := h1
  have lt1 : ∀ x ∈ p1, x.block < W.heap.size := by obtain ⟨m, hm⟩ := k1; exact DataW.trod_lt m _ _ _ hm
  obtain ⟨z1, w1⟩ : ∃ zs, IsRow .i64 W a1 len1 cap1 zs := by
    obtain ⟨fuel, hf⟩ := h1
    rcases open_ints Try.underlying27 Try.underlying3 (by kernel_rfl) hf with ⟨hcs, _⟩ | ⟨x, l, c, zs, hcs, _, hl, hm, hz, _, hcell, hwz⟩
    · simp [Value.cells] at hcs
      obtain ⟨rfl, rfl, rfl⟩ := hcs
      exact ⟨[], .inl ⟨rfl, rfl, rfl, rfl⟩⟩
    · simp [Value.cells] at hcs
      obtain ⟨rfl, rfl, rfl⟩ := hcs
      exact ⟨zs, .inr ⟨_, rfl, hl, hm, by simpa using hz, hcell, hwz⟩⟩
  clear hA0 hval0
  refine (walk a0 a1 len1 cap1 z1 W w0 w1).mono fun e W' ⟨he, bel⟩ => ?_
  subst he
  exact ⟨_, rfl, _, _, _, [], _, [], hW', trodAll_mk1 (shut_bool Try.underlying4 _), (trodAll_cons_mk (shut_int Try.underlying22 w0) (trodAll_cons_mk (Below.trod laidOut (by kernel_rfl) (of_decide_eq_true (by kernel_rfl)) k1 bel lt1) trodAll_mk0)), rfl, bel.frame _, fun h => by cases h⟩

end bitsTells

/-- BitsTells: of any numbers l and any set, Count, Lowest, List and Of of package bits are the document's, and the law returns true. -/
theorem bitsTells_holds : Rows.BitsTellsSaid :=
  OpenClaim.holds_of_wide 4 Try.f4 rfl rfl rfl rfl rfl rfl rfl ⟨rfl, rfl, rfl, rfl, rfl⟩ rfl rfl rfl rfl rfl (by kernel_rfl) Try.func4 (by kernel_rfl)
    (of_decide_eq_true (by kernel_rfl)) (by unfold Func.isWrapper; first | (rw [if_pos (by decide +kernel)]; kernel_rfl) | (rw [if_neg (by decide +kernel)]; exact ⟨rfl, rfl⟩))
    (fun os started H enc _ => bitsTells.lifted os started H enc)
#print axioms bitsTells_holds
end Go.Proofs.Ytcgjbobniajpbaa
