/-
  The walks of the document's Extents and of the law's own small test: what each call answers, in the plain words of the Math text.
-/
import Derived.Test.YtakljofmnpagpaaWalksC
import Derived.Deep.RegionWith
import Derived.Deep.CutRange
namespace Go.Proofs.Ytakljofmnpagpaa
open Go.RowKit
open Math

def enc (i : Nat) : Value := .int .i64 (i : Int)

theorem Try.info3 : (Try.prog.info? 3).map (fun i => (i.zero, i.size, i.bytes)) = some (some (.int .i64 0), 1, 8) := by kernel_rfl

theorem below_append {w W w1 : World} {n₀ : Nat} {e : TypeId} {size k : Nat} {v : Value} {xs : List Value} {tmp : Obj} (hn : n₀ ≤ w.heap.size) (hB : Below n₀ w W) (hrow : W.ownsRow n₀ e size v k xs) (hgrow : (W.alloc tmp).grownBy w1 v.ownBlock) : Below n₀ w w1 := by
  have hsz := hB.size
  refine (hB.alloc (by omega) tmp).grown hgrow (by simp; omega) fun j ej => ?_
  rcases hrow.2 with ⟨rfl, _⟩ | ⟨g, cap, cur, rfl, hb, _, _⟩
  · simp [Value.ownBlock] at ej
  · obtain rfl : g = j := by simpa [Value.ownBlock] using ej
    exact hb

/-- What a call's own row holds, as numbers. -/
theorem intsAt_of_owns {W : World} {base : Nat} {v : Value} {l : List Nat} (h : W.ownsRow base 3 1 v l.length (l.map enc)) : IntsAt W.heap.size W v (l.map Int.ofNat) := by
  obtain ⟨_, ⟨rfl, h0⟩ | ⟨g, cap, cur, rfl, hb, hg, h1, h2, h3, h4⟩⟩ := h
  · have : l = [] := by simpa using h0
    subst this
    exact ⟨none, 0, rfl, .inl rfl⟩
  · refine ⟨some ⟨g, 0, none⟩, cap, by simp, .inr ⟨g, 0, rfl, (Array.getElem?_eq_some_iff.1 hg).1, fun j hj => ?_⟩⟩
    have hj' : j < l.length := by simpa using hj
    have e : cur.toList[j]? = some (enc l[j]) := by
      have := congrArg (fun t => t[j]?) h4
      simp [hj'] at this
      simpa using this
    simp [World.cell?, hg]
    rw [Array.getElem?_toList] at e
    rw [e]
    simp [enc, hj']

theorem owns_after {W W' : World} {base : Nat} {e : TypeId} {size : Nat} {v : Value} {n : Nat} {xs : List Value} (h : W.ownsRow base e size v n xs) (hB : Below W.heap.size W W') : W'.ownsRow base e size v n xs := by
  obtain ⟨h0, h | ⟨g, cap, cur, hv, hb, hg, r⟩⟩ := h
  · exact ⟨h0, .inl h⟩
  · exact ⟨h0, .inr ⟨g, cap, cur, hv, hb, (hB.block g (lt_of_block hg)).trans hg, r⟩⟩

set_option maxHeartbeats 1000000 in
/-- twainref04.Extents -/
theorem refExtents_any (o l : Int) (w : World) :
    Calls Try.prog 13 #[.agg #[.int .i64 o, .int .i64 l]] w fun e w' => e = .returned (.int .u64 (ext o l)) ∧ Below w.heap.size w w' := by
  have hb := below_new w (.cells #[.int .i64 o, .int .i64 l] 23)
  have hx := box_new w (.int .i64 o) (.int .i64 l) 23
  obtain ⟨i0, hi, hz0, hz1, hz2⟩ := info_parts Try.info3
  go_enter Try.func13, Try.ntmps13
  go_wp2
  go_loopw [3, 4] (fun v i wr => ∃ k : Nat, k ≤ 64 ∧ i = .int .i64 k ∧ wr.ownsRow (w.heap.size + 1) 3 1 v (hits o l k).length ((hits o l k).map enc) ∧ Below (w.heap.size + 1) (w.alloc (.cells #[.int .i64 o, .int .i64 l] 23)) wr) (fun _ i _ => 64 - (intOf i).toNat)
  case atStart => exact ⟨0, by omega, rfl, World.ownsRow_nil _ _ _ _, Below.refl _ _⟩
  case round =>
    obtain ⟨k, hk, rfl, hown, hB⟩ := hrel
    have hll := hits_len o l k
    by_cases hlt : k < 64
    · have wc := refWhole_any (k : Int)
      rw [wOff_in (by omega) (by omega), wLen_in (by omega) (by omega)] at wc
      have oc := refOverlap_any o l (4 * (k : Int)) 4
      have hsn := hits_succ o l k
      obtain ⟨d1, d2⟩ := hx.below hB (by simp)
      cases hh : hit o l k with
      | true =>
        rw [show over o l (4 * (k : Int)) 4 = true from hh] at oc
        rw [hh] at hsn
        have hsn' : hits o l (k + 1) = hits o l k ++ [k] := by simpa using hsn
        have HS : Hid (hits o l (k + 1) = hits o l k ++ [k]) := hsn'
        clear hsn' hsn hh
        go_upto_region 5 with fail
        go_cut [12] from 5 to 16 (fun r W => r = .bool true ∧ W.ownsRow (w.heap.size + 1) 3 1 u3 (hits o l k).length ((hits o l k).map enc) ∧ Below (w.heap.size + 1) (w.alloc (.cells #[.int .i64 o, .int .i64 l] 23)) W)
        case first =>
          have hR := Below.refl wr.heap.size wr
          go_region_with (first
            | (go_at_call 15; refine (wc _).mono ?_; rintro e w1 ⟨rfl, hC⟩; have hR' : Below wr.heap.size wr w1 := (by first | exact hR.trans (hC.mono hR.size) | exact hR.drew.trans (hC.mono hR.size)); replace hR := hR'; clear hR' hC; obtain ⟨c1, c2⟩ := (hx.below hB (by simp)).below hR (by have := hB.size; simp at this ⊢; omega))
            | (go_at_call 23; refine (oc _).mono ?_; rintro e w1 ⟨rfl, hC⟩; have hR' : Below wr.heap.size wr w1 := (by first | exact hR.trans (hC.mono hR.size) | exact hR.drew.trans (hC.mono hR.size)); replace hR := hR'; clear hR' hC; obtain ⟨c1, c2⟩ := (hx.below hB (by simp)).below hR (by have := hB.size; simp at this ⊢; omega)))
          all_goals (try go_wp2_with fail)
          all_goals go_meet
          all_goals exact ⟨rfl, owns_after hown hR, hB.trans (hR.mono (by have := hB.size; simp at this; omega))⟩
        case rest =>
          obtain ⟨rfl, hown', hB'⟩ := hcut
          go_wp2_with (first
            | (at_builtin; refine wpList_append_own _ rfl _ _ 37 rfl (w.heap.size + 1) 3 i0 (.int .i64 0) 1 8 Try.underlying37 hi hz0 hz1 hz2 rfl (by decide) _ _ _ rfl (hown'.alloc _) ⟨World.heap _ |>.size, 0, none⟩ 1 1 [.int .i64 k] rfl rfl ?c1 ?c2 ?c3 ?c4 ?c5 ?_)
            | go_in)
          case c1 => exact cell_one_new _ _ _
          case c2 => intro u hu; simp at hu; subst hu; rfl
          case c3 => unfold maxLen; omega
          case c4 => omega
          case c5 => have := hB'.size; simp at this ⊢; omega
          intro v' w1 hown1 hgrow _
          have hB1 := below_append (by simp) hB' hown' hgrow
          have hr1 : w1.ownsRow (w.heap.size + 1) 3 1 v' (hits o l (k + 1)).length ((hits o l (k + 1)).map enc) := by
            rw [HS.out, List.length_append, List.map_append]; exact hown1
          clear hown1 hgrow hown' HS
          go_wp2
          go_roundw
          case rel => exact ⟨k + 1, by omega, by go_num, hr1, hB1⟩
          case measure => simp [intOf]; omega
      | false =>
        rw [show over o l (4 * (k : Int)) 4 = false from hh] at oc
        rw [hh] at hsn
        have hsn' : hits o l (k + 1) = hits o l k := by simpa using hsn
        have HS : Hid (hits o l (k + 1) = hits o l k) := hsn'
        clear hsn' hsn hh
        go_upto_region 5 with fail
        go_cut [12] from 5 to 16 (fun r W => r = .bool false ∧ W.ownsRow (w.heap.size + 1) 3 1 u3 (hits o l k).length ((hits o l k).map enc) ∧ Below (w.heap.size + 1) (w.alloc (.cells #[.int .i64 o, .int .i64 l] 23)) W)
        case first =>
          have hR := Below.refl wr.heap.size wr
          go_region_with (first
            | (go_at_call 15; refine (wc _).mono ?_; rintro e w1 ⟨rfl, hC⟩; have hR' : Below wr.heap.size wr w1 := (by first | exact hR.trans (hC.mono hR.size) | exact hR.drew.trans (hC.mono hR.size)); replace hR := hR'; clear hR' hC; obtain ⟨c1, c2⟩ := (hx.below hB (by simp)).below hR (by have := hB.size; simp at this ⊢; omega))
            | (go_at_call 23; refine (oc _).mono ?_; rintro e w1 ⟨rfl, hC⟩; have hR' : Below wr.heap.size wr w1 := (by first | exact hR.trans (hC.mono hR.size) | exact hR.drew.trans (hC.mono hR.size)); replace hR := hR'; clear hR' hC; obtain ⟨c1, c2⟩ := (hx.below hB (by simp)).below hR (by have := hB.size; simp at this ⊢; omega)))
          all_goals (try go_wp2_with fail)
          all_goals go_meet
          all_goals exact ⟨rfl, owns_after hown hR, hB.trans (hR.mono (by have := hB.size; simp at this; omega))⟩
        case rest =>
          obtain ⟨rfl, hown', hB'⟩ := hcut
          go_wp2
          go_roundw
          case rel => exact ⟨k + 1, by omega, by go_num, by rw [HS.out]; exact hown', hB'⟩
          case measure => simp [intOf]; omega
    · obtain rfl : k = 64 := by omega
      have hI := intsAt_of_owns hown
      have fc := refOf_any u3 _ wr (by simp; omega) hI
      go_wp2_with (go_at_call 24; refine fc.mono ?_; rintro e w1 ⟨rfl, rfl⟩)
      go_ret
      exact ⟨rfl, hb.trans (hB.mono (Nat.le_succ _))⟩

end Go.Proofs.Ytakljofmnpagpaa
