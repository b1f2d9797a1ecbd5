/-
  Name; the document's Verdict and Name.
-/
import Derived.Test.YthlnhmdeoapoeaaClB
namespace Go.Proofs.Ythlnhmdeoapoeaa.Clash
open Go.RowKit

/-- A verdict's word. -/
def wordOf (n : Int) : ByteArray :=
  if n = 0 then { data := #[97, 112, 112, 108, 121] } else if n = 1 then { data := #[111, 118, 101, 114] } else if n = 2 then { data := #[114, 101, 116, 114, 121] } else if n = 3 then { data := #[108, 97, 116, 101, 114] } else { data := #[117, 110, 107, 110, 111, 119, 110] }
theorem word_none {n : Int} (h : n < 0 ∨ 3 < n) : wordOf n = { data := #[117, 110, 107, 110, 111, 119, 110] } := by
  unfold wordOf
  rw [if_neg (by omega), if_neg (by omega), if_neg (by omega), if_neg (by omega)]
theorem any_step {α : Type} {L : List α} {p : α → Bool} {k : Nat} {x : α} (hx : L[k]? = some x) : (L.take (k + 1)).any p = ((L.take k).any p || p x) := by
  rw [List.take_add_one, hx]
  simp
theorem miss_more {α : Type} {L : List α} {p : α → Bool} {kk : Nat} {y : α} (hA : ∀ i y, i < kk → L[i]? = some y → p y = false) (hy : L[kk]? = some y) (h : p y = false) : ∀ i y, i < kk + 1 → L[i]? = some y → p y = false := fun i z hi hz => by
  by_cases e : i = kk
  · subst e
    rw [hy] at hz
    cases hz
    exact h
  · exact hA i z (by omega) hz
set_option maxRecDepth 100000 in
set_option maxHeartbeats 4000000 in
/-- twainref23.Verdict of the arbiter -/
theorem refVerdict_arb (p m : Int) (a : Option Addr) (len cap : Nat) (L : List Ow) (hl : len ≤ 9223372036854775807) (w : World) (hL : OwsAt w a len cap L) :
    Calls Try.prog 22 #[.bool true, .slice a len cap, .agg #[.int .i64 p, .int .i64 m]] w fun e w' => e = .returned (.int .i64 (verd true L p m)) ∧ Kept [] w w' := by
  obtain ⟨vv, hv⟩ : ∃ vv, verd true L p m = vv := ⟨_, rfl⟩
  rw [hv]
  replace hv : Hid (verd true L p m = vv) := hv
  have k1 := kept_alloc [] w (.cells #[.int .i64 p, .int .i64 m] 24)
  have b1 := blk_new w 24 #[.int .i64 p, .int .i64 m]
  have hlen : Hid (L.length = len) := hL.1
  go_enter Try.func22, Try.ntmps22
  go_wp2_with fail
  obtain ⟨W1, hW1⟩ : ∃ W1, w.alloc (.cells #[.int .i64 p, .int .i64 m] 24) = W1 := ⟨_, rfl⟩
  rw [hW1] at k1 b1 ⊢
  obtain ⟨bI, hbI⟩ : ∃ bI, w.heap.size = bI := ⟨_, rfl⟩
  rw [hbI] at b1 ⊢
  clear hW1 hbI
  replace hL := hL.kept k1
  go_loopw [12, 7] (fun i c wr => ∃ kk : Nat, kk ≤ len ∧ i = .int .i64 kk ∧ c = .bool ((L.take kk).any (po p m)) ∧ Kept [] W1 wr ∧ Hid (∀ j x, j < kk → L[j]? = some x → ph p m x = false)) (fun i _ _ => len - (RowKit.intOf i).toNat)
  case atStart => exact ⟨0, Nat.zero_le _, rfl, rfl, Kept.refl _ _, fun j x hj => absurd hj (Nat.not_lt_zero _)⟩
  case round =>
    obtain ⟨kk, hkk, rfl, rfl, hk, hA⟩ := hrel
    by_cases hlt : kk < len
    · obtain ⟨⟨o, l, s⟩, b, off, hx, rfl, hb, hc⟩ := hL.at hlt
      simp only at hc
      obtain ⟨c0, c1, c2⟩ := hc wr hk
      have i1 : (kk : Int) < (len : Int) := by omega
      have i2 : len ≤ cap := hL.2.1
      have hx' : Hid (L[kk]? = some ⟨o, l, s⟩) := hx
      have hm1 : Hid (len - (kk + 1) < len - kk) := by show _ < _; omega
      have hst : Hid ((L.take (kk + 1)).any (po p m) = ((L.take kk).any (po p m) || po p m ⟨o, l, s⟩)) := any_step hx
      have kX := kept_alloc [] wr (.cells #[.int .i64 o, .int .i64 l, .bool s] 66)
      have hX := blk_new wr 66 #[.int .i64 o, .int .i64 l, .bool s]
      have cs : ∀ V, Kept [] (wr.alloc (.cells #[.int .i64 o, .int .i64 l, .bool s] 66)) V → V.cell? ⟨wr.heap.size, 0, none⟩ = some (.int .i64 o) ∧ V.cell? ⟨wr.heap.size, 1, none⟩ = some (.int .i64 l) ∧ V.cell? ⟨wr.heap.size, 2, none⟩ = some (.bool s) ∧ V.cell? ⟨bI, 0, none⟩ = some (.int .i64 p) ∧ V.cell? ⟨bI, 1, none⟩ = some (.int .i64 m) := fun V h =>
        ⟨((hX.kept h (by simp)).cell 0).trans rfl, ((hX.kept h (by simp)).cell 1).trans rfl, ((hX.kept h (by simp)).cell 2).trans rfl, ((b1.kept ((hk.trans kX).trans h) (by simp)).cell 0).trans rfl, ((b1.kept ((hk.trans kX).trans h) (by simp)).cell 1).trans rfl⟩
      obtain ⟨d0, d1, d2, d3, d4⟩ := cs _ (Kept.refl _ _)
      have qo := fun V => Span.refOverlap_any o l p m V
      have qh := fun V => Span.refHolds_any o l p m V
      have eh : Hid (ph p m ⟨o, l, s⟩ = Span.Math.holds o l p m) := rfl
      have eo : Hid (po p m ⟨o, l, s⟩ = Span.Math.over o l p m) := rfl
      generalize Span.Math.holds o l p m = rh at *
      generalize Span.Math.over o l p m = ro at *
      generalize (L.take kk).any (po p m) = cc at *
      clear hc hx hX
      cases rh with
      | true =>
        have ev : Hid (vv = 1) := by show _ = _; rw [← hv.out]; unfold verd; simp only; rw [any_hit hx'.out eh.out]; rfl
        clear hA hst hL hv
        go_wp2_with (go_at_call 32; refine (qh _).mono ?_; rintro e w1 ⟨rfl, hB⟩)
        go_ret
        exact ⟨by rw [ev.out]; rfl, (k1.trans hk).trans (kX.trans (Kept.of_below hB _))⟩
      | false =>
        cases cc with
        | true =>
          go_wp2_with (go_at_call 32; refine (qh _).mono ?_; rintro e w1 ⟨rfl, hB⟩; obtain ⟨e0, e1, e2, e3, e4⟩ := cs w1 (Kept.of_below hB _))
          go_roundw
          case rel => exact ⟨kk + 1, by omega, by go_num, by rw [hst.out]; rfl, hk.trans (kX.trans (Kept.of_below hB _)), miss_more hA.out hx'.out eh.out⟩
          case measure => simpa [RowKit.intOf] using hm1.out
        | false =>
          go_wp2_with (first
            | (go_at_call 32; refine (qh _).mono ?_; rintro e w1 ⟨rfl, hB⟩; obtain ⟨e0, e1, e2, e3, e4⟩ := cs w1 (Kept.of_below hB _))
            | (go_at_call 26; refine (qo _).mono ?_; rintro e w2 ⟨rfl, hB2⟩))
          go_roundw
          case rel => exact ⟨kk + 1, by omega, by go_num, by rw [hst.out, eo.out]; rfl, hk.trans ((kX.trans (Kept.of_below hB _)).trans (Kept.of_below hB2 _)), miss_more hA.out hx'.out eh.out⟩
          case measure => simpa [RowKit.intOf] using hm1.out
    · obtain rfl : kk = len := by omega
      have et : L.take kk = L := List.take_of_length_le (by rw [hL.1]; exact Nat.le_refl _)
      have i1 : ¬ ((kk : Int) < (kk : Int)) := by omega
      rw [et]
      have e1 : L.any (ph p m) = false := any_miss (fun i x hi hx => hA.out i x (by rw [← hlen.out]; exact hi) hx)
      have ev : Hid (vv = if L.any (po p m) then 2 else 0) := by show _ = _; rw [← hv.out]; unfold verd; simp only; rw [e1]; rfl
      clear hv e1
      generalize L.any (po p m) = cc at *
      clear hL et
      cases cc with
      | true =>
        go_wp2_with fail
        go_ret
        exact ⟨by rw [ev.out]; rfl, k1.trans hk⟩
      | false =>
        go_wp2_with fail
        go_ret
        exact ⟨by rw [ev.out]; rfl, k1.trans hk⟩
set_option maxRecDepth 100000 in
set_option maxHeartbeats 4000000 in
/-- twainref23.Verdict of the other node -/
theorem refVerdict_not (p m : Int) (a : Option Addr) (len cap : Nat) (L : List Ow) (hl : len ≤ 9223372036854775807) (w : World) (hL : OwsAt w a len cap L) :
    Calls Try.prog 22 #[.bool false, .slice a len cap, .agg #[.int .i64 p, .int .i64 m]] w fun e w' => e = .returned (.int .i64 (verd false L p m)) ∧ Kept [] w w' := by
  obtain ⟨vv, hv⟩ : ∃ vv, verd false L p m = vv := ⟨_, rfl⟩
  rw [hv]
  replace hv : Hid (verd false L p m = vv) := hv
  have k1 := kept_alloc [] w (.cells #[.int .i64 p, .int .i64 m] 24)
  have b1 := blk_new w 24 #[.int .i64 p, .int .i64 m]
  have hlen : Hid (L.length = len) := hL.1
  go_enter Try.func22, Try.ntmps22
  go_wp2_with fail
  obtain ⟨W1, hW1⟩ : ∃ W1, w.alloc (.cells #[.int .i64 p, .int .i64 m] 24) = W1 := ⟨_, rfl⟩
  rw [hW1] at k1 b1 ⊢
  obtain ⟨bI, hbI⟩ : ∃ bI, w.heap.size = bI := ⟨_, rfl⟩
  rw [hbI] at b1 ⊢
  clear hW1 hbI
  replace hL := hL.kept k1
  go_loopw [12, 7] (fun i c wr => ∃ kk : Nat, kk ≤ len ∧ i = .int .i64 kk ∧ c = .bool ((L.take kk).any (ps p m)) ∧ Kept [] W1 wr) (fun i _ _ => len - (RowKit.intOf i).toNat)
  case atStart => exact ⟨0, Nat.zero_le _, rfl, rfl, Kept.refl _ _⟩
  case round =>
    obtain ⟨kk, hkk, rfl, rfl, hk⟩ := hrel
    by_cases hlt : kk < len
    · obtain ⟨⟨o, l, s⟩, b, off, hx, rfl, hb, hc⟩ := hL.at hlt
      simp only at hc
      obtain ⟨c0, c1, c2⟩ := hc wr hk
      have i1 : (kk : Int) < (len : Int) := by omega
      have i2 : len ≤ cap := hL.2.1
      have hx' : Hid (L[kk]? = some ⟨o, l, s⟩) := hx
      have hm1 : Hid (len - (kk + 1) < len - kk) := by show _ < _; omega
      have hst : Hid ((L.take (kk + 1)).any (ps p m) = ((L.take kk).any (ps p m) || ps p m ⟨o, l, s⟩)) := any_step hx
      have kX := kept_alloc [] wr (.cells #[.int .i64 o, .int .i64 l, .bool s] 66)
      have hX := blk_new wr 66 #[.int .i64 o, .int .i64 l, .bool s]
      have cs : ∀ V, Kept [] (wr.alloc (.cells #[.int .i64 o, .int .i64 l, .bool s] 66)) V → V.cell? ⟨wr.heap.size, 0, none⟩ = some (.int .i64 o) ∧ V.cell? ⟨wr.heap.size, 1, none⟩ = some (.int .i64 l) ∧ V.cell? ⟨wr.heap.size, 2, none⟩ = some (.bool s) ∧ V.cell? ⟨bI, 0, none⟩ = some (.int .i64 p) ∧ V.cell? ⟨bI, 1, none⟩ = some (.int .i64 m) := fun V h =>
        ⟨((hX.kept h (by simp)).cell 0).trans rfl, ((hX.kept h (by simp)).cell 1).trans rfl, ((hX.kept h (by simp)).cell 2).trans rfl, ((b1.kept ((hk.trans kX).trans h) (by simp)).cell 0).trans rfl, ((b1.kept ((hk.trans kX).trans h) (by simp)).cell 1).trans rfl⟩
      obtain ⟨d0, d1, d2, d3, d4⟩ := cs _ (Kept.refl _ _)
      have qo := fun V => Span.refOverlap_any o l p m V
      have eo : Hid (ps p m ⟨o, l, s⟩ = (s && Span.Math.over o l p m)) := rfl
      generalize Span.Math.over o l p m = ro at *
      generalize (L.take kk).any (ps p m) = cc at *
      clear hc hx hX
      cases cc with
      | true =>
        go_wp2_with fail
        go_roundw
        case rel => exact ⟨kk + 1, by omega, by go_num, by rw [hst.out]; rfl, hk.trans kX⟩
        case measure => simpa [RowKit.intOf] using hm1.out
      | false =>
        cases s with
        | true =>
          go_wp2_with (go_at_call 26; refine (qo _).mono ?_; rintro e w2 ⟨rfl, hB2⟩)
          go_roundw
          case rel => exact ⟨kk + 1, by omega, by go_num, by rw [hst.out, eo.out]; rfl, hk.trans (kX.trans (Kept.of_below hB2 _))⟩
          case measure => simpa [RowKit.intOf] using hm1.out
        | false =>
          go_wp2_with fail
          go_roundw
          case rel => exact ⟨kk + 1, by omega, by go_num, by rw [hst.out, eo.out]; rfl, hk.trans kX⟩
          case measure => simpa [RowKit.intOf] using hm1.out
    · obtain rfl : kk = len := by omega
      have et : L.take kk = L := List.take_of_length_le (by rw [hL.1]; exact Nat.le_refl _)
      have i1 : ¬ ((kk : Int) < (kk : Int)) := by omega
      rw [et]
      have ev : Hid (vv = if L.any (ps p m) then 3 else 0) := hv.out.symm
      clear hv
      generalize L.any (ps p m) = cc at *
      clear hL et
      cases cc with
      | true =>
        go_wp2_with fail
        go_ret
        exact ⟨by rw [ev.out]; rfl, k1.trans hk⟩
      | false =>
        go_wp2_with fail
        go_ret
        exact ⟨by rw [ev.out]; rfl, k1.trans hk⟩
set_option maxRecDepth 100000 in
/-- twainref23.Verdict -/
theorem refVerdict_any (arb : Bool) (p m : Int) (a : Option Addr) (len cap : Nat) (L : List Ow) (hl : len ≤ 9223372036854775807) (w : World) (hL : OwsAt w a len cap L) :
    Calls Try.prog 22 #[.bool arb, .slice a len cap, .agg #[.int .i64 p, .int .i64 m]] w fun e w' => e = .returned (.int .i64 (verd arb L p m)) ∧ Kept [] w w' := by
  cases arb with
  | true => exact refVerdict_arb p m a len cap L hl w hL
  | false => exact refVerdict_not p m a len cap L hl w hL
end Go.Proofs.Ythlnhmdeoapoeaa.Clash
