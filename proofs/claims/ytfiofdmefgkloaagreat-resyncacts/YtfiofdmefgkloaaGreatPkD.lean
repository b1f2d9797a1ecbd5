import Derived.Test.YtfiofdmefgkloaaGreatPkC
/-
  The walks of package pack: flag, head, Bytes.
-/
namespace Go.Proofs.YtfiofdmefgkloaaGreat.Pack
open Go.RowKit
open Seal (enc ret_bool ret_int)
open Seal.Math

theorem has1 (k : Int) : hasB (partsOf k) 1 = decide (k = 1) := by
  unfold partsOf hasB
  by_cases h : k = 1
  · rw [if_pos h, decide_eq_true h]
    rfl
  · rw [if_neg h, decide_eq_false h]
    split
    · rfl
    · split
      · rfl
      · split
        · rfl
        · split <;> rfl
theorem has2 (k : Int) : hasB (partsOf k) 2 = decide (k = 1) := (hasB_two k).trans (has1 k)
theorem has4 (k : Int) : hasB (partsOf k) 4 = decide (2 ≤ k ∧ k ≤ 5) := by
  unfold partsOf hasB
  by_cases h1 : k = 1
  · rw [if_pos h1, decide_eq_false (by omega : ¬ (2 ≤ k ∧ k ≤ 5))]
    rfl
  · rw [if_neg h1]
    by_cases h2 : k = 2
    · rw [if_pos h2, decide_eq_true (by omega : 2 ≤ k ∧ k ≤ 5)]
      rfl
    · rw [if_neg h2]
      by_cases h3 : 3 ≤ k ∧ k ≤ 5
      · rw [if_pos h3, decide_eq_true (by omega : 2 ≤ k ∧ k ≤ 5)]
        rfl
      · rw [if_neg h3, decide_eq_false (by omega : ¬ (2 ≤ k ∧ k ≤ 5))]
        split
        · rfl
        · split <;> rfl
theorem has8 (k : Int) : hasB (partsOf k) 8 = decide (k = 2 ∨ k = 6 ∨ k = 7) := by
  unfold partsOf hasB
  by_cases h1 : k = 1
  · rw [if_pos h1, decide_eq_false (by omega : ¬ (k = 2 ∨ k = 6 ∨ k = 7))]
    rfl
  · rw [if_neg h1]
    by_cases h2 : k = 2
    · rw [if_pos h2, decide_eq_true (by omega : k = 2 ∨ k = 6 ∨ k = 7)]
      rfl
    · rw [if_neg h2]
      by_cases h3 : 3 ≤ k ∧ k ≤ 5
      · rw [if_pos h3, decide_eq_false (by omega : ¬ (k = 2 ∨ k = 6 ∨ k = 7))]
        rfl
      · rw [if_neg h3]
        by_cases h6 : k = 6
        · rw [if_pos h6, decide_eq_true (by omega : k = 2 ∨ k = 6 ∨ k = 7)]
          rfl
        · rw [if_neg h6]
          by_cases h7 : k = 7
          · rw [if_pos h7, decide_eq_true (by omega : k = 2 ∨ k = 6 ∨ k = 7)]
            rfl
          · rw [if_neg h7, decide_eq_false (by omega : ¬ (k = 2 ∨ k = 6 ∨ k = 7))]
            rfl
theorem owns_kept {A B : World} {base : Nat} {e : TypeId} {z n : Nat} {v : Value} {l : List Value} (h : A.ownsRow base e z v n l) (hk : Kept [] A B) : B.ownsRow base e z v n l :=
  ⟨h.1, h.2.imp id fun ⟨g, cap, cur, e1, hb, hg, r⟩ => ⟨g, cap, cur, e1, hb, (hk.block g (Array.getElem?_eq_some_iff.1 hg).1 (by simp)).trans hg, r⟩⟩
/-- One byte, in a row of its own. -/
theorem one_row (W : World) (b : Nat) (h : b < 256) : ByteRow W.heap.size (W.heap.size + 1) (W.alloc (.cells #[.int .u8 (b : Int)] 5)) (.slice (some ⟨W.heap.size, 0, none⟩) 1 1) [b] := by
  refine ⟨by simpa using h, _, 1, rfl, fun e => (by cases e), .inr ⟨W.heap.size, 0, rfl, Nat.le_refl _, Nat.le_refl _, by omega, fun j hj => ?_⟩⟩
  have hj0 : j = 0 := by simpa using hj
  subst hj0
  rw [(blk_new W 5 #[.int .u8 (b : Int)]).cell]
  rfl
theorem one_own (W : World) (b : Nat) : (W.alloc (.cells #[.int .u8 (b : Int)] 5)).ownsRow W.heap.size 5 1 (.slice (some ⟨W.heap.size, 0, none⟩) 1 1) 1 ([b].map enc) := World.ownsRow_lit W _ 1 (Nat.le_refl _) (by decide) rfl
/-- What stands in blocks of before a row of the call's own stays, whatever becomes of the row. -/
theorem Two.grown {w : World} {x : Mv} {g h : Nat} {nm : ByteArray} {p o l u : Nat} {A B : World} {base : Nat} {e : TypeId} {z n : Nat} {v : Value} {r : List Value} (t : Two w x g h nm p o l u A) (hown : A.ownsRow base e z v n r) (hg : A.grownBy B v.ownBlock) (hw : w.heap.size ≤ base) (h1 : g < base) (h2 : h < base) : Two w x g h nm p o l u B := by
  have hb : ∀ j, j < base → j < A.heap.size → B.heap[j]? = A.heap[j]? := fun j hj hs => hg.block j hs (fun e => by have := (hown.lt j e.symm).1; omega)
  exact ⟨(hb g h1 t.msg.lt).trans t.msg, (hb h h2 t.shp.lt).trans t.shp, kept_grown hown hg w t.kept hw⟩
set_option maxRecDepth 100000 in
theorem put64_row (base : Nat) (v : Value) (l : List Nat) (y : Nat) (w : World) (h : w.ownsRow base 5 1 v l.length (l.map enc)) (hl : ∀ b ∈ l, b < 256) (hn : l.length ≤ 1000) (hy : y < 18446744073709551616) (hb : base ≤ w.heap.size) :
    Calls Tryz.prog 176 #[v, .int .u64 (y : Int)] w fun e w' => ∃ v', e = .returned v' ∧ w'.ownsRow base 5 1 v' (l ++ be 8 y).length ((l ++ be 8 y).map enc) ∧ Kept [] w w' := by
  refine (Seal.put64_any v l y w hn hy ((byteRow_owns hl h).at (Nat.le_refl _))).mono ?_
  rintro e w' ⟨v', rfl, h1, h2⟩
  refine ⟨v', rfl, ?_, Kept.of_below h2 []⟩
  rw [List.length_append, be_length]
  exact Seal.owns_le h1 hb
set_option maxRecDepth 100000 in
theorem refPut64_row (base : Nat) (v : Value) (l : List Nat) (y : Nat) (w : World) (h : w.ownsRow base 5 1 v l.length (l.map enc)) (hl : ∀ b ∈ l, b < 256) (hn : l.length ≤ 1000) (hy : y < 18446744073709551616) (hb : base ≤ w.heap.size) :
    Calls Tryz.prog 171 #[v, .int .u64 (y : Int)] w fun e w' => ∃ v', e = .returned v' ∧ w'.ownsRow base 5 1 v' (l ++ be 8 y).length ((l ++ be 8 y).map enc) ∧ Kept [] w w' := by
  refine (Seal.refPut64_any v l y w hn hy ((byteRow_owns hl h).at (Nat.le_refl _))).mono ?_
  rintro e w' ⟨v', rfl, h1, h2⟩
  refine ⟨v', rfl, ?_, Kept.of_below h2 []⟩
  rw [List.length_append, be_length]
  exact Seal.owns_le h1 hb
theorem one_byte {K : Nat} (h : K < 256) : ∀ b ∈ [K], b < 256 := by simpa using h
theorem app_byte {l r : List Nat} (h : ∀ b ∈ l, b < 256) (h2 : ∀ b ∈ r, b < 256) : ∀ b ∈ l ++ r, b < 256 := fun b hm => (List.mem_append.1 hm).elim (h b) (h2 b)
/-- A row of bytes of the call's own, from base on. -/
structure Own (W : World) (base : Nat) (v : Value) (l : List Nat) : Prop where
  row : W.ownsRow base 5 1 v l.length (l.map enc)
  byt : ∀ b ∈ l, b < 256
  le : base ≤ W.heap.size
theorem Own.kept {A B : World} {base : Nat} {v : Value} {l : List Nat} (h : Own A base v l) (hk : Kept [] A B) : Own B base v l := ⟨owns_kept h.row hk, h.byt, Nat.le_trans h.le hk.size⟩
theorem Own.low {A : World} {base base' : Nat} {v : Value} {l : List Nat} (h : Own A base v l) (hb : base' ≤ base) : Own A base' v l := ⟨Seal.owns_le h.row hb, h.byt, Nat.le_trans hb h.le⟩
theorem Own.is {A : World} {base : Nat} {v : Value} {l l' : List Nat} (h : Own A base v l) (e : l = l') : Own A base v l' := e ▸ h
theorem Own.byteRow {A : World} {base : Nat} {v : Value} {l : List Nat} (h : Own A base v l) : ByteRow base A.heap.size A v l := byteRow_owns h.byt h.row
end Go.Proofs.YtfiofdmefgkloaaGreat.Pack

