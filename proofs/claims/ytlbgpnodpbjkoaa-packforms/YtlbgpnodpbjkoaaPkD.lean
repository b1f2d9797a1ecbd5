/-
  The walks of package pack: flag, head, Bytes.
-/
import Derived.Test.YtlbgpnodpbjkoaaPkC
namespace Go.Proofs.Ytlbgpnodpbjkoaa.Pack
open Go.RowKit
open Seal (enc ret_bool ret_int)
open Seal.Math

theorem has1 (k : Int) : hasB (partsOf k) 1 = decide (k = 1) := by
  unfold partsOf hasB
  by_cases h : k = 1
  · rw [if_pos h, decide_eq_true h]
    rfl
  · rw [if_neg h, decide_eq_false h]
    split
    · rfl
    · split
      · rfl
      · split
        · rfl
        · split <;> rfl
theorem has2 (k : Int) : hasB (partsOf k) 2 = decide (k = 1) := (hasB_two k).trans (has1 k)
theorem has4 (k : Int) : hasB (partsOf k) 4 = decide (2 ≤ k ∧ k ≤ 5) := by
  unfold partsOf hasB
  by_cases h1 : k = 1
  · rw [if_pos h1, decide_eq_false (by omega : ¬ (2 ≤ k ∧ k ≤ 5))]
    rfl
  · rw [if_neg h1]
    by_cases h2 : k = 2
    · rw [if_pos h2, decide_eq_true (by omega : 2 ≤ k ∧ k ≤ 5)]
      rfl
    · rw [if_neg h2]
      by_cases h3 : 3 ≤ k ∧ k ≤ 5
      · rw [if_pos h3, decide_eq_true (by omega : 2 ≤ k ∧ k ≤ 5)]
        rfl
      · rw [if_neg h3, decide_eq_false (by omega : ¬ (2 ≤ k ∧ k ≤ 5))]
        split
        · rfl
        · split <;> rfl
theorem has8 (k : Int) : hasB (partsOf k) 8 = decide (k = 2 ∨ k = 6 ∨ k = 7) := by
  unfold partsOf hasB
  by_cases h1 : k = 1
  · rw [if_pos h1, decide_eq_false (by omega : ¬ (k = 2 ∨ k = 6 ∨ k = 7))]
    rfl
  · rw [if_neg h1]
    by_cases h2 : k = 2
    · rw [if_pos h2, decide_eq_true (by omega : k = 2 ∨ k = 6 ∨ k = 7)]
      rfl
    · rw [if_neg h2]
      by_cases h3 : 3 ≤ k ∧ k ≤ 5
      · rw [if_pos h3, decide_eq_false (by omega : ¬ (k = 2 ∨ k = 6 ∨ k = 7))]
        rfl
      · rw [if_neg h3]
        by_cases h6 : k = 6
        · rw [if_pos h6, decide_eq_true (by omega : k = 2 ∨ k = 6 ∨ k = 7)]
          rfl
        · rw [if_neg h6]
          by_cases h7 : k = 7
          · rw [if_pos h7, decide_eq_true (by omega : k = 2 ∨ k = 6 ∨ k = 7)]
            rfl
          · rw [if_neg h7, decide_eq_false (by omega : ¬ (k = 2 ∨ k = 6 ∨ k = 7))]
            rfl
theorem owns_kept {A B : World} {base : Nat} {e : TypeId} {z n : Nat} {v : Value} {l : List Value} (h : A.ownsRow base e z v n l) (hk : Kept [] A B) : B.ownsRow base e z v n l :=
  ⟨h.1, h.2.imp id fun ⟨g, cap, cur, e1, hb, hg, r⟩ => ⟨g, cap, cur, e1, hb, (hk.block g (Array.getElem?_eq_some_iff.1 hg).1 (by simp)).trans hg, r⟩⟩
/-- One byte, in a row of its own. -/
theorem one_row (W : World) (b : Nat) (h : b < 256) : ByteRow W.heap.size (W.heap.size + 1) (W.alloc (.cells #[.int .u8 (b : Int)] 5)) (.slice (some ⟨W.heap.size, 0, none⟩) 1 1) [b] := by
  refine ⟨by simpa using h, _, 1, rfl, fun e => (by cases e), .inr ⟨W.heap.size, 0, rfl, Nat.le_refl _, Nat.le_refl _, by omega, fun j hj => ?_⟩⟩
  have hj0 : j = 0 := by simpa using hj
  subst hj0
  rw [(blk_new W 5 #[.int .u8 (b : Int)]).cell]
  rfl
theorem one_own (W : World) (b : Nat) : (W.alloc (.cells #[.int .u8 (b : Int)] 5)).ownsRow W.heap.size 5 1 (.slice (some ⟨W.heap.size, 0, none⟩) 1 1) 1 ([b].map enc) := World.ownsRow_lit W _ 1 (Nat.le_refl _) (by decide) rfl
set_option maxRecDepth 100000 in
/-- flag -/
theorem flag_any (s : Bool) (w : World) : Calls Try.prog 33 #[.bool s] w fun e w' => e = .returned (.int .u8 (bit s : Int)) ∧ w' = w := by
  cases s with
  | false =>
    go_enter Try.func33, Try.ntmps33
    go_wp2_with fail
    go_ret
    exact ⟨rfl, rfl⟩
  | true =>
    go_enter Try.func33, Try.ntmps33
    go_wp2_with fail
    go_ret
    exact ⟨rfl, rfl⟩
/-- What stands in blocks of before a row of the call's own stays, whatever becomes of the row. -/
theorem Two.grown {w : World} {x : Mv} {g h : Nat} {nm : ByteArray} {p o l u : Nat} {A B : World} {base : Nat} {e : TypeId} {z n : Nat} {v : Value} {r : List Value} (t : Two w x g h nm p o l u A) (hown : A.ownsRow base e z v n r) (hg : A.grownBy B v.ownBlock) (hw : w.heap.size ≤ base) (h1 : g < base) (h2 : h < base) : Two w x g h nm p o l u B := by
  have hb : ∀ j, j < base → j < A.heap.size → B.heap[j]? = A.heap[j]? := fun j hj hs => hg.block j hs (fun e => by have := (hown.lt j e.symm).1; omega)
  exact ⟨(hb g h1 t.msg.lt).trans t.msg, (hb h h2 t.shp.lt).trans t.shp, kept_grown hown hg w t.kept hw⟩
set_option maxRecDepth 100000 in
theorem put64_row (base : Nat) (v : Value) (l : List Nat) (y : Nat) (w : World) (h : w.ownsRow base 5 1 v l.length (l.map enc)) (hl : ∀ b ∈ l, b < 256) (hn : l.length ≤ 1000) (hy : y < 18446744073709551616) (hb : base ≤ w.heap.size) :
    Calls Try.prog 34 #[v, .int .u64 (y : Int)] w fun e w' => ∃ v', e = .returned v' ∧ w'.ownsRow base 5 1 v' (l ++ be 8 y).length ((l ++ be 8 y).map enc) ∧ Kept [] w w' := by
  refine (Seal.put64_any v l y w hn hy ((byteRow_owns hl h).at (Nat.le_refl _))).mono ?_
  rintro e w' ⟨v', rfl, h1, h2⟩
  refine ⟨v', rfl, ?_, Kept.of_below h2 []⟩
  rw [List.length_append, be_length]
  exact Seal.owns_le h1 hb
set_option maxRecDepth 100000 in
theorem put16_row (base : Nat) (v : Value) (l : List Nat) (y : Int) (w : World) (h : w.ownsRow base 5 1 v l.length (l.map enc)) (hl : ∀ b ∈ l, b < 256) (hn : l.length ≤ 1000) (hb : base ≤ w.heap.size) :
    Calls Try.prog 35 #[v, .int .i64 y] w fun e w' => ∃ v', e = .returned v' ∧ w'.ownsRow base 5 1 v' (l ++ be 2 (y % 65536).toNat).length ((l ++ be 2 (y % 65536).toNat).map enc) ∧ Kept [] w w' := by
  refine (Seal.put16_any v l y w hn ((byteRow_owns hl h).at (Nat.le_refl _))).mono ?_
  rintro e w' ⟨v', rfl, h1, h2⟩
  refine ⟨v', rfl, ?_, Kept.of_below h2 []⟩
  rw [List.length_append, be_length]
  exact Seal.owns_le h1 hb
set_option maxRecDepth 100000 in
theorem refPut64_row (base : Nat) (v : Value) (l : List Nat) (y : Nat) (w : World) (h : w.ownsRow base 5 1 v l.length (l.map enc)) (hl : ∀ b ∈ l, b < 256) (hn : l.length ≤ 1000) (hy : y < 18446744073709551616) (hb : base ≤ w.heap.size) :
    Calls Try.prog 26 #[v, .int .u64 (y : Int)] w fun e w' => ∃ v', e = .returned v' ∧ w'.ownsRow base 5 1 v' (l ++ be 8 y).length ((l ++ be 8 y).map enc) ∧ Kept [] w w' := by
  refine (Seal.refPut64_any v l y w hn hy ((byteRow_owns hl h).at (Nat.le_refl _))).mono ?_
  rintro e w' ⟨v', rfl, h1, h2⟩
  refine ⟨v', rfl, ?_, Kept.of_below h2 []⟩
  rw [List.length_append, be_length]
  exact Seal.owns_le h1 hb
set_option maxRecDepth 100000 in
theorem refPut16_row (base : Nat) (v : Value) (l : List Nat) (y : Int) (w : World) (h : w.ownsRow base 5 1 v l.length (l.map enc)) (hl : ∀ b ∈ l, b < 256) (hn : l.length ≤ 1000) (hb : base ≤ w.heap.size) :
    Calls Try.prog 27 #[v, .int .i64 y] w fun e w' => ∃ v', e = .returned v' ∧ w'.ownsRow base 5 1 v' (l ++ be 2 (y % 65536).toNat).length ((l ++ be 2 (y % 65536).toNat).map enc) ∧ Kept [] w w' := by
  refine (Seal.refPut16_any v l y w hn ((byteRow_owns hl h).at (Nat.le_refl _))).mono ?_
  rintro e w' ⟨v', rfl, h1, h2⟩
  refine ⟨v', rfl, ?_, Kept.of_below h2 []⟩
  rw [List.length_append, be_length]
  exact Seal.owns_le h1 hb
theorem one_byte {K : Nat} (h : K < 256) : ∀ b ∈ [K], b < 256 := by simpa using h
theorem app_byte {l r : List Nat} (h : ∀ b ∈ l, b < 256) (h2 : ∀ b ∈ r, b < 256) : ∀ b ∈ l ++ r, b < 256 := fun b hm => (List.mem_append.1 hm).elim (h b) (h2 b)
/-- A row of bytes of the call's own, from base on. -/
structure Own (W : World) (base : Nat) (v : Value) (l : List Nat) : Prop where
  row : W.ownsRow base 5 1 v l.length (l.map enc)
  byt : ∀ b ∈ l, b < 256
  le : base ≤ W.heap.size
theorem Own.kept {A B : World} {base : Nat} {v : Value} {l : List Nat} (h : Own A base v l) (hk : Kept [] A B) : Own B base v l := ⟨owns_kept h.row hk, h.byt, Nat.le_trans h.le hk.size⟩
theorem Own.low {A : World} {base base' : Nat} {v : Value} {l : List Nat} (h : Own A base v l) (hb : base' ≤ base) : Own A base' v l := ⟨Seal.owns_le h.row hb, h.byt, Nat.le_trans hb h.le⟩
theorem Own.is {A : World} {base : Nat} {v : Value} {l l' : List Nat} (h : Own A base v l) (e : l = l') : Own A base v l' := e ▸ h
theorem Own.byteRow {A : World} {base : Nat} {v : Value} {l : List Nat} (h : Own A base v l) : ByteRow base A.heap.size A v l := byteRow_owns h.byt h.row
set_option maxRecDepth 100000 in
set_option maxHeartbeats 4000000 in
/-- head -/
theorem head_any (x : Mv) (K : Nat) (hK : K < 256) (hx : x.k = K) (hm : x.m < 18446744073709551616) (w : World) : Calls Try.prog 25 #[x.val] w fun e w' => ∃ v, e = .returned v ∧ Own w' w.heap.size v (hd x.ms) ∧ Kept [] w w' := by
  have hb0 : x.In (w.alloc (.cells #[.int .i64 x.k, .int .i64 x.i, .int .i64 x.o, .int .u64 (x.m : Int), .bool x.s, .slice x.sa x.len x.cap] 25)) w.heap.size := blk_new w 25 _
  have hk0 := kept_alloc [] w (.cells #[.int .i64 x.k, .int .i64 x.i, .int .i64 x.o, .int .u64 (x.m : Int), .bool x.s, .slice x.sa x.len x.cap] 25)
  have q := shape_any x.k (w.alloc (.cells #[.int .i64 x.k, .int .i64 x.i, .int .i64 x.o, .int .u64 (x.m : Int), .bool x.s, .slice x.sa x.len x.cap] 25))
  have pl := parts_lt x.k
  have qh1 : ∀ W, Calls Try.prog 19 #[shV (nameOf x.k) (partsOf x.k) (offsOf x.k) (leastOf x.k) (mostOf x.k), .int .i64 1] W _ := fun W => has_any (nameOf x.k) (partsOf x.k) (offsOf x.k) (leastOf x.k) (mostOf x.k) 1 pl (by omega) W
  rw [has1] at qh1
  have qh2 : ∀ W, Calls Try.prog 19 #[shV (nameOf x.k) (partsOf x.k) (offsOf x.k) (leastOf x.k) (mostOf x.k), .int .i64 2] W _ := fun W => has_any (nameOf x.k) (partsOf x.k) (offsOf x.k) (leastOf x.k) (mostOf x.k) 2 pl (by omega) W
  rw [has2] at qh2
  have qh4 : ∀ W, Calls Try.prog 19 #[shV (nameOf x.k) (partsOf x.k) (offsOf x.k) (leastOf x.k) (mostOf x.k), .int .i64 4] W _ := fun W => has_any (nameOf x.k) (partsOf x.k) (offsOf x.k) (leastOf x.k) (mostOf x.k) 4 pl (by omega) W
  rw [has4] at qh4
  have qh8 : ∀ W, Calls Try.prog 19 #[shV (nameOf x.k) (partsOf x.k) (offsOf x.k) (leastOf x.k) (mostOf x.k), .int .i64 8] W _ := fun W => has_any (nameOf x.k) (partsOf x.k) (offsOf x.k) (leastOf x.k) (mostOf x.k) 8 pl (by omega) W
  rw [has8] at qh8
  have t0 : Hid (∀ w1 : World, Kept [] (w.alloc (.cells #[.int .i64 x.k, .int .i64 x.i, .int .i64 x.o, .int .u64 (x.m : Int), .bool x.s, .slice x.sa x.len x.cap] 25)) w1 →
      Two w x w.heap.size w1.heap.size (nameOf x.k) (partsOf x.k) (offsOf x.k) (leastOf x.k) (mostOf x.k) (w1.alloc (.cells #[.string (nameOf x.k), .int .i64 (partsOf x.k : Int), .int .i64 (offsOf x.k : Int), .int .i64 (leastOf x.k : Int), .int .i64 (mostOf x.k : Int)] 39)) ∧
      Two w x w.heap.size w1.heap.size (nameOf x.k) (partsOf x.k) (offsOf x.k) (leastOf x.k) (mostOf x.k) ((w1.alloc (.cells #[.string (nameOf x.k), .int .i64 (partsOf x.k : Int), .int .i64 (offsOf x.k : Int), .int .i64 (leastOf x.k : Int), .int .i64 (mostOf x.k : Int)] 39)).alloc (.cells #[.int .u8 (K : Int)] 5)) ∧
      Own ((w1.alloc (.cells #[.string (nameOf x.k), .int .i64 (partsOf x.k : Int), .int .i64 (offsOf x.k : Int), .int .i64 (leastOf x.k : Int), .int .i64 (mostOf x.k : Int)] 39)).alloc (.cells #[.int .u8 (K : Int)] 5)) (w1.heap.size + 1) (.slice (some ⟨w1.heap.size + 1, 0, none⟩) 1 1) [K] ∧ w.heap.size < w1.heap.size + 1) := fun w1 hk1 => by
    have hT : Two w x w.heap.size w1.heap.size (nameOf x.k) (partsOf x.k) (offsOf x.k) (leastOf x.k) (mostOf x.k) (w1.alloc (.cells #[.string (nameOf x.k), .int .i64 (partsOf x.k : Int), .int .i64 (offsOf x.k : Int), .int .i64 (leastOf x.k : Int), .int .i64 (mostOf x.k : Int)] 39)) := ⟨(hb0.kept hk1 (by simp)).kept (kept_alloc [] w1 _) (by simp), blk_new w1 39 _, (hk0.trans hk1).trans (kept_alloc [] w1 _)⟩
    have ho := one_own (w1.alloc (.cells #[.string (nameOf x.k), .int .i64 (partsOf x.k : Int), .int .i64 (offsOf x.k : Int), .int .i64 (leastOf x.k : Int), .int .i64 (mostOf x.k : Int)] 39)) K
    have hs := hk1.size
    have e1 : (w1.alloc (.cells #[.string (nameOf x.k), .int .i64 (partsOf x.k : Int), .int .i64 (offsOf x.k : Int), .int .i64 (leastOf x.k : Int), .int .i64 (mostOf x.k : Int)] 39)).heap.size = w1.heap.size + 1 := by simp
    rw [e1] at ho
    refine ⟨hT, hT.after (kept_alloc [] _ _), ⟨ho, one_byte hK, ?_⟩, ?_⟩
    · simp
    · simp at hs
      omega
  clear hb0 hk0 pl
  have ek : IntKind.u8.wrap (K : Int) = (K : Int) := by rw [IntKind.wrap_u8]; omega
  have ei : IntKind.u64.wrap x.i = (((x.i % 18446744073709551616).toNat : Nat) : Int) := by rw [IntKind.wrap_u64]; omega
  have hi : (x.i % 18446744073709551616).toNat < 18446744073709551616 := by omega
  obtain ⟨k, i, o, m, s, sa, len, cap, d⟩ := x
  simp only [Mv.ms, Mv.val] at *
  subst hx
  have hH : Hid (hd ⟨K, i, o, m, s, d⟩ = K :: (wasL ⟨K, i, o, m, s, d⟩ ++ (idL ⟨K, i, o, m, s, d⟩ ++ offL ⟨K, i, o, m, s, d⟩))) := rfl
  have hW : Hid (wasL ⟨K, i, o, m, s, d⟩ = if (K : Int) = 1 then bit s :: be 8 m else []) := rfl
  have hI : Hid (idL ⟨K, i, o, m, s, d⟩ = if 2 ≤ (K : Int) ∧ (K : Int) ≤ 5 then be 8 (i % 18446744073709551616).toNat else []) := rfl
  have hO : Hid (offL ⟨K, i, o, m, s, d⟩ = if (K : Int) = 2 ∨ (K : Int) = 6 ∨ (K : Int) = 7 then be 2 (o % 65536).toNat else []) := rfl
  generalize hd ⟨K, i, o, m, s, d⟩ = H at *
  generalize wasL ⟨K, i, o, m, s, d⟩ = LW at *
  generalize idL ⟨K, i, o, m, s, d⟩ = LI at *
  generalize offL ⟨K, i, o, m, s, d⟩ = LO at *
  generalize (i % 18446744073709551616).toNat = I at *
  generalize nameOf K = nm at *
  generalize partsOf K = p at *
  generalize offsOf K = of at *
  generalize leastOf K = l at *
  generalize mostOf K = u at *
  generalize isKind K = ok at *
  unfold shV at *
  by_cases h1 : K = 1
  · rw [decide_eq_true (by omega : (K : Int) = 1)] at qh1 qh2
    rw [decide_eq_false (by omega : ¬ (2 ≤ (K : Int) ∧ (K : Int) ≤ 5))] at qh4
    rw [decide_eq_false (by omega : ¬ ((K : Int) = 2 ∨ (K : Int) = 6 ∨ (K : Int) = 7))] at qh8
    replace hW : Hid (LW = _) := hW.out.trans (if_pos (by omega))
    replace hI : Hid (LI = _) := hI.out.trans (if_neg (by omega))
    replace hO : Hid (LO = _) := hO.out.trans (if_neg (by omega))
    clear h1
    replace hm : Hid (m < 18446744073709551616) := hm
    replace hi : Hid (I < 18446744073709551616) := hi
    go_enter Try.func25, Try.ntmps25
    go_wp2_with (first
      | (go_at_call 18; refine q.mono ?_; rintro e w1 ⟨rfl, hk1⟩; obtain ⟨hT0, hT, hR, hlo⟩ := t0.out w1 hk1; replace hlo : Hid (w.heap.size < w1.heap.size + 1) := hlo; obtain ⟨d0, d1, d2, d3, d4, d5⟩ := hT0.msg.six; obtain ⟨c0, c1, c2, c3, c4, c5⟩ := hT.msg.six; obtain ⟨s0, s1, s2, s3, s4⟩ := hT.shp.five; clear q hT0)
      | (go_at_call 19; refine (qh1 _).mono ?_; rintro e w2 ⟨rfl, hk2⟩; replace hT := hT.after hk2; replace hR := hR.kept hk2; obtain ⟨c0, c1, c2, c3, c4, c5⟩ := hT.msg.six; obtain ⟨s0, s1, s2, s3, s4⟩ := hT.shp.five; clear hk2 qh1)
      | (go_at_call 19; refine (qh2 _).mono ?_; rintro e w2 ⟨rfl, hk2⟩; replace hT := hT.after hk2; replace hR := hR.kept hk2; obtain ⟨c0, c1, c2, c3, c4, c5⟩ := hT.msg.six; obtain ⟨s0, s1, s2, s3, s4⟩ := hT.shp.five; clear hk2 qh2)
      | (go_at_call 19; refine (qh4 _).mono ?_; rintro e w2 ⟨rfl, hk2⟩; replace hT := hT.after hk2; replace hR := hR.kept hk2; obtain ⟨c0, c1, c2, c3, c4, c5⟩ := hT.msg.six; obtain ⟨s0, s1, s2, s3, s4⟩ := hT.shp.five; clear hk2 qh4)
      | (go_at_call 19; refine (qh8 _).mono ?_; rintro e w2 ⟨rfl, hk2⟩; replace hT := hT.after hk2; replace hR := hR.kept hk2; obtain ⟨c0, c1, c2, c3, c4, c5⟩ := hT.msg.six; obtain ⟨s0, s1, s2, s3, s4⟩ := hT.shp.five; clear hk2 qh8)
      | (go_at_call 33; refine (flag_any _ _).mono ?_; rintro e w3 ⟨rfl, rfl⟩)
      | (at_builtin; refine wpList_append_bytes rfl _ _ rfl (w1.heap.size + 1) _ _ _ _ [K] [bit s] rfl (World.ownsRow.alloc hR.row _) hR.byt rfl (one_row _ _ (bit_lt s)) (by simp) (Nat.le_trans hR.le (by simp)) ?_; intro sa5 cap5 w5 hB5 hR5 hg5; replace hT := (hT.after (kept_alloc [] _ _)).grown (World.ownsRow.alloc hR.row _) hg5 (Nat.le_of_lt hlo.out) hlo.out (Nat.lt_succ_self _); replace hR : Own w5 (w1.heap.size + 1) _ _ := ⟨hR5, app_byte hR.byt (one_byte (bit_lt s)), Nat.le_trans (Nat.le_trans hR.le (by simp)) hg5.size⟩; obtain ⟨c0, c1, c2, c3, c4, c5⟩ := hT.msg.six; obtain ⟨s0, s1, s2, s3, s4⟩ := hT.shp.five; clear hB5 hR5 hg5)
      | (go_at_call 34; refine (put64_row (w1.heap.size + 1) _ _ _ _ hR.row hR.byt (by simp) hm.out hR.le).mono ?_; rintro e w6 ⟨v6, rfl, hR6, hk6⟩; replace hT := hT.after hk6; replace hR : Own w6 (w1.heap.size + 1) _ _ := ⟨hR6, app_byte hR.byt (be_byte _ _), Nat.le_trans hR.le hk6.size⟩; obtain ⟨c0, c1, c2, c3, c4, c5⟩ := hT.msg.six; obtain ⟨s0, s1, s2, s3, s4⟩ := hT.shp.five; clear hk6 hR6))
    go_ret
    exact ⟨_, rfl, (hR.low (Nat.le_of_lt hlo.out)).is (by rw [hH.out, hW.out, hI.out, hO.out]; simp), hT.kept⟩
  · by_cases h2 : K = 2
    · rw [decide_eq_false (by omega : ¬ (K : Int) = 1)] at qh1 qh2
      rw [decide_eq_true (by omega : (2 ≤ (K : Int) ∧ (K : Int) ≤ 5))] at qh4
      rw [decide_eq_true (by omega : ((K : Int) = 2 ∨ (K : Int) = 6 ∨ (K : Int) = 7))] at qh8
      replace hW : Hid (LW = _) := hW.out.trans (if_neg (by omega))
      replace hI : Hid (LI = _) := hI.out.trans (if_pos (by omega))
      replace hO : Hid (LO = _) := hO.out.trans (if_pos (by omega))
      clear h1 h2
      replace hm : Hid (m < 18446744073709551616) := hm
      replace hi : Hid (I < 18446744073709551616) := hi
      go_enter Try.func25, Try.ntmps25
      go_wp2_with (first
        | (go_at_call 18; refine q.mono ?_; rintro e w1 ⟨rfl, hk1⟩; obtain ⟨hT0, hT, hR, hlo⟩ := t0.out w1 hk1; replace hlo : Hid (w.heap.size < w1.heap.size + 1) := hlo; obtain ⟨d0, d1, d2, d3, d4, d5⟩ := hT0.msg.six; obtain ⟨c0, c1, c2, c3, c4, c5⟩ := hT.msg.six; obtain ⟨s0, s1, s2, s3, s4⟩ := hT.shp.five; clear q hT0)
        | (go_at_call 19; refine (qh1 _).mono ?_; rintro e w2 ⟨rfl, hk2⟩; replace hT := hT.after hk2; replace hR := hR.kept hk2; obtain ⟨c0, c1, c2, c3, c4, c5⟩ := hT.msg.six; obtain ⟨s0, s1, s2, s3, s4⟩ := hT.shp.five; clear hk2 qh1)
        | (go_at_call 19; refine (qh2 _).mono ?_; rintro e w2 ⟨rfl, hk2⟩; replace hT := hT.after hk2; replace hR := hR.kept hk2; obtain ⟨c0, c1, c2, c3, c4, c5⟩ := hT.msg.six; obtain ⟨s0, s1, s2, s3, s4⟩ := hT.shp.five; clear hk2 qh2)
        | (go_at_call 19; refine (qh4 _).mono ?_; rintro e w2 ⟨rfl, hk2⟩; replace hT := hT.after hk2; replace hR := hR.kept hk2; obtain ⟨c0, c1, c2, c3, c4, c5⟩ := hT.msg.six; obtain ⟨s0, s1, s2, s3, s4⟩ := hT.shp.five; clear hk2 qh4)
        | (go_at_call 19; refine (qh8 _).mono ?_; rintro e w2 ⟨rfl, hk2⟩; replace hT := hT.after hk2; replace hR := hR.kept hk2; obtain ⟨c0, c1, c2, c3, c4, c5⟩ := hT.msg.six; obtain ⟨s0, s1, s2, s3, s4⟩ := hT.shp.five; clear hk2 qh8)
        | (go_at_call 34; refine (put64_row (w1.heap.size + 1) _ _ _ _ hR.row hR.byt (by simp) hi.out hR.le).mono ?_; rintro e w6 ⟨v6, rfl, hR6, hk6⟩; replace hT := hT.after hk6; replace hR : Own w6 (w1.heap.size + 1) _ _ := ⟨hR6, app_byte hR.byt (be_byte _ _), Nat.le_trans hR.le hk6.size⟩; obtain ⟨c0, c1, c2, c3, c4, c5⟩ := hT.msg.six; obtain ⟨s0, s1, s2, s3, s4⟩ := hT.shp.five; clear hk6 hR6)
        | (go_at_call 35; refine (put16_row (w1.heap.size + 1) _ _ _ _ hR.row hR.byt (by simp [be_length]) hR.le).mono ?_; rintro e w6 ⟨v6, rfl, hR6, hk6⟩; replace hT := hT.after hk6; replace hR : Own w6 (w1.heap.size + 1) _ _ := ⟨hR6, app_byte hR.byt (be_byte _ _), Nat.le_trans hR.le hk6.size⟩; obtain ⟨c0, c1, c2, c3, c4, c5⟩ := hT.msg.six; obtain ⟨s0, s1, s2, s3, s4⟩ := hT.shp.five; clear hk6 hR6))
      go_ret
      exact ⟨_, rfl, (hR.low (Nat.le_of_lt hlo.out)).is (by rw [hH.out, hW.out, hI.out, hO.out]; simp), hT.kept⟩
    · by_cases h3 : 3 ≤ K ∧ K ≤ 5
      · rw [decide_eq_false (by omega : ¬ (K : Int) = 1)] at qh1 qh2
        rw [decide_eq_true (by omega : (2 ≤ (K : Int) ∧ (K : Int) ≤ 5))] at qh4
        rw [decide_eq_false (by omega : ¬ ((K : Int) = 2 ∨ (K : Int) = 6 ∨ (K : Int) = 7))] at qh8
        replace hW : Hid (LW = _) := hW.out.trans (if_neg (by omega))
        replace hI : Hid (LI = _) := hI.out.trans (if_pos (by omega))
        replace hO : Hid (LO = _) := hO.out.trans (if_neg (by omega))
        clear h1 h2 h3
        replace hm : Hid (m < 18446744073709551616) := hm
        replace hi : Hid (I < 18446744073709551616) := hi
        go_enter Try.func25, Try.ntmps25
        go_wp2_with (first
          | (go_at_call 18; refine q.mono ?_; rintro e w1 ⟨rfl, hk1⟩; obtain ⟨hT0, hT, hR, hlo⟩ := t0.out w1 hk1; replace hlo : Hid (w.heap.size < w1.heap.size + 1) := hlo; obtain ⟨d0, d1, d2, d3, d4, d5⟩ := hT0.msg.six; obtain ⟨c0, c1, c2, c3, c4, c5⟩ := hT.msg.six; obtain ⟨s0, s1, s2, s3, s4⟩ := hT.shp.five; clear q hT0)
          | (go_at_call 19; refine (qh1 _).mono ?_; rintro e w2 ⟨rfl, hk2⟩; replace hT := hT.after hk2; replace hR := hR.kept hk2; obtain ⟨c0, c1, c2, c3, c4, c5⟩ := hT.msg.six; obtain ⟨s0, s1, s2, s3, s4⟩ := hT.shp.five; clear hk2 qh1)
          | (go_at_call 19; refine (qh2 _).mono ?_; rintro e w2 ⟨rfl, hk2⟩; replace hT := hT.after hk2; replace hR := hR.kept hk2; obtain ⟨c0, c1, c2, c3, c4, c5⟩ := hT.msg.six; obtain ⟨s0, s1, s2, s3, s4⟩ := hT.shp.five; clear hk2 qh2)
          | (go_at_call 19; refine (qh4 _).mono ?_; rintro e w2 ⟨rfl, hk2⟩; replace hT := hT.after hk2; replace hR := hR.kept hk2; obtain ⟨c0, c1, c2, c3, c4, c5⟩ := hT.msg.six; obtain ⟨s0, s1, s2, s3, s4⟩ := hT.shp.five; clear hk2 qh4)
          | (go_at_call 19; refine (qh8 _).mono ?_; rintro e w2 ⟨rfl, hk2⟩; replace hT := hT.after hk2; replace hR := hR.kept hk2; obtain ⟨c0, c1, c2, c3, c4, c5⟩ := hT.msg.six; obtain ⟨s0, s1, s2, s3, s4⟩ := hT.shp.five; clear hk2 qh8)
          | (go_at_call 34; refine (put64_row (w1.heap.size + 1) _ _ _ _ hR.row hR.byt (by simp) hi.out hR.le).mono ?_; rintro e w6 ⟨v6, rfl, hR6, hk6⟩; replace hT := hT.after hk6; replace hR : Own w6 (w1.heap.size + 1) _ _ := ⟨hR6, app_byte hR.byt (be_byte _ _), Nat.le_trans hR.le hk6.size⟩; obtain ⟨c0, c1, c2, c3, c4, c5⟩ := hT.msg.six; obtain ⟨s0, s1, s2, s3, s4⟩ := hT.shp.five; clear hk6 hR6))
        go_ret
        exact ⟨_, rfl, (hR.low (Nat.le_of_lt hlo.out)).is (by rw [hH.out, hW.out, hI.out, hO.out]; simp), hT.kept⟩
      · by_cases h6 : K = 6 ∨ K = 7
        · rw [decide_eq_false (by omega : ¬ (K : Int) = 1)] at qh1 qh2
          rw [decide_eq_false (by omega : ¬ (2 ≤ (K : Int) ∧ (K : Int) ≤ 5))] at qh4
          rw [decide_eq_true (by omega : ((K : Int) = 2 ∨ (K : Int) = 6 ∨ (K : Int) = 7))] at qh8
          replace hW : Hid (LW = _) := hW.out.trans (if_neg (by omega))
          replace hI : Hid (LI = _) := hI.out.trans (if_neg (by omega))
          replace hO : Hid (LO = _) := hO.out.trans (if_pos (by omega))
          clear h1 h2 h3 h6
          replace hm : Hid (m < 18446744073709551616) := hm
          replace hi : Hid (I < 18446744073709551616) := hi
          go_enter Try.func25, Try.ntmps25
          go_wp2_with (first
            | (go_at_call 18; refine q.mono ?_; rintro e w1 ⟨rfl, hk1⟩; obtain ⟨hT0, hT, hR, hlo⟩ := t0.out w1 hk1; replace hlo : Hid (w.heap.size < w1.heap.size + 1) := hlo; obtain ⟨d0, d1, d2, d3, d4, d5⟩ := hT0.msg.six; obtain ⟨c0, c1, c2, c3, c4, c5⟩ := hT.msg.six; obtain ⟨s0, s1, s2, s3, s4⟩ := hT.shp.five; clear q hT0)
            | (go_at_call 19; refine (qh1 _).mono ?_; rintro e w2 ⟨rfl, hk2⟩; replace hT := hT.after hk2; replace hR := hR.kept hk2; obtain ⟨c0, c1, c2, c3, c4, c5⟩ := hT.msg.six; obtain ⟨s0, s1, s2, s3, s4⟩ := hT.shp.five; clear hk2 qh1)
            | (go_at_call 19; refine (qh2 _).mono ?_; rintro e w2 ⟨rfl, hk2⟩; replace hT := hT.after hk2; replace hR := hR.kept hk2; obtain ⟨c0, c1, c2, c3, c4, c5⟩ := hT.msg.six; obtain ⟨s0, s1, s2, s3, s4⟩ := hT.shp.five; clear hk2 qh2)
            | (go_at_call 19; refine (qh4 _).mono ?_; rintro e w2 ⟨rfl, hk2⟩; replace hT := hT.after hk2; replace hR := hR.kept hk2; obtain ⟨c0, c1, c2, c3, c4, c5⟩ := hT.msg.six; obtain ⟨s0, s1, s2, s3, s4⟩ := hT.shp.five; clear hk2 qh4)
            | (go_at_call 19; refine (qh8 _).mono ?_; rintro e w2 ⟨rfl, hk2⟩; replace hT := hT.after hk2; replace hR := hR.kept hk2; obtain ⟨c0, c1, c2, c3, c4, c5⟩ := hT.msg.six; obtain ⟨s0, s1, s2, s3, s4⟩ := hT.shp.five; clear hk2 qh8)
            | (go_at_call 35; refine (put16_row (w1.heap.size + 1) _ _ _ _ hR.row hR.byt (by simp) hR.le).mono ?_; rintro e w6 ⟨v6, rfl, hR6, hk6⟩; replace hT := hT.after hk6; replace hR : Own w6 (w1.heap.size + 1) _ _ := ⟨hR6, app_byte hR.byt (be_byte _ _), Nat.le_trans hR.le hk6.size⟩; obtain ⟨c0, c1, c2, c3, c4, c5⟩ := hT.msg.six; obtain ⟨s0, s1, s2, s3, s4⟩ := hT.shp.five; clear hk6 hR6))
          go_ret
          exact ⟨_, rfl, (hR.low (Nat.le_of_lt hlo.out)).is (by rw [hH.out, hW.out, hI.out, hO.out]; simp), hT.kept⟩
        · rw [decide_eq_false (by omega : ¬ (K : Int) = 1)] at qh1 qh2
          rw [decide_eq_false (by omega : ¬ (2 ≤ (K : Int) ∧ (K : Int) ≤ 5))] at qh4
          rw [decide_eq_false (by omega : ¬ ((K : Int) = 2 ∨ (K : Int) = 6 ∨ (K : Int) = 7))] at qh8
          replace hW : Hid (LW = _) := hW.out.trans (if_neg (by omega))
          replace hI : Hid (LI = _) := hI.out.trans (if_neg (by omega))
          replace hO : Hid (LO = _) := hO.out.trans (if_neg (by omega))
          clear h1 h2 h3 h6
          replace hm : Hid (m < 18446744073709551616) := hm
          replace hi : Hid (I < 18446744073709551616) := hi
          go_enter Try.func25, Try.ntmps25
          go_wp2_with (first
            | (go_at_call 18; refine q.mono ?_; rintro e w1 ⟨rfl, hk1⟩; obtain ⟨hT0, hT, hR, hlo⟩ := t0.out w1 hk1; replace hlo : Hid (w.heap.size < w1.heap.size + 1) := hlo; obtain ⟨d0, d1, d2, d3, d4, d5⟩ := hT0.msg.six; obtain ⟨c0, c1, c2, c3, c4, c5⟩ := hT.msg.six; obtain ⟨s0, s1, s2, s3, s4⟩ := hT.shp.five; clear q hT0)
            | (go_at_call 19; refine (qh1 _).mono ?_; rintro e w2 ⟨rfl, hk2⟩; replace hT := hT.after hk2; replace hR := hR.kept hk2; obtain ⟨c0, c1, c2, c3, c4, c5⟩ := hT.msg.six; obtain ⟨s0, s1, s2, s3, s4⟩ := hT.shp.five; clear hk2 qh1)
            | (go_at_call 19; refine (qh2 _).mono ?_; rintro e w2 ⟨rfl, hk2⟩; replace hT := hT.after hk2; replace hR := hR.kept hk2; obtain ⟨c0, c1, c2, c3, c4, c5⟩ := hT.msg.six; obtain ⟨s0, s1, s2, s3, s4⟩ := hT.shp.five; clear hk2 qh2)
            | (go_at_call 19; refine (qh4 _).mono ?_; rintro e w2 ⟨rfl, hk2⟩; replace hT := hT.after hk2; replace hR := hR.kept hk2; obtain ⟨c0, c1, c2, c3, c4, c5⟩ := hT.msg.six; obtain ⟨s0, s1, s2, s3, s4⟩ := hT.shp.five; clear hk2 qh4)
            | (go_at_call 19; refine (qh8 _).mono ?_; rintro e w2 ⟨rfl, hk2⟩; replace hT := hT.after hk2; replace hR := hR.kept hk2; obtain ⟨c0, c1, c2, c3, c4, c5⟩ := hT.msg.six; obtain ⟨s0, s1, s2, s3, s4⟩ := hT.shp.five; clear hk2 qh8))
          go_ret
          exact ⟨_, rfl, (hR.low (Nat.le_of_lt hlo.out)).is (by rw [hH.out, hW.out, hI.out, hO.out]; simp), hT.kept⟩
end Go.Proofs.Ytlbgpnodpbjkoaa.Pack
