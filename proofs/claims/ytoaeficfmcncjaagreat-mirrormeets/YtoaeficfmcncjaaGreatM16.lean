/-
 Rows of writes, from any place of their block on: append, cuts, what moves within.
-/
import Derived.Test.YtoaeficfmcncjaaGreatM15
namespace Go.Proofs.YtoaeficfmcncjaaGreat.Later
open Go.RowKit
def cellsL (xs : List Lv) : List Value := xs.flatMap Lv.cells
theorem cellsL_append (A B : List Lv) : cellsL (A ++ B) = cellsL A ++ cellsL B := by simp [cellsL]
theorem cellsL_length (xs : List Lv) : (cellsL xs).length = xs.length * 4 := by
 induction xs with
 | nil => rfl
 | cons x xs ih =>
  show (x.cells ++ cellsL xs).length = _
  rw [List.length_append, ih, List.length_cons, Lv.cells_length]
  omega
theorem cellsL_one (xs : List Lv) : ∀ v ∈ cellsL xs, v.oneCell' = true := fun v hv => by
 obtain ⟨x, _, hx⟩ := List.mem_flatMap.1 hv
 exact x.cells_one v hx
theorem cellsL_at : ∀ (xs : List Lv) (i : Nat) (x : Lv), xs[i]? = some x → ∀ c, c < 4 → (cellsL xs)[i * 4 + c]? = x.cells[c]?
 | [], i, x, h, _, _ => by simp at h
 | y :: xs, 0, x, h, c, hc => by
  simp at h
  subst h
  show (y.cells ++ cellsL xs)[0 * 4 + c]? = _
  rw [Nat.zero_mul, Nat.zero_add, List.getElem?_append_left (by rw [Lv.cells_length]; omega)]
 | y :: xs, i + 1, x, h, c, hc => by
  show (y.cells ++ cellsL xs)[(i + 1) * 4 + c]? = _
  have e : (i + 1) * 4 + c = y.cells.length + (i * 4 + c) := by rw [Lv.cells_length]; omega
  rw [e, List.getElem?_append_right (by omega), Nat.add_sub_cancel_left]
  exact cellsL_at xs i x (by simpa using h) c hc
theorem cellsL_back (L : List Lv) (q : Nat) (v : Value) (h : (cellsL L)[q]? = some v) : ∃ x, L[q / 4]? = some x ∧ x.cells[q % 4]? = some v := by
 have hq : q < L.length * 4 := by
  have := (List.getElem?_eq_some_iff.1 h).1
  rwa [cellsL_length] at this
 have hlt : q / 4 < L.length := by omega
 refine ⟨L[q / 4], List.getElem?_eq_getElem hlt, ?_⟩
 have := cellsL_at L (q / 4) _ (List.getElem?_eq_getElem hlt) (q % 4) (by omega)
 rw [show q / 4 * 4 + q % 4 = q by omega, h] at this
 exact this.symm
structure Kind (ty sty : TypeId) : Prop where
 und : Tryz.prog.underlying sty = some (.slice ty)
 info : (Tryz.prog.info? ty).map (fun i => (i.zero, i.size, i.bytes)) = some (some (.agg #[.int .i64 0, .int .i64 0, .int .i64 0, .slice none 0 0]), 4, 48)
 elem : Tryz.prog.underlying sty = some (.slice (Tryz.prog.elem sty))
 size : ∀ w, (sizeOf (Tryz.prog.elem sty)).run Tryz.prog w = .ok 4 w
 word : (Tryz.prog.info? sty).map (·.size) = some 1
theorem kindP : Kind 152 165 := ⟨Tryz.underlying165, by kernel_rfl, by kernel_rfl, fun w => by kernel_rfl, by kernel_rfl⟩
set_option maxRecDepth 100000 in
theorem Kind.four {ty sty : TypeId} (h : Kind ty sty) : (Tryz.prog.info? ty).map (·.size) = some 4 := by
 obtain ⟨i0, hi, _, h1, _⟩ := info_parts h.info
 rw [hi]
 simp [h1]
def Lie (cur : Array Value) (off : Nat) (P : List Lv) : Prop := ∀ j x, P[j]? = some x → ∀ c, c < 4 → cur[off + j * 4 + c]? = x.cells[c]?
theorem Lie.cells {cur : Array Value} {off : Nat} {P : List Lv} (h : Lie cur off P) (q : Nat) (v : Value) (hv : (cellsL P)[q]? = some v) : cur[off + q]? = some v := by
 obtain ⟨x, h1, h2⟩ := cellsL_back P q v hv
 have := h (q / 4) x h1 (q % 4) (by omega)
 rw [show off + q / 4 * 4 + q % 4 = off + q by omega, h2] at this
 exact this
def RowAt (ty : TypeId) (base : Nat) (W : World) (v : Value) (P : List Lv) (gr : Option Nat) : Prop :=
 ∃ a cap, v = .slice a P.length cap ∧ P.length ≤ cap ∧ cap ≤ maxLen ∧
  ((a = none ∧ cap = 0 ∧ gr = none) ∨ ∃ g off cur, a = some ⟨g, off, none⟩ ∧ gr = some g ∧ base ≤ g ∧ Blk W g ty cur ∧ off + cap * 4 ≤ cur.size ∧ Lie cur off P)
theorem row_nil (ty : TypeId) (base : Nat) (W : World) : RowAt ty base W (.slice none 0 0) [] none := ⟨none, 0, rfl, Nat.le_refl _, by unfold maxLen; omega, .inl ⟨rfl, rfl, rfl⟩⟩
theorem RowAt.kept {ty : TypeId} {K : List Nat} {A B : World} {base : Nat} {v : Value} {P : List Lv} {gr : Option Nat} (h : RowAt ty base A v P gr) (hk : Kept K A B) (hg : ∀ g, gr = some g → g ∉ K) : RowAt ty base B v P gr := by
 obtain ⟨a, cap, e, h1, h2, h3 | ⟨g, off, cur, e1, e2, h4, h5, h6, h7⟩⟩ := h
 ·exact ⟨a, cap, e, h1, h2, .inl h3⟩
 ·exact ⟨a, cap, e, h1, h2, .inr ⟨g, off, cur, e1, e2, h4, h5.kept hk (hg g e2), h6, h7⟩⟩
theorem RowAt.kept0 {ty : TypeId} {A B : World} {base : Nat} {v : Value} {P : List Lv} {gr : Option Nat} (h : RowAt ty base A v P gr) (hk : Kept [] A B) : RowAt ty base B v P gr := h.kept hk (fun _ _ => by simp)
theorem RowAt.mono {ty : TypeId} {W : World} {base base' : Nat} {v : Value} {P : List Lv} {gr : Option Nat} (h : RowAt ty base W v P gr) (hb : base' ≤ base) : RowAt ty base' W v P gr := by
 obtain ⟨a, cap, e, h1, h2, h3 | ⟨g, off, cur, e1, e2, h4, h5⟩⟩ := h
 ·exact ⟨a, cap, e, h1, h2, .inl h3⟩
 ·exact ⟨a, cap, e, h1, h2, .inr ⟨g, off, cur, e1, e2, by omega, h5⟩⟩
theorem RowAt.low {ty : TypeId} {base : Nat} {W : World} {v : Value} {P : List Lv} {gr : Option Nat} (h : RowAt ty base W v P gr) : ∀ g, gr = some g → base ≤ g ∧ g < W.heap.size ∧ ∃ cur, Blk W g ty cur := fun g hg => by
 obtain ⟨a, cap, e, h1, h2, ⟨_, _, h3⟩ | ⟨g', off, cur, e1, e2, h4, h5, h6, h7⟩⟩ := h
 ·rw [h3] at hg
  cases hg
 ·rw [e2] at hg
  injection hg with hg
  subst hg
  exact ⟨h4, h5.lt, cur, h5⟩
theorem RowAt.open {ty : TypeId} {base : Nat} {W : World} {v : Value} {P : List Lv} {gr : Option Nat} (h : RowAt ty base W v P gr) : ∃ a cap, v = .slice a P.length cap ∧ P.length ≤ cap ∧ cap ≤ 9223372036854775807 := by
 obtain ⟨a, cap, e, h1, h2, _⟩ := h
 unfold maxLen at h2
 exact ⟨a, cap, e, h1, by omega⟩
theorem RowAt.at {ty : TypeId} {base : Nat} {W : World} {a : Option Addr} {n cap : Nat} {P : List Lv} {gr : Option Nat} (h : RowAt ty base W (.slice a n cap) P gr) {j : Nat} {x : Lv} (hj : P[j]? = some x) :
  ∃ g off, a = some ⟨g, off, none⟩ ∧ gr = some g ∧ ∀ K V, Kept K W V → g ∉ K → V.cell? ⟨g, off + j * 4, none⟩ = some (.int .i64 x.id) ∧ V.cell? ⟨g, off + j * 4 + 1, none⟩ = some (.int .i64 x.o) ∧ V.cell? ⟨g, off + j * 4 + 2, none⟩ = some (.int .i64 x.l) ∧ V.cell? ⟨g, off + j * 4 + 3, none⟩ = some (.slice x.sa x.len x.cap) := by
 obtain ⟨a', cap', e, h1, h2, ⟨h3, h4, _⟩ | ⟨g, off, cur, e1, e2, h4, h5, h6, h7⟩⟩ := h
 ·have := (List.getElem?_eq_some_iff.1 hj).1
  omega
 ·injection e with e3 _ _
  refine ⟨g, off, e3.trans e1, e2, fun K V hk hg => ?_⟩
  have hv := h5.kept hk hg
  exact ⟨(hv.cell _).trans (h7 j x hj 0 (by omega)), (hv.cell _).trans (h7 j x hj 1 (by omega)), (hv.cell _).trans (h7 j x hj 2 (by omega)), (hv.cell _).trans (h7 j x hj 3 (by omega))⟩
theorem row_owns {ty : TypeId} {W : World} {base : Nat} {v : Value} {P : List Lv} (h : W.ownsRow base ty 4 v P.length (cellsL P)) : ∃ gr, RowAt ty base W v P gr := by
 obtain ⟨_, ⟨rfl, h0⟩ | ⟨g, cap, cur, rfl, hb, hg, h1, h2, h3, h4⟩⟩ := h
 ·have : P = [] := List.eq_nil_of_length_eq_zero h0
  subst this
  exact ⟨none, row_nil ty base W⟩
 ·refine ⟨some g, some ⟨g, 0, none⟩, cap, rfl, h1, h2, .inr ⟨g, 0, cur, rfl, rfl, hb, hg, by omega, fun j x hj c hc => ?_⟩⟩
  have hl := (List.getElem?_eq_some_iff.1 hj).1
  rw [Nat.zero_add, ← cellsL_at P j x hj c hc, ← h4, List.getElem?_take, if_pos (by omega), Array.getElem?_toList]
theorem blk_setCells {g : Nat} {t : TypeId} : ∀ (vs : List Value) (o : Nat) (W : World) (cur : Array Value), Blk W g t cur → o + vs.length ≤ cur.size →
  ∃ cur', Blk (W.setCells g o vs) g t cur' ∧ cur'.size = cur.size ∧ (∀ i, i < o ∨ o + vs.length ≤ i → cur'[i]? = cur[i]?) ∧ (∀ j, j < vs.length → cur'[o + j]? = vs[j]?) ∧ Kept [g] W (W.setCells g o vs)
 | [], o, W, cur, hb, _ => ⟨cur, hb, rfl, fun _ _ => rfl, fun j hj => by simp at hj, Kept.refl _ _⟩
 | v :: r, o, W, cur, hb, hs => by
  simp at hs
  obtain ⟨cur', h1, h2, h3, h4, h5⟩ := blk_setCells r (o + 1) _ _ (hb.set o v) (by simp; omega)
  refine ⟨cur', h1, by simpa using h2, fun i hi => ?_, fun j hj => ?_, (kept_set (by simp) _ _ _).trans h5⟩
  ·simp at hi
   rw [h3 i (by omega), Array.getElem?_setIfInBounds, if_neg (by omega)]
  ·cases j with
   | zero =>
    rw [h3 (o + 0) (by omega), Nat.add_zero, Array.getElem?_setIfInBounds_self_of_lt (by omega)]
    rfl
   | succ j =>
    have := h4 j (by simpa using hj)
    rw [show o + (j + 1) = o + 1 + j by omega, this]
    rfl
set_option maxRecDepth 100000 in
theorem run_append_row {ty sty : TypeId} (kd : Kind ty sty) (base : Nat) (v : Value) (P K : List Lv) (gr : Option Nat) (w : World) (rt : TypeId) (ad : Addr) (ucap : Nat) (h : RowAt ty base w v P gr)
  (hu : ∀ j u, (cellsL K)[j]? = some u → w.cell? (ad.add j) = some u) (hlen : P.length + K.length ≤ 1000000) (hb : base ≤ w.heap.size) :
  ∃ sa n cap w' gr', (Builtin.append_ #[sty, sty] rt #[v, .slice (some ad) K.length ucap]).run Tryz.prog w = .ok (.slice sa n cap) w' ∧ RowAt ty base w' (.slice sa n cap) (P ++ K) gr' ∧ Kept gr.toList w w' ∧ (∀ g, gr' = some g → gr = some g ∨ w.heap.size ≤ g) := by
 obtain ⟨i0, hi0, hz0, hz1, hz2⟩ := info_parts kd.info
 have grown : ∀ v' w', w'.ownsRow w.heap.size ty 4 v' (P.length + K.length) (cellsL P ++ cellsL K) → w.grownBy w' none → (Builtin.append_ #[sty, sty] rt #[v, .slice (some ad) K.length ucap]).run Tryz.prog w = .ok v' w' →
   ∃ sa n cap w' gr', (Builtin.append_ #[sty, sty] rt #[v, .slice (some ad) K.length ucap]).run Tryz.prog w = .ok (.slice sa n cap) w' ∧ RowAt ty base w' (.slice sa n cap) (P ++ K) gr' ∧ Kept gr.toList w w' ∧ (∀ g, gr' = some g → gr = some g ∨ w.heap.size ≤ g) := fun v' w' ho hg hr => by
  obtain ⟨gr', hro⟩ := row_owns (P := P ++ K) (by rw [List.length_append, cellsL_append]; exact ho)
  obtain ⟨a', cap', e, _⟩ := id hro
  subst e
  exact ⟨a', _, cap', w', gr', hr, hro.mono hb, (kept_none hg).mono (by simp), fun g hgg => .inr (hro.low g hgg).1⟩
 obtain ⟨a, cap, rfl, hc1, hc2, ⟨rfl, rfl, rfl⟩ | ⟨g, off, cur, rfl, rfl, hbg, hblk, hfit, hcell⟩⟩ := id h
 ·obtain rfl : P = [] := List.eq_nil_of_length_eq_zero (by omega)
  obtain ⟨v', w', hr, h3, h4, _⟩ := run_append_own_at (P := Tryz.prog) w w.heap.size sty rt ty i0 (.agg #[.int .i64 0, .int .i64 0, .int .i64 0, .slice none 0 0]) 4 48 kd.und hi0 hz0 hz1 hz2 rfl (by decide) (.slice none 0 0) 0 [] (World.ownsRow_nil w _ _ _) ad K.length ucap (cellsL K) (cellsL_length K) hu (cellsL_one K) (by unfold maxLen; omega) (by omega) (Nat.le_refl _)
  exact grown v' w' (by simpa [cellsL] using h3) (by simpa [Value.ownBlock] using h4) hr
 ·by_cases hroom : P.length + K.length ≤ cap
  ·have hkl := cellsL_length K
   have hr := run_append_room_cells (P := Tryz.prog) w sty rt ty i0 kd.und hi0 g off P.length cap ad K.length ucap (cellsL K) (by rw [hz1, hkl]) hu (cellsL_one K) hroom (fun j hj => by
    rw [hblk.cell, hz1]
    have : off + P.length * 4 + j < cur.size := by omega
    simpa using this) (fun j _ => hblk.frozen _)
   rw [hz1] at hr
   obtain ⟨cur', b1, b2, b3, b4, b5⟩ := blk_setCells (cellsL K) (off + P.length * 4) w cur hblk (by omega)
   refine ⟨_, _, _, _, some g, hr, ⟨some ⟨g, off, none⟩, cap, by rw [List.length_append], by rw [List.length_append]; exact hroom, hc2, .inr ⟨g, off, cur', rfl, rfl, hbg, b1, by omega, fun j x hj c hc => ?_⟩⟩, b5.mono (by simp), fun g' hg' => .inl hg'⟩
   by_cases hjl : j < P.length
   ·rw [List.getElem?_append_left hjl] at hj
    rw [b3 _ (by omega)]
    exact hcell j x hj c hc
   ·rw [List.getElem?_append_right (by omega)] at hj
    have hjk := (List.getElem?_eq_some_iff.1 hj).1
    have := b4 ((j - P.length) * 4 + c) (by omega)
    rw [show off + P.length * 4 + ((j - P.length) * 4 + c) = off + j * 4 + c by omega] at this
    rw [this]
    exact cellsL_at K _ x hj c hc
  ·obtain ⟨v', w', hr, h3, h4⟩ := run_append_arg_grows (P := Tryz.prog) w sty rt ty i0 (.agg #[.int .i64 0, .int .i64 0, .int .i64 0, .slice none 0 0]) 4 48 kd.und hi0 hz0 hz1 hz2 rfl (by decide) ⟨g, off, none⟩ P.length cap (cellsL P) (cellsL_length P) (fun j u hj => by
    rw [Go.WideShapes.add_plain, hblk.cell]
    exact hcell.cells j u hj) ad K.length ucap (cellsL K) (cellsL_length K) hu (by omega) (by unfold maxLen; omega) (by omega)
   exact grown v' w' h3 h4 hr
theorem RowAt.cut {ty : TypeId} {base : Nat} {W : World} {a : Option Addr} {cap : Nat} {P : List Lv} {gr : Option Nat} (h : RowAt ty base W (.slice a P.length cap) P gr) (n m : Nat) (hn : n ≤ P.length) (hm : P.length ≤ m) (hmc : m ≤ cap) (h0 : 0 < P.length) :
  RowAt ty base W (sliced a n P.length m 4) (P.drop n) gr := by
 obtain ⟨a', cap', e, hc1, hc2, ⟨_, h4, _⟩ | ⟨g, off, cur, e1, e2, hbg, hblk, hfit, hcell⟩⟩ := h
 ·omega
 ·injection e with e3 _ e4
  subst e4
  rw [e1] at e3
  subst e3
  refine ⟨_, m - n, by rw [List.length_drop]; rfl, by rw [List.length_drop]; omega, by omega, .inr ?_⟩
  by_cases hmn : m = n
  ·refine ⟨g, off, cur, by rw [if_pos hmn], e2, hbg, hblk, by omega, fun j x hj => ?_⟩
   rw [List.drop_eq_nil_of_le (by omega)] at hj
   simp at hj
  ·refine ⟨g, off + n * 4, cur, by rw [if_neg hmn]; simp [Addr.add], e2, hbg, hblk, by omega, fun j x hj c hc => ?_⟩
   rw [List.getElem?_drop] at hj
   have := hcell (n + j) x hj c hc
   rwa [show off + (n + j) * 4 + c = off + n * 4 + j * 4 + c by omega] at this
def moved (P : List Lv) (k : Nat) : List Lv := P.take 1 ++ (P.take k ++ P.drop (k + 1))
theorem moved_length {P : List Lv} {k : Nat} (hk : k < P.length) : (moved P k).length = P.length := by simp [moved]; omega
theorem moved_at {P : List Lv} {k j : Nat} (hk : k < P.length) : (moved P k)[j]? = if j = 0 then P[0]? else if j ≤ k then P[j - 1]? else P[j]? := by
 unfold moved
 have h1 : (P.take 1).length = 1 := by simp; omega
 have hk' : (P.take k).length = k := by simp; omega
 by_cases h0 : j = 0
 ·subst h0
  rw [if_pos rfl, List.getElem?_append_left (by omega), List.getElem?_take, if_pos (by omega)]
 ·rw [if_neg h0, List.getElem?_append_right (by omega), h1]
  by_cases hj : j ≤ k
  ·rw [if_pos hj, List.getElem?_append_left (by omega), List.getElem?_take, if_pos (by omega)]
  ·rw [if_neg hj, List.getElem?_append_right (by omega), hk', List.getElem?_drop]
   congr 1
   omega
theorem moved_erase (P : List Lv) (k : Nat) : (moved P k).drop 1 = P.take k ++ P.drop (k + 1) ∨ P = [] := by
 cases P with
 | nil => exact .inr rfl
 | cons x P => exact .inl (by simp [moved])
set_option maxRecDepth 100000 in
theorem run_copy_move {ty sty : TypeId} (kd : Kind ty sty) {base : Nat} {w : World} {g off len cap : Nat} {P : List Lv} (h : RowAt ty base w (.slice (some ⟨g, off, none⟩) len cap) P (some g)) {k : Nat} (hk : k < len) (rt : TypeId) (d : Addr) (dc sc : Nat) (hd : 0 < k → d = ⟨g, off + 4, none⟩) :
  ∃ w', (Builtin.copy_ #[sty, sty] rt #[.slice (some d) k dc, .slice (some ⟨g, off, none⟩) k sc]).run Tryz.prog w = .ok (.int .i64 (k : Int)) w' ∧ RowAt ty base w' (.slice (some ⟨g, off, none⟩) len cap) (moved P k) (some g) ∧ Kept [g] w w' := by
 obtain ⟨a', cap', e, hc1, hc2, ⟨_, _, h4⟩ | ⟨g', off', cur, e1, e2, hbg, hblk, hfit, hcell⟩⟩ := id h
 ·cases h4
 ·injection e with e3 e4 e5
  rw [e1] at e3
  injection e3 with e3
  injection e3 with e6 e7 _
  subst e4 e5 e6 e7
  obtain ⟨i0, hi0, hz0, hz1, hz2⟩ := info_parts kd.info
  have hcl : (cellsL (P.take k)).length = k * 4 := by rw [cellsL_length, List.length_take, Nat.min_eq_left (by omega)]
  have hlie : Lie cur off (P.take k) := fun j x hj c hc => by
   rw [List.getElem?_take] at hj
   split at hj
   ·exact hcell j x hj c hc
   ·cases hj
  have hld := run_loadCells_list (P := Tryz.prog) w ⟨g, off, none⟩ (cellsL (P.take k)) (fun j v hj => by
   rw [Go.WideShapes.add_plain, hblk.cell]
   exact hlie.cells j v hj)
  rw [hcl] at hld
  by_cases h0 : k = 0
  ·subst h0
   have hmv : moved P 0 = P := by
    unfold moved
    rw [List.take_zero, List.nil_append, Nat.zero_add]
    exact List.take_append_drop 1 P
   refine ⟨w, ?_, by rw [hmv]; exact h, Kept.refl _ _⟩
   simp [Builtin.copy_, run_underlying kd.und, Builtin.lenOf, Builtin.firstCells, sizeOf, typeInfo, hi0, hld, goInt]
   simp [cellsL, storeCells]
  ·obtain rfl := hd (by omega)
   have hst := run_storeCells_cells (P := Tryz.prog) g (off + 4) (cellsL (P.take k)) 0 w (fun j hj => by
    rw [hblk.cell]
    have : off + 4 + 0 + j < cur.size := by omega
    simp [this]) (fun j _ => hblk.frozen _) (cellsL_one _)
   rw [Nat.add_zero] at hst
   obtain ⟨cur', b1, b2, b3, b4, b5⟩ := blk_setCells (cellsL (P.take k)) (off + 4) w cur hblk (by omega)
   refine ⟨w.setCells g (off + 4) (cellsL (P.take k)), ?_, ⟨some ⟨g, off, none⟩, cap, by rw [moved_length hk], by rw [moved_length hk]; exact hc1, hc2, .inr ⟨g, off, cur', rfl, rfl, hbg, b1, by omega, fun j x hj c hc => ?_⟩⟩, b5⟩
   ·simp [Builtin.copy_, run_underlying kd.und, Builtin.lenOf, Builtin.firstCells, sizeOf, typeInfo, hi0, hz1, hld, hst, goInt]
   ·rw [moved_at hk] at hj
    by_cases j0 : j = 0
    ·subst j0
     rw [if_pos rfl] at hj
     rw [b3 _ (by omega)]
     exact hcell 0 x hj c hc
    ·rw [if_neg j0] at hj
     by_cases jk : j ≤ k
     ·rw [if_pos jk] at hj
      have := b4 ((j - 1) * 4 + c) (by omega)
      rw [show off + 4 + ((j - 1) * 4 + c) = off + j * 4 + c by omega] at this
      rw [this]
      exact cellsL_at _ (j - 1) x (by rw [List.getElem?_take, if_pos (by omega)]; exact hj) c hc
     ·rw [if_neg jk] at hj
      rw [b3 _ (by omega)]
      exact hcell j x hj c hc
theorem RowAt.set {ty : TypeId} {base : Nat} {w : World} {g off len cap : Nat} {P : List Lv} (h : RowAt ty base w (.slice (some ⟨g, off, none⟩) len cap) P (some g)) {i : Nat} (hi : i < len) (z : Lv) :
  RowAt ty base (w.setCells g (off + i * 4) z.cells) (.slice (some ⟨g, off, none⟩) len cap) (P.set i z) (some g) ∧ Kept [g] w (w.setCells g (off + i * 4) z.cells) ∧ (∀ j, j < 4 → (w.cell? ⟨g, off + i * 4 + j, none⟩).isSome = true ∧ w.frozen? ⟨g, off + i * 4 + j, none⟩ = false) := by
 obtain ⟨a', cap', e, hc1, hc2, ⟨_, _, h4⟩ | ⟨g', off', cur, e1, e2, hbg, hblk, hfit, hcell⟩⟩ := id h
 ·cases h4
 ·injection e with e3 e4 e5
  rw [e1] at e3
  injection e3 with e3
  injection e3 with e6 e7 _
  subst e4 e5 e6 e7
  obtain ⟨cur', b1, b2, b3, b4, b5⟩ := blk_setCells z.cells (off + i * 4) w cur hblk (by rw [Lv.cells_length]; omega)
  rw [Lv.cells_length] at b3 b4
  refine ⟨⟨some ⟨g, off, none⟩, cap, by rw [List.length_set], by rw [List.length_set]; exact hc1, hc2, .inr ⟨g, off, cur', rfl, rfl, hbg, b1, by omega, fun j x hj c hc => ?_⟩⟩, b5, fun j hj => ⟨?_, hblk.frozen _⟩⟩
  ·by_cases hij : i = j
   ·subst hij
    rw [List.getElem?_set_self hi] at hj
    rw [← Option.some.inj hj]
    exact b4 c hc
   ·rw [List.getElem?_set_ne hij] at hj
    rw [b3 _ (by omega)]
    exact hcell j x hj c hc
  ·rw [hblk.cell]
   have : off + i * 4 + j < cur.size := by omega
   simp [this]
section
variable {ops : Array Oper} {rest : List Oper} {o : Oper} {a : Act} {w : World} {Q : Exit → Act → World → Prop}
section
set_option maxRecDepth 100000
theorem wpList_append_row {ty sty : TypeId} (kd : Kind ty sty) (hgd : o.guard = none) (s x : Operand) (ho : o.op = .call { callee := .builtin .append, args := #[s, x], argTypes := #[sty, sty] })
  (base : Nat) (v : Value) (P K : List Lv) (gr : Option Nat) (ad : Addr) (n ucap : Nat) (hs : a.eval s = v) (hx : a.eval x = .slice (some ad) n ucap) (hn : K.length = n) (hr : RowAt ty base w v P gr) (hu : ∀ j u, (cellsL K)[j]? = some u → w.cell? (ad.add j) = some u) (hlen : P.length + K.length ≤ 1000000) (hb : base ≤ w.heap.size)
  (h : ∀ sa n cap w' gr', RowAt ty base w' (.slice sa n cap) (P ++ K) gr' → Kept gr.toList w w' → (∀ g, gr' = some g → gr = some g ∨ w.heap.size ≤ g) → wpList Tryz.prog ops Q rest (a.put o.dst (.slice sa n cap)) w') : wpList Tryz.prog ops Q (o :: rest) a w := by
 subst hn
 refine wpList_plain hgd fun K' hK' => ?_
 obtain ⟨sa, n, cap, w', gr', hrun, h1, h2, h3⟩ := run_append_row kd base v P K gr w o.type ad ucap hr hu hlen hb
 unfold Oper.wp
 simp [execOp, ho, resolve, invoke, builtin, hs, hx, hrun, Result.andThen]
 exact hK' _ _ (h sa n cap w' gr' h1 h2 h3)
theorem step_append_row {ty sty : TypeId} (kd : Kind ty sty) {KK : Act → World → Prop} {E : Prop} (hgd : o.guard = none) (s x : Operand) (ho : o.op = .call { callee := .builtin .append, args := #[s, x], argTypes := #[sty, sty] })
  (base : Nat) (v : Value) (P K : List Lv) (gr : Option Nat) (ad : Addr) (n ucap : Nat) (hs : a.eval s = v) (hx : a.eval x = .slice (some ad) n ucap) (hn : K.length = n) (hr : RowAt ty base w v P gr) (hu : ∀ j u, (cellsL K)[j]? = some u → w.cell? (ad.add j) = some u) (hlen : P.length + K.length ≤ 1000000) (hb : base ≤ w.heap.size)
  (h : ∀ sa n cap w' gr', RowAt ty base w' (.slice sa n cap) (P ++ K) gr' → Kept gr.toList w w' → (∀ g, gr' = some g → gr = some g ∨ w.heap.size ≤ g) → KK (a.put o.dst (.slice sa n cap)) w') :
  if Region.wanted o (yielded ops a.tmps) = true then Oper.wp Tryz.prog o a w KK Q else E := by
 subst hn
 have hw : Region.wanted o (yielded ops a.tmps) = true := by simp [Region.wanted, hgd]
 rw [if_pos hw]
 obtain ⟨sa, n, cap, w', gr', hrun, h1, h2, h3⟩ := run_append_row kd base v P K gr w o.type ad ucap hr hu hlen hb
 unfold Oper.wp execOp
 simp only [ho, resolve, invoke, builtin, Sem.run_bind, Sem.run_pure, Result.andThen_ok, List.map_toArray, List.map_cons, List.map_nil, hs, hx, hrun]
 exact h sa n cap w' gr' h1 h2 h3
theorem step_copy_move {ty sty : TypeId} (kd : Kind ty sty) {KK : Act → World → Prop} {E : Prop} (hgd : o.guard = none) (d s : Operand) (ho : o.op = .call { callee := .builtin .copy, args := #[d, s], argTypes := #[sty, sty] })
  (base g off len cap k : Nat) (P : List Lv) (da : Addr) (dc sc : Nat) (hd : a.eval d = .slice (some da) k dc) (hs : a.eval s = .slice (some ⟨g, off, none⟩) k sc) (hda : 0 < k → da = ⟨g, off + 4, none⟩) (hr : RowAt ty base w (.slice (some ⟨g, off, none⟩) len cap) P (some g)) (hk : k < len)
  (h : ∀ w', RowAt ty base w' (.slice (some ⟨g, off, none⟩) len cap) (moved P k) (some g) → Kept [g] w w' → KK (a.put o.dst (.int .i64 (k : Int))) w') :
  if Region.wanted o (yielded ops a.tmps) = true then Oper.wp Tryz.prog o a w KK Q else E := by
 have hw : Region.wanted o (yielded ops a.tmps) = true := by simp [Region.wanted, hgd]
 rw [if_pos hw]
 obtain ⟨w', hrun, h1, h2⟩ := run_copy_move kd hr hk o.type da dc sc hda
 unfold Oper.wp execOp
 simp only [ho, resolve, invoke, builtin, Sem.run_bind, Sem.run_pure, Result.andThen_ok, List.map_toArray, List.map_cons, List.map_nil, hd, hs, hrun]
 exact h w' h1 h2
theorem wpList_store_row {ty sty : TypeId} (kd : Kind ty sty) (hgd : o.guard = none) (x y : Operand) (ho : o.op = .store ty x y) (base g off len cap i : Nat) (P : List Lv) (z : Lv) (p : Nat) (hx : a.eval x = .pointer (some ⟨g, p, none⟩)) (hp : p = off + i * 4) (hy : a.eval y = z.val) (h0 : RowAt ty base w (.slice (some ⟨g, off, none⟩) len cap) P (some g)) (hi : i < len)
  (h : ∀ w', RowAt ty base w' (.slice (some ⟨g, off, none⟩) len cap) (P.set i z) (some g) → Kept [g] w w' → wpList Tryz.prog ops Q rest (a.put o.dst undef) w') : wpList Tryz.prog ops Q (o :: rest) a w := by
 subst hp
 obtain ⟨r1, r2, r3⟩ := h0.set hi z
 exact wpList_store_mid hgd ty x y ho g (off + i * 4) z.cells.toArray hx hy (fun j hj => r3 j (by simpa [Lv.cells] using hj)) (by simpa [Lv.cells] using kd.four) (all_oneCell_toArray z.cells_one) (h _ r1 r2)
theorem wpList_cut {ty sty : TypeId} (kd : Kind ty sty) (hgd : o.guard = none) (x y z t : Operand) (ho : o.op = .slice sty x (some y) (some z) (some t)) (base : Nat) (sa : Option Addr) (n cap k m : Nat) (P : List Lv) (gr : Option Nat) (hx : a.eval x = .slice sa n cap) (hy : a.eval y = .int .i64 (k : Int)) (hz : a.eval z = .int .i64 (n : Int)) (ht : a.eval t = .int .i64 (m : Int)) (h : RowAt ty base w (.slice sa n cap) P gr) (h0 : 0 < P.length) (hk : k ≤ P.length) (hm : P.length ≤ m) (hmc : m ≤ cap)
  (hK : ∀ sa' n' cap', RowAt ty base w (.slice sa' n' cap') (P.drop k) gr → wpList Tryz.prog ops Q rest (a.put o.dst (.slice sa' n' cap')) w) : wpList Tryz.prog ops Q (o :: rest) a w := by
 refine wpList_plain hgd fun K' hK' => ?_
 obtain ⟨a', cap', e, h1, _⟩ := id h
 injection e with e1 e2 e3
 subst e1 e2 e3
 have hrun : (Instr.sliceAt sty (.slice sa P.length cap) (some (.int .i64 (k : Int))) (some (.int .i64 (P.length : Int))) (some (.int .i64 (m : Int)))).run Tryz.prog w = .ok (sliced sa k P.length m 4) w := by
  rw [run_sliceAt_slice _ _ _ _ _ _ kd.elem, run_slice_lhm _ _ _ _ _ kd.elem _ _ _ _ _ _ (by omega) (by omega) (by omega) (by omega), kd.size]
  simp [Result.andThen]
 have hc := h.cut k m hk hm hmc h0
 unfold Oper.wp
 simp only [execOp, ho, hx, hy, hz, ht, Option.map_some, Sem.run_bind, hrun, Result.andThen_ok, Sem.run_pure]
 exact hK' _ _ (hK _ _ _ hc)
theorem wpList_store_cell (hgd : o.guard = none) (ty : TypeId) (x y : Operand) (ho : o.op = .store ty x y) (g j : Nat) (t : TypeId) (cs : Array Value) (v : Value)
  (hx : a.eval x = .pointer (some ⟨g, j, none⟩)) (hy : a.eval y = v) (h0 : Blk w g t cs) (hj : j < cs.size) (hi : (Tryz.prog.info? ty).map (·.size) = some 1) (h1 : v.oneCell' = true)
  (h : ∀ w', Blk w' g t (cs.setIfInBounds j v) → Kept [g] w w' → wpList Tryz.prog ops Q rest (a.put o.dst undef) w') : wpList Tryz.prog ops Q (o :: rest) a w := by
 refine wpList_plain hgd fun K' hK' => ?_
 have hrun := run_storeCells_cells (P := Tryz.prog) g j [v] 0 w (fun i hi => by
  have : i = 0 := by simpa using hi
  subst this
  show (w.cell? ⟨g, j, none⟩).isSome = true
  rw [h0.cell]
  simp [hj]) (fun i hi => h0.frozen _) (fun u hu => by simp at hu; subst hu; exact h1)
 have hc : v.cells = #[v] := by cases v <;> first | rfl | cases h1
 have hs : (storeVar ty ⟨g, j, none⟩ v).run Tryz.prog w = .ok () (w.setCell ⟨g, j, none⟩ v) := by
  cases hq : Tryz.prog.info? ty with
  | none => simp [hq] at hi
  | some i =>
   have hs : i.size = 1 := by simpa [hq] using hi
   simp only [Nat.add_zero] at hrun
   simp [storeVar, sizeOf, typeInfo, hq, hc, hs, hrun, World.setCells]
 unfold Oper.wp execOp
 simp only [ho, hx, hy, Instr.storeAt, Instr.sureAddr, Sem.run_bind, Sem.run_pure, Result.andThen_ok, hs]
 exact hK' _ _ (h _ (h0.set j v) (kept_set (by simp) w j v))
end
end
end Go.Proofs.YtoaeficfmcncjaaGreat.Later
namespace Go.Proofs.YtoaeficfmcncjaaGreat.Later
open Go.RowKit
def Raw (W : World) (q : Nat) (a : Option Addr) (n cap : Nat) : Prop := Blk W q 188 #[.bool true, .slice a n cap]
theorem Raw.kept {K : List Nat} {X Y : World} {q : Nat} {a : Option Addr} {n cap : Nat} (h : Raw X q a n cap) (hk : Kept K X Y) (hq : q ∉ K) : Raw Y q a n cap := Blk.kept h hk hq
theorem Raw.two {W : World} {q : Nat} {a : Option Addr} {n cap : Nat} (h : Raw W q a n cap) : W.cell? ⟨q, 0, none⟩ = some (.bool true) ∧ W.cell? ⟨q, 1, none⟩ = some (.slice a n cap) := ⟨(Blk.cell h 0).trans rfl, (Blk.cell h 1).trans rfl⟩
structure QAt (W : World) (base q : Nat) (gr : Option Nat) (L : List Lw) : Prop where
 blk : ∃ v P, Blk W q 188 #[.bool true, v] ∧ RowAt 152 base W v P gr ∧ P.map Lv.lw = L ∧ ∀ x ∈ P, x.At W
 low : base ≤ q
theorem QAt.kept {ts : List TypeId} {K : List Nat} {A B : World} {base q : Nat} {gr : Option Nat} {L : List Lw} (h : QAt A base q gr L) (hk : Kept K A B) (hf : Foot ts A K) (h1 : 5 ∉ ts) (h2 : 188 ∉ ts) (h3 : 152 ∉ ts) : QAt B base q gr L := by
 obtain ⟨v, P, b1, b2, b3, b4⟩ := h.blk
 exact ⟨⟨v, P, b1.kept hk (hf.ne b1 h2), b2.kept hk (fun g hg => by obtain ⟨_, _, c, hc⟩ := b2.low g hg; exact hf.ne hc h3), b3, fun x hx => (b4 x hx).kept hk hf h1⟩, h.low⟩
theorem QAt.kept0 {A B : World} {base q : Nat} {gr : Option Nat} {L : List Lw} (h : QAt A base q gr L) (hk : Kept [] A B) : QAt B base q gr L := h.kept hk (foot_nil [] A) (by simp) (by simp) (by simp)
theorem QAt.three {W : World} {base q : Nat} {gr : Option Nat} {L : List Lw} (h : QAt W base q gr L) :
  ∃ a cap P, Raw W q a L.length cap ∧ RowAt 152 base W (.slice a L.length cap) P gr ∧ P.map Lv.lw = L ∧ (∀ x ∈ P, x.At W) ∧ P.length = L.length ∧ L.length ≤ cap ∧ cap ≤ 9223372036854775807 := by
 obtain ⟨v, P, h1, h2, h3, h4⟩ := h.blk
 obtain ⟨a, cap, e, h5, h6⟩ := h2.open
 have hl : P.length = L.length := by rw [← h3, List.length_map]
 subst e
 rw [hl] at h1 h2 h5
 exact ⟨a, cap, P, h1, h2, h3, h4, hl, h5, h6⟩
theorem QAt.foot {W : World} {base q : Nat} {gr : Option Nat} {L : List Lw} (h : QAt W base q gr L) : Foot [188, 152] W (q :: gr.toList) := by
 obtain ⟨v, P, h1, h2, _⟩ := h.blk
 refine Foot.cons ?_ h1 (by simp)
 cases gr with
 | none => exact foot_nil _ W
 | some g =>
  obtain ⟨_, _, cur, hc⟩ := h2.low g rfl
  exact Foot.cons (foot_nil _ W) hc (by simp)
theorem QAt.lt {W : World} {base q : Nat} {gr : Option Nat} {L : List Lw} (h : QAt W base q gr L) : q < W.heap.size ∧ ∀ g, gr = some g → base ≤ g ∧ g < W.heap.size ∧ g ≠ q := by
 obtain ⟨v, P, h1, h2, _⟩ := h.blk
 refine ⟨h1.lt, fun g hg => ?_⟩
 obtain ⟨h3, h4, cur, hc⟩ := h2.low g hg
 refine ⟨h3, h4, fun e => ?_⟩
 subst e
 exact absurd (blk_type h1 hc) (by decide)
section
set_option maxRecDepth 100000
theorem new_any (w : World) : Calls Tryz.prog 45 #[] w fun e w' => e = .returned (.pointer (some ⟨w.heap.size, 0, none⟩)) ∧ QAt w' w.heap.size w.heap.size none [] ∧ w'.heap.size = w.heap.size + 1 ∧ Kept [] w w' := by
 go_enter Tryz.func45, Tryz.ntmps45
 go_wp2
 go_ret
 exact ⟨rfl, ⟨⟨_, [], blk_new w 188 #[.bool true, .slice none 0 0], row_nil _ _ _, rfl, by simp⟩, Nat.le_refl _⟩, by simp, kept_alloc [] _ _⟩
theorem made_any {q : Nat} {a : Option Addr} {n cap : Nat} (w : World) (h : Raw w q a n cap) :
  Calls Tryz.prog 175 #[.pointer (some ⟨q, 0, none⟩)] w fun e w' => e = .returned (.bool true) ∧ w' = w := by
 have c0 := h.two.1
 go_enter Tryz.func175, Tryz.ntmps175
 go_wp2
 go_ret
 exact ⟨rfl, rfl⟩
theorem waiting_any (p : Option Addr) (w : World) :
  Calls Tryz.prog 118 #[.pointer p] w fun e w' => e = .returned (.func (.func 174) #[] #[.pointer (some ⟨w.heap.size, 0, none⟩)]) ∧ w' = w.alloc (.cells #[.pointer p] 100) := by
 go_enter Tryz.func118, Tryz.ntmps118
 go_wp2
 go_ret
 exact ⟨rfl, rfl⟩
end
structure Cut (w : World) (base q g : Nat) (a : Option Addr) (n cap : Nat) (P : List Lv) (W : World) : Prop where
 raw : Raw W q a n cap
 row : RowAt 152 base W (.slice a n cap) P (some g)
 kept : Kept [q, g] w W
 ne : g ≠ q
set_option maxRecDepth 100000 in
set_option maxHeartbeats 1000000 in
theorem cut_raw {base q g : Nat} {off n cap : Nat} {P : List Lv} (w : World) (h : Cut w base q g (some ⟨g, off, none⟩) n cap P w) (hl : P.length = n) (hc : n ≤ cap) (_hcm : cap ≤ 9223372036854775807) (hn : n ≤ 1000000) (k : Nat) (hk : k < n) :
  Calls Tryz.prog 208 #[.pointer (some ⟨q, 0, none⟩), .int .i64 (k : Int)] w fun e w' => e = .returned (.tuple #[]) ∧ ∃ a' n' cap', Cut w base q g a' n' cap' (P.take k ++ P.drop (k + 1)) w' := by
 have hD : Cut w base q g (some ⟨g, off, none⟩) n cap P w.drew := ⟨h.raw.kept (kept_drew [] w) (by simp), h.row.kept0 (kept_drew [] w), kept_drew _ w, h.ne⟩
 obtain ⟨d, hd⟩ : ∃ d : Addr, d = (if cap = 1 then (⟨g, off, none⟩ : Addr) else ⟨g, off + 4, none⟩) := ⟨_, rfl⟩
 have hda : Hid (0 < k → d = ⟨g, off + 4, none⟩) := fun h0 => (by rw [hd, if_neg (by omega)])
 have hs1 : ∀ W, (Instr.sliceAt 165 (.slice (some ⟨g, off, none⟩) n cap) (some (.int .i64 1)) (some (.int .i64 ((k : Int) + 1))) none).run Tryz.prog W = .ok (.slice (some d) k (cap - 1)) W := fun W => by
  rw [run_sliceAt_slice _ _ _ _ _ _ kindP.elem, run_slice_lh _ _ _ _ _ kindP.elem _ _ _ _ (by omega) (by omega) (by omega), kindP.size]
  simp only [Result.andThen, sliced]
  rw [hd, show ((k : Int) + 1).toNat - (1 : Int).toNat = k by omega]
  by_cases h1 : cap = 1
  ·simp [h1]
  ·simp [h1, Addr.add]
 have hs2 : ∀ W, (Instr.sliceAt 165 (.slice (some ⟨g, off, none⟩) n cap) none (some (.int .i64 (k : Int))) none).run Tryz.prog W = .ok (.slice (some ⟨g, off, none⟩) k cap) W := fun W => by
  rw [run_sliceAt_slice _ _ _ _ _ _ kindP.elem, run_slice_h _ _ _ _ _ kindP.elem _ _ (by omega) (by omega), kindP.size]
  simp [Result.andThen, sliced, Addr.add]
 have hw1 : IntKind.i64.wrap ((k : Int) + 1) = (k : Int) + 1 := (by rw [IntKind.wrap_i64]; omega)
 have hs1' := fun W => (run_sliceAt_slice (P := Tryz.prog) (w := W) _ _ _ _ _ kindP.elem).symm.trans (hs1 W)
 have hs2' := fun W => (run_sliceAt_slice (P := Tryz.prog) (w := W) _ _ _ _ _ kindP.elem).symm.trans (hs2 W)
 have i1 : (0 : Int) ≤ (k : Int) := by omega
 have i2 : (1 : Int) ≤ (k : Int) + 1 := by omega
 have hkH : Hid (k < n) := hk
 have hrow : Hid (RowAt 152 base w.drew (.slice (some ⟨g, off, none⟩) n cap) P (some g)) := hD.row
 have c1 := hD.raw.two.2
 clear h hd
 go_enter Tryz.func208, Tryz.ntmps208
 go_wp2_with fail
 go_region_held3 (fun W => W.cell? ⟨q, 1, none⟩ = some (.slice (some ⟨g, off, none⟩) n cap)) (first | exact c1 | exact e1) (first
  | (refine step_copy_move kindP rfl (.tmp 12) (.tmp 18) rfl base g off n cap k P d (cap - 1) cap (by simp [Act.eval]) (by simp [Act.eval]) hda.out hrow.out hkH.out ?_; intro w2 hr2 hk2; have e1 := (hD.raw.kept hk2 (by simp [hD.ne.symm])).two.2))
 have hD2 : Cut w base q g (some ⟨g, off, none⟩) n cap (moved P k) w2 := ⟨hD.raw.kept hk2 (by simp [hD.ne.symm]), hr2, hD.kept.trans (hk2.mono (by simp)), hD.ne⟩
 have hm0 : Hid ((moved P k).length = n) := (by show _ = _; rw [moved_length (by omega), hl])
 have hn0 : Hid (0 < n) := (by show _ < _; omega)
 have hdrop : Hid (((moved P k).set 0 lv0).drop 1 = P.take k ++ P.drop (k + 1)) := (by
  show _ = _
  rw [List.drop_set, if_pos (by omega)]
  rcases moved_erase P k with h | h
  ·exact h
  ·rw [h] at hl
   simp at hl
   omega)
 clear hs1 hs2 hs1' hs2' hw1 hda hkH hrow c1 hr2 hD e1 hk2 i1 i2
 obtain ⟨c0, c1⟩ := hD2.raw.two
 go_wp2_with (first
  | (refine wpList_store_row kindP rfl _ _ rfl base g off n cap 0 (moved P k) lv0 off rfl (by omega) rfl hD2.row hn0.out ?_; intro w3 hr3 hk3; replace hD2 : Cut w base q g (some ⟨g, off, none⟩) n cap ((moved P k).set 0 lv0) w3 := ⟨hD2.raw.kept hk3 (by simp [hD2.ne.symm]), hr3, hD2.kept.trans (hk3.mono (by simp)), hD2.ne⟩; obtain ⟨c0, c1⟩ := hD2.raw.two))
 have hdq : ∀ j, Cut w base q g (some ⟨g, off, none⟩) n cap ((moved P k).set 0 lv0) (w3.drewN j) := fun j => ⟨hD2.raw.kept (kept_drewN [] w3 j) (by simp), hD2.row.kept0 (kept_drewN [] w3 j), hD2.kept.trans (kept_drewN _ w3 j), hD2.ne⟩
 have c1q := fun j => (hdq j).raw.two.2
 clear c0 c1 hD2
 go_quiet (fail)
 have hD3 := hdq nq
 clear hdq c1q
 generalize w3.drewN nq = W4 at *
 obtain ⟨c0, c1⟩ := hD3.raw.two
 have hl3 : Hid (((moved P k).set 0 lv0).length = n) := (by show _ = _; rw [List.length_set]; exact hm0.out)
 have hP0 : Hid (0 < ((moved P k).set 0 lv0).length) := (by show _ < _; rw [hl3.out]; exact hn0.out)
 have hP1 : Hid (1 ≤ ((moved P k).set 0 lv0).length) := hP0
 have f4 : IntKind.i64.wrap (4 * (n : Int)) = 4 * (n : Int) := (by rw [IntKind.wrap_i64]; omega)
 by_cases hh : 4 * n < cap
 ·have hi : (4 : Int) * (n : Int) < (cap : Int) := by omega
  have hm1 : Hid (((moved P k).set 0 lv0).length ≤ n) := (by show _ ≤ _; rw [hl3.out]; exact Nat.le_refl _)
  have hm2 : Hid (n ≤ cap) := hc
  clear hl
  go_wp2_with (first
   | (refine wpList_cut kindP rfl _ _ _ _ rfl base (some ⟨g, off, none⟩) n cap 1 n ((moved P k).set 0 lv0) (some g) rfl rfl rfl rfl hD3.row hP0.out hP1.out hm1.out hm2.out ?_; intro sa6 n6 cap6 hr6; rw [hdrop.out] at hr6)
   | (refine wpList_store_cell rfl 165 _ _ rfl q 1 188 _ (.slice sa6 n6 cap6) rfl rfl hD3.raw (by simp) kindP.word rfl ?_; intro w7 hb7 hk7))
  go_end0
  exact ⟨rfl, sa6, n6, cap6, ⟨show Raw w7 q sa6 n6 cap6 from hb7, hr6.kept hk7 (by simpa using hD3.ne), hD3.kept.trans (hk7.mono (by simp)), hD3.ne⟩⟩
 ·have hi : ¬ (4 : Int) * (n : Int) < (cap : Int) := by omega
  have hm1 : Hid (((moved P k).set 0 lv0).length ≤ cap) := (by show _ ≤ _; rw [hl3.out]; exact hc)
  have hm2 : Hid (cap ≤ cap) := Nat.le_refl cap
  clear hl
  go_wp2_with (first
   | (refine wpList_cut kindP rfl _ _ _ _ rfl base (some ⟨g, off, none⟩) n cap 1 cap ((moved P k).set 0 lv0) (some g) rfl rfl rfl rfl hD3.row hP0.out hP1.out hm1.out hm2.out ?_; intro sa6 n6 cap6 hr6; rw [hdrop.out] at hr6)
   | (refine wpList_store_cell rfl 165 _ _ rfl q 1 188 _ (.slice sa6 n6 cap6) rfl rfl hD3.raw (by simp) kindP.word rfl ?_; intro w7 hb7 hk7))
  go_end0
  exact ⟨rfl, sa6, n6, cap6, ⟨show Raw w7 q sa6 n6 cap6 from hb7, hr6.kept hk7 (by simpa using hD3.ne), hD3.kept.trans (hk7.mono (by simp)), hD3.ne⟩⟩
def gone {α : Type} (L : List α) (k : Nat) : List α := L.take k ++ L.drop (k + 1)
set_option maxRecDepth 100000 in
theorem cut_any {base q : Nat} {gr : Option Nat} {L : List Lw} (w : World) (h : QAt w base q gr L) (hs : L.length ≤ 1000000) (k : Nat) (hk : k < L.length) :
  Calls Tryz.prog 208 #[.pointer (some ⟨q, 0, none⟩), .int .i64 (k : Int)] w fun e w' => e = .returned (.tuple #[]) ∧ QAt w' base q gr (gone L k) ∧ Kept (q :: gr.toList) w w' := by
 obtain ⟨a, cap, P, hR, hr, hl, hat, hPl, hc1, hc2⟩ := h.three
 obtain ⟨x, hx⟩ : ∃ x, P[k]? = some x := ⟨_, List.getElem?_eq_getElem (by omega)⟩
 obtain ⟨g, off, rfl, rfl, -⟩ := hr.at hx
 have hf := h.foot
 refine (cut_raw w ⟨hR, hr, Kept.refl _ _, (h.lt.2 g rfl).2.2⟩ hPl hc1 hc2 hs k hk).mono ?_
 rintro e w' ⟨rfl, a', n', cap', hD⟩
 refine ⟨rfl, ⟨⟨_, P.take k ++ P.drop (k + 1), hD.raw, hD.row, ?_, fun x hx => ?_⟩, h.low⟩, hD.kept⟩
 ·rw [List.map_append, List.map_take, List.map_drop, hl]
  rfl
 ·refine (hat x ?_).kept hD.kept hf (by decide)
  rcases List.mem_append.1 hx with hx | hx
  ·exact List.mem_of_mem_take hx
  ·exact List.mem_of_mem_drop hx
end Go.Proofs.YtoaeficfmcncjaaGreat.Later
