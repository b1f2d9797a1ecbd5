/-
 Rows of writes, from any place of their block on: append, cuts, what moves within.
-/
import Derived.Test.YtoaeficfmcncjaaGreatN15
import Derived.Maps.AppendAt
import Derived.Laws.IdiomCopy
import Derived.RangeFuncNested
import Derived.RangeFuncBox
import Derived.RangeFuncLeaves
import Derived.RangeFuncCalls
import Derived.RangeFuncMany
import Derived.Shelf.Abstract
import Derived.Shelf.RegionOpen
import Derived.OwnWalkIn
import Derived.TacticsInMore
import Derived.LoopNIn
import Derived.LoopIn
namespace Go.Proofs.YtoaeficfmcncjaaGreat.Later
open Go.RowKit

def cellsL (xs : List Lv) : List Value := xs.flatMap Lv.cells
theorem cellsL_append (A B : List Lv) : cellsL (A ++ B) = cellsL A ++ cellsL B := by simp [cellsL]
theorem cellsL_length (xs : List Lv) : (cellsL xs).length = xs.length * 4 := by
 induction xs with
 | nil => rfl
 | cons x xs ih =>
  show (x.cells ++ cellsL xs).length = _
  rw [List.length_append, ih, List.length_cons, Lv.cells_length]
  omega
theorem cellsL_one (xs : List Lv) : ∀ v ∈ cellsL xs, v.oneCell' = true := fun v hv => by
 obtain ⟨x, _, hx⟩ := List.mem_flatMap.1 hv
 exact x.cells_one v hx
theorem cellsL_at : ∀ (xs : List Lv) (i : Nat) (x : Lv), xs[i]? = some x → ∀ c, c < 4 → (cellsL xs)[i * 4 + c]? = x.cells[c]?
 | [], i, x, h, _, _ => by simp at h
 | y :: xs, 0, x, h, c, hc => by
  simp at h
  subst h
  show (y.cells ++ cellsL xs)[0 * 4 + c]? = _
  rw [Nat.zero_mul, Nat.zero_add, List.getElem?_append_left (by rw [Lv.cells_length]; omega)]
 | y :: xs, i + 1, x, h, c, hc => by
  show (y.cells ++ cellsL xs)[(i + 1) * 4 + c]? = _
  have e : (i + 1) * 4 + c = y.cells.length + (i * 4 + c) := by rw [Lv.cells_length]; omega
  rw [e, List.getElem?_append_right (by omega), Nat.add_sub_cancel_left]
  exact cellsL_at xs i x (by simpa using h) c hc
theorem cellsL_back (L : List Lv) (q : Nat) (v : Value) (h : (cellsL L)[q]? = some v) : ∃ x, L[q / 4]? = some x ∧ x.cells[q % 4]? = some v := by
 have hq : q < L.length * 4 := by
  have := (List.getElem?_eq_some_iff.1 h).1
  rwa [cellsL_length] at this
 have hlt : q / 4 < L.length := by omega
 refine ⟨L[q / 4], List.getElem?_eq_getElem hlt, ?_⟩
 have := cellsL_at L (q / 4) _ (List.getElem?_eq_getElem hlt) (q % 4) (by omega)
 rw [show q / 4 * 4 + q % 4 = q by omega, h] at this
 exact this.symm
structure Kind (ty sty : TypeId) : Prop where
 und : Tryz.prog.underlying sty = some (.slice ty)
 info : (Tryz.prog.info? ty).map (fun i => (i.zero, i.size, i.bytes)) = some (some (.agg #[.int .i64 0, .int .i64 0, .int .i64 0, .slice none 0 0]), 4, 48)
 elem : Tryz.prog.underlying sty = some (.slice (Tryz.prog.elem sty))
 size : ∀ w, (sizeOf (Tryz.prog.elem sty)).run Tryz.prog w = .ok 4 w
 word : (Tryz.prog.info? sty).map (·.size) = some 1
theorem kindP : Kind 152 165 := ⟨Tryz.underlying165, by kernel_rfl, by kernel_rfl, fun w => by kernel_rfl, by kernel_rfl⟩
def Lie (cur : Array Value) (off : Nat) (P : List Lv) : Prop := ∀ j x, P[j]? = some x → ∀ c, c < 4 → cur[off + j * 4 + c]? = x.cells[c]?
theorem Lie.cells {cur : Array Value} {off : Nat} {P : List Lv} (h : Lie cur off P) (q : Nat) (v : Value) (hv : (cellsL P)[q]? = some v) : cur[off + q]? = some v := by
 obtain ⟨x, h1, h2⟩ := cellsL_back P q v hv
 have := h (q / 4) x h1 (q % 4) (by omega)
 rw [show off + q / 4 * 4 + q % 4 = off + q by omega, h2] at this
 exact this
def RowAt (ty : TypeId) (base : Nat) (W : World) (v : Value) (P : List Lv) (gr : Option Nat) : Prop :=
 ∃ a cap, v = .slice a P.length cap ∧ P.length ≤ cap ∧ cap ≤ maxLen ∧
  ((a = none ∧ cap = 0 ∧ gr = none) ∨ ∃ g off cur, a = some ⟨g, off, none⟩ ∧ gr = some g ∧ base ≤ g ∧ Blk W g ty cur ∧ off + cap * 4 ≤ cur.size ∧ Lie cur off P)
theorem row_nil (ty : TypeId) (base : Nat) (W : World) : RowAt ty base W (.slice none 0 0) [] none := ⟨none, 0, rfl, Nat.le_refl _, by unfold maxLen; omega, .inl ⟨rfl, rfl, rfl⟩⟩
theorem RowAt.kept {ty : TypeId} {K : List Nat} {A B : World} {base : Nat} {v : Value} {P : List Lv} {gr : Option Nat} (h : RowAt ty base A v P gr) (hk : Kept K A B) (hg : ∀ g, gr = some g → g ∉ K) : RowAt ty base B v P gr := by
 obtain ⟨a, cap, e, h1, h2, h3 | ⟨g, off, cur, e1, e2, h4, h5, h6, h7⟩⟩ := h
 ·exact ⟨a, cap, e, h1, h2, .inl h3⟩
 ·exact ⟨a, cap, e, h1, h2, .inr ⟨g, off, cur, e1, e2, h4, h5.kept hk (hg g e2), h6, h7⟩⟩
theorem RowAt.kept0 {ty : TypeId} {A B : World} {base : Nat} {v : Value} {P : List Lv} {gr : Option Nat} (h : RowAt ty base A v P gr) (hk : Kept [] A B) : RowAt ty base B v P gr := h.kept hk (fun _ _ => by simp)
theorem RowAt.mono {ty : TypeId} {W : World} {base base' : Nat} {v : Value} {P : List Lv} {gr : Option Nat} (h : RowAt ty base W v P gr) (hb : base' ≤ base) : RowAt ty base' W v P gr := by
 obtain ⟨a, cap, e, h1, h2, h3 | ⟨g, off, cur, e1, e2, h4, h5⟩⟩ := h
 ·exact ⟨a, cap, e, h1, h2, .inl h3⟩
 ·exact ⟨a, cap, e, h1, h2, .inr ⟨g, off, cur, e1, e2, by omega, h5⟩⟩
theorem RowAt.low {ty : TypeId} {base : Nat} {W : World} {v : Value} {P : List Lv} {gr : Option Nat} (h : RowAt ty base W v P gr) : ∀ g, gr = some g → base ≤ g ∧ g < W.heap.size ∧ ∃ cur, Blk W g ty cur := fun g hg => by
 obtain ⟨a, cap, e, h1, h2, ⟨_, _, h3⟩ | ⟨g', off, cur, e1, e2, h4, h5, h6, h7⟩⟩ := h
 ·rw [h3] at hg
  cases hg
 ·rw [e2] at hg
  injection hg with hg
  subst hg
  exact ⟨h4, h5.lt, cur, h5⟩
theorem RowAt.open {ty : TypeId} {base : Nat} {W : World} {v : Value} {P : List Lv} {gr : Option Nat} (h : RowAt ty base W v P gr) : ∃ a cap, v = .slice a P.length cap ∧ P.length ≤ cap ∧ cap ≤ 9223372036854775807 := by
 obtain ⟨a, cap, e, h1, h2, _⟩ := h
 unfold maxLen at h2
 exact ⟨a, cap, e, h1, by omega⟩
theorem RowAt.at {ty : TypeId} {base : Nat} {W : World} {a : Option Addr} {n cap : Nat} {P : List Lv} {gr : Option Nat} (h : RowAt ty base W (.slice a n cap) P gr) {j : Nat} {x : Lv} (hj : P[j]? = some x) :
  ∃ g off, a = some ⟨g, off, none⟩ ∧ gr = some g ∧ ∀ K V, Kept K W V → g ∉ K → V.cell? ⟨g, off + j * 4, none⟩ = some (.int .i64 x.id) ∧ V.cell? ⟨g, off + j * 4 + 1, none⟩ = some (.int .i64 x.o) ∧ V.cell? ⟨g, off + j * 4 + 2, none⟩ = some (.int .i64 x.l) ∧ V.cell? ⟨g, off + j * 4 + 3, none⟩ = some (.slice x.sa x.len x.cap) := by
 obtain ⟨a', cap', e, h1, h2, ⟨h3, h4, _⟩ | ⟨g, off, cur, e1, e2, h4, h5, h6, h7⟩⟩ := h
 ·have := (List.getElem?_eq_some_iff.1 hj).1
  omega
 ·injection e with e3 _ _
  refine ⟨g, off, e3.trans e1, e2, fun K V hk hg => ?_⟩
  have hv := h5.kept hk hg
  exact ⟨(hv.cell _).trans (h7 j x hj 0 (by omega)), (hv.cell _).trans (h7 j x hj 1 (by omega)), (hv.cell _).trans (h7 j x hj 2 (by omega)), (hv.cell _).trans (h7 j x hj 3 (by omega))⟩
theorem row_owns {ty : TypeId} {W : World} {base : Nat} {v : Value} {P : List Lv} (h : W.ownsRow base ty 4 v P.length (cellsL P)) : ∃ gr, RowAt ty base W v P gr := by
 obtain ⟨_, ⟨rfl, h0⟩ | ⟨g, cap, cur, rfl, hb, hg, h1, h2, h3, h4⟩⟩ := h
 ·have : P = [] := List.eq_nil_of_length_eq_zero h0
  subst this
  exact ⟨none, row_nil ty base W⟩
 ·refine ⟨some g, some ⟨g, 0, none⟩, cap, rfl, h1, h2, .inr ⟨g, 0, cur, rfl, rfl, hb, hg, by omega, fun j x hj c hc => ?_⟩⟩
  have hl := (List.getElem?_eq_some_iff.1 hj).1
  rw [Nat.zero_add, ← cellsL_at P j x hj c hc, ← h4, List.getElem?_take, if_pos (by omega), Array.getElem?_toList]
theorem blk_setCells {g : Nat} {t : TypeId} : ∀ (vs : List Value) (o : Nat) (W : World) (cur : Array Value), Blk W g t cur → o + vs.length ≤ cur.size →
  ∃ cur', Blk (W.setCells g o vs) g t cur' ∧ cur'.size = cur.size ∧ (∀ i, i < o ∨ o + vs.length ≤ i → cur'[i]? = cur[i]?) ∧ (∀ j, j < vs.length → cur'[o + j]? = vs[j]?) ∧ Kept [g] W (W.setCells g o vs)
 | [], o, W, cur, hb, _ => ⟨cur, hb, rfl, fun _ _ => rfl, fun j hj => by simp at hj, Kept.refl _ _⟩
 | v :: r, o, W, cur, hb, hs => by
  simp at hs
  obtain ⟨cur', h1, h2, h3, h4, h5⟩ := blk_setCells r (o + 1) _ _ (hb.set o v) (by simp; omega)
  refine ⟨cur', h1, by simpa using h2, fun i hi => ?_, fun j hj => ?_, (kept_set (by simp) _ _ _).trans h5⟩
  ·simp at hi
   rw [h3 i (by omega), Array.getElem?_setIfInBounds, if_neg (by omega)]
  ·cases j with
   | zero =>
    rw [h3 (o + 0) (by omega), Nat.add_zero, Array.getElem?_setIfInBounds_self_of_lt (by omega)]
    rfl
   | succ j =>
    have := h4 j (by simpa using hj)
    rw [show o + (j + 1) = o + 1 + j by omega, this]
    rfl
set_option maxRecDepth 100000 in
theorem run_append_row {ty sty : TypeId} (kd : Kind ty sty) (base : Nat) (v : Value) (P K : List Lv) (gr : Option Nat) (w : World) (rt : TypeId) (ad : Addr) (ucap : Nat) (h : RowAt ty base w v P gr)
  (hu : ∀ j u, (cellsL K)[j]? = some u → w.cell? (ad.add j) = some u) (hlen : P.length + K.length ≤ 1000000) (hb : base ≤ w.heap.size) :
  ∃ sa n cap w' gr', (Builtin.append_ #[sty, sty] rt #[v, .slice (some ad) K.length ucap]).run Tryz.prog w = .ok (.slice sa n cap) w' ∧ RowAt ty base w' (.slice sa n cap) (P ++ K) gr' ∧ Kept gr.toList w w' ∧ (∀ g, gr' = some g → gr = some g ∨ w.heap.size ≤ g) := by
 obtain ⟨i0, hi0, hz0, hz1, hz2⟩ := info_parts kd.info
 have grown : ∀ v' w', w'.ownsRow w.heap.size ty 4 v' (P.length + K.length) (cellsL P ++ cellsL K) → w.grownBy w' none → (Builtin.append_ #[sty, sty] rt #[v, .slice (some ad) K.length ucap]).run Tryz.prog w = .ok v' w' →
   ∃ sa n cap w' gr', (Builtin.append_ #[sty, sty] rt #[v, .slice (some ad) K.length ucap]).run Tryz.prog w = .ok (.slice sa n cap) w' ∧ RowAt ty base w' (.slice sa n cap) (P ++ K) gr' ∧ Kept gr.toList w w' ∧ (∀ g, gr' = some g → gr = some g ∨ w.heap.size ≤ g) := fun v' w' ho hg hr => by
  obtain ⟨gr', hro⟩ := row_owns (P := P ++ K) (by rw [List.length_append, cellsL_append]; exact ho)
  obtain ⟨a', cap', e, _⟩ := id hro
  subst e
  exact ⟨a', _, cap', w', gr', hr, hro.mono hb, (kept_none hg).mono (by simp), fun g hgg => .inr (hro.low g hgg).1⟩
 obtain ⟨a, cap, rfl, hc1, hc2, ⟨rfl, rfl, rfl⟩ | ⟨g, off, cur, rfl, rfl, hbg, hblk, hfit, hcell⟩⟩ := id h
 ·obtain rfl : P = [] := List.eq_nil_of_length_eq_zero (by omega)
  obtain ⟨v', w', hr, h3, h4, _⟩ := run_append_own_at (P := Tryz.prog) w w.heap.size sty rt ty i0 (.agg #[.int .i64 0, .int .i64 0, .int .i64 0, .slice none 0 0]) 4 48 kd.und hi0 hz0 hz1 hz2 rfl (by decide) (.slice none 0 0) 0 [] (World.ownsRow_nil w _ _ _) ad K.length ucap (cellsL K) (cellsL_length K) hu (cellsL_one K) (by unfold maxLen; omega) (by omega) (Nat.le_refl _)
  exact grown v' w' (by simpa [cellsL] using h3) (by simpa [Value.ownBlock] using h4) hr
 ·by_cases hroom : P.length + K.length ≤ cap
  ·have hkl := cellsL_length K
   have hr := run_append_room_cells (P := Tryz.prog) w sty rt ty i0 kd.und hi0 g off P.length cap ad K.length ucap (cellsL K) (by rw [hz1, hkl]) hu (cellsL_one K) hroom (fun j hj => by
    rw [hblk.cell, hz1]
    have : off + P.length * 4 + j < cur.size := by omega
    simpa using this) (fun j _ => hblk.frozen _)
   rw [hz1] at hr
   obtain ⟨cur', b1, b2, b3, b4, b5⟩ := blk_setCells (cellsL K) (off + P.length * 4) w cur hblk (by omega)
   refine ⟨_, _, _, _, some g, hr, ⟨some ⟨g, off, none⟩, cap, by rw [List.length_append], by rw [List.length_append]; exact hroom, hc2, .inr ⟨g, off, cur', rfl, rfl, hbg, b1, by omega, fun j x hj c hc => ?_⟩⟩, b5.mono (by simp), fun g' hg' => .inl hg'⟩
   by_cases hjl : j < P.length
   ·rw [List.getElem?_append_left hjl] at hj
    rw [b3 _ (by omega)]
    exact hcell j x hj c hc
   ·rw [List.getElem?_append_right (by omega)] at hj
    have hjk := (List.getElem?_eq_some_iff.1 hj).1
    have := b4 ((j - P.length) * 4 + c) (by omega)
    rw [show off + P.length * 4 + ((j - P.length) * 4 + c) = off + j * 4 + c by omega] at this
    rw [this]
    exact cellsL_at K _ x hj c hc
  ·obtain ⟨v', w', hr, h3, h4⟩ := run_append_arg_grows (P := Tryz.prog) w sty rt ty i0 (.agg #[.int .i64 0, .int .i64 0, .int .i64 0, .slice none 0 0]) 4 48 kd.und hi0 hz0 hz1 hz2 rfl (by decide) ⟨g, off, none⟩ P.length cap (cellsL P) (cellsL_length P) (fun j u hj => by
    rw [Go.WideShapes.add_plain, hblk.cell]
    exact hcell.cells j u hj) ad K.length ucap (cellsL K) (cellsL_length K) hu (by omega) (by unfold maxLen; omega) (by omega)
   exact grown v' w' h3 h4 hr
section
variable {ops : Array Oper} {rest : List Oper} {o : Oper} {a : Act} {w : World} {Q : Exit → Act → World → Prop}
set_option maxRecDepth 100000 in
theorem step_append_row {ty sty : TypeId} (kd : Kind ty sty) {KK : Act → World → Prop} {E : Prop} (hgd : o.guard = none) (s x : Operand) (ho : o.op = .call { callee := .builtin .append, args := #[s, x], argTypes := #[sty, sty] })
  (base : Nat) (v : Value) (P K : List Lv) (gr : Option Nat) (ad : Addr) (n ucap : Nat) (hs : a.eval s = v) (hx : a.eval x = .slice (some ad) n ucap) (hn : K.length = n) (hr : RowAt ty base w v P gr) (hu : ∀ j u, (cellsL K)[j]? = some u → w.cell? (ad.add j) = some u) (hlen : P.length + K.length ≤ 1000000) (hb : base ≤ w.heap.size)
  (h : ∀ sa n cap w' gr', RowAt ty base w' (.slice sa n cap) (P ++ K) gr' → Kept gr.toList w w' → (∀ g, gr' = some g → gr = some g ∨ w.heap.size ≤ g) → KK (a.put o.dst (.slice sa n cap)) w') :
  if Region.wanted o (yielded ops a.tmps) = true then Oper.wp Tryz.prog o a w KK Q else E := by
 subst hn
 have hw : Region.wanted o (yielded ops a.tmps) = true := by simp [Region.wanted, hgd]
 rw [if_pos hw]
 obtain ⟨sa, n, cap, w', gr', hrun, h1, h2, h3⟩ := run_append_row kd base v P K gr w o.type ad ucap hr hu hlen hb
 unfold Oper.wp execOp
 simp only [ho, resolve, invoke, builtin, Sem.run_bind, Sem.run_pure, Result.andThen_ok, List.map_toArray, List.map_cons, List.map_nil, hs, hx, hrun]
 exact h sa n cap w' gr' h1 h2 h3
end
end Go.Proofs.YtoaeficfmcncjaaGreat.Later

namespace Go.Proofs.YtoaeficfmcncjaaGreat.Later
open Go.RowKit

def Raw (W : World) (q : Nat) (a : Option Addr) (n cap : Nat) : Prop := Blk W q 188 #[.bool true, .slice a n cap]
theorem Raw.kept {K : List Nat} {X Y : World} {q : Nat} {a : Option Addr} {n cap : Nat} (h : Raw X q a n cap) (hk : Kept K X Y) (hq : q ∉ K) : Raw Y q a n cap := Blk.kept h hk hq
theorem Raw.two {W : World} {q : Nat} {a : Option Addr} {n cap : Nat} (h : Raw W q a n cap) : W.cell? ⟨q, 0, none⟩ = some (.bool true) ∧ W.cell? ⟨q, 1, none⟩ = some (.slice a n cap) := ⟨(Blk.cell h 0).trans rfl, (Blk.cell h 1).trans rfl⟩
structure QAt (W : World) (base q : Nat) (gr : Option Nat) (L : List Lw) : Prop where
 blk : ∃ v P, Blk W q 188 #[.bool true, v] ∧ RowAt 152 base W v P gr ∧ P.map Lv.lw = L ∧ ∀ x ∈ P, x.At W
 low : base ≤ q
theorem QAt.kept {ts : List TypeId} {K : List Nat} {A B : World} {base q : Nat} {gr : Option Nat} {L : List Lw} (h : QAt A base q gr L) (hk : Kept K A B) (hf : Foot ts A K) (h1 : 5 ∉ ts) (h2 : 188 ∉ ts) (h3 : 152 ∉ ts) : QAt B base q gr L := by
 obtain ⟨v, P, b1, b2, b3, b4⟩ := h.blk
 exact ⟨⟨v, P, b1.kept hk (hf.ne b1 h2), b2.kept hk (fun g hg => by obtain ⟨_, _, c, hc⟩ := b2.low g hg; exact hf.ne hc h3), b3, fun x hx => (b4 x hx).kept hk hf h1⟩, h.low⟩
theorem QAt.kept0 {A B : World} {base q : Nat} {gr : Option Nat} {L : List Lw} (h : QAt A base q gr L) (hk : Kept [] A B) : QAt B base q gr L := h.kept hk (foot_nil [] A) (by simp) (by simp) (by simp)
theorem QAt.three {W : World} {base q : Nat} {gr : Option Nat} {L : List Lw} (h : QAt W base q gr L) :
  ∃ a cap P, Raw W q a L.length cap ∧ RowAt 152 base W (.slice a L.length cap) P gr ∧ P.map Lv.lw = L ∧ (∀ x ∈ P, x.At W) ∧ P.length = L.length ∧ L.length ≤ cap ∧ cap ≤ 9223372036854775807 := by
 obtain ⟨v, P, h1, h2, h3, h4⟩ := h.blk
 obtain ⟨a, cap, e, h5, h6⟩ := h2.open
 have hl : P.length = L.length := by rw [← h3, List.length_map]
 subst e
 rw [hl] at h1 h2 h5
 exact ⟨a, cap, P, h1, h2, h3, h4, hl, h5, h6⟩
theorem QAt.foot {W : World} {base q : Nat} {gr : Option Nat} {L : List Lw} (h : QAt W base q gr L) : Foot [188, 152] W (q :: gr.toList) := by
 obtain ⟨v, P, h1, h2, _⟩ := h.blk
 refine Foot.cons ?_ h1 (by simp)
 cases gr with
 | none => exact foot_nil _ W
 | some g =>
  obtain ⟨_, _, cur, hc⟩ := h2.low g rfl
  exact Foot.cons (foot_nil _ W) hc (by simp)
theorem QAt.lt {W : World} {base q : Nat} {gr : Option Nat} {L : List Lw} (h : QAt W base q gr L) : q < W.heap.size ∧ ∀ g, gr = some g → base ≤ g ∧ g < W.heap.size ∧ g ≠ q := by
 obtain ⟨v, P, h1, h2, _⟩ := h.blk
 refine ⟨h1.lt, fun g hg => ?_⟩
 obtain ⟨h3, h4, cur, hc⟩ := h2.low g hg
 refine ⟨h3, h4, fun e => ?_⟩
 subst e
 exact absurd (blk_type h1 hc) (by decide)
set_option maxRecDepth 100000 in
theorem new_any (w : World) : Calls Tryz.prog 45 #[] w fun e w' => e = .returned (.pointer (some ⟨w.heap.size, 0, none⟩)) ∧ QAt w' w.heap.size w.heap.size none [] ∧ w'.heap.size = w.heap.size + 1 ∧ Kept [] w w' := by
 go_enter Tryz.func45, Tryz.ntmps45
 go_wp2
 go_ret
 exact ⟨rfl, ⟨⟨_, [], blk_new w 188 #[.bool true, .slice none 0 0], row_nil _ _ _, rfl, by simp⟩, Nat.le_refl _⟩, by simp, kept_alloc [] _ _⟩
set_option maxRecDepth 100000 in
theorem made_any {q : Nat} {a : Option Addr} {n cap : Nat} (w : World) (h : Raw w q a n cap) :
  Calls Tryz.prog 175 #[.pointer (some ⟨q, 0, none⟩)] w fun e w' => e = .returned (.bool true) ∧ w' = w := by
 have c0 := h.two.1
 go_enter Tryz.func175, Tryz.ntmps175
 go_wp2
 go_ret
 exact ⟨rfl, rfl⟩
set_option maxRecDepth 100000 in
theorem waiting_any (p : Option Addr) (w : World) :
  Calls Tryz.prog 118 #[.pointer p] w fun e w' => e = .returned (.func (.func 174) #[] #[.pointer (some ⟨w.heap.size, 0, none⟩)]) ∧ w' = w.alloc (.cells #[.pointer p] 100) := by
 go_enter Tryz.func118, Tryz.ntmps118
 go_wp2
 go_ret
 exact ⟨rfl, rfl⟩
def gone {α : Type} (L : List α) (k : Nat) : List α := L.take k ++ L.drop (k + 1)
end Go.Proofs.YtoaeficfmcncjaaGreat.Later

namespace Go.Proofs.YtoaeficfmcncjaaGreat.Later
open Go.RowKit Go.Shelf

attribute [local go_sem] Oper.semAt_some

theorem foot_other {W : World} {row : Option Nat} (h : ∀ r, row = some r → ∃ o : Obj, W.heap[r]? = some o ∧ o.isCells = false) : Foot [] W row.toList := fun k hk t c hb => by
 obtain ⟨o, h1, h2⟩ := h k (by simpa using hk)
 unfold Blk at hb
 rw [hb] at h1
 injection h1 with h1
 subst h1
 cases h2
def told (P : List Lv) (k : Nat) : Lv := P[k]?.getD lv0
theorem told_at {P : List Lv} {k : Nat} {x : Lv} (h : P[k]? = some x) : told P k = x := by simp [told, h]
set_option maxRecDepth 100000 in
set_option maxHeartbeats 2000000 in
theorem waiting1_in (F : Fence) (n : Nat) (hf : F.fn 174) (hfm : F.fn 175) (hro : F.round = none) (hn : 1 ≤ n) (l Bq n₀ base q len cap : Nat) (a : Option Addr) (gr : Option Nat) (P : List Lv) (f : Nat → Nat) (hfk : ∀ k, k < len → f k = k) (hlen : P.length = len) (hl : len ≤ 1000000) (J Jx : List Nat → World → Prop)
  (hM : ∀ W, Raw W q a len cap → CallsIn F (n - 1) Tryz.prog 175 #[.pointer (some ⟨q, 0, none⟩)] W fun e w' => e = .returned (.bool true) ∧ w' = W)
  (hY : ∀ pre x W, J pre W → pre.length < len → YieldAt F (n - 1) Tryz.prog l #[.int .i64 ((f x : Nat) : Int), (told P (f x)).val] W fun e W' =>
   (e = .returned (.bool true) ∧ J (pre ++ [x]) W' ∧ Below n₀ W W') ∨ (e = .returned (.bool false) ∧ Jx (pre ++ [x]) W'))
  (W : World) (hJ : AbidesFrom W.heap.size J) (hBq : W.cell? ⟨Bq, 0, none⟩ = some (.pointer (some ⟨q, 0, none⟩))) (hR : Raw W q a len cap) (hr : RowAt 152 base W (.slice a len cap) P gr) (hgr : ∀ g, gr = some g → g < n₀) (hn₀ : n₀ ≤ W.heap.size) (h0 : J [] W) :
  CallsIn F n Tryz.prog 174 #[.func (.yield l) #[] #[], .pointer (some ⟨Bq, 0, none⟩)] W fun e W' => (∃ v, e = .returned v) ∧
   ((∃ ys, ys = List.range len ∧ J ys W') ∨ (∃ pre, (∃ k, k < len ∧ pre = List.range (k + 1)) ∧ Jx pre W')) := by
 have q0 := hM W hR
 have c1 := hR.two.2
 have hcap : len ≤ cap ∧ cap ≤ 9223372036854775807 := (by
  obtain ⟨_, _, e', hcap, hcm⟩ := hr.open
  injection e' with _ _ e3
  rw [e3]
  exact ⟨by omega, hcm⟩)
 obtain ⟨hcap, hcm⟩ := hcap
 replace hlen : Hid (P.length = len) := hlen
 refine callsIn_of_wp Tryz.func174 rfl hf ?_ hro
 simp only [Tryz.ntmps174, List.size_toArray, List.length_cons, List.length_nil, Nat.reduceAdd, Nat.reduceSub, Array.replicate_succ, Array.replicate_zero, List.push_toArray, List.append_toArray, List.nil_append, List.cons_append]
 gi_wp2_with (gi_at_call 175; refine q0.mono ?_; rintro e W ⟨rfl, rfl⟩)
 clear q0 hM
 gi_loopw [13] (fun i wr => ∃ k : Nat, k ≤ len ∧ i = .int .i64 k ∧ J (List.range k) wr ∧ Below n₀ W wr ∧ W.heap.size ≤ wr.heap.size)
  (fun i _ => len - (intOf i).toNat)
 case atStart => exact ⟨0, Nat.zero_le _, rfl, h0, Below.refl _ _, Nat.le_refl _⟩
 case round =>
  obtain ⟨k, hk, rfl, hJs, hnx, hsz⟩ := hrel
  by_cases hlt : k < len
  ·obtain ⟨x, hx⟩ : ∃ x, P[k]? = some x := ⟨_, List.getElem?_eq_getElem (by rw [hlen.out]; exact hlt)⟩
   obtain ⟨g, off, rfl, rfl, hcs⟩ := hr.at hx
   have hg0 := hgr g rfl
   have hcell := fun p => hnx.cell (p := ⟨g, p, none⟩) hg0
   obtain ⟨d0, d1, d2, d3⟩ := hcs [] W (Kept.refl _ _) (by simp)
   rw [← hcell] at d0 d1 d2 d3
   have i1 : (k : Int) < (len : Int) := by omega
   have hJ3 := hJ _ wr (wr.alloc (.cells #[.int .i64 x.id, .int .i64 x.o, .int .i64 x.l, .slice x.sa x.len x.cap] 152)) none hJs (World.grownBy_alloc wr _ none) (fun r e => by cases e)
   obtain ⟨fn, tmps, assign, body, hy, hRd⟩ := hY _ k _ hJ3 (by rw [List.length_range]; exact hlt)
   rw [hfk k hlt, told_at hx] at hy
   unfold Lv.val at hy
   have hb3 : Below n₀ wr (wr.alloc (.cells #[.int .i64 x.id, .int .i64 x.o, .int .i64 x.l, .slice x.sa x.len x.cap] 152)) := (Below.refl _ _).alloc (Nat.le_trans hn₀ hsz) _
   have hz3 := hb3.size
   replace hx : Hid _ := hx
   clear hcs hcell hY hJ hJ3 hr hfk
   gi_wp2
   refine hRd.mono ?_
   rintro e W3 (⟨rfl, hJ4, hk3⟩ | ⟨rfl, hJx3⟩)
   ·gi_wp2
    go_roundw
    case rel => exact ⟨k + 1, by omega, by go_num, by rw [List.range_succ]; exact hJ4, (hnx.trans hb3).trans hk3, Nat.le_trans hsz (Nat.le_trans hz3 hk3.size)⟩
    case measure => simp [intOf]; omega
   ·gi_wp2
    refine bodyPost_ret (results_none rfl _ _ _) rfl ?_
    exact ⟨⟨_, rfl⟩, .inr ⟨_, ⟨k, hlt, by rw [List.range_succ]⟩, hJx3⟩⟩
  ·obtain rfl : k = len := by omega
   have i1 : ¬ ((k : Int) < (k : Int)) := by omega
   gi_wp2
   go_end0
   exact ⟨⟨_, rfl⟩, .inl hJs⟩
set_option maxRecDepth 100000 in
theorem waiting_stops (n : Nat) (hn : 1 ≤ n) {w0 : World} {base q : Nat} {gr : Option Nat} {L : List Lw} (h : QAt w0 base q gr L) (hs : L.length ≤ 1000000) (f : Nat → Nat) (hfk : ∀ k, k < L.length → f k = k) (n₀ Bq : Nat) (w : World) (hk : Below w0.heap.size w0 w) (hn₀ : w0.heap.size ≤ n₀) (hnw : n₀ ≤ w.heap.size) (hb : Bq < w.heap.size) (hc : w.cell? ⟨Bq, 0, none⟩ = some (.pointer (some ⟨q, 0, none⟩))) :
  ∃ P : List Lv, P.map Lv.lw = L ∧ (∀ x ∈ P, x.At w0) ∧ SeqStopsK Fence.wide n Tryz.prog 174 #[.pointer (some ⟨Bq, 0, none⟩)] (fun x : Nat => #[.int .i64 ((f x : Nat) : Int), (told P (f x)).val]) (Below n₀) (fun ys => ys = List.range L.length) (fun pre => ∃ k, k < L.length ∧ pre = List.range (k + 1)) L.length w := by
 obtain ⟨a, cap, P, hR, hr, hl, hat, hPl, hc1, hc2⟩ := h.three
 refine ⟨P, hl, hat, fun l J Jx W hW hJ _ hY h0 => ?_⟩
 have hlt := h.lt
 have hWk : Kept [] w0 W := Kept.of_below (hk.trans (hW.mono hk.size)) []
 exact waiting1_in Fence.wide n trivial trivial rfl hn l Bq n₀ base q L.length cap a gr P f hfk hPl hs J Jx (fun V hV => callsIn_wide.2 (made_any V hV)) hY W hJ ((hW.cell (p := ⟨Bq, 0, none⟩) hb).trans hc) (hR.kept hWk (by simp)) (hr.kept0 hWk) (fun g hg => Nat.lt_of_lt_of_le (hlt.2 g hg).2.1 hn₀) (Nat.le_trans hnw hW.size) h0
end Go.Proofs.YtoaeficfmcncjaaGreat.Later

namespace Go.Proofs.YtoaeficfmcncjaaGreat
theorem Kept.youngs {L M : List Nat} {a b c : World} (h : Kept L a b) (k : Kept M b c) (hM : ∀ x ∈ M, x ∈ L ∨ a.heap.size ≤ x) : Kept L a c :=
 ⟨k.os.trans h.os, k.tape.trans h.tape, k.output.trans h.output, Nat.le_trans h.size k.size, fun i hi hL => (k.block i (Nat.lt_of_lt_of_le hi h.size) (fun hm => by
  rcases hM i hm with e | e
  ·exact hL e
  ·omega)).trans (h.block i hi hL)⟩
end Go.Proofs.YtoaeficfmcncjaaGreat
namespace Go.Proofs.YtoaeficfmcncjaaGreat.Later
open Go.RowKit Go.Shelf

attribute [local go_sem] Oper.semAt_some

theorem kept_put {W : World} {D : Nat} (o : Obj) : Kept [D] W (W.putObj D o) := ⟨rfl, rfl, rfl, by simp [World.putObj], fun k _ hk => World.putObj_heap_other (by simpa [eq_comm] using hk)⟩
set_option maxRecDepth 100000 in
theorem results_bool {fn : Func} {p : Tmp} (h : fn.results = #[.cell p 4]) (tmps : Array Value) (w : World) (g : Nat) (v : Value) (hp : tmps[p]? = some (.pointer (some ⟨g, 0, none⟩))) (hv : w.cell? ⟨g, 0, none⟩ = some v) :
  (results fn tmps).run Tryz.prog w = .ok v w := by
 simp [results, h, go_sem, hp, hv]
theorem keepsFrom_of {K : List Nat} {W V : World} (h : Kept K W V) (hK : ∀ k ∈ K, ∃ t c, Blk W k t c) (B : Nat) : KeepsFrom B W V := ⟨h.size, fun k o _ ho hc => (h.block k (Array.getElem?_eq_some_iff.1 ho).1 (fun hm => by
 obtain ⟨t, c, hb⟩ := hK k hm
 unfold Blk at hb
 rw [hb] at ho
 injection ho with ho
 subst ho
 cases hc)).trans ho⟩
theorem blk_own {B : Nat} {g : Nat} {t : TypeId} {cs : Array Value} : OwnFrom B (fun (_ : Unit) W => Blk W g t cs) := fun _ A V row h hg hr => h.kept (kept_grownBy hg) ((foot_other fun r e => (hr r e).2).ne h (by simp))
def overL (L : List Lw) (p m : Int) : Bool := L.any fun x => Span.Math.over x.o x.l p m
set_option maxRecDepth 100000 in
set_option maxHeartbeats 2000000 in
theorem over_in (n : Nat) (hn : 3 ≤ n) {base q : Nat} {gr : Option Nat} {L : List Lw} (p m : Int) (w : World) (h : QAt w base q gr L) (hs : L.length ≤ 1000000) :
  CallsIn Fence.wide n Tryz.prog 126 #[.pointer (some ⟨q, 0, none⟩), .agg #[.int .i64 p, .int .i64 m]] w fun e W' => e = .returned (.bool (overL L p m)) ∧ Kept [] w W' := by
 have h1 : 1 ≤ n := by omega
 have hro : Fence.wide.round = none := rfl
 refine callsIn_of_wp_marks Tryz.func126 rfl trivial ?_ hro
 simp only [Tryz.ntmps126, List.size_toArray, List.length_cons, List.length_nil, Nat.reduceAdd, Nat.reduceSub, Array.replicate_succ, Array.replicate_zero, List.push_toArray, List.append_toArray, List.nil_append, List.cons_append]
 gi_wp2_with (refine ⟨trivial, ?_⟩; gi_at_call 118; refine (callsIn_wide.2 (waiting_any _ _)).mono ?_; rintro e w' ⟨rfl, rfl⟩)
 have hb0 := blk_new w 44 #[.int .i64 p, .int .i64 m]
 have k1 := kept_alloc [] w (.cells #[.int .i64 p, .int .i64 m] 44)
 obtain ⟨W1, hW1⟩ : ∃ W1, w.alloc (.cells #[.int .i64 p, .int .i64 m] 44) = W1 := ⟨_, rfl⟩
 have s1 : W1.heap.size = w.heap.size + 1 := by rw [← hW1]; simp
 rw [hW1] at hb0 k1 ⊢
 have hb1 := blk_new W1 4 #[.bool false]
 have k2 := kept_alloc [] W1 (.cells #[.bool false] 4)
 obtain ⟨W2, hW2⟩ : ∃ W2, W1.alloc (.cells #[.bool false] 4) = W2 := ⟨_, rfl⟩
 have s2 : W2.heap.size = w.heap.size + 1 + 1 := by rw [← hW2]; simp [s1]
 rw [hW2] at hb1 k2 ⊢
 have hb2 := blk_new W2 100 #[.pointer (some ⟨q, 0, none⟩)]
 have k3 := kept_alloc [] W2 (.cells #[.pointer (some ⟨q, 0, none⟩)] 100)
 obtain ⟨W3, hW3⟩ : ∃ W3, W2.alloc (.cells #[.pointer (some ⟨q, 0, none⟩)] 100) = W3 := ⟨_, rfl⟩
 have s3 : W3.heap.size = w.heap.size + 1 + 1 + 1 := by rw [← hW3]; simp [s2]
 rw [hW3] at hb2 k3 ⊢
 rw [s1] at hb1
 rw [s2] at hb2
 replace hb0 := (hb0.kept k2 (by simp)).kept k3 (by simp)
 replace hb1 := hb1.kept k3 (by simp)
 have hk := (k1.trans k2).trans k3
 have hB := hk.below (Nat.le_refl _) (by simp)
 clear hW1 hW2 hW3 s1 s2 k1 k2 k3
 obtain ⟨P, hP, -, hseq⟩ := waiting_stops (n - 1) (by omega) h hs (fun x => x) (fun _ _ => rfl) w.heap.size (w.heap.size + 1 + 1) W3 hB (Nat.le_refl _) hk.size (by omega) ((hb2.cell 0).trans rfl)
 have hPl : P.length = L.length := by rw [← hP, List.length_map]
 refine wpIn_rangeFunc_ownH hro h1 (gf := 174) (lb := #[.pointer (some ⟨w.heap.size + 1 + 1, 0, none⟩)]) rfl trivial (enters_of Tryz.func174 (by kernel_rfl) rfl)
  hseq belowK_t (belowK_b (by omega)) (Below.refl _ _) (fun _ => rfl)
  (fun pre W => (∀ j ∈ pre, Span.Math.over (told P j).o (told P j).l p m = false) ∧ Blk W w.heap.size 44 #[.int .i64 p, .int .i64 m] ∧ Blk W (w.heap.size + 1) 4 #[.bool false] ∧ Kept [] w W)
  (fun c pre W => c = .ret ∧ (∃ j ∈ pre, Span.Math.over (told P j).o (told P j).l p m = true) ∧ Blk W (w.heap.size + 1) 4 #[.bool true] ∧ Kept [] w W)
  (fun pre A B row hs hg hr => ⟨hs.1, blk_own () A B row hs.2.1 hg hr, blk_own () A B row hs.2.2.1 hg hr, hs.2.2.2.youngs (kept_grownBy hg) (fun x hx => by have := (hr x (by simpa using hx)).1; right; omega)⟩)
  (fun c pre A B row hs hg hr => ⟨hs.1, hs.2.1, blk_own () A B row hs.2.2.1 hg hr, hs.2.2.2.youngs (kept_grownBy hg) (fun x hx => by have := (hr x (by simpa using hx)).1; right; omega)⟩)
  ⟨by simp, hb0, hb1, hk⟩
  (fun x a' W => ∃ B', a' = { tmps := #[.pointer (some ⟨q, 0, none⟩), .agg #[.int .i64 p, .int .i64 m], undef, .pointer (some ⟨w.heap.size, 0, none⟩), .pointer (some ⟨w.heap.size + 1, 0, none⟩), undef, .pointer (some ⟨B', 0, none⟩), .pointer (some ⟨q, 0, none⟩), .func (.func 174) #[] #[.pointer (some ⟨w.heap.size + 1 + 1, 0, none⟩)], .int .i64 ((x : Nat) : Int), (told P x).val, undef, undef, undef, undef], defers := [] } ∧ Blk W B' 152 #[.int .i64 (told P x).id, .int .i64 (told P x).o, .int .i64 (told P x).l, .slice (told P x).sa (told P x).len (told P x).cap])
  (fun x a' _ W W' row hs hg hrow => by obtain ⟨B', e, hb⟩ := hs; exact ⟨B', e, blk_own () W W' row hb hg hrow⟩) ?assign ?body ?done ?stop
 case assign =>
  intro l pre x W K hI hK
  unfold Lv.val at hK ⊢
  gi_wp2
  have ka := kept_alloc [] W (.cells #[.int .i64 (told P x).id, .int .i64 (told P x).o, .int .i64 (told P x).l, .slice (told P x).sa (told P x).len (told P x).cap] 152)
  obtain ⟨i1, i2, i3, i4⟩ := hI
  exact hK _ _ (keepsFrom_of ka (by simp) _) (ka.below i4.size (by simp)) ⟨i1, i2.kept ka (by simp), i3.kept ka (by simp), i4.trans ka⟩ ⟨W.heap.size, rfl, blk_new W _ _⟩
 case body =>
  rintro l pre x a' W _ _ ⟨i1, i2, i3, i4⟩ ⟨B', rfl, hb⟩ hlt
  have d1 : W.cell? ⟨B', 1, none⟩ = some (.int .i64 (told P x).o) := (hb.cell 1).trans rfl
  have d2 : W.cell? ⟨B', 2, none⟩ = some (.int .i64 (told P x).l) := (hb.cell 2).trans rfl
  have e0 : W.cell? ⟨w.heap.size, 0, none⟩ = some (.int .i64 p) := (i2.cell 0).trans rfl
  have e1 : W.cell? ⟨w.heap.size, 1, none⟩ = some (.int .i64 m) := (i2.cell 1).trans rfl
  have qo := Span.overlap_any (told P x).o (told P x).l p m W
  have hd2 : 1 ≤ n - 1 - 1 := by omega
  unfold Lv.val
  cases ho : Span.Math.over (told P x).o (told P x).l p m with
  | true =>
   rw [ho] at qo
   gi_wp2_with (refine ⟨trivial, ?_⟩; gi_at_call 178; refine (CallsIn.inRound l (callsIn_wide.2 qo)).mono ?_; rintro e w5 ⟨rfl, hB5⟩; have k5 := Kept.of_below hB5 []; have j3 := i3.kept k5 (by simp); have c3 := (j3.cell 0).trans (show _ = some (Value.bool false) from rfl); have f3 := j3.frozen 0)
   have kS := kept_set (L := [w.heap.size + 1]) (g := w.heap.size + 1) (by simp) w5 0 (.bool true)
   exact ⟨(keepsFrom_of k5 (by simp) _).trans (keepsFrom_of kS (by simpa using ⟨_, _, j3⟩) _), rfl, ⟨x, by simp, ho⟩, j3.set 0 _, (i4.trans k5).youngs kS (by simp)⟩
  | false =>
   rw [ho] at qo
   gi_wp2_with (refine ⟨trivial, ?_⟩; gi_at_call 178; refine (CallsIn.inRound l (callsIn_wide.2 qo)).mono ?_; rintro e w5 ⟨rfl, hB5⟩; have k5 := Kept.of_below hB5 [])
   exact ⟨keepsFrom_of k5 (by simp) _, k5.below i4.size (by simp), ⟨fun j hj => by
    rcases List.mem_append.1 hj with hj | hj
    ·exact i1 j hj
    ·simp at hj
     subst hj
     exact ho, i2.kept k5 (by simp), i3.kept k5 (by simp), i4.trans k5⟩⟩
 case done =>
  rintro D ys W hD rfl ⟨i1, i2, i3, i4⟩ hK
  have c3 := (i3.cell 0).trans (show _ = some (Value.bool false) from rfl)
  have f3 := i3.frozen 0
  have hfalse : overL L p m = false := by
   refine List.any_eq_false.2 fun x hx => ?_
   rw [← hP] at hx
   obtain ⟨y, hy, rfl⟩ := List.mem_map.1 hx
   obtain ⟨j, hj⟩ := List.getElem?_of_mem hy
   have hjl := (List.getElem?_eq_some_iff.1 hj).1
   have := i1 j (by simp; omega)
   rw [told_at hj] at this
   simpa [Lv.lw] using this
  replace hfalse : Hid _ := hfalse
  gi_wp2
  have kS := kept_set (L := [w.heap.size + 1]) (g := w.heap.size + 1) (by simp) W 0 (.bool false)
  have hlD := (Array.getElem?_eq_some_iff.1 hK).1
  have hK' : (W.setCell ⟨w.heap.size + 1, 0, none⟩ (.bool false)).heap[D]? = some (.deferred (some [])) := (kS.block D hlD (by simp; omega)).trans hK
  refine ⟨by simp, .inl ⟨_, _, rfl, run_takeDeferred hK', ?_⟩⟩
  have hkP := kept_put (W := W.setCell ⟨w.heap.size + 1, 0, none⟩ (.bool false)) (D := D) (.deferred none)
  exact ⟨_, results_bool rfl _ _ (w.heap.size + 1) _ rfl ((((i3.set 0 _).kept hkP (by simp; omega)).cell 0).trans rfl), by rw [hfalse.out]; rfl, (i4.youngs kS (by simp)).youngs hkP (by simp; omega)⟩
 case stop =>
  rintro D c pre W hD ⟨k, hk', rfl⟩ ⟨rfl, ⟨j, hj, ho⟩, i3, i4⟩ hK
  have htrue : overL L p m = true := by
   simp at hj
   obtain ⟨y, hy⟩ : ∃ y, P[j]? = some y := ⟨_, List.getElem?_eq_getElem (by omega)⟩
   rw [told_at hy] at ho
   refine List.any_eq_true.2 ⟨y.lw, ?_, ho⟩
   rw [← hP]
   exact List.mem_map.2 ⟨y, List.mem_of_getElem? hy, rfl⟩
  replace htrue : Hid _ := htrue
  gi_wp2
  refine ⟨by simp, .inl ⟨_, _, rfl, run_takeDeferred hK, ?_⟩⟩
  have hkP := kept_put (W := W) (D := D) (.deferred none)
  exact ⟨_, results_bool rfl _ _ (w.heap.size + 1) _ rfl (((i3.kept hkP (by simp; omega)).cell 0).trans rfl), by rw [htrue.out]; rfl, i4.youngs hkP (by simp; omega)⟩
set_option maxRecDepth 100000 in
theorem over_any {base q : Nat} {gr : Option Nat} {L : List Lw} (p m : Int) (w : World) (h : QAt w base q gr L) (hs : L.length ≤ 1000000) :
  Calls Tryz.prog 126 #[.pointer (some ⟨q, 0, none⟩), .agg #[.int .i64 p, .int .i64 m]] w fun e W' => e = .returned (.bool (overL L p m)) ∧ Kept [] w W' := callsIn_wide.1 (over_in 3 (Nat.le_refl _) p m w h hs)
end Go.Proofs.YtoaeficfmcncjaaGreat.Later

namespace Go.Proofs.YtoaeficfmcncjaaGreat.Later
open Go.RowKit Go.Shelf
open Clash (Ow OwsAt)

attribute [local go_sem] Oper.semAt_some

def may (O : List Ow) (x : Lw) : Bool := Clash.verd false O x.o x.l == 0
theorem QAt.keptN {ts : List TypeId} {K : List Nat} {A B : World} {base q : Nat} {gr : Option Nat} {L : List Lw} (h : QAt A base q gr L) (hk : Kept K A B) (hq : q ∉ K) (hg : ∀ g, gr = some g → g ∉ K) (hf : Foot ts A K) (h1 : 5 ∉ ts) : QAt B base q gr L := by
 obtain ⟨v, P, b1, b2, b3, b4⟩ := h.blk
 exact ⟨⟨v, P, b1.kept hk hq, b2.kept hk hg, b3, fun x hx => (b4 x hx).kept hk hf h1⟩, h.low⟩
end Go.Proofs.YtoaeficfmcncjaaGreat.Later

