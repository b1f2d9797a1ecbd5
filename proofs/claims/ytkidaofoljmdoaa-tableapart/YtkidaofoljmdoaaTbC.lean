/-
  The document's table in memory: rows, cut and joined; the walks of New, place, Get and Tickets of twainref15.
-/
import Derived.Test.YtkidaofoljmdoaaTbB
import Derived.Lib.AppendZeros
import Derived.Maps.AppendAt
namespace Go.Proofs.Ytkidaofoljmdoaa.Table
open Go.RowKit

/-- A row's cells, and those of rows. -/
def rcells (p : Int × Qv) : List Value := [.int .i64 p.1, .int .i64 p.2.k, .int .i64 p.2.o, .int .i64 p.2.l, .slice p.2.sa p.2.len p.2.cap]
/-- Rows that lie in a block from lo on and below hi, where there is one. -/
def RowsAt (lo hi : Nat) (W : World) (v : Value) (P : List (Int × Qv)) : Prop :=
  ∃ a cap, v = .slice a P.length cap ∧ P.length ≤ cap ∧ cap ≤ maxLen ∧ ((a = none ∧ cap = 0 ∧ P = []) ∨ ∃ b off, a = some ⟨b, off, none⟩ ∧ lo ≤ b ∧ b < hi ∧ ∀ j x, P[j]? = some x → W.rangeAt b (off + j * 5) (rcells x))
theorem RowsAt.kept {K : List Nat} {A B : World} {lo hi : Nat} {v : Value} {P : List (Int × Qv)} (h : RowsAt lo hi A v P) (hh : hi ≤ A.heap.size) (hk : Kept K A B) (hL : ∀ k ∈ K, k < lo ∨ hi ≤ k) : RowsAt lo hi B v P := by
  obtain ⟨a, cap, rfl, hc, hm, ⟨h1, h2, h3⟩ | ⟨b, off, h1, h2, h3, h4⟩⟩ := h
  · exact ⟨a, cap, rfl, hc, hm, .inl ⟨h1, h2, h3⟩⟩
  · refine ⟨a, cap, rfl, hc, hm, .inr ⟨b, off, h1, h2, h3, fun j x hx i v hv => ?_⟩⟩
    have := h4 j x hx i v hv
    rw [← this]
    have e := hk.block b (by omega) (fun hm => by have := hL b hm; omega)
    exact World.cell?_of_block (by exact e)
theorem RowsAt.mono {lo hi lo' hi' : Nat} {W : World} {v : Value} {P : List (Int × Qv)} (h : RowsAt lo hi W v P) (h1 : lo' ≤ lo) (h2 : hi ≤ hi') : RowsAt lo' hi' W v P := by
  obtain ⟨a, cap, rfl, hc, hm, ⟨g1, g2, g3⟩ | ⟨b, off, g1, g2, g3, g4⟩⟩ := h
  · exact ⟨a, cap, rfl, hc, hm, .inl ⟨g1, g2, g3⟩⟩
  · exact ⟨a, cap, rfl, hc, hm, .inr ⟨b, off, g1, by omega, by omega, g4⟩⟩
theorem rows_nil (lo hi : Nat) (W : World) : RowsAt lo hi W (.slice none 0 0) [] := ⟨none, 0, rfl, Nat.le_refl _, by unfold maxLen; omega, .inl ⟨rfl, rfl, rfl⟩⟩
def rowC (P : List (Int × Qv)) : List Value := P.flatMap rcells
theorem rowC_append (A B : List (Int × Qv)) : rowC (A ++ B) = rowC A ++ rowC B := by simp [rowC]
theorem rowC_length (P : List (Int × Qv)) : (rowC P).length = P.length * 5 := by
  induction P with
  | nil => rfl
  | cons x L ih =>
    have : rowC (x :: L) = rcells x ++ rowC L := rfl
    rw [this, List.length_append, ih, List.length_cons]
    simp [rcells]
    omega
theorem rowC_one (P : List (Int × Qv)) : ∀ v ∈ rowC P, v.oneCell' = true := by
  intro v hv
  obtain ⟨x, _, hx⟩ := List.mem_flatMap.1 hv
  simp [rcells] at hx
  rcases hx with rfl | rfl | rfl | rfl | rfl <;> rfl
theorem rowC_get (L : List (Int × Qv)) (j : Nat) (x : Int × Qv) (hx : L[j]? = some x) (k : Nat) (v : Value) (hv : (rcells x)[k]? = some v) : (rowC L)[j * 5 + k]? = some v := by
  have hj : j < L.length := (List.getElem?_eq_some_iff.1 hx).1
  have hk : k < 5 := by
    have := (List.getElem?_eq_some_iff.1 hv).1
    simpa [rcells] using this
  have e : L = L.take j ++ x :: L.drop (j + 1) := by
    have h1 := List.getElem?_eq_some_iff.1 hx
    conv => lhs; rw [← List.take_append_drop j L, List.drop_eq_getElem_cons hj, h1.2]
  rw [e, rowC_append]
  have hl : (rowC (L.take j)).length = j * 5 := by rw [rowC_length, List.length_take, Nat.min_eq_left (by omega)]
  rw [List.getElem?_append_right (by omega), hl, Nat.add_sub_cancel_left]
  have : rowC (x :: L.drop (j + 1)) = rcells x ++ rowC (L.drop (j + 1)) := rfl
  rw [this, List.getElem?_append_left (by simp [rcells]; omega)]
  exact hv
/-- Back: what lies at a place of a row of cells. -/
theorem rowC_at (L : List (Int × Qv)) (q : Nat) (v : Value) (h : (rowC L)[q]? = some v) : ∃ x, L[q / 5]? = some x ∧ (rcells x)[q % 5]? = some v := by
  have hq : q < L.length * 5 := by
    have := (List.getElem?_eq_some_iff.1 h).1
    rwa [rowC_length] at this
  have hlt : q / 5 < L.length := by omega
  refine ⟨L[q / 5], List.getElem?_eq_getElem hlt, ?_⟩
  have h3 : q % 5 < (rcells (L[q / 5])).length := by show q % 5 < 5; omega
  obtain ⟨u, hu⟩ : ∃ u, (rcells (L[q / 5]))[q % 5]? = some u := ⟨_, List.getElem?_eq_getElem h3⟩
  have := rowC_get L (q / 5) _ (List.getElem?_eq_getElem hlt) (q % 5) u hu
  rw [show q / 5 * 5 + q % 5 = q by omega, h] at this
  rw [hu]
  exact this.symm ▸ rfl
/-- What a call makes. -/
theorem rows_of_owns {W : World} {base : Nat} {v : Value} {L : List (Int × Qv)} (h : W.ownsRow base 62 5 v L.length (rowC L)) : RowsAt base W.heap.size W v L := by
  obtain ⟨_, ⟨rfl, h0⟩ | ⟨g, cap, cur, rfl, hb, hg, h1, h2, h3, h4⟩⟩ := h
  · have : L = [] := List.eq_nil_of_length_eq_zero h0
    subst this
    exact rows_nil _ _ _
  · refine ⟨_, cap, rfl, h1, h2, .inr ⟨g, 0, rfl, hb, (Array.getElem?_eq_some_iff.1 hg).1, fun j x hx k u hu => ?_⟩⟩
    have hj : j < L.length := (List.getElem?_eq_some_iff.1 hx).1
    have hk : k < 5 := by
      have := (List.getElem?_eq_some_iff.1 hu).1
      simpa [rcells] using this
    rw [cell_of_row W g (0 + j * 5 + k) _ 62 (0, 0) hg]
    have e := rowC_get L j x hx k u hu
    rw [← h4, List.getElem?_take_of_lt (by omega)] at e
    simpa using e
set_option maxRecDepth 100000 in
theorem Try.infoR : (Try.prog.info? 62).map (fun i => (i.zero, i.size, i.bytes)) = some (some (.agg #[.int .i64 0, .int .i64 0, .int .i64 0, .int .i64 0, .slice none 0 0]), 5, 56) := by kernel_rfl
theorem rows_one (w : World) (t : Int) (x : Qv) : RowsAt w.heap.size (w.heap.size + 1) (w.alloc (.cells #[.int .i64 t, .int .i64 x.k, .int .i64 x.o, .int .i64 x.l, .slice x.sa x.len x.cap] 62)) (.slice (some ⟨w.heap.size, 0, none⟩) 1 1) [(t, x)] := by
  have hb := blk_new w 62 #[.int .i64 t, .int .i64 x.k, .int .i64 x.o, .int .i64 x.l, .slice x.sa x.len x.cap]
  refine ⟨_, 1, rfl, Nat.le_refl _, by unfold maxLen; omega, .inr ⟨w.heap.size, 0, rfl, Nat.le_refl _, by omega, fun j y hy k v hv => ?_⟩⟩
  have hj : j = 0 := by
    have := (List.getElem?_eq_some_iff.1 hy).1
    simpa using this
  subst hj
  simp at hy
  subst hy
  rw [hb.cell]
  simpa [rcells] using hv
section
variable {ops : Array Oper} {rest : List Oper} {o : Oper} {a : Act} {w : World} {Q : Exit → Act → World → Prop}
set_option maxRecDepth 100000 in
/-- Rows appended to a row that the call itself has made. -/
theorem wpList_append_rows (hgd : o.guard = none) (s x : Operand) (ho : o.op = .call { callee := .builtin .append, args := #[s, x], argTypes := #[45, 45] })
    (base : Nat) (v u : Value) (lo hi : Nat) (L K : List (Int × Qv)) (hs : a.eval s = v) (hown : w.ownsRow base 62 5 v L.length (rowC L)) (hx : a.eval x = u) (hu : RowsAt lo hi w u K) (hlen : L.length + K.length ≤ 2000) (hb : base ≤ w.heap.size)
    (h : ∀ v' w', w'.ownsRow base 62 5 v' (L ++ K).length (rowC (L ++ K)) → w.grownBy w' v.ownBlock → (v'.ownBlock = v.ownBlock ∨ v'.ownBlock = some w.heap.size) → wpList Try.prog ops Q rest (a.put o.dst v') w') : wpList Try.prog ops Q (o :: rest) a w := by
  obtain ⟨i0, hi, hz0, hz1, hz2⟩ := info_parts Try.infoR
  obtain ⟨ao, cap, rfl, hc, hm, ⟨rfl, rfl, rfl⟩ | ⟨b, off, rfl, h2, h3, hcs⟩⟩ := hu
  · refine wpList_append_own_none hgd s x 45 ho base 62 i0 5 Try.underlying45 hi v L.length (rowC L) hs hown hx ?_
    exact h v w (by simpa using hown) ⟨rfl, rfl, rfl, Nat.le_refl _, fun _ _ _ => rfl⟩ (.inl rfl)
  · refine wpList_append_own_at _ hgd s x 45 ho base 62 i0 (.agg #[.int .i64 0, .int .i64 0, .int .i64 0, .int .i64 0, .slice none 0 0]) 5 56 Try.underlying45 hi hz0 hz1 hz2 rfl (by decide) v L.length (rowC L) hs hown ⟨b, off, none⟩ K.length cap (rowC K) hx (rowC_length K) ?_ (rowC_one K) (by unfold maxLen; omega) (by omega) hb ?_
    · intro q u hu
      obtain ⟨y, hy, hyv⟩ := rowC_at K q u hu
      have := hcs (q / 5) y hy (q % 5) u hyv
      rw [show (⟨b, off, none⟩ : Addr).add q = ⟨b, off + q / 5 * 5 + q % 5, none⟩ by unfold Addr.add; split <;> simp_all <;> omega]
      exact this
    · intro v' w' h3 h4 _ h5
      rw [← List.length_append, ← rowC_append] at h3
      exact h v' w' h3 h4 h5
set_option maxRecDepth 100000 in
theorem Try.elemR : Try.prog.underlying 45 = some (.slice (Try.prog.elem 45)) := by kernel_rfl
set_option maxRecDepth 100000 in
theorem Try.sizeR (w : World) : (sizeOf (Try.prog.elem 45)).run Try.prog w = .ok 5 w := by kernel_rfl
set_option maxRecDepth 100000 in
/-- t.L[:n] -/
theorem wpList_take (hgd : o.guard = none) (x y : Operand) (ho : o.op = .slice 45 x none (some y) none) (lo hi : Nat) (v : Value) (P : List (Int × Qv)) (n : Nat) (hx : a.eval x = v) (hy : a.eval y = .int .i64 (n : Int)) (h : RowsAt lo hi w v P) (hn : n ≤ P.length)
    (hk : ∀ u, RowsAt lo hi w u (P.take n) → wpList Try.prog ops Q rest (a.put o.dst u) w) : wpList Try.prog ops Q (o :: rest) a w := by
  refine wpList_plain hgd fun K' hK' => ?_
  obtain ⟨ad, cap, rfl, hc, hm, hrow⟩ := h
  have hrun : (Instr.sliceAt 45 (.slice ad P.length cap) none (some (.int .i64 (n : Int))) none).run Try.prog w = .ok (sliced ad 0 n cap 5) w := by
    rw [run_sliceAt_slice _ _ _ _ _ _ Try.elemR, run_slice_h _ _ _ _ _ Try.elemR _ _ (by omega) (by omega), Try.sizeR]
    simp [Result.andThen]
  unfold Oper.wp
  simp [execOp, ho, hx, hy, hrun, Result.andThen]
  refine hK' _ _ (hk _ ?_)
  refine ⟨_, cap, by rw [List.length_take, Nat.min_eq_left hn]; simp [sliced]; rfl, by rw [List.length_take]; omega, hm, ?_⟩
  rcases hrow with ⟨rfl, rfl, rfl⟩ | ⟨b, off, rfl, h1, h2, h3⟩
  · exact .inl ⟨by simp, rfl, by simp⟩
  · refine .inr ⟨b, off, ?_, h1, h2, fun j z hz => ?_⟩
    · simp [Addr.add]
    · rw [List.getElem?_take] at hz
      split at hz
      · exact h3 j z hz
      · cases hz
set_option maxRecDepth 100000 in
/-- t.L[n:] -/
theorem wpList_drop (hgd : o.guard = none) (x y : Operand) (ho : o.op = .slice 45 x (some y) none none) (lo hi : Nat) (v : Value) (P : List (Int × Qv)) (n : Nat) (hx : a.eval x = v) (hy : a.eval y = .int .i64 (n : Int)) (h : RowsAt lo hi w v P) (hn : n ≤ P.length)
    (hk : ∀ u, RowsAt lo hi w u (P.drop n) → wpList Try.prog ops Q rest (a.put o.dst u) w) : wpList Try.prog ops Q (o :: rest) a w := by
  refine wpList_plain hgd fun K' hK' => ?_
  obtain ⟨ad, cap, rfl, hc, hm, hrow⟩ := h
  have hrun : (Instr.sliceAt 45 (.slice ad P.length cap) (some (.int .i64 (n : Int))) none none).run Try.prog w = .ok (sliced ad n P.length cap 5) w := by
    rw [run_sliceAt_slice _ _ _ _ _ _ Try.elemR, run_slice_l _ _ _ _ _ Try.elemR _ _ (by omega) (by omega), Try.sizeR]
    simp [Result.andThen]
  unfold Oper.wp
  simp [execOp, ho, hx, hy, hrun, Result.andThen]
  refine hK' _ _ (hk _ ?_)
  refine ⟨_, cap - n, by rw [List.length_drop]; rfl, by rw [List.length_drop]; omega, by omega, ?_⟩
  rcases hrow with ⟨rfl, rfl, rfl⟩ | ⟨b, off, rfl, h1, h2, h3⟩
  · exact .inl ⟨by simp, by simp, by simp⟩
  · by_cases hcn : cap = n
    · refine .inr ⟨b, off, by simp [hcn], h1, h2, fun j z hz => ?_⟩
      rw [List.drop_eq_nil_of_le (by omega)] at hz
      simp at hz
    · refine .inr ⟨b, off + n * 5, by simp [hcn, Addr.add], h1, h2, fun j z hz => ?_⟩
      rw [List.getElem?_drop] at hz
      have := h3 (n + j) z hz
      rwa [show off + (n + j) * 5 = off + n * 5 + j * 5 by omega] at this
end
/-- The document's table. -/
structure RTab (W : World) (lo hi r most : Nat) (P : List (Int × Qv)) : Prop where
  row : ∃ v, Blk W r 47 #[v, .int .i64 (most : Int)] ∧ RowsAt lo hi W v P
  byt : ∀ p ∈ P, p.2.At lo hi W
  fine : Fine most P
  top : most ≤ 16
  rlo : r < lo
  hih : hi ≤ W.heap.size
theorem RTab.kept {K : List Nat} {A B : World} {lo hi r most : Nat} {P : List (Int × Qv)} (h : RTab A lo hi r most P) (hk : Kept K A B) (hr : r ∉ K) (hL : ∀ k ∈ K, k < lo ∨ hi ≤ k) : RTab B lo hi r most P := by
  obtain ⟨v, h1, h2⟩ := h.row
  exact ⟨⟨v, h1.kept hk hr, h2.kept h.hih hk hL⟩, fun p hp => (h.byt p hp).kept h.hih hk hL, h.fine, h.top, h.rlo, Nat.le_trans h.hih hk.size⟩
theorem RTab.kept0 {A B : World} {lo hi r most : Nat} {P : List (Int × Qv)} (h : RTab A lo hi r most P) (hk : Kept [] A B) : RTab B lo hi r most P := h.kept hk (by simp) (by simp)
theorem RTab.raise {W : World} {lo hi r most : Nat} {P : List (Int × Qv)} (h : RTab W lo hi r most P) : RTab W lo W.heap.size r most P := by
  obtain ⟨v, h1, h2⟩ := h.row
  exact ⟨⟨v, h1, h2.mono (Nat.le_refl _) h.hih⟩, fun p hp => (h.byt p hp).mono (Nat.le_refl _) h.hih, h.fine, h.top, h.rlo, Nat.le_refl _⟩
theorem TabAt.raise {W : World} {lo hi t b most : Nat} {M : List (Int × Rq)} (g : TabAt W lo hi t b most M) : TabAt W lo W.heap.size t b most M := ⟨g.blk, g.map.mono (Nat.le_refl _) g.hih, g.fine, g.pos, g.top, g.tlo, g.blo, Nat.le_refl _⟩
theorem RTab.lt {W : World} {lo hi r most : Nat} {P : List (Int × Qv)} (h : RTab W lo hi r most P) : r < W.heap.size := by
  obtain ⟨v, h1, _⟩ := h.row
  exact h1.lt

set_option maxRecDepth 100000 in
/-- twainref15.New -/
theorem rnew_any (most : Nat) (h1 : 1 ≤ most) (h2 : most ≤ 16) (w : World) :
    Calls Try.prog 8 #[.int .i64 (most : Int)] w fun e w' => e = .returned (.tuple #[.pointer (some ⟨w.heap.size, 0, none⟩), .int .i64 0]) ∧ RTab w' w'.heap.size w'.heap.size w.heap.size most [] ∧ w'.heap.size = w.heap.size + 1 ∧ Kept [] w w' := by
  have k1 : ¬ ((most : Int) < 1) := by omega
  have k2 : ¬ ((16 : Int) < (most : Int)) := by omega
  go_enter Try.func8, Try.ntmps8
  go_wp2
  all_goals first | omega | skip
  go_ret2
  exact ⟨rfl, ⟨⟨_, blk_new w 47 #[.slice none 0 0, .int .i64 (most : Int)], rows_nil _ _ _⟩, by simp, fine_nil most, h2, by simp, Nat.le_refl _⟩, by simp, kept_alloc [] _ _⟩
set_option maxRecDepth 100000 in
/-- New, of any other number -/
theorem rnew_none (k : Int) (h : k < 1 ∨ 16 < k) (w : World) :
    Calls Try.prog 8 #[.int .i64 k] w fun e w' => e = .returned (.tuple #[.pointer none, .int .i64 2]) ∧ w' = w := by
  go_enter Try.func8, Try.ntmps8
  go_wp2
  all_goals first | omega | (go_ret2; exact ⟨rfl, rfl⟩)

set_option maxRecDepth 100000 in
set_option maxHeartbeats 1000000 in
/-- place -/
theorem rplace_any {lo hi r most : Nat} {P : List (Int × Qv)} (k : Int) (w : World) (h : RTab w lo hi r most P) :
    Calls Try.prog 24 #[.pointer (some ⟨r, 0, none⟩), .int .i64 k] w fun e w' => e = .returned (.tuple #[.int .i64 (place P k : Nat), .bool (look P k).isSome]) ∧ Kept [] w w' := by
  obtain ⟨v, hr, a, cap, rfl, hc, hm, hrow⟩ := h.row
  have hfew : P.length ≤ 16 := Nat.le_trans h.fine.few h.top
  have hpl := place_le P k
  have hah := place_ahead P k
  have hno := place_not P k
  have hlk : Hid (look P k = (P[place P k]?).bind fun a => if a.1 = k then some a.2 else none) := look_place P h.fine.rise k
  generalize place P k = n at *
  obtain ⟨len, hlen⟩ : ∃ len, P.length = len := ⟨_, rfl⟩
  rw [hlen] at hr hpl hc hfew
  replace hlen : Hid (P.length = len) := hlen
  have fR : ∀ W, Kept [] w W → W.cell? ⟨r, 0, none⟩ = some (.slice a len cap) := fun W hk => ((hr.kept hk (by simp)).cell 0).trans rfl
  have hih := h.hih
  have hcell : ∀ j y, P[j]? = some y → ∃ b off, a = some ⟨b, off, none⟩ ∧ ∀ W, Kept [] w W → W.cell? ⟨b, off + j * 5, none⟩ = some (.int .i64 y.1) := fun j y hy => by
    rcases hrow with ⟨-, -, h4⟩ | ⟨b, off, rfl, -, hb, hcs⟩
    · rw [h4] at hy
      simp at hy
    · refine ⟨b, off, rfl, fun W hk => ?_⟩
      exact (World.cell?_of_block (by exact hk.block b (by omega) (by simp))).trans (hcs j y hy 0 _ rfl)
  clear hrow hr h
  go_enter Try.func24, Try.ntmps24
  go_wp2_with fail
  go_loopw [6] (fun i wr => ∃ j : Nat, j ≤ n ∧ i = .int .i64 j ∧ Kept [] w wr) (fun i _ => n - (RowKit.intOf i).toNat)
  case atStart => exact ⟨0, by omega, rfl, Kept.refl _ _⟩
  case round =>
    obtain ⟨j, hj, rfl, hk⟩ := hrel
    have c0 := fR wr hk
    have fD := fun m => fR (wr.drewN m) (hk.trans (kept_drewN [] _ _))
    by_cases hlt : j < len
    · obtain ⟨y, hy⟩ : ∃ y, P[j]? = some y := ⟨_, List.getElem?_eq_getElem (by rw [hlen.out]; exact hlt)⟩
      obtain ⟨b, off, rfl, cy⟩ := hcell j y hy
      have cy0 := cy wr hk
      have cyD := fun m => cy (wr.drewN m) (hk.trans (kept_drewN [] _ _))
      have hil : (j : Int) < (len : Int) := by omega
      by_cases hjn : j < n
      · obtain ⟨y', hy', hah'⟩ := hah j hjn
        rw [hy] at hy'
        obtain rfl : y = y' := by simpa using hy'
        have hm1 : Hid (n - (j + 1) < n - j) := by show _ < _; omega
        clear hah hno hcell hy hy' cy fR fD cyD
        go_wp2_with fail
        go_roundw
        case rel => exact ⟨j + 1, by omega, rfl, hk⟩
        case measure => simpa [RowKit.intOf] using hm1.out
      · obtain rfl : j = n := by omega
        have hno' := hno y hy
        rw [hy] at hlk
        by_cases he : y.1 = k
        · have hs : Hid ((look P k).isSome = true) := by show _ = _; rw [hlk.out]; simp [he]
          clear hah hno hcell hy cy fR hlk
          subst he
          go_wp2_with fail
          go_quiet (fail)
          go_wp2_with fail
          go_ret2
          exact ⟨by rw [hs.out]; rfl, hk.trans (kept_drewN [] _ _)⟩
        · have hs : Hid ((look P k).isSome = false) := by show _ = _; rw [hlk.out]; simp [he]
          have he' : (y.1 == k) = false := by simpa using he
          clear hah hno hcell hy cy fR hlk he
          go_wp2_with fail
          go_quiet (fail)
          go_wp2_with fail
          go_ret2
          exact ⟨by rw [hs.out]; rfl, hk.trans (kept_drewN [] _ _)⟩
    · have hnlt : ¬ ((j : Int) < (len : Int)) := by omega
      obtain rfl : j = n := by omega
      have hs : Hid ((look P k).isSome = false) := by show _ = _; rw [hlk.out, List.getElem?_eq_none (by rw [hlen.out]; omega)]; rfl
      clear hah hno hcell hlk fR
      go_wp2_with fail
      go_quiet (fail)
      go_wp2_with fail
      go_ret2
      exact ⟨by rw [hs.out]; rfl, hk.trans (kept_drewN [] _ _)⟩
end Go.Proofs.Ytkidaofoljmdoaa.Table
