/-
  The document's flights in memory: rows of writes, cut and joined; the walks of place and Busy.
-/
import Derived.Test.YtollfckgjhklcaaGreatFlU
namespace Go.Proofs.YtollfckgjhklcaaGreat.Flight
open Go.RowKit Go.Maps Go.Sort
open Table (Rising ins del tks)

/-- Writes by their tickets. -/
def tl (P : List Fv) : List (Int × Fw) := P.map fun x => (x.t, x.fw)
theorem tl_length (P : List Fv) : (tl P).length = P.length := by simp [tl]
theorem tl_append (A B : List Fv) : tl (A ++ B) = tl A ++ tl B := by simp [tl]
theorem tl_take (P : List Fv) (n : Nat) : tl (P.take n) = (tl P).take n := by simp [tl, List.map_take]
theorem tl_drop (P : List Fv) (n : Nat) : tl (P.drop n) = (tl P).drop n := by simp [tl, List.map_drop]
theorem tl_at {P : List Fv} {i : Nat} {x : Fv} (h : P[i]? = some x) : (tl P)[i]? = some (x.t, x.fw) := by
  unfold tl
  rw [List.getElem?_map, h]
  rfl
/-- What stands under a ticket is one of them. -/
theorem tl_look {P : List Fv} (hr : Rising (tl P)) {k : Int} {r : Fw} (h : Table.look (tl P) k = some r) : ∃ x, P[Table.place (tl P) k]? = some x ∧ x.t = k ∧ x.fw = r := by
  have e := Table.look_at hr h
  unfold tl at e ⊢
  rw [List.getElem?_map] at e
  cases hp : P[Table.place (P.map fun x => (x.t, x.fw)) k]? with
  | none => rw [hp] at e; cases e
  | some x =>
    rw [hp] at e
    simp at e
    exact ⟨x, rfl, e.1, e.2⟩
/-- Rows of the document's. -/
def RAt (W : World) (base : Nat) (v : Value) (P : List Fv) : Prop :=
  ∃ a cap, v = .slice a P.length cap ∧ P.length ≤ cap ∧ cap ≤ maxLen ∧ ((a = none ∧ cap = 0 ∧ P = []) ∨ ∃ g off, a = some ⟨g, off, none⟩ ∧ base ≤ g ∧ Lies 42 W g off P)
theorem rat_nil (base : Nat) (W : World) : RAt W base (.slice none 0 0) [] := ⟨none, 0, rfl, Nat.le_refl _, by unfold maxLen; omega, .inl ⟨rfl, rfl, rfl⟩⟩
theorem RAt.kept {K : List Nat} {A B : World} {base : Nat} {v : Value} {P : List Fv} (h : RAt A base v P) (hk : Kept K A B) (hK : ∀ k ∈ K, ∀ cur, ¬ Blk A k 42 cur) : RAt B base v P := by
  obtain ⟨a, cap, rfl, hc, hm, h1 | ⟨g, off, h1, h2, cur, h3, h4⟩⟩ := h
  · exact ⟨a, cap, rfl, hc, hm, .inl h1⟩
  · exact ⟨a, cap, rfl, hc, hm, .inr ⟨g, off, h1, h2, cur, h3.kept hk (fun hm => hK g hm cur h3), h4⟩⟩
theorem RAt.kept0 {A B : World} {base : Nat} {v : Value} {P : List Fv} (h : RAt A base v P) (hk : Kept [] A B) : RAt B base v P := h.kept hk (by simp)
theorem RAt.mono {W : World} {base base' : Nat} {v : Value} {P : List Fv} (h : RAt W base v P) (hb : base' ≤ base) : RAt W base' v P := by
  obtain ⟨a, cap, rfl, hc, hm, h1 | ⟨g, off, h1, h2, h3⟩⟩ := h
  · exact ⟨a, cap, rfl, hc, hm, .inl h1⟩
  · exact ⟨a, cap, rfl, hc, hm, .inr ⟨g, off, h1, by omega, h3⟩⟩
theorem RAt.wat {W : World} {base : Nat} {v : Value} {P : List Fv} (h : RAt W base v P) : WAt 42 W base v P := by
  obtain ⟨a, cap, rfl, hc, hm, ⟨rfl, rfl, rfl⟩ | ⟨g, off, rfl, h2, h3⟩⟩ := h
  · exact .inl ⟨rfl, rfl⟩
  · exact .inr ⟨g, off, cap, rfl, h2, hc, h3⟩
theorem rat_owns {W : World} {base : Nat} {v : Value} {P : List Fv} (h : W.ownsRow base 42 5 v P.length (cellsL P)) : RAt W base v P := by
  obtain ⟨_, ⟨rfl, h0⟩ | ⟨g, cap, cur, rfl, hb, hg, h1, h2, h3, h4⟩⟩ := h
  · have : P = [] := List.eq_nil_of_length_eq_zero h0
    subst this
    exact rat_nil _ _
  · refine ⟨_, cap, rfl, h1, h2, .inr ⟨g, 0, rfl, hb, cur, hg, by omega, fun i x hx c hc => ?_⟩⟩
    rw [Nat.zero_add, ← cellsL_at P i x hx c hc, ← h4, List.getElem?_take]
    have : i < P.length := (List.getElem?_eq_some_iff.1 hx).1
    rw [if_pos (by omega), Array.getElem?_toList]
set_option maxRecDepth 100000 in
theorem Tryz.infoRW : (Tryz.prog.info? 42).map (fun i => (i.zero, i.size, i.bytes)) = some (some (.agg #[.int .i64 0, .int .i64 0, .int .i64 0, .slice none 0 0, .int .i64 0]), 5, 56) := by kernel_rfl
theorem rat_one (w : World) (x : Fv) : RAt (w.alloc (.cells #[.int .i64 x.t, .int .i64 x.o, .int .i64 x.l, .slice x.sa x.len x.cap, .int .i64 x.st] 42)) w.heap.size (.slice (some ⟨w.heap.size, 0, none⟩) 1 1) [x] := by
  have hb := blk_new w 42 #[.int .i64 x.t, .int .i64 x.o, .int .i64 x.l, .slice x.sa x.len x.cap, .int .i64 x.st]
  refine ⟨_, 1, rfl, Nat.le_refl _, by unfold maxLen; omega, .inr ⟨w.heap.size, 0, rfl, Nat.le_refl _, _, hb, by simp, fun j y hy k hk => ?_⟩⟩
  have hj : j = 0 := by
    have := (List.getElem?_eq_some_iff.1 hy).1
    simpa using this
  subst hj
  simp at hy
  subst hy
  simp [Fv.cells]
theorem cellsL_back (L : List Fv) (q : Nat) (v : Value) (h : (cellsL L)[q]? = some v) : ∃ x, L[q / 5]? = some x ∧ x.cells[q % 5]? = some v := by
  have hq : q < L.length * 5 := by
    have := (List.getElem?_eq_some_iff.1 h).1
    rwa [cellsL_length] at this
  have hlt : q / 5 < L.length := by omega
  refine ⟨L[q / 5], List.getElem?_eq_getElem hlt, ?_⟩
  have := cellsL_at L (q / 5) _ (List.getElem?_eq_getElem hlt) (q % 5) (by omega)
  rw [show q / 5 * 5 + q % 5 = q by omega, h] at this
  exact this.symm
theorem cellsL_append (A B : List Fv) : cellsL (A ++ B) = cellsL A ++ cellsL B := by simp [cellsL]
section
variable {ops : Array Oper} {rest : List Oper} {o : Oper} {a : Act} {w : World} {Q : Exit → Act → World → Prop}
set_option maxRecDepth 100000 in
/-- Rows appended to a row that the call itself has made. -/
theorem wpList_append_rows (hgd : o.guard = none) (s x : Operand) (ho : o.op = .call { callee := .builtin .append, args := #[s, x], argTypes := #[29, 29] })
    (base lo : Nat) (v u : Value) (L K : List Fv) (hs : a.eval s = v) (hown : w.ownsRow base 42 5 v L.length (cellsL L)) (hx : a.eval x = u) (hu : RAt w lo u K) (hlen : L.length + K.length ≤ 2000) (hb : base ≤ w.heap.size)
    (h : ∀ v' w', w'.ownsRow base 42 5 v' (L ++ K).length (cellsL (L ++ K)) → w.grownBy w' v.ownBlock → (v'.ownBlock = v.ownBlock ∨ v'.ownBlock = some w.heap.size) → wpList Tryz.prog ops Q rest (a.put o.dst v') w') : wpList Tryz.prog ops Q (o :: rest) a w := by
  obtain ⟨i0, hi, hz0, hz1, hz2⟩ := info_parts Tryz.infoRW
  obtain ⟨ao, cap, rfl, hc, hm, ⟨rfl, rfl, rfl⟩ | ⟨b, off, rfl, h2, cur, hB, hsz, hcs⟩⟩ := hu
  · refine wpList_append_own_none hgd s x 29 ho base 42 i0 5 Tryz.underlying29 hi v L.length (cellsL L) hs hown hx ?_
    exact h v w (by simpa using hown) ⟨rfl, rfl, rfl, Nat.le_refl _, fun _ _ _ => rfl⟩ (.inl rfl)
  · refine wpList_append_own_at _ hgd s x 29 ho base 42 i0 (.agg #[.int .i64 0, .int .i64 0, .int .i64 0, .slice none 0 0, .int .i64 0]) 5 56 Tryz.underlying29 hi hz0 hz1 hz2 rfl (by decide) v L.length (cellsL L) hs hown ⟨b, off, none⟩ K.length cap (cellsL K) hx (cellsL_length K) ?_ (cellsL_one K) (by unfold maxLen; omega) (by omega) hb ?_
    · intro q u hu
      obtain ⟨y, hy, hyv⟩ := cellsL_back K q u hu
      have := hcs (q / 5) y hy (q % 5) (by omega)
      rw [show (⟨b, off, none⟩ : Addr).add q = ⟨b, off + q / 5 * 5 + q % 5, none⟩ by unfold Addr.add; split <;> simp_all <;> omega, hB.cell, this, hyv]
    · intro v' w' h3 h4 _ h5
      rw [← List.length_append, ← cellsL_append] at h3
      exact h v' w' h3 h4 h5
set_option maxRecDepth 100000 in
theorem Tryz.elemR : Tryz.prog.underlying 29 = some (.slice (Tryz.prog.elem 29)) := by kernel_rfl
set_option maxRecDepth 100000 in
theorem Tryz.sizeR (w : World) : (sizeOf (Tryz.prog.elem 29)).run Tryz.prog w = .ok 5 w := by kernel_rfl
set_option maxRecDepth 100000 in
/-- f.L[:n] -/
theorem wpList_take (hgd : o.guard = none) (x y : Operand) (ho : o.op = .slice 29 x none (some y) none) (lo : Nat) (v : Value) (P : List Fv) (n : Nat) (hx : a.eval x = v) (hy : a.eval y = .int .i64 (n : Int)) (h : RAt w lo v P) (hn : n ≤ P.length)
    (hk : ∀ u, RAt w lo u (P.take n) → wpList Tryz.prog ops Q rest (a.put o.dst u) w) : wpList Tryz.prog ops Q (o :: rest) a w := by
  refine wpList_plain hgd fun K' hK' => ?_
  obtain ⟨ad, cap, rfl, hc, hm, hrow⟩ := h
  have hrun : (Instr.sliceAt 29 (.slice ad P.length cap) none (some (.int .i64 (n : Int))) none).run Tryz.prog w = .ok (sliced ad 0 n cap 5) w := by
    rw [run_sliceAt_slice _ _ _ _ _ _ Tryz.elemR, run_slice_h _ _ _ _ _ Tryz.elemR _ _ (by omega) (by omega), Tryz.sizeR]
    simp [Result.andThen]
  unfold Oper.wp
  simp [execOp, ho, hx, hy, hrun, Result.andThen]
  refine hK' _ _ (hk _ ?_)
  refine ⟨_, cap, by rw [List.length_take, Nat.min_eq_left hn]; simp [sliced]; rfl, by rw [List.length_take]; omega, hm, ?_⟩
  rcases hrow with ⟨rfl, rfl, rfl⟩ | ⟨b, off, rfl, h1, cur, h2, h3, h4⟩
  · exact .inl ⟨by simp, rfl, by simp⟩
  · refine .inr ⟨b, off, ?_, h1, cur, h2, by rw [List.length_take, Nat.min_eq_left hn]; omega, fun j z hz => ?_⟩
    · simp [Addr.add]
    · rw [List.getElem?_take] at hz
      split at hz
      · exact h4 j z hz
      · cases hz
set_option maxRecDepth 100000 in
/-- f.L[n:] -/
theorem wpList_drop (hgd : o.guard = none) (x y : Operand) (ho : o.op = .slice 29 x (some y) none none) (lo : Nat) (v : Value) (P : List Fv) (n : Nat) (hx : a.eval x = v) (hy : a.eval y = .int .i64 (n : Int)) (h : RAt w lo v P) (hn : n ≤ P.length)
    (hk : ∀ u, RAt w lo u (P.drop n) → wpList Tryz.prog ops Q rest (a.put o.dst u) w) : wpList Tryz.prog ops Q (o :: rest) a w := by
  refine wpList_plain hgd fun K' hK' => ?_
  obtain ⟨ad, cap, rfl, hc, hm, hrow⟩ := h
  have hrun : (Instr.sliceAt 29 (.slice ad P.length cap) (some (.int .i64 (n : Int))) none none).run Tryz.prog w = .ok (sliced ad n P.length cap 5) w := by
    rw [run_sliceAt_slice _ _ _ _ _ _ Tryz.elemR, run_slice_l _ _ _ _ _ Tryz.elemR _ _ (by omega) (by omega), Tryz.sizeR]
    simp [Result.andThen]
  unfold Oper.wp
  simp [execOp, ho, hx, hy, hrun, Result.andThen]
  refine hK' _ _ (hk _ ?_)
  refine ⟨_, cap - n, by rw [List.length_drop]; rfl, by rw [List.length_drop]; omega, by omega, ?_⟩
  rcases hrow with ⟨rfl, rfl, rfl⟩ | ⟨b, off, rfl, h1, cur, h2, h3, h4⟩
  · exact .inl ⟨by simp, by simp, by simp⟩
  · by_cases hcn : cap = n
    · refine .inr ⟨b, off, by simp [hcn], h1, cur, h2, by rw [List.length_drop]; omega, fun j z hz => ?_⟩
      rw [List.drop_eq_nil_of_le (by omega)] at hz
      simp at hz
    · refine .inr ⟨b, off + n * 5, by simp [hcn, Addr.add], h1, cur, h2, by rw [List.length_drop]; omega, fun j z hz c hc => ?_⟩
      rw [List.getElem?_drop] at hz
      have := h4 (n + j) z hz c hc
      rwa [show off + (n + j) * 5 = off + n * 5 + j * 5 by omega] at this
end
/-- The document's flights: all that they are made of lies from lo on. -/
structure RFl (W : World) (lo hi r : Nat) (P : List Fv) : Prop where
  row : ∃ v, Blk W r 31 #[v] ∧ RAt W lo v P
  byt : ∀ x ∈ P, x.At lo hi W
  good : Good (tl P)
  fit : Fit (tl P)
  young : lo ≤ r
  hih : hi ≤ W.heap.size
/-- Block k is none of the document's. -/
def Strange (W : World) (r k : Nat) : Prop := k ≠ r ∧ ∀ cur, ¬ Blk W k 42 cur
theorem RFl.kept {K : List Nat} {A B : World} {lo hi r : Nat} {P : List Fv} (h : RFl A lo hi r P) (hk : Kept K A B) (hK : ∀ k ∈ K, Strange A r k) (hL : ∀ k ∈ K, Off lo hi A k) : RFl B lo hi r P := by
  obtain ⟨v, h1, h2⟩ := h.row
  exact ⟨⟨v, h1.kept hk (fun hm => (hK r hm).1 rfl), h2.kept hk (fun k hm => (hK k hm).2)⟩, fun p hp => (h.byt p hp).kept hk hL, h.good, h.fit, h.young, Nat.le_trans h.hih hk.size⟩
theorem RFl.kept0 {A B : World} {lo hi r : Nat} {P : List Fv} (h : RFl A lo hi r P) (hk : Kept [] A B) : RFl B lo hi r P := h.kept hk (by simp) (by simp)
theorem RFl.up {W : World} {lo hi r : Nat} {P : List Fv} (h : RFl W lo hi r P) : RFl W lo W.heap.size r P := ⟨h.row, fun p hp => (h.byt p hp).mono (Nat.le_refl _) h.hih, h.good, h.fit, h.young, Nat.le_refl _⟩
theorem RFl.lt {W : World} {lo hi r : Nat} {P : List Fv} (h : RFl W lo hi r P) : r < W.heap.size := by
  obtain ⟨v, h1, _⟩ := h.row
  exact h1.lt
set_option maxRecDepth 100000 in
set_option maxHeartbeats 1000000 in
/-- place -/
theorem rplace_any {lo hi r : Nat} {P : List Fv} (k : Int) (w : World) (h : RFl w lo hi r P) (hn6 : P.length ≤ 600) :
    Calls Tryz.prog 32 #[.pointer (some ⟨r, 0, none⟩), .int .i64 k] w fun e w' => e = .returned (.tuple #[.int .i64 (Table.place (tl P) k : Nat), .bool (Table.look (tl P) k).isSome]) ∧ Kept [] w w' := by
  obtain ⟨v, hr, a, cap, rfl, hc, hm, hrow⟩ := h.row
  have hpl := Table.place_le (tl P) k
  have hah := Table.place_ahead (tl P) k
  have hno := Table.place_not (tl P) k
  have hlk : Hid (Table.look (tl P) k = ((tl P)[Table.place (tl P) k]?).bind fun a => if a.1 = k then some a.2 else none) := Table.look_place (tl P) h.good.rising k
  generalize Table.place (tl P) k = n at *
  obtain ⟨len, hlen⟩ : ∃ len, P.length = len := ⟨_, rfl⟩
  rw [tl_length] at hpl
  rw [hlen] at hr hpl hc hn6
  replace hlen : Hid (P.length = len) := hlen
  have fR : ∀ W, Kept [] w W → W.cell? ⟨r, 0, none⟩ = some (.slice a len cap) := fun W hk => ((hr.kept hk (by simp)).cell 0).trans rfl
  have hcell : ∀ j y, P[j]? = some y → ∃ b off, a = some ⟨b, off, none⟩ ∧ ∀ W, Kept [] w W → W.cell? ⟨b, off + j * 5, none⟩ = some (.int .i64 y.t) := fun j y hy => by
    rcases hrow with ⟨-, -, h4⟩ | ⟨b, off, rfl, -, hL⟩
    · rw [h4] at hy
      simp at hy
    · exact ⟨b, off, rfl, fun W hk => (hL.at hy hk (by simp)).1⟩
  clear hrow hr h
  go_enter Tryz.func32, Tryz.ntmps32
  go_wp2_with fail
  go_loopw [6] (fun i wr => ∃ j : Nat, j ≤ n ∧ i = .int .i64 j ∧ Kept [] w wr) (fun i _ => n - (RowKit.intOf i).toNat)
  case atStart => exact ⟨0, by omega, rfl, Kept.refl _ _⟩
  case round =>
    obtain ⟨j, hj, rfl, hk⟩ := hrel
    have c0 := fR wr hk
    have fD := fun m => fR (wr.drewN m) (hk.trans (kept_drewN [] _ _))
    by_cases hlt : j < len
    · obtain ⟨y, hy⟩ : ∃ y, P[j]? = some y := ⟨_, List.getElem?_eq_getElem (by rw [hlen.out]; exact hlt)⟩
      obtain ⟨b, off, rfl, cy⟩ := hcell j y hy
      have cy0 := cy wr hk
      have cyD := fun m => cy (wr.drewN m) (hk.trans (kept_drewN [] _ _))
      have hil : (j : Int) < (len : Int) := by omega
      by_cases hjn : j < n
      · obtain ⟨y', hy', hah'⟩ := hah j hjn
        rw [tl_at hy] at hy'
        obtain rfl : (y.t, y.fw) = y' := by simpa using hy'
        have hah2 : y.t < k := hah'
        have hm1 : Hid (n - (j + 1) < n - j) := by show _ < _; omega
        clear hah hno hcell hy hy' cy fR fD cyD hah'
        go_wp2_with fail
        go_roundw
        case rel => exact ⟨j + 1, by omega, by go_num, hk⟩
        case measure => simpa [RowKit.intOf] using hm1.out
      · obtain rfl : j = n := by omega
        have hno' : ¬ y.t < k := by have := hno _ (tl_at hy); simp at this; omega
        rw [tl_at hy] at hlk
        by_cases he : y.t = k
        · have hs : Hid ((Table.look (tl P) k).isSome = true) := by show _ = _; rw [hlk.out]; simp [he]
          clear hah hno hcell hy cy fR hlk
          have he' : (y.t == k) = true := by simpa using he
          clear he
          go_wp2_with fail
          go_quiet (fail)
          go_wp2_with fail
          go_ret2
          exact ⟨by rw [hs.out]; rfl, hk.trans (kept_drewN [] _ _)⟩
        · have hs : Hid ((Table.look (tl P) k).isSome = false) := by show _ = _; rw [hlk.out]; simp [he]
          have he' : (y.t == k) = false := by simpa using he
          clear hah hno hcell hy cy fR hlk he
          go_wp2_with fail
          go_quiet (fail)
          go_wp2_with fail
          go_ret2
          exact ⟨by rw [hs.out]; rfl, hk.trans (kept_drewN [] _ _)⟩
    · have hnlt : ¬ ((j : Int) < (len : Int)) := by omega
      obtain rfl : j = n := by omega
      have hs : Hid ((Table.look (tl P) k).isSome = false) := by show _ = _; rw [hlk.out, List.getElem?_eq_none (by rw [tl_length, hlen.out]; omega)]; rfl
      clear hah hno hcell hlk fR
      go_wp2_with fail
      go_quiet (fail)
      go_wp2_with fail
      go_ret2
      exact ⟨by rw [hs.out]; rfl, hk.trans (kept_drewN [] _ _)⟩
end Go.Proofs.YtollfckgjhklcaaGreat.Flight
