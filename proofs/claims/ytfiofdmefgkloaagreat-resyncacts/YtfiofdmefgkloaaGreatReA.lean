/-
  Rows of messages of a call's own: what lies at a place, append of one or of many.
-/
import Derived.Test.YtfiofdmefgkloaaGreatCpA
import Derived.Deep.AppendLies
import Derived.Deep.MidRow
namespace Go.Proofs.YtfiofdmefgkloaaGreat.Resync
open Go.RowKit
open Pack (Mv Ms mv0)

/-- The cells of some messages. -/
def cellsM (P : List Mv) : List Value := P.flatMap Mv.cells
theorem six_cells (x : Mv) : x.cells.length = 6 := rfl
theorem cellsM_append (A B : List Mv) : cellsM (A ++ B) = cellsM A ++ cellsM B := by simp [cellsM]
theorem cellsM_length (P : List Mv) : (cellsM P).length = P.length * 6 := by
  induction P with
  | nil => rfl
  | cons x P ih =>
    show (x.cells ++ cellsM P).length = _
    rw [List.length_append, ih, List.length_cons, six_cells]
    omega
theorem cells_single (x : Mv) : ∀ v ∈ x.cells, v.oneCell' = true := by
  simp [Mv.cells, Value.oneCell']
theorem cellsM_one (P : List Mv) : ∀ v ∈ cellsM P, v.oneCell' = true := fun v hv => by
  obtain ⟨x, _, hx⟩ := List.mem_flatMap.1 hv
  exact cells_single x v hx
theorem cellsM_at : ∀ (P : List Mv) (i : Nat) (x : Mv), P[i]? = some x → ∀ c, c < 6 → (cellsM P)[i * 6 + c]? = x.cells[c]?
  | [], i, x, h, _, _ => by simp at h
  | y :: P, 0, x, h, c, hc => by
    simp at h
    subst h
    show (y.cells ++ cellsM P)[0 * 6 + c]? = _
    rw [Nat.zero_mul, Nat.zero_add, List.getElem?_append_left (by rw [six_cells]; omega)]
  | y :: P, i + 1, x, h, c, hc => by
    show (y.cells ++ cellsM P)[(i + 1) * 6 + c]? = _
    have e : (i + 1) * 6 + c = y.cells.length + (i * 6 + c) := by rw [six_cells]; omega
    rw [e, List.getElem?_append_right (by omega), Nat.add_sub_cancel_left]
    exact cellsM_at P i x (by simpa using h) c hc
set_option maxRecDepth 100000 in
theorem Tryz.undMs : Tryz.prog.underlying 38 = some (.slice 26) := by kernel_rfl
set_option maxRecDepth 100000 in
theorem Tryz.infoM : (Tryz.prog.info? 26).map (fun i => (i.zero, i.size, i.bytes)) = some (some (.agg #[.int .i64 0, .int .i64 0, .int .i64 0, .int .u64 0, .bool false, .slice none 0 0]), 6, 64) := by kernel_rfl
/-- The slice value v holds the messages P, in a block of its own from base on. -/
def MRow (base : Nat) (W : World) (v : Value) (P : List Mv) : Prop := W.ownsRow base 26 6 v P.length (cellsM P)
theorem MRow.nil (base : Nat) (W : World) : MRow base W (.slice none 0 0) [] := World.ownsRow_nil W base 26 6
theorem MRow.lt {base : Nat} {W : World} {v : Value} {P : List Mv} (h : MRow base W v P) : ∀ k, v.ownBlock = some k → base ≤ k ∧ k < W.heap.size := World.ownsRow.lt h
theorem MRow.blk {base : Nat} {W : World} {v : Value} {P : List Mv} (h : MRow base W v P) : ∀ k, v.ownBlock = some k → ∃ cur, Blk W k 26 cur := fun k hk => by
  rcases h.2 with ⟨rfl, _⟩ | ⟨g, cap, cur, rfl, hb, hg, _⟩
  · simp [Value.ownBlock] at hk
  · simp [Value.ownBlock] at hk
    subst hk
    exact ⟨cur, hg⟩
theorem MRow.kept {K : List Nat} {A B : World} {base : Nat} {v : Value} {P : List Mv} (h : MRow base A v P) (hk : Kept K A B) (hK : ∀ k, v.ownBlock = some k → k ∉ K) : MRow base B v P := by
  refine ⟨h.1, ?_⟩
  rcases h.2 with h0 | ⟨g, cap, cur, rfl, hb, hg, h1⟩
  · exact .inl h0
  · exact .inr ⟨g, cap, cur, rfl, hb, (hk.block g (Array.getElem?_eq_some_iff.1 hg).1 (hK g rfl)).trans hg, h1⟩
theorem MRow.kept0 {A B : World} {base : Nat} {v : Value} {P : List Mv} (h : MRow base A v P) (hk : Kept [] A B) : MRow base B v P := h.kept hk (by simp)
theorem MRow.low {base base' : Nat} {W : World} {v : Value} {P : List Mv} (h : MRow base W v P) (hb : base' ≤ base) : MRow base' W v P := by
  refine ⟨h.1, ?_⟩
  rcases h.2 with h0 | ⟨g, cap, cur, rfl, hb2, h1⟩
  · exact .inl h0
  · exact .inr ⟨g, cap, cur, rfl, Nat.le_trans hb hb2, h1⟩
theorem MRow.form {base : Nat} {W : World} {v : Value} {P : List Mv} (h : MRow base W v P) : ∃ sa cap, v = .slice sa P.length cap := by
  rcases h.2 with ⟨rfl, h0⟩ | ⟨g, cap, cur, rfl, _⟩
  · exact ⟨none, 0, by rw [h0]⟩
  · exact ⟨_, cap, rfl⟩
/-- The slice value v holds Q, wherever that is. -/
def Lies (W : World) (v : Value) (Q : List Mv) : Prop :=
  ∃ sa cap, v = .slice sa Q.length cap ∧ (sa = none → cap = 0) ∧ Q.length ≤ cap ∧ cap ≤ maxLen ∧ (Q = [] ∨ ∃ g off, sa = some ⟨g, off, none⟩ ∧ g < W.heap.size ∧ ∀ j u, (cellsM Q)[j]? = some u → W.cell? ⟨g, off + j, none⟩ = some u)
theorem MRow.lies {base : Nat} {W : World} {v : Value} {P : List Mv} (h : MRow base W v P) : Lies W v P := by
  obtain ⟨_, ⟨rfl, h0⟩ | ⟨g, cap, cur, rfl, hb, hg, h1, h2, h3, h4⟩⟩ := h
  · have : P = [] := List.eq_nil_of_length_eq_zero h0
    subst this
    exact ⟨none, 0, rfl, fun _ => rfl, Nat.le_refl _, Nat.zero_le _, .inl rfl⟩
  · refine ⟨_, cap, rfl, fun e => (by cases e), h1, h2, .inr ⟨g, 0, rfl, (Array.getElem?_eq_some_iff.1 hg).1, fun j u hj => ?_⟩⟩
    have hl := (List.getElem?_eq_some_iff.1 hj).1
    rw [cellsM_length] at hl
    rw [← h4, List.getElem?_take_of_lt hl] at hj
    rw [Nat.zero_add, Blk.cell (t := 26) (cs := cur) hg j, ← Array.getElem?_toList]
    exact hj
/-- A slice of one, laid just now. -/
theorem lies_one {W : World} (x : Mv) (q : Nat) (h : x.In W q) : Lies W (.slice (some ⟨q, 0, none⟩) 1 1) [x] :=
  ⟨_, 1, rfl, fun e => (by cases e), Nat.le_refl _, by unfold maxLen; omega, .inr ⟨q, 0, rfl, Blk.lt h, fun j u hj => by
    have e : cellsM [x] = x.cells := by simp [cellsM]
    rw [e] at hj
    rw [Nat.zero_add, Blk.cell (cs := x.cells.toArray) h j]
    simpa using hj⟩⟩
/-- What lies at a place: the whole message, for a load out of the middle of a block. -/
theorem Lies.at {W : World} {sa : Option Addr} {n cap : Nat} {Q : List Mv} (h : Lies W (.slice sa n cap) Q) (j : Nat) (x : Mv) (hj : Q[j]? = some x) : ∃ g off, sa = some ⟨g, off, none⟩ ∧ g < W.heap.size ∧ W.rangeAt g (off + j * 6) x.cells := by
  obtain ⟨sa', cap', e, _, _, _, h | ⟨g, off, rfl, hg, h1⟩⟩ := h
  · subst h
    simp at hj
  · injection e with e1 _ _
    refine ⟨g, off, e1, hg, fun c v hv => ?_⟩
    have hc : c < 6 := (List.getElem?_eq_some_iff.1 hv).1
    have := h1 (j * 6 + c) v ((cellsM_at Q j x hj c hc).trans hv)
    rw [Nat.add_assoc]
    exact this
theorem MRow.at {base : Nat} {W : World} {sa : Option Addr} {n cap : Nat} {P : List Mv} (h : MRow base W (.slice sa n cap) P) (j : Nat) (x : Mv) (hj : P[j]? = some x) : ∃ g, sa = some ⟨g, 0, none⟩ ∧ base ≤ g ∧ W.rangeAt g (j * 6) x.cells := by
  obtain ⟨g, off, e, hg, hr⟩ := h.lies.at j x hj
  obtain ⟨_, ⟨e2, _⟩ | ⟨g', _, _, e2, hb, _⟩⟩ := h
  · injection e2 with e3
    rw [e] at e3
    cases e3
  · injection e2 with e3
    rw [e] at e3
    injection e3 with e4
    injection e4 with e5 e6
    subst e5 e6
    exact ⟨g, e, hb, by simpa using hr⟩
theorem MRow.len {base : Nat} {W : World} {sa : Option Addr} {n cap : Nat} {P : List Mv} (h : MRow base W (.slice sa n cap) P) : n = P.length ∧ n ≤ cap ∧ cap ≤ maxLen := by
  obtain ⟨_, ⟨e, h0⟩ | ⟨g, cap', cur, e, hb, hg, h1, h2, _⟩⟩ := h
  · injection e with e1 e2 e3
    exact ⟨by omega, by omega, by unfold maxLen; omega⟩
  · injection e with e1 e2 e3
    subst e2 e3
    exact ⟨rfl, h1, h2⟩
theorem kept_own {w w' : World} {v : Value} (hg : w.grownBy w' v.ownBlock) : Kept v.ownBlock.toList w w' :=
  ⟨hg.os, hg.tape, hg.output, hg.size, fun j hj hm => hg.block j hj (fun e => hm (by rw [← e]; simp))⟩
set_option maxRecDepth 100000 in
/-- append(L, M..), its run. -/
theorem run_append_msgs (base : Nat) (v u : Value) (P Q : List Mv) (w : World) (ty : TypeId) (h : MRow base w v P) (hu : Lies w u Q) (hlen : P.length + Q.length ≤ 1000000) (hb : base ≤ w.heap.size) :
    ∃ sa n cap w', (Builtin.append_ #[38, 38] ty #[v, u]).run Tryz.prog w = .ok (.slice sa n cap) w' ∧ MRow base w' (.slice sa n cap) (P ++ Q) ∧ Kept v.ownBlock.toList w w' ∧ (∀ k, (Value.slice sa n cap).ownBlock = some k → v.ownBlock = some k ∨ w.heap.size ≤ k) := by
  obtain ⟨i0, hi0, hz0, hz1, hz2⟩ := info_parts Tryz.infoM
  obtain ⟨ad, cap, rfl, hn, hc, hm, hcase⟩ := hu
  cases ad with
  | none =>
    obtain rfl := hn rfl
    obtain rfl : Q = [] := List.eq_nil_of_length_eq_zero (by omega)
    have hrun := run_append_owned_none (P := Tryz.prog) (w := w) base 38 ty 26 i0 6 Tryz.undMs hi0 v P.length (cellsM P) h
    obtain ⟨sa, cap, rfl⟩ := h.form
    exact ⟨sa, P.length, cap, w, hrun, by simpa using h, Kept.refl _ _, fun k hk => .inl hk⟩
  | some ad =>
    obtain ⟨v', w', hr, h2, h3, _, h4⟩ := run_append_own_at (P := Tryz.prog) w base 38 ty 26 i0 (.agg #[.int .i64 0, .int .i64 0, .int .i64 0, .int .u64 0, .bool false, .slice none 0 0]) 6 64 Tryz.undMs hi0 hz0 hz1 hz2 rfl (by decide) v P.length (cellsM P) h ad Q.length cap (cellsM Q) (cellsM_length Q) (by
      intro q u hq
      rcases hcase with rfl | ⟨g, off, e, _, hcc⟩
      · simp [cellsM] at hq
      · injection e with e
        subst e
        rw [Go.WideShapes.add_plain]
        exact hcc q u hq) (cellsM_one Q) (by unfold maxLen; omega) (by omega) hb
    have h2' : MRow base w' v' (P ++ Q) := by
      unfold MRow
      rw [List.length_append, cellsM_append]
      exact h2
    obtain ⟨sa, cap', rfl⟩ := h2'.form
    refine ⟨sa, _, cap', w', hr, h2', kept_own h3, fun k hk => ?_⟩
    rcases h4 with e | e
    · exact .inl (by rw [← e]; exact hk)
    · rw [e] at hk
      injection hk with hk
      exact .inr (by omega)
section
variable {ops : Array Oper} {rest : List Oper} {o : Oper} {a : Act} {w : World} {Q : Exit → Act → World → Prop}
set_option maxRecDepth 100000 in
/-- append(L, M..) -/
theorem wpList_append_msgs (hgd : o.guard = none) (s x : Operand) (ho : o.op = .call { callee := .builtin .append, args := #[s, x], argTypes := #[38, 38] })
    (base : Nat) (v u : Value) (P M : List Mv) (hs : a.eval s = v) (hx : a.eval x = u) (hr : MRow base w v P) (hu : Lies w u M) (hlen : P.length + M.length ≤ 1000000) (hb : base ≤ w.heap.size)
    (h : ∀ sa n cap w', MRow base w' (.slice sa n cap) (P ++ M) → Kept v.ownBlock.toList w w' → Hid (∀ k, (Value.slice sa n cap).ownBlock = some k → v.ownBlock = some k ∨ w.heap.size ≤ k) → wpList Tryz.prog ops Q rest (a.put o.dst (.slice sa n cap)) w') : wpList Tryz.prog ops Q (o :: rest) a w := by
  refine wpList_plain hgd fun K' hK' => ?_
  obtain ⟨sa, n, cap, w', hrun, h1, h2, h3⟩ := run_append_msgs base v u P M w o.type hr hu hlen hb
  unfold Oper.wp
  simp [execOp, ho, resolve, invoke, builtin, hs, hx, hrun, Result.andThen]
  exact hK' _ _ (h sa n cap w' h1 h2 h3)
set_option maxRecDepth 100000 in
/-- The same at a step of a region that draws its order. -/
theorem step_append_msgs {K : Act → World → Prop} {E : Prop} (hgd : o.guard = none) (s x : Operand) (ho : o.op = .call { callee := .builtin .append, args := #[s, x], argTypes := #[38, 38] })
    (base : Nat) (v u : Value) (P M : List Mv) (hs : a.eval s = v) (hx : a.eval x = u) (hr : MRow base w v P) (hu : Lies w u M) (hlen : P.length + M.length ≤ 1000000) (hb : base ≤ w.heap.size)
    (h : ∀ sa n cap w', MRow base w' (.slice sa n cap) (P ++ M) → Kept v.ownBlock.toList w w' → Hid (∀ k, (Value.slice sa n cap).ownBlock = some k → v.ownBlock = some k ∨ w.heap.size ≤ k) → K (a.put o.dst (.slice sa n cap)) w') :
    if Region.wanted o (yielded ops a.tmps) = true then Oper.wp Tryz.prog o a w K Q else E := by
  have hw : Region.wanted o (yielded ops a.tmps) = true := by simp [Region.wanted, hgd]
  rw [if_pos hw]
  obtain ⟨sa, n, cap, w', hrun, h1, h2, h3⟩ := run_append_msgs base v u P M w o.type hr hu hlen hb
  unfold Oper.wp execOp
  simp only [ho, resolve, invoke, builtin, Sem.run_bind, Sem.run_pure, Result.andThen_ok, List.map_toArray, List.map_cons, List.map_nil, hs, hx, hrun]
  exact h sa n cap w' h1 h2 h3
end
/-- What is told: messages in a row of the call's own, from base on, and their bytes from base on, below top. -/
structure Told (base top : Nat) (W : World) (v : Value) (L : List Ms) (P : List Mv) : Prop where
  row : MRow base W v P
  ms : P.map Mv.ms = L
  mem : ∀ x ∈ P, x.At base top W
theorem told_nil (base top : Nat) (W : World) : Told base top W (.slice none 0 0) [] [] := ⟨MRow.nil base W, rfl, by simp⟩
theorem Told.len {base top : Nat} {W : World} {v : Value} {L : List Ms} {P : List Mv} (h : Told base top W v L P) : P.length = L.length := by rw [← h.ms, List.length_map]
theorem Told.kept {K : List Nat} {A B : World} {base top : Nat} {v : Value} {L : List Ms} {P : List Mv} (h : Told base top A v L P) (hh : top ≤ A.heap.size) (hk : Kept K A B) (hK : ∀ k ∈ K, k < base) : Told base top B v L P :=
  ⟨h.row.kept hk (fun k hk' hm => by have := (h.row.lt k hk').1; have := hK k hm; omega), h.ms, fun x hx => (h.mem x hx).kept hh hk (fun k hm => .inl (hK k hm))⟩
end Go.Proofs.YtfiofdmefgkloaaGreat.Resync
