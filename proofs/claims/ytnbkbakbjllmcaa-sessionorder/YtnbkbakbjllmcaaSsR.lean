/-
  Rows of packets (and of bodies) of the call's own: append of any row onto one, cuts.
-/
import Derived.Test.YtnbkbakbjllmcaaSsA
namespace Go.Proofs.Ytnbkbakbjllmcaa.Session
open Go.RowKit
open Outbox (Ob nums OutAt Bv Byt NoByt NRow val_one)

/-- The slice value v holds P, in a block of its own from base on. -/
def BRow (base : Nat) (W : World) (v : Value) (P : List Bv) : Prop := W.ownsRow base 34 1 v P.length (P.map Bv.val)
theorem BRow.nil (base : Nat) (W : World) : BRow base W (.slice none 0 0) [] := World.ownsRow_nil W base 34 1
theorem BRow.lt {base : Nat} {W : World} {v : Value} {P : List Bv} (h : BRow base W v P) : ∀ k, v.ownBlock = some k → base ≤ k ∧ k < W.heap.size := World.ownsRow.lt h
theorem BRow.blk {base : Nat} {W : World} {v : Value} {P : List Bv} (h : BRow base W v P) : ∀ k, v.ownBlock = some k → ∃ cur, Blk W k 34 cur := fun k hk => by
  rcases h.2 with ⟨rfl, _⟩ | ⟨g, cap, cur, rfl, hb, hg, _⟩
  · simp [Value.ownBlock] at hk
  · simp [Value.ownBlock] at hk
    subst hk
    exact ⟨cur, hg⟩
theorem BRow.kept {K : List Nat} {A B : World} {base : Nat} {v : Value} {P : List Bv} (h : BRow base A v P) (hk : Kept K A B) (hK : ∀ k, v.ownBlock = some k → k ∉ K) : BRow base B v P := by
  refine ⟨h.1, ?_⟩
  rcases h.2 with h0 | ⟨g, cap, cur, rfl, hb, hg, h1⟩
  · exact .inl h0
  · exact .inr ⟨g, cap, cur, rfl, hb, (hk.block g (Array.getElem?_eq_some_iff.1 hg).1 (hK g rfl)).trans hg, h1⟩
theorem BRow.kept0 {A B : World} {base : Nat} {v : Value} {P : List Bv} (h : BRow base A v P) (hk : Kept [] A B) : BRow base B v P := h.kept hk (by simp)
theorem BRow.low {base base' : Nat} {W : World} {v : Value} {P : List Bv} (h : BRow base W v P) (hb : base' ≤ base) : BRow base' W v P := by
  refine ⟨h.1, ?_⟩
  rcases h.2 with h0 | ⟨g, cap, cur, rfl, hb2, h1⟩
  · exact .inl h0
  · exact .inr ⟨g, cap, cur, rfl, Nat.le_trans hb hb2, h1⟩
theorem BRow.form {base : Nat} {W : World} {v : Value} {P : List Bv} (h : BRow base W v P) : ∃ sa cap, v = .slice sa P.length cap := by
  rcases h.2 with ⟨rfl, h0⟩ | ⟨g, cap, cur, rfl, _⟩
  · exact ⟨none, 0, by rw [h0]⟩
  · exact ⟨_, cap, rfl⟩
/-- The slice value v holds Q, wherever that is. -/
def Lies (W : World) (v : Value) (Q : List Bv) : Prop :=
  ∃ sa cap, v = .slice sa Q.length cap ∧ (sa = none → cap = 0) ∧ Q.length ≤ cap ∧ cap ≤ maxLen ∧ (Q = [] ∨ ∃ g off, sa = some ⟨g, off, none⟩ ∧ g < W.heap.size ∧ ∀ j x, Q[j]? = some x → W.cell? ⟨g, off + j, none⟩ = some x.val)
theorem Lies.kept {K : List Nat} {A B : World} {v : Value} {Q : List Bv} (h : Lies A v Q) (hk : Kept K A B) (hK : ∀ k, v.ownBlock = some k → k ∉ K) : Lies B v Q := by
  obtain ⟨sa, cap, rfl, hn, hc, hm, h | ⟨g, off, rfl, hg, h1⟩⟩ := h
  · exact ⟨sa, cap, rfl, hn, hc, hm, .inl h⟩
  · exact ⟨_, cap, rfl, hn, hc, hm, .inr ⟨g, off, rfl, Nat.lt_of_lt_of_le hg hk.size, fun j x hj => (World.cell?_of_block (hk.block g hg (hK g rfl))).trans (h1 j x hj)⟩⟩
theorem BRow.lies {base : Nat} {W : World} {v : Value} {P : List Bv} (h : BRow base W v P) : Lies W v P := by
  rcases h.2 with ⟨rfl, h0⟩ | ⟨g, cap, cur, rfl, hb, hg, h1, h2, h3, h4⟩
  · have : P = [] := List.eq_nil_of_length_eq_zero h0
    subst this
    exact ⟨none, 0, rfl, fun _ => rfl, Nat.le_refl _, Nat.zero_le _, .inl rfl⟩
  · refine ⟨_, cap, rfl, fun e => (by cases e), h1, h2, .inr ⟨g, 0, rfl, (Array.getElem?_eq_some_iff.1 hg).1, fun j x hj => ?_⟩⟩
    have hl := (List.getElem?_eq_some_iff.1 hj).1
    have e := congrArg (fun t => t[j]?) h4
    simp only [Nat.mul_one, List.getElem?_take_of_lt hl, List.getElem?_map, hj, Option.map_some] at e
    rw [Nat.zero_add, cell_of_row W g j _ 34 (0, 0) hg, ← Array.getElem?_toList]
    exact e
/-- A slice of one, laid just now. -/
theorem lies_one {W : World} (x : Bv) (q : Nat) (hq : q < W.heap.size) (h : W.cell? ⟨q, 0, none⟩ = some x.val) : Lies W (.slice (some ⟨q, 0, none⟩) 1 1) [x] :=
  ⟨_, 1, rfl, fun e => (by cases e), Nat.le_refl _, by unfold maxLen; omega, .inr ⟨q, 0, rfl, hq, fun j y hj => by
    have h0 : j = 0 := by
      have := (List.getElem?_eq_some_iff.1 hj).1
      simpa using this
    subst h0
    have : x = y := by simpa using hj
    subst this
    exact h⟩⟩
/-- What lies at a place. -/
theorem Lies.at {W : World} {sa : Option Addr} {n cap : Nat} {Q : List Bv} (h : Lies W (.slice sa n cap) Q) (j : Nat) (x : Bv) (hj : Q[j]? = some x) : ∃ g off, sa = some ⟨g, off, none⟩ ∧ W.cell? ⟨g, off + j, none⟩ = some (.slice x.sa x.len x.cap) := by
  obtain ⟨sa', cap', e, _, _, _, h | ⟨g, off, rfl, hg, h1⟩⟩ := h
  · subst h
    simp at hj
  · injection e with e1 _ _
    exact ⟨g, off, e1, h1 j x hj⟩
theorem Lies.len {W : World} {sa : Option Addr} {n cap : Nat} {Q : List Bv} (h : Lies W (.slice sa n cap) Q) : n = Q.length := by
  obtain ⟨_, _, e, _⟩ := h
  injection e
set_option maxRecDepth 100000 in
/-- L[:n] -/
theorem Lies.take {W : World} {v : Value} {Q : List Bv} (h : Lies W v Q) (n : Nat) (hn : n ≤ Q.length) :
    ∃ sa cap, (∀ w, (Instr.sliceAt 26 v none (some (.int .i64 (n : Int))) none).run Try.prog w = .ok (.slice sa n cap) w) ∧ Lies W (.slice sa n cap) (Q.take n) ∧ (Value.slice sa n cap).ownBlock = v.ownBlock := by
  obtain ⟨sa, cap, rfl, hz, hc, hm, h⟩ := h
  have hdl : (Q.take n).length = n := by simp; omega
  refine ⟨sa, cap, fun w => ?_, ⟨sa, cap, by rw [hdl], hz, by omega, hm, ?_⟩, ?_⟩
  · rw [run_sliceAt_slice _ _ _ _ _ _ Outbox.Try.elemBB, run_slice_h _ _ _ _ _ Outbox.Try.elemBB _ _ (by omega) (by omega), Outbox.Try.elemZ]
    cases sa <;> simp [Result.andThen, sliced, Addr.add]
  · rcases h with rfl | ⟨g, off, rfl, hg, h1⟩
    · exact .inl (by simp)
    · refine .inr ⟨g, off, rfl, hg, fun j x hj => h1 j x ?_⟩
      have := (List.getElem?_eq_some_iff.1 hj).1
      rw [List.getElem?_take_of_lt (by omega)] at hj
      exact hj
  · cases sa <;> rfl
set_option maxRecDepth 100000 in
/-- L[n:] -/
theorem Lies.drop {W : World} {v : Value} {Q : List Bv} (h : Lies W v Q) (n : Nat) (hn : n ≤ Q.length) :
    ∃ sa cap, (∀ w, (Instr.sliceAt 26 v (some (.int .i64 (n : Int))) none none).run Try.prog w = .ok (.slice sa (Q.length - n) cap) w) ∧ Lies W (.slice sa (Q.length - n) cap) (Q.drop n) ∧ (Value.slice sa (Q.length - n) cap).ownBlock = v.ownBlock := by
  obtain ⟨sa, cap, rfl, hz, hc, hm, h⟩ := h
  have hdl : (Q.drop n).length = Q.length - n := List.length_drop
  refine ⟨if cap = n then sa else sa.map (·.add (n * 1)), cap - n, fun w => ?_, ⟨_, cap - n, by rw [hdl], ?_, by omega, by omega, ?_⟩, ?_⟩
  · rw [run_sliceAt_slice _ _ _ _ _ _ Outbox.Try.elemBB, run_slice_l _ _ _ _ _ Outbox.Try.elemBB _ _ (by omega) (by omega), Outbox.Try.elemZ]
    simp [Result.andThen, sliced]
  · intro e
    split at e
    · omega
    · have : sa = none := by simpa using e
      have := hz this
      omega
  · rcases h with rfl | ⟨g, off, rfl, hg, h1⟩
    · exact .inl (by simp)
    · by_cases hcn : cap = n
      · exact .inl (List.drop_eq_nil_of_le (by omega))
      · refine .inr ⟨g, off + n, by simp [hcn, Addr.add], hg, fun j x hj => ?_⟩
        rw [List.getElem?_drop] at hj
        rw [Nat.add_assoc]
        exact h1 _ x hj
  · cases sa with
    | none => split <;> rfl
    | some a =>
      split
      · rfl
      · simp [Value.ownBlock, Addr.add]
        split <;> rfl
theorem kept_own {w w' : World} {v : Value} (hg : w.grownBy w' v.ownBlock) : Kept v.ownBlock.toList w w' :=
  ⟨hg.os, hg.tape, hg.output, hg.size, fun j hj hm => hg.block j hj (fun e => hm (by rw [← e]; simp))⟩
set_option maxRecDepth 100000 in
/-- append(L, M..), its run. -/
theorem run_append_rows (base : Nat) (v u : Value) (P Q : List Bv) (w : World) (ty : TypeId) (h : BRow base w v P) (hu : Lies w u Q) (hlen : P.length + Q.length ≤ 1000000) (hb : base ≤ w.heap.size) :
    ∃ sa n cap w', (Builtin.append_ #[26, 26] ty #[v, u]).run Try.prog w = .ok (.slice sa n cap) w' ∧ BRow base w' (.slice sa n cap) (P ++ Q) ∧ Kept v.ownBlock.toList w w' ∧ (∀ k, (Value.slice sa n cap).ownBlock = some k → v.ownBlock = some k ∨ w.heap.size ≤ k) := by
  obtain ⟨i0, hi0, hz0, hz1, hz2⟩ := info_parts Outbox.Try.infoB
  obtain ⟨ad, cap, rfl, hn, hc, hm, hcase⟩ := hu
  cases ad with
  | none =>
    obtain rfl := hn rfl
    obtain rfl : Q = [] := List.eq_nil_of_length_eq_zero (by omega)
    have hrun := run_append_owned_none (P := Try.prog) (w := w) base 26 ty 34 i0 1 Try.underlying26 hi0 v P.length (P.map Bv.val) h
    obtain ⟨sa, cap, rfl⟩ := h.form
    exact ⟨sa, P.length, cap, w, hrun, by simpa using h, Kept.refl _ _, fun k hk => .inl hk⟩
  | some ad =>
    obtain ⟨v', w', hr, h2, h3, _, h4⟩ := run_append_own_at (P := Try.prog) w base 26 ty 34 i0 (.slice none 0 0) 1 24 Try.underlying26 hi0 hz0 hz1 hz2 rfl (by decide) v P.length (P.map Bv.val) h ad Q.length cap (Q.map Bv.val) (by simp) (by
      intro q u hq
      rcases hcase with rfl | ⟨g, off, e, _, hcc⟩
      · simp at hq
      · injection e with e
        subst e
        rw [Go.WideShapes.add_plain]
        rw [List.getElem?_map] at hq
        cases hp : Q[q]? with
        | none => rw [hp] at hq; cases hq
        | some y =>
          rw [hp] at hq
          injection hq with hq
          subst hq
          exact hcc q y hp) (by
      intro x hx
      obtain ⟨y, _, rfl⟩ := List.mem_map.1 hx
      exact val_one y) (by unfold maxLen; omega) (by omega) hb
    have h2' : BRow base w' v' (P ++ Q) := by
      unfold BRow
      rw [List.length_append, List.map_append]
      exact h2
    obtain ⟨sa, cap', rfl⟩ := h2'.form
    refine ⟨sa, _, cap', w', hr, h2', kept_own h3, fun k hk => ?_⟩
    rcases h4 with e | e
    · exact .inl (by rw [← e]; exact hk)
    · rw [e] at hk
      injection hk with hk
      exact .inr (by omega)
section
variable {ops : Array Oper} {rest : List Oper} {o : Oper} {a : Act} {w : World} {Q : Exit → Act → World → Prop}
set_option maxRecDepth 100000 in
/-- append(L, M..) -/
theorem wpList_append_any (hgd : o.guard = none) (s x : Operand) (ho : o.op = .call { callee := .builtin .append, args := #[s, x], argTypes := #[26, 26] })
    (base : Nat) (v u : Value) (P M : List Bv) (hs : a.eval s = v) (hx : a.eval x = u) (hr : BRow base w v P) (hu : Lies w u M) (hlen : P.length + M.length ≤ 1000000) (hb : base ≤ w.heap.size)
    (h : ∀ sa n cap w', BRow base w' (.slice sa n cap) (P ++ M) → Kept v.ownBlock.toList w w' → Hid (∀ k, (Value.slice sa n cap).ownBlock = some k → v.ownBlock = some k ∨ w.heap.size ≤ k) → wpList Try.prog ops Q rest (a.put o.dst (.slice sa n cap)) w') : wpList Try.prog ops Q (o :: rest) a w := by
  refine wpList_plain hgd fun K' hK' => ?_
  obtain ⟨sa, n, cap, w', hrun, h1, h2, h3⟩ := run_append_rows base v u P M w o.type hr hu hlen hb
  unfold Oper.wp
  simp [execOp, ho, resolve, invoke, builtin, hs, hx, hrun, Result.andThen]
  exact hK' _ _ (h sa n cap w' h1 h2 h3)
set_option maxRecDepth 100000 in
/-- The same at a step of a region that draws its order. -/
theorem step_append_any {K : Act → World → Prop} {E : Prop} (hgd : o.guard = none) (s x : Operand) (ho : o.op = .call { callee := .builtin .append, args := #[s, x], argTypes := #[26, 26] })
    (base : Nat) (v u : Value) (P M : List Bv) (hs : a.eval s = v) (hx : a.eval x = u) (hr : BRow base w v P) (hu : Lies w u M) (hlen : P.length + M.length ≤ 1000000) (hb : base ≤ w.heap.size)
    (h : ∀ sa n cap w', BRow base w' (.slice sa n cap) (P ++ M) → Kept v.ownBlock.toList w w' → Hid (∀ k, (Value.slice sa n cap).ownBlock = some k → v.ownBlock = some k ∨ w.heap.size ≤ k) → K (a.put o.dst (.slice sa n cap)) w') :
    if Region.wanted o (yielded ops a.tmps) = true then Oper.wp Try.prog o a w K Q else E := by
  have hw : Region.wanted o (yielded ops a.tmps) = true := by simp [Region.wanted, hgd]
  rw [if_pos hw]
  obtain ⟨sa, n, cap, w', hrun, h1, h2, h3⟩ := run_append_rows base v u P M w o.type hr hu hlen hb
  unfold Oper.wp execOp
  simp only [ho, resolve, invoke, builtin, Sem.run_bind, Sem.run_pure, Result.andThen_ok, List.map_toArray, List.map_cons, List.map_nil, hs, hx, hrun]
  exact h sa n cap w' h1 h2 h3
end
/-- What is told: packets in a row of the call's own, each in a block of bytes. -/
structure Told (base : Nat) (W : World) (v : Value) (P : List Bv) (L : List (List Nat)) : Prop where
  row : BRow base W v P
  bs : P.map Bv.bs = L
  mem : ∀ x ∈ P, x.At W
theorem told_nil (base : Nat) (W : World) : Told base W (.slice none 0 0) [] [] := ⟨BRow.nil base W, rfl, by simp⟩
theorem Told.len {base : Nat} {W : World} {v : Value} {P : List Bv} {L : List (List Nat)} (h : Told base W v P L) : P.length = L.length := by rw [← h.bs, List.length_map]
theorem Told.kept0 {A B : World} {base : Nat} {v : Value} {P : List Bv} {L : List (List Nat)} (h : Told base A v P L) (hk : Kept [] A B) : Told base B v P L := ⟨h.row.kept0 hk, h.bs, fun x hx => (h.mem x hx).kept hk (Outbox.noByt_nil _)⟩
theorem Told.kept {K : List Nat} {A B : World} {base : Nat} {v : Value} {P : List Bv} {L : List (List Nat)} (h : Told base A v P L) (hk : Kept K A B) (hK : ∀ k ∈ K, k < base) (hb : NoByt K A) : Told base B v P L :=
  ⟨h.row.kept hk (fun k hk' hm => by have := (h.row.lt k hk').1; have := hK k hm; omega), h.bs, fun x hx => (h.mem x hx).kept hk hb⟩
end Go.Proofs.Ytnbkbakbjllmcaa.Session
