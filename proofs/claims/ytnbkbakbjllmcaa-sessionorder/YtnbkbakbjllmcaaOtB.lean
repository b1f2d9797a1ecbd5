import Derived.Test.YtnbkbakbjllmcaaOtA
/-
  Rows of bodies that a call has made, from any place of their block on: append, clear, cuts; rows of numbers.
-/
namespace Go.Proofs.Ytnbkbakbjllmcaa.Outbox
open Go.RowKit

/-- The slice value v holds the bodies P (but for the first k, of which nothing is said), in a row that a call has made: in block gr where there is one. -/
def RowAt (base : Nat) (W : World) (v : Value) (P : List Bv) (gr : Option Nat) (k : Nat) : Prop :=
  ∃ a cap, v = .slice a P.length cap ∧ P.length ≤ cap ∧ cap ≤ maxLen ∧
    ((a = none ∧ cap = 0 ∧ gr = none) ∨ ∃ g off cur, a = some ⟨g, off, none⟩ ∧ gr = some g ∧ base ≤ g ∧ Blk W g 34 cur ∧ off + cap ≤ cur.size ∧ ∀ j x, k ≤ j → P[j]? = some x → cur[off + j]? = some x.val)
theorem RowAt.kept {K : List Nat} {A B : World} {base : Nat} {v : Value} {P : List Bv} {gr : Option Nat} {k : Nat} (h : RowAt base A v P gr k) (hk : Kept K A B) (hg : ∀ g, gr = some g → g ∉ K) : RowAt base B v P gr k := by
  obtain ⟨a, cap, e, h1, h2, h3 | ⟨g, off, cur, e1, e2, h4, h5, h6, h7⟩⟩ := h
  · exact ⟨a, cap, e, h1, h2, .inl h3⟩
  · exact ⟨a, cap, e, h1, h2, .inr ⟨g, off, cur, e1, e2, h4, h5.kept hk (hg g e2), h6, h7⟩⟩
theorem row_nil (base : Nat) (W : World) : RowAt base W (.slice none 0 0) [] none 0 := ⟨none, 0, rfl, Nat.le_refl _, by unfold maxLen; omega, .inl ⟨rfl, rfl, rfl⟩⟩
theorem RowAt.low {base : Nat} {W : World} {v : Value} {P : List Bv} {gr : Option Nat} {k : Nat} (h : RowAt base W v P gr k) : ∀ g, gr = some g → base ≤ g ∧ g < W.heap.size ∧ ∃ cur, Blk W g 34 cur := fun g hg => by
  obtain ⟨a, cap, e, h1, h2, ⟨_, _, h3⟩ | ⟨g', off, cur, e1, e2, h4, h5, h6, h7⟩⟩ := h
  · rw [h3] at hg
    cases hg
  · rw [e2] at hg
    injection hg with hg
    subst hg
    exact ⟨h4, h5.lt, cur, h5⟩
theorem RowAt.open {base : Nat} {W : World} {v : Value} {P : List Bv} {gr : Option Nat} {k : Nat} (h : RowAt base W v P gr k) : ∃ a cap, v = .slice a P.length cap ∧ P.length ≤ cap ∧ cap ≤ 9223372036854775807 := by
  obtain ⟨a, cap, e, h1, h2, _⟩ := h
  unfold maxLen at h2
  exact ⟨a, cap, e, h1, by omega⟩
/-- What lies at a place. -/
theorem RowAt.at {base : Nat} {W : World} {a : Option Addr} {n cap : Nat} {P : List Bv} {gr : Option Nat} {k : Nat} (h : RowAt base W (.slice a n cap) P gr k) (j : Nat) (x : Bv) (hkj : k ≤ j) (hj : P[j]? = some x) :
    ∃ g off, a = some ⟨g, off, none⟩ ∧ gr = some g ∧ W.cell? ⟨g, off + j, none⟩ = some (.slice x.sa x.len x.cap) := by
  obtain ⟨a', cap', e, h1, h2, ⟨h3, h4, _⟩ | ⟨g, off, cur, e1, e2, h4, h5, h6, h7⟩⟩ := h
  · have := (List.getElem?_eq_some_iff.1 hj).1
    omega
  · injection e with e3 _ _
    exact ⟨g, off, e3.trans e1, e2, (h5.cell _).trans (h7 j x hkj hj)⟩
theorem val_one (x : Bv) : x.val.oneCell' = true := rfl
set_option maxRecDepth 100000 in
theorem Try.infoB : (Try.prog.info? 34).map (fun i => (i.zero, i.size, i.bytes)) = some (some (.slice none 0 0), 1, 24) := by kernel_rfl
set_option maxRecDepth 100000 in
theorem Try.sizeBB : (Try.prog.info? 26).map (·.size) = some 1 := by kernel_rfl
set_option maxRecDepth 100000 in
theorem Try.sizeI : (Try.prog.info? 3).map (·.size) = some 1 := by kernel_rfl
/-- A row of the call's own. -/
theorem row_owns {W : World} {base : Nat} {v : Value} {P : List Bv} (h : W.ownsRow base 34 1 v P.length (P.map Bv.val)) : ∃ gr, RowAt base W v P gr 0 := by
  obtain ⟨_, ⟨rfl, h0⟩ | ⟨g, cap, cur, rfl, hb, hg, h1, h2, h3, h4⟩⟩ := h
  · have : P = [] := List.eq_nil_of_length_eq_zero h0
    subst this
    exact ⟨none, row_nil base W⟩
  · refine ⟨some g, some ⟨g, 0, none⟩, cap, rfl, h1, h2, .inr ⟨g, 0, cur, rfl, rfl, hb, hg, by omega, fun j x _ hj => ?_⟩⟩
    have hl := (List.getElem?_eq_some_iff.1 hj).1
    have e := congrArg (fun t => t[j]?) h4
    simp only [Nat.mul_one, List.getElem?_take_of_lt hl, List.getElem?_map, hj, Option.map_some] at e
    rw [Nat.zero_add, ← Array.getElem?_toList]
    exact e
set_option maxRecDepth 100000 in
/-- append(L, b), its run. -/
theorem run_append_row (base : Nat) (v : Value) (P : List Bv) (gr : Option Nat) (w : World) (ty : TypeId) (u : Bv) (q : Nat) (h : RowAt base w v P gr 0) (hu : w.cell? ⟨q, 0, none⟩ = some (.slice u.sa u.len u.cap)) (hlen : P.length ≤ 1000000) (hb : base ≤ w.heap.size) :
    ∃ sa n cap w' gr', (Builtin.append_ #[26, 26] ty #[v, .slice (some ⟨q, 0, none⟩) 1 1]).run Try.prog w = .ok (.slice sa n cap) w' ∧ RowAt base w' (.slice sa n cap) (P ++ [u]) gr' 0 ∧ Kept gr.toList w w' ∧ (∀ g, gr' = some g → gr = some g ∨ w.heap.size ≤ g) := by
  obtain ⟨i0, hi0, hz0, hz1, hz2⟩ := info_parts Try.infoB
  have hc : ∀ j x, [u.val][j]? = some x → w.cell? ((⟨q, 0, none⟩ : Addr).add j) = some x := fun j x hj => by
    have h0 : j = 0 := by
      have := (List.getElem?_eq_some_iff.1 hj).1
      simpa using this
    subst h0
    simp at hj
    subst hj
    exact hu
  have h1 : ∀ x ∈ [u.val], x.oneCell' = true := fun x hx => by
    simp at hx
    subst hx
    exact val_one u
  have grown : ∀ v' w', w'.ownsRow w.heap.size 34 1 v' (P.length + 1) (P.map Bv.val ++ [u.val]) → w.grownBy w' none → (Builtin.append_ #[26, 26] ty #[v, .slice (some ⟨q, 0, none⟩) 1 1]).run Try.prog w = .ok v' w' →
      ∃ sa n cap w' gr', (Builtin.append_ #[26, 26] ty #[v, .slice (some ⟨q, 0, none⟩) 1 1]).run Try.prog w = .ok (.slice sa n cap) w' ∧ RowAt base w' (.slice sa n cap) (P ++ [u]) gr' 0 ∧ Kept gr.toList w w' ∧ (∀ g, gr' = some g → gr = some g ∨ w.heap.size ≤ g) := fun v' w' ho hg hr => by
    obtain ⟨gr', hro⟩ := row_owns (P := P ++ [u]) (by simpa using ho)
    obtain ⟨a', cap', e, _⟩ := id hro
    subst e
    refine ⟨a', _, cap', w', gr', hr, ?_, (kept_none hg).mono (by simp), fun g hgg => .inr (hro.low g hgg).1⟩
    obtain ⟨a2, cap2, e2, h2, h3, h4 | ⟨g, off, cur, e1, e3, h5, h6, h7, h8⟩⟩ := hro
    · exact ⟨a2, cap2, e2, h2, h3, .inl h4⟩
    · exact ⟨a2, cap2, e2, h2, h3, .inr ⟨g, off, cur, e1, e3, by omega, h6, h7, h8⟩⟩
  obtain ⟨a, cap, rfl, hc1, hc2, ⟨rfl, rfl, rfl⟩ | ⟨g, off, cur, rfl, rfl, hbg, hblk, hfit, hcell⟩⟩ := id h
  · obtain rfl : P = [] := List.eq_nil_of_length_eq_zero (by omega)
    obtain ⟨v', w', hr, h3, h4, _⟩ := run_append_own (P := Try.prog) w w.heap.size 26 ty 34 i0 (.slice none 0 0) 1 24 Try.underlying26 hi0 hz0 hz1 hz2 rfl (by decide) (.slice none 0 0) 0 [] (World.ownsRow_nil w _ _ _) ⟨q, 0, none⟩ 1 1 [u.val] rfl hc h1 (by unfold maxLen; omega) (by omega) (Nat.le_refl _)
    exact grown v' w' (by simpa using h3) (by simpa [Value.ownBlock] using h4) hr
  · by_cases hroom : P.length + 1 ≤ cap
    · have hr := run_append_room_cells (P := Try.prog) w 26 ty 34 i0 Try.underlying26 hi0 g off P.length cap ⟨q, 0, none⟩ 1 1 [u.val] (by simp [hz1]) hc h1 hroom (fun j hj => by
        have h0 : j = 0 := by simpa using hj
        subst h0
        rw [hblk.cell, hz1]
        have : off + P.length < cur.size := by omega
        simpa using this) (fun j _ => hblk.frozen _)
      rw [hz1] at hr
      have e1 : w.setCells g (off + P.length * 1) [u.val] = w.setCell ⟨g, off + P.length, none⟩ u.val := by simp [World.setCells]
      rw [e1] at hr
      refine ⟨_, _, _, _, some g, hr, ⟨some ⟨g, off, none⟩, cap, by rw [List.length_append]; rfl, by simp; omega, hc2, .inr ⟨g, off, cur.setIfInBounds (off + P.length) u.val, rfl, rfl, hbg, hblk.set _ _, by simpa using hfit, fun j x _ hj => ?_⟩⟩, kept_set (by simp) _ _ _, fun g' hg' => .inl hg'⟩
      rw [Array.getElem?_setIfInBounds]
      by_cases hjl : j < P.length
      · rw [if_neg (by omega)]
        rw [List.getElem?_append_left hjl] at hj
        exact hcell j x (Nat.zero_le _) hj
      · have hjl2 := (List.getElem?_eq_some_iff.1 hj).1
        simp at hjl2
        have hj0 : j = P.length := by omega
        subst hj0
        rw [if_pos rfl, if_pos (by omega)]
        have : u = x := by simpa using hj
        rw [this]
    · obtain ⟨v', w', hr, h3, h4⟩ := run_append_arg_grows (P := Try.prog) w 26 ty 34 i0 (.slice none 0 0) 1 24 Try.underlying26 hi0 hz0 hz1 hz2 rfl (by decide) ⟨g, off, none⟩ P.length cap (P.map Bv.val) (by simp) (fun j x hj => by
        rw [Go.WideShapes.add_plain]
        rw [List.getElem?_map] at hj
        cases hp : P[j]? with
        | none => rw [hp] at hj; cases hj
        | some y =>
          rw [hp] at hj
          injection hj with hj
          subst hj
          exact (hblk.cell _).trans (hcell j y (Nat.zero_le _) hp)) ⟨q, 0, none⟩ 1 1 [u.val] rfl hc (by omega) (by unfold maxLen; omega) (by omega)
      exact grown v' w' h3 h4 hr
section
variable {ops : Array Oper} {rest : List Oper} {o : Oper} {a : Act} {w : World} {Q : Exit → Act → World → Prop}
set_option maxRecDepth 100000 in
/-- append(L, b) at a step of a region that draws its order. -/
theorem step_append_row {K : Act → World → Prop} {E : Prop} (hgd : o.guard = none) (s x : Operand) (ho : o.op = .call { callee := .builtin .append, args := #[s, x], argTypes := #[26, 26] })
    (base : Nat) (v : Value) (P : List Bv) (gr : Option Nat) (u : Bv) (q : Nat) (hs : a.eval s = v) (hx : a.eval x = .slice (some ⟨q, 0, none⟩) 1 1) (hr : RowAt base w v P gr 0) (hu : w.cell? ⟨q, 0, none⟩ = some (.slice u.sa u.len u.cap)) (hlen : P.length ≤ 1000000) (hb : base ≤ w.heap.size)
    (h : ∀ sa n cap w' gr', RowAt base w' (.slice sa n cap) (P ++ [u]) gr' 0 → Kept gr.toList w w' → (∀ g, gr' = some g → gr = some g ∨ w.heap.size ≤ g) → K (a.put o.dst (.slice sa n cap)) w') :
    if Region.wanted o (yielded ops a.tmps) = true then Oper.wp Try.prog o a w K Q else E := by
  have hw : Region.wanted o (yielded ops a.tmps) = true := by simp [Region.wanted, hgd]
  rw [if_pos hw]
  obtain ⟨sa, n, cap, w', gr', hrun, h1, h2, h3⟩ := run_append_row base v P gr w o.type u q hr hu hlen hb
  unfold Oper.wp execOp
  simp only [ho, resolve, invoke, builtin, Sem.run_bind, Sem.run_pure, Result.andThen_ok, List.map_toArray, List.map_cons, List.map_nil, hs, hx, hrun]
  exact h sa n cap w' gr' h1 h2 h3
set_option maxRecDepth 100000 in
theorem Try.elemBB : Try.prog.underlying 26 = some (.slice (Try.prog.elem 26)) := by kernel_rfl
set_option maxRecDepth 100000 in
theorem Try.elemZ (w : World) : (sizeOf (Try.prog.elem 26)).run Try.prog w = .ok 1 w := by kernel_rfl
set_option maxRecDepth 100000 in
theorem Try.zeroB (w : World) : (zeroValue 34).run Try.prog w = .ok (.slice none 0 0) w := by kernel_rfl
/-- What a cut leaves: L[n:], L[n:len:m]. -/
theorem RowAt.cut {base : Nat} {W : World} {a : Option Addr} {cap : Nat} {P : List Bv} {gr : Option Nat} {k : Nat} (h : RowAt base W (.slice a P.length cap) P gr k) (n m : Nat) (hkn : k ≤ n) (hn : n ≤ P.length) (hm : P.length ≤ m) (hmc : m ≤ cap) (h0 : 0 < P.length) :
    RowAt base W (sliced a n P.length m 1) (P.drop n) gr 0 := by
  obtain ⟨a', cap', e, hc1, hc2, ⟨_, h4, _⟩ | ⟨g, off, cur, e1, e2, hbg, hblk, hfit, hcell⟩⟩ := h
  · omega
  · injection e with e3 _ e4
    subst e4
    rw [e1] at e3
    subst e3
    refine ⟨_, m - n, by rw [List.length_drop]; rfl, by rw [List.length_drop]; omega, by omega, .inr ?_⟩
    by_cases hmn : m = n
    · refine ⟨g, off, cur, by rw [if_pos hmn], e2, hbg, hblk, by omega, fun j x _ hj => ?_⟩
      rw [List.drop_eq_nil_of_le (by omega)] at hj
      simp at hj
    · refine ⟨g, off + n, cur, by rw [if_neg hmn]; simp [Addr.add], e2, hbg, hblk, by omega, fun j x _ hj => ?_⟩
      rw [List.getElem?_drop] at hj
      rw [Nat.add_assoc]
      exact hcell (n + j) x (by omega) hj
set_option maxRecDepth 100000 in
/-- L[:k] -/
theorem wpList_take (hgd : o.guard = none) (x y : Operand) (ho : o.op = .slice 26 x none (some y) none) (base : Nat) (sa : Option Addr) (n cap k : Nat) (P : List Bv) (gr : Option Nat) (hx : a.eval x = .slice sa n cap) (hy : a.eval y = .int .i64 (k : Int)) (h : RowAt base w (.slice sa n cap) P gr 0) (h0 : 0 < P.length) (hk : k ≤ P.length)
    (hK : wpList Try.prog ops Q rest (a.put o.dst (.slice sa k cap)) w) : wpList Try.prog ops Q (o :: rest) a w := by
  refine wpList_plain hgd fun K' hK' => ?_
  obtain ⟨a', cap', e, h1, _, ⟨_, h4, _⟩ | ⟨g, off, cur, rfl, _⟩⟩ := id h
  · omega
  · injection e with e1 e2 e3
    subst e1 e2 e3
    have hrun : (Instr.sliceAt 26 (.slice (some ⟨g, off, none⟩) P.length cap) none (some (.int .i64 (k : Int))) none).run Try.prog w = .ok (.slice (some ⟨g, off, none⟩) k cap) w := by
      rw [run_sliceAt_slice _ _ _ _ _ _ Try.elemBB, run_slice_h _ _ _ _ _ Try.elemBB _ _ (by omega) (by omega), Try.elemZ]
      simp [Result.andThen, sliced, Addr.add]
    unfold Oper.wp
    simp [execOp, ho, hx, hy, hrun, Result.andThen]
    exact hK' _ _ hK
set_option maxRecDepth 100000 in
/-- L[k:len:m] -/
theorem wpList_cut (hgd : o.guard = none) (x y z t : Operand) (ho : o.op = .slice 26 x (some y) (some z) (some t)) (base : Nat) (sa : Option Addr) (n cap k m : Nat) (P : List Bv) (gr : Option Nat) (hx : a.eval x = .slice sa n cap) (hy : a.eval y = .int .i64 (k : Int)) (hz : a.eval z = .int .i64 (n : Int)) (ht : a.eval t = .int .i64 (m : Int)) (h : RowAt base w (.slice sa n cap) P gr k) (h0 : 0 < P.length) (hk : k ≤ P.length) (hm : P.length ≤ m) (hmc : m ≤ cap)
    (hK : ∀ sa' n' cap', RowAt base w (.slice sa' n' cap') (P.drop k) gr 0 → wpList Try.prog ops Q rest (a.put o.dst (.slice sa' n' cap')) w) : wpList Try.prog ops Q (o :: rest) a w := by
  refine wpList_plain hgd fun K' hK' => ?_
  obtain ⟨a', cap', e, h1, _⟩ := id h
  injection e with e1 e2 e3
  subst e1 e2 e3
  have hrun : (Instr.sliceAt 26 (.slice sa P.length cap) (some (.int .i64 (k : Int))) (some (.int .i64 (P.length : Int))) (some (.int .i64 (m : Int)))).run Try.prog w = .ok (sliced sa k P.length m 1) w := by
    rw [run_sliceAt_slice _ _ _ _ _ _ Try.elemBB, run_slice_lhm _ _ _ _ _ Try.elemBB _ _ _ _ _ _ (by omega) (by omega) (by omega) (by omega), Try.elemZ]
    simp [Result.andThen]
  have hc := h.cut k m (Nat.le_refl _) hk hm hmc h0
  unfold Oper.wp
  simp only [execOp, ho, hx, hy, hz, ht, Option.map_some, Sem.run_bind, hrun, Result.andThen_ok, Sem.run_pure]
  exact hK' _ _ (hK _ _ _ hc)
set_option maxRecDepth 100000 in
/-- clear(L[:n]) -/
theorem wpList_clear (hgd : o.guard = none) (x : Operand) (ho : o.op = .call { callee := .builtin .clear, args := #[x], argTypes := #[26] }) (base : Nat) (sa : Option Addr) (n cap len : Nat) (P : List Bv) (gr : Option Nat) (hx : a.eval x = .slice sa n cap) (h : RowAt base w (.slice sa len cap) P gr 0) (h0 : 0 < n) (hn : n ≤ P.length)
    (hk : ∀ w', RowAt base w' (.slice sa len cap) P gr n → Kept gr.toList w w' → wpList Try.prog ops Q rest (a.put o.dst (.tuple #[])) w') : wpList Try.prog ops Q (o :: rest) a w := by
  refine wpList_plain hgd fun K' hK' => ?_
  obtain ⟨a', cap', e, hc1, hc2, ⟨_, h4, _⟩ | ⟨g, off, cur, rfl, rfl, hbg, hblk, hfit, hcell⟩⟩ := id h
  · omega
  · injection e with e1 e2 e3
    subst e1 e2 e3
    have hrun := Lib.run_clear_slice (P := Try.prog) w 26 34 o.type (.slice none 0 0) Try.underlying26 Try.zeroB rfl rfl g off n cap h0 (fun j hj => by
      rw [hblk.cell]
      have : off + j < cur.size := by omega
      simp [this]) (fun j _ => hblk.frozen _)
    have hset : ∀ (vs : List Value) (o : Nat) (W : World) (cur : Array Value), Blk W g 34 cur → ∃ cur', Blk (W.setCells g o vs) g 34 cur' ∧ cur'.size = cur.size ∧ (∀ i, o + vs.length ≤ i → cur'[i]? = cur[i]?) ∧ Kept [g] W (W.setCells g o vs) := fun vs => by
      induction vs with
      | nil => exact fun o W cur hb => ⟨cur, hb, rfl, fun _ _ => rfl, Kept.refl _ _⟩
      | cons v r ih =>
        intro o W cur hb
        obtain ⟨cur', h1, h2, h3, h4⟩ := ih (o + 1) _ _ (hb.set o v)
        refine ⟨cur', h1, by simpa using h2, fun i hi => ?_, (kept_set (by simp) _ _ _).trans h4⟩
        simp at hi
        rw [h3 i (by omega), Array.getElem?_setIfInBounds, if_neg (by omega)]
    obtain ⟨cur', h1, h2, h3, h4⟩ := hset (List.replicate n (.slice none 0 0)) off w cur hblk
    unfold Oper.wp execOp
    simp only [ho, resolve, invoke, builtin, Sem.run_bind, Sem.run_pure, Result.andThen_ok, List.map_toArray, List.map_cons, List.map_nil, hx, hrun]
    refine hK' _ _ (hk _ ⟨some ⟨g, off, none⟩, cap, rfl, hc1, hc2, .inr ⟨g, off, cur', rfl, rfl, hbg, h1, by omega, fun j x hj hx => ?_⟩⟩ h4)
    rw [h3 _ (by simp; omega)]
    exact hcell j x (Nat.zero_le _) hx
set_option maxRecDepth 100000 in
/-- One cell of a block stored. -/
theorem wpList_store_cell (hgd : o.guard = none) (ty : TypeId) (x y : Operand) (ho : o.op = .store ty x y) (g j : Nat) (t : TypeId) (cs : Array Value) (v : Value)
    (hx : a.eval x = .pointer (some ⟨g, j, none⟩)) (hy : a.eval y = v) (h0 : Blk w g t cs) (hj : j < cs.size) (hi : (Try.prog.info? ty).map (·.size) = some 1) (h1 : v.oneCell' = true)
    (h : ∀ w', Blk w' g t (cs.setIfInBounds j v) → Kept [g] w w' → wpList Try.prog ops Q rest (a.put o.dst undef) w') : wpList Try.prog ops Q (o :: rest) a w := by
  refine wpList_plain hgd fun K' hK' => ?_
  have hrun := run_storeCells_cells (P := Try.prog) g j [v] 0 w (fun i hi => by
    have : i = 0 := by simpa using hi
    subst this
    show (w.cell? ⟨g, j, none⟩).isSome = true
    rw [h0.cell]
    simp [hj]) (fun i hi => h0.frozen _) (fun u hu => by simp at hu; subst hu; exact h1)
  have hc : v.cells = #[v] := by cases v <;> first | rfl | cases h1
  have hs : (storeVar ty ⟨g, j, none⟩ v).run Try.prog w = .ok () (w.setCell ⟨g, j, none⟩ v) := by
    cases hq : Try.prog.info? ty with
    | none => simp [hq] at hi
    | some i =>
      have hs : i.size = 1 := by simpa [hq] using hi
      simp only [Nat.add_zero] at hrun
      simp [storeVar, sizeOf, typeInfo, hq, hc, hs, hrun, World.setCells]
  unfold Oper.wp execOp
  simp only [ho, hx, hy, Instr.storeAt, Instr.sureAddr, Sem.run_bind, Sem.run_pure, Result.andThen_ok, hs]
  exact hK' _ _ (h _ (h0.set j v) (kept_set (by simp) w j v))
end
/-- Numbers in a row of the call's own. -/
def NRow (base : Nat) (W : World) (v : Value) (l : List Nat) : Prop := W.ownsRow base 3 1 v l.length (l.map Bits.enc)
theorem NRow.nil (base : Nat) (W : World) : NRow base W (.slice none 0 0) [] := World.ownsRow_nil W base 3 1
theorem NRow.kept {K : List Nat} {A B : World} {base : Nat} {v : Value} {l : List Nat} (h : NRow base A v l) (hk : Kept K A B) (hK : ∀ k ∈ K, k < base) : NRow base B v l := by
  refine ⟨h.1, ?_⟩
  rcases h.2 with hn | ⟨g, cap, cur, hv, hb, hg, rest⟩
  · exact .inl hn
  · refine .inr ⟨g, cap, cur, hv, hb, ?_, rest⟩
    rw [hk.block g (Array.getElem?_eq_some_iff.1 hg).1 (fun hm => by have := hK g hm; omega)]
    exact hg
theorem NRow.mono {W : World} {base base' : Nat} {v : Value} {l : List Nat} (h : NRow base W v l) (hb : base' ≤ base) : NRow base' W v l := by
  refine ⟨h.1, ?_⟩
  rcases h.2 with hn | ⟨g, cap, cur, hv, hg0, rest⟩
  · exact .inl hn
  · exact .inr ⟨g, cap, cur, hv, by omega, rest⟩
theorem NRow.slice {W : World} {base : Nat} {v : Value} {l : List Nat} (h : NRow base W v l) : ∃ a cap, v = .slice a l.length cap ∧ l.length ≤ cap ∧ (a = none → cap = 0) := by
  rcases h.2 with ⟨hv, h0⟩ | ⟨g, cap, cur, hv, hb, hg, h1, _⟩
  · exact ⟨none, 0, by rw [hv, h0], by omega, fun _ => rfl⟩
  · exact ⟨_, cap, hv, h1, fun e => by cases e⟩
theorem NRow.at {W : World} {base : Nat} {a : Option Addr} {n cap : Nat} {l : List Nat} (h : NRow base W (.slice a n cap) l) (j : Nat) (x : Nat) (hj : l[j]? = some x) :
    ∃ g, a = some ⟨g, 0, none⟩ ∧ base ≤ g ∧ g < W.heap.size ∧ W.cell? ⟨g, j, none⟩ = some (.int .i64 (x : Int)) := by
  have hl := (List.getElem?_eq_some_iff.1 hj).1
  rcases h.2 with ⟨_, h0⟩ | ⟨g, cap', cur, hv, hb, hg, h1, h2, h3, h4⟩
  · omega
  · injection hv with e1 e2 e3
    refine ⟨g, e1, hb, (Array.getElem?_eq_some_iff.1 hg).1, ?_⟩
    rw [cell_of_row W g j _ 3 (0, 0) hg]
    have e := congrArg (fun t => t[j]?) h4
    simp only [Nat.mul_one, List.getElem?_take_of_lt hl, List.getElem?_map, hj, Option.map_some] at e
    rw [← Array.getElem?_toList]
    exact e
section
variable {ops : Array Oper} {rest : List Oper} {o : Oper} {a : Act} {w : World} {Q : Exit → Act → World → Prop}
set_option maxRecDepth 100000 in
/-- A number appended. -/
theorem wpList_append_num (hgd : o.guard = none) (s x : Operand) (ho : o.op = .call { callee := .builtin .append, args := #[s, x], argTypes := #[71, 71] })
    (base : Nat) (v : Value) (l : List Nat) (u q : Nat) (hs : a.eval s = v) (hown : NRow base w v l) (hx : a.eval x = .slice (some ⟨q, 0, none⟩) 1 1) (hc : w.cell? ⟨q, 0, none⟩ = some (.int .i64 (u : Int))) (hlen : l.length ≤ 1000000) (hb : base ≤ w.heap.size)
    (h : ∀ v' w', NRow base w' v' (l ++ [u]) → w.grownBy w' v.ownBlock → wpList Try.prog ops Q rest (a.put o.dst v') w') : wpList Try.prog ops Q (o :: rest) a w := by
  obtain ⟨i0, hi, hz0, hz1, hz2⟩ := info_parts Bits.Try.info3
  refine wpList_append_own _ hgd s x 71 ho base 3 i0 (.int .i64 0) 1 8 Try.underlying71 hi hz0 hz1 hz2 rfl (by decide) v l.length (l.map Bits.enc) hs hown ⟨q, 0, none⟩ 1 1 [.int .i64 (u : Int)] hx rfl ?_ ?_ (by unfold maxLen; omega) (by omega) hb ?_
  · intro j u' hu
    have hj : j = 0 := by
      have := (List.getElem?_eq_some_iff.1 hu).1
      simpa using this
    subst hj
    simp at hu
    subst hu
    exact hc
  · intro u' hu
    simp at hu
    subst hu
    rfl
  · intro v' w' h3 h4 _
    refine h v' w' ?_ h4
    unfold NRow
    rw [List.length_append, List.map_append]
    exact h3
end
end Go.Proofs.Ytnbkbakbjllmcaa.Outbox

