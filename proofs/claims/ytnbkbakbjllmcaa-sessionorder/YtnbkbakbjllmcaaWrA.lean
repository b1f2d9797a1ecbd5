import Derived.Test.YtnbkbakbjllmcaaBase
import Derived.Test.YtnbkbakbjllmcaaWrM
import Derived.Laws.BytesArg
import Derived.Laws.ResultCell
import Derived.Laws.Rows
import Derived.Lib.Bytes
import Derived.Lib.SliceRun
import Derived.Laws.AppendOwnNone
import Derived.Deep.AppendLies
/-
  Bytes and packets in memory; bytes joined and cut; bytes of the call's own.
-/
namespace Go.Proofs.Ytnbkbakbjllmcaa.Wire
open Go.RowKit
open Seal (enc ret_bool ret_int)
open Seal.Math


theorem enc_one (l : List Nat) : ∀ v ∈ l.map enc, v.oneCell' = true := by
  intro u hu
  simp at hu
  obtain ⟨x, _, rfl⟩ := hu
  rfl
/-- The slice value v holds the bytes bs, in a block from lo on and below hi where there is one. -/
def ByteRow (lo hi : Nat) (W : World) (v : Value) (bs : List Nat) : Prop :=
  (∀ b ∈ bs, b < 256) ∧ ∃ a cap, v = .slice a bs.length cap ∧ (a = none → cap = 0) ∧ (bs = [] ∨ ∃ g off, a = some ⟨g, off, none⟩ ∧ bs.length ≤ cap ∧ lo ≤ g ∧ g < hi ∧ ∀ j, j < bs.length → W.cell? ⟨g, off + j, none⟩ = some (.int .u8 ((bs[j]?.getD 0 : Nat) : Int)))
theorem ByteRow.kept {L : List Nat} {A B : World} {lo hi : Nat} {v : Value} {bs : List Nat} (h : ByteRow lo hi A v bs) (hh : hi ≤ A.heap.size) (hK : Kept L A B) (hL : ∀ k ∈ L, k < lo ∨ hi ≤ k) : ByteRow lo hi B v bs := by
  obtain ⟨hb, a, cap, e, hn, h | ⟨g, off, e2, hl, h1, h2, hc⟩⟩ := h
  · exact ⟨hb, a, cap, e, hn, .inl h⟩
  · refine ⟨hb, a, cap, e, hn, .inr ⟨g, off, e2, hl, h1, h2, fun j hj => ?_⟩⟩
    rw [World.cell?_of_block (w := A) (w' := B) (hK.block g (by omega) (fun hm => by have := hL g hm; omega))]
    exact hc j hj
theorem ByteRow.mono {lo hi lo' hi' : Nat} {W : World} {v : Value} {bs : List Nat} (h : ByteRow lo hi W v bs) (h1 : lo' ≤ lo) (h2 : hi ≤ hi') : ByteRow lo' hi' W v bs := by
  obtain ⟨hb, a, cap, e, hn, h | ⟨g, off, e2, hl, h3, h4, hc⟩⟩ := h
  · exact ⟨hb, a, cap, e, hn, .inl h⟩
  · exact ⟨hb, a, cap, e, hn, .inr ⟨g, off, e2, hl, by omega, by omega, hc⟩⟩
theorem byteRow_nil (lo hi : Nat) (W : World) : ByteRow lo hi W (.slice none 0 0) [] := ⟨by simp, none, 0, rfl, fun _ => rfl, .inl rfl⟩
theorem ByteRow.at {lo hi : Nat} {W : World} {v : Value} {bs : List Nat} (h : ByteRow lo hi W v bs) (hh : hi ≤ W.heap.size) : Seal.BytesAt W.heap.size W v bs := by
  obtain ⟨hb, a, cap, e, hn, h | ⟨g, off, e2, hl, h3, h4, hc⟩⟩ := h
  · exact ⟨hb, a, cap, e, hn, .inl h⟩
  · exact ⟨hb, a, cap, e, hn, .inr ⟨g, off, e2, hl, by omega, hc⟩⟩
theorem ByteRow.len {lo hi : Nat} {W : World} {a : Option Addr} {len cap : Nat} {bs : List Nat} (h : ByteRow lo hi W (.slice a len cap) bs) : len = bs.length := by
  obtain ⟨_, _, _, e, _⟩ := h
  injection e
theorem ByteRow.cell {lo hi : Nat} {W : World} {a : Option Addr} {n cap : Nat} {bs : List Nat} (h : ByteRow lo hi W (.slice a n cap) bs) (k : Nat) (hk : k < bs.length) :
    ∃ g off, a = some ⟨g, off, none⟩ ∧ g < hi ∧ W.cell? ⟨g, off + k, none⟩ = some (.int .u8 ((bs[k]?.getD 0 : Nat) : Int)) := by
  obtain ⟨_, a', cap', e, _, h⟩ := h
  injection e with e1 e2 e3
  subst e1
  rcases h with rfl | ⟨b, off, rfl, _, _, h2, hc⟩
  · simp at hk
  · exact ⟨b, off, rfl, h2, hc k hk⟩
/-- A row of bytes of the call's own. -/
theorem byteRow_owns {W : World} {base : Nat} {v : Value} {l : List Nat} (hl : ∀ b ∈ l, b < 256) (h : W.ownsRow base 5 1 v l.length (l.map enc)) : ByteRow base W.heap.size W v l := by
  obtain ⟨_, ⟨rfl, h0⟩ | ⟨g, cap, cur, rfl, hb, hg, h1, h2, h3, h4⟩⟩ := h
  · have : l = [] := by simpa using h0
    subst this
    exact ⟨hl, none, 0, rfl, fun _ => rfl, .inl rfl⟩
  · refine ⟨hl, some ⟨g, 0, none⟩, cap, rfl, fun h => by simp at h, .inr ⟨g, 0, rfl, h1, hb, (Array.getElem?_eq_some_iff.1 hg).1, fun j hj => ?_⟩⟩
    have e : cur.toList[j]? = some (enc l[j]) := by
      have := congrArg (fun t => t[j]?) h4
      simp [hj] at this
      simpa using this
    simp [World.cell?, hg]
    rw [Array.getElem?_toList] at e
    rw [e]
    simp [enc, hj]
/-- Some bytes' text. -/
def txt (l : List Nat) : ByteArray := strOfNums (l.map Int.ofNat)
set_option maxRecDepth 100000 in
theorem conv_txt {lo hi : Nat} {W : World} {v : Value} {l : List Nat} (h : ByteRow lo hi W v l) : (convert 34 9 v).run Try.prog W = .ok (.string (txt l)) W := by
  obtain ⟨hb, a, cap, rfl, hn, h⟩ := h
  cases a with
  | none =>
    rcases h with rfl | ⟨b, off, e, _⟩
    · exact run_convert_bytes_nil W 34 5 Try.underlying34 Try.underlying5 _ cap 9 Try.underlying9
    · simp at e
  | some a =>
    rcases h with rfl | ⟨b, off, e, _, _, _, hc⟩
    · refine (run_convert_bytes_string W 34 9 5 _ _ cap Try.underlying34 Try.underlying5 Try.underlying9).trans ?_
      exact run_bytesToString (P := Try.prog) W a 0 cap [] (run_loadCells_list (P := Try.prog) W a [] (fun j v hj => by simp at hj))
    · obtain rfl : a = ⟨b, off, none⟩ := by simpa using e
      refine run_convert_bytes_arg W 34 5 Try.underlying34 Try.underlying5 b off _ cap _ (by simp) (fun j hj => ?_) 9 Try.underlying9
      rw [hc j hj]
      simp [hj]
theorem kept_grown {w w' : World} {v : Value} {base : Nat} {e : TypeId} {z k : Nat} {l : List Value} (hown : w.ownsRow base e z v k l) (hg : w.grownBy w' v.ownBlock) (w0 : World) (h0 : Kept [] w0 w) (hb : w0.heap.size ≤ base) : Kept [] w0 w' :=
  ⟨hg.os.trans h0.os, hg.tape.trans h0.tape, hg.output.trans h0.output, Nat.le_trans h0.size hg.size, fun j hj _ => (hg.block j (Nat.lt_of_lt_of_le hj h0.size) (fun e => by have := (hown.lt j e.symm).1; omega)).trans (h0.block j hj (by simp))⟩
set_option maxRecDepth 100000 in
/-- append(a, b..) onto a row of the call's own, its run -/
theorem run_append_bytes (base : Nat) (v u : Value) (lo hi : Nat) (cs bs : List Nat) (w : World) (ty : TypeId) (hown : w.ownsRow base 5 1 v cs.length (cs.map enc)) (ha : ∀ b ∈ cs, b < 256) (hu : ByteRow lo hi w u bs) (hlen : cs.length + bs.length ≤ 1000000) (hb : base ≤ w.heap.size) :
    ∃ v' w', (Builtin.append_ #[34, 34] ty #[v, u]).run Try.prog w = .ok v' w' ∧ ByteRow base w'.heap.size w' v' (cs ++ bs) ∧ w'.ownsRow base 5 1 v' (cs ++ bs).length ((cs ++ bs).map enc) ∧ w.grownBy w' v.ownBlock := by
  obtain ⟨i0, hi0, hz0, hz1, hz2⟩ := info_parts Seal.Try.info5
  obtain ⟨hB, ad, cap, rfl, hn, hcase⟩ := hu
  have hAB : ∀ b ∈ cs ++ bs, b < 256 := fun b hm => (List.mem_append.1 hm).elim (ha b) (hB b)
  cases ad with
  | none =>
    rcases hcase with rfl | ⟨g, off, e, _⟩
    · obtain rfl := hn rfl
      have hrun := run_append_owned_none (P := Try.prog) (w := w) base 34 ty 5 i0 1 Try.underlying34 hi0 v cs.length (cs.map enc) hown
      rw [List.append_nil]
      exact ⟨v, w, hrun, byteRow_owns ha hown, hown, ⟨rfl, rfl, rfl, Nat.le_refl _, fun _ _ _ => rfl⟩⟩
    · simp at e
  | some ad =>
    obtain ⟨v', w', hr, h2, h3, _, _⟩ := run_append_own_at (P := Try.prog) w base 34 ty 5 i0 (.int .u8 0) 1 1 Try.underlying34 hi0 hz0 hz1 hz2 rfl (by decide) v cs.length (cs.map enc) hown ad bs.length cap (bs.map enc) (by simp) (by
      intro q u hq
      have hql : q < bs.length := by
        have := (List.getElem?_eq_some_iff.1 hq).1
        simpa using this
      rcases hcase with rfl | ⟨g, off, e, _, _, _, hc⟩
      · simp at hql
      · injection e with e
        subst e
        rw [Go.WideShapes.add_plain, hc q hql, ← hq]
        simp [hql, enc]) (enc_one bs) (by unfold maxLen; omega) (by omega) hb
    have h2' : w'.ownsRow base 5 1 v' (cs ++ bs).length ((cs ++ bs).map enc) := by
      rw [List.map_append, List.length_append]
      exact h2
    exact ⟨v', w', hr, byteRow_owns hAB h2', h2', h3⟩
section
variable {ops : Array Oper} {rest : List Oper} {o : Oper} {a : Act} {w : World} {Q : Exit → Act → World → Prop}
set_option maxRecDepth 100000 in
/-- append(a, b..) onto a row of the call's own -/
theorem wpList_append_bytes (hgd : o.guard = none) (s x : Operand) (ho : o.op = .call { callee := .builtin .append, args := #[s, x], argTypes := #[34, 34] })
    (base : Nat) (v u : Value) (lo hi : Nat) (cs bs : List Nat) (hs : a.eval s = v) (hown : w.ownsRow base 5 1 v cs.length (cs.map enc)) (ha : ∀ b ∈ cs, b < 256) (hx : a.eval x = u) (hu : ByteRow lo hi w u bs) (hlen : cs.length + bs.length ≤ 1000000) (hb : base ≤ w.heap.size)
    (h : ∀ sa cap w', ByteRow base w'.heap.size w' (.slice sa (cs ++ bs).length cap) (cs ++ bs) → w'.ownsRow base 5 1 (.slice sa (cs ++ bs).length cap) (cs ++ bs).length ((cs ++ bs).map enc) → w.grownBy w' v.ownBlock → wpList Try.prog ops Q rest (a.put o.dst (.slice sa (cs ++ bs).length cap)) w') : wpList Try.prog ops Q (o :: rest) a w := by
  refine wpList_plain hgd fun K' hK' => ?_
  obtain ⟨v', w', hr, h1, h2, h3⟩ := run_append_bytes base v u lo hi cs bs w o.type hown ha hu hlen hb
  obtain ⟨_, sa, cap, e, _⟩ := id h1
  subst e
  unfold Oper.wp execOp
  simp only [ho, resolve, invoke, builtin, Sem.run_bind, Sem.run_pure, Result.andThen_ok, List.map_toArray, List.map_cons, List.map_nil, hs, hx, hr]
  exact hK' _ _ (h sa cap w' h1 h2 h3)
end
set_option maxRecDepth 100000 in
/-- The same at a step of a region that draws its order. -/
theorem step_append_bytes {ops : Array Oper} {o : Oper} {a : Act} {w : World} {K : Act → World → Prop} {Q : Exit → Act → World → Prop} {E : Prop} (hgd : o.guard = none) (s x : Operand)
    (ho : o.op = .call { callee := .builtin .append, args := #[s, x], argTypes := #[34, 34] })
    (base : Nat) (v u : Value) (lo hi : Nat) (cs bs : List Nat) (hs : a.eval s = v) (hown : w.ownsRow base 5 1 v cs.length (cs.map enc)) (ha : ∀ b ∈ cs, b < 256) (hx : a.eval x = u) (hu : ByteRow lo hi w u bs) (hlen : cs.length + bs.length ≤ 1000000) (hb : base ≤ w.heap.size)
    (h : ∀ sa cap w', ByteRow base w'.heap.size w' (.slice sa (cs ++ bs).length cap) (cs ++ bs) → w'.ownsRow base 5 1 (.slice sa (cs ++ bs).length cap) (cs ++ bs).length ((cs ++ bs).map enc) → w.grownBy w' v.ownBlock → K (a.put o.dst (.slice sa (cs ++ bs).length cap)) w') :
    if Region.wanted o (yielded ops a.tmps) = true then Oper.wp Try.prog o a w K Q else E := by
  have hw : Region.wanted o (yielded ops a.tmps) = true := by simp [Region.wanted, hgd]
  rw [if_pos hw]
  obtain ⟨v', w', hr, h1, h2, h3⟩ := run_append_bytes base v u lo hi cs bs w o.type hown ha hu hlen hb
  obtain ⟨_, sa, cap, e, _⟩ := id h1
  subst e
  unfold Oper.wp execOp
  simp only [ho, resolve, invoke, builtin, Sem.run_bind, Sem.run_pure, Result.andThen_ok, List.map_toArray, List.map_cons, List.map_nil, hs, hx, hr]
  exact h sa cap w' h1 h2 h3
set_option maxRecDepth 100000 in
theorem Try.elemB : Try.prog.underlying 34 = some (.slice (Try.prog.elem 34)) := by kernel_rfl
set_option maxRecDepth 100000 in
theorem Try.elemZ (w : World) : (sizeOf (Try.prog.elem 34)).run Try.prog w = .ok 1 w := by kernel_rfl
set_option maxRecDepth 100000 in
theorem Try.sizeB : (Try.prog.info? 34).map (·.size) = some 1 := by kernel_rfl
set_option maxRecDepth 100000 in
/-- b[n:] -/
theorem row_drop {lo hi : Nat} {W : World} {v : Value} {bs : List Nat} (h : ByteRow lo hi W v bs) (n : Nat) (hn : n ≤ bs.length) :
    ∃ sa cap, (∀ w, (Instr.sliceAt 34 v (some (.int .i64 (n : Int))) none none).run Try.prog w = .ok (.slice sa (bs.length - n) cap) w) ∧ ByteRow lo hi W (.slice sa (bs.length - n) cap) (bs.drop n) := by
  obtain ⟨hb, ad, cap, rfl, hz, hrow⟩ := h
  have hcap : bs.length ≤ cap ∨ bs = [] := by
    rcases hrow with h | ⟨_, _, _, h, _⟩
    · exact .inr h
    · exact .inl h
  have hdl : (bs.drop n).length = bs.length - n := List.length_drop
  refine ⟨if cap = n then ad else ad.map (·.add (n * 1)), cap - n, fun w => ?_, fun b hm => hb b (List.mem_of_mem_drop hm), _, _, by rw [hdl], ?_, ?_⟩
  · rw [run_sliceAt_slice _ _ _ _ _ _ Try.elemB, run_slice_l _ _ _ _ _ Try.elemB _ _ (by omega) (by omega), Try.elemZ]
    simp [Result.andThen, sliced]
  · intro e
    split at e
    · omega
    · have : ad = none := by simpa using e
      have := hz this
      omega
  · rcases hrow with rfl | ⟨g, off, rfl, hc, h1, h2, h3⟩
    · left
      simp
    · by_cases hcn : cap = n
      · left
        exact List.drop_eq_nil_of_le (by omega)
      · right
        refine ⟨g, off + n, by simp [hcn, Addr.add], by omega, h1, h2, fun j hj => ?_⟩
        rw [Nat.add_assoc, h3 (n + j) (by omega), List.getElem?_drop]
set_option maxRecDepth 100000 in
/-- b[:n] -/
theorem row_take {lo hi : Nat} {W : World} {v : Value} {bs : List Nat} (h : ByteRow lo hi W v bs) (n : Nat) (hn : n < bs.length) :
    ∃ sa cap, (∀ w, (Instr.sliceAt 34 v none (some (.int .i64 (n : Int))) none).run Try.prog w = .ok (.slice sa n cap) w) ∧ ByteRow lo hi W (.slice sa n cap) (bs.take n) := by
  obtain ⟨hb, ad, cap, rfl, hz, hrow⟩ := h
  rcases hrow with rfl | ⟨g, off, rfl, hc, h1, h2, h3⟩
  · simp at hn
  · have hdl : (bs.take n).length = n := by simp; omega
    refine ⟨some ⟨g, off, none⟩, cap, fun w => ?_, fun b hm => hb b (List.mem_of_mem_take hm), some ⟨g, off, none⟩, cap, by rw [hdl], fun e => (by cases e), ?_⟩
    · rw [run_sliceAt_slice _ _ _ _ _ _ Try.elemB, run_slice_h _ _ _ _ _ Try.elemB _ _ (by omega) (by omega), Try.elemZ]
      simp [Result.andThen, sliced, Addr.add]
    · right
      refine ⟨g, off, rfl, by omega, h1, h2, fun j hj => ?_⟩
      rw [hdl] at hj
      rw [h3 j (by omega), List.getElem?_take_of_lt hj]
set_option maxRecDepth 100000 in
/-- What a call hands back: the thing that it laid, and a second result. -/
theorem results_row_tmp {fn : Func} {p u : Tmp} {ty : TypeId} (h : fn.results = #[.cell p ty, .tmp u]) (tmps : Array Value) (w : World) (g : Nat) (cs : Array Value)
    (hp : tmps.getD p undef = .pointer (some ⟨g, 0, none⟩)) (hl : (loadVar ty ⟨g, 0, none⟩).run Try.prog w = .ok (.agg cs) w) :
    (results fn tmps).run Try.prog w = .ok (.tuple #[.agg cs, tmps.getD u undef]) w := by
  rw [results_cell_tmp h, hp]
  simp [asAddr, hl, Result.andThen]
theorem owns_kept {A B : World} {base : Nat} {e : TypeId} {z n : Nat} {v : Value} {l : List Value} (h : A.ownsRow base e z v n l) (hk : Kept [] A B) : B.ownsRow base e z v n l :=
  ⟨h.1, h.2.imp id fun ⟨g, cap, cur, e1, hb, hg, r⟩ => ⟨g, cap, cur, e1, hb, (hk.block g (Array.getElem?_eq_some_iff.1 hg).1 (by simp)).trans hg, r⟩⟩
/-- One byte, in a row of its own. -/
theorem one_row (W : World) (b : Nat) (h : b < 256) : ByteRow W.heap.size (W.heap.size + 1) (W.alloc (.cells #[.int .u8 (b : Int)] 5)) (.slice (some ⟨W.heap.size, 0, none⟩) 1 1) [b] := by
  refine ⟨by simpa using h, _, 1, rfl, fun e => (by cases e), .inr ⟨W.heap.size, 0, rfl, Nat.le_refl _, Nat.le_refl _, by omega, fun j hj => ?_⟩⟩
  have hj0 : j = 0 := by simpa using hj
  subst hj0
  rw [(blk_new W 5 #[.int .u8 (b : Int)]).cell]
  rfl
set_option maxRecDepth 100000 in
theorem put32_row (base : Nat) (v : Value) (l : List Nat) (y : Nat) (w : World) (h : w.ownsRow base 5 1 v l.length (l.map enc)) (hl : ∀ b ∈ l, b < 256) (hn : l.length ≤ 1000) (hy : y < 4294967296) (hb : base ≤ w.heap.size) :
    Calls Try.prog 81 #[v, .int .u32 (y : Int)] w fun e w' => ∃ v', e = .returned v' ∧ w'.ownsRow base 5 1 v' (l ++ be 4 y).length ((l ++ be 4 y).map enc) ∧ Kept [] w w' := by
  refine (Seal.put32_any v l y w hn hy ((byteRow_owns hl h).at (Nat.le_refl _))).mono ?_
  rintro e w' ⟨v', rfl, h1, h2⟩
  refine ⟨v', rfl, ?_, Kept.of_below h2 []⟩
  rw [List.length_append, be_length]
  exact Seal.owns_le h1 hb
set_option maxRecDepth 100000 in
theorem put16_row (base : Nat) (v : Value) (l : List Nat) (y : Int) (w : World) (h : w.ownsRow base 5 1 v l.length (l.map enc)) (hl : ∀ b ∈ l, b < 256) (hn : l.length ≤ 1000) (hb : base ≤ w.heap.size) :
    Calls Try.prog 80 #[v, .int .i64 y] w fun e w' => ∃ v', e = .returned v' ∧ w'.ownsRow base 5 1 v' (l ++ be 2 (y % 65536).toNat).length ((l ++ be 2 (y % 65536).toNat).map enc) ∧ Kept [] w w' := by
  refine (Seal.put16_any v l y w hn ((byteRow_owns hl h).at (Nat.le_refl _))).mono ?_
  rintro e w' ⟨v', rfl, h1, h2⟩
  refine ⟨v', rfl, ?_, Kept.of_below h2 []⟩
  rw [List.length_append, be_length]
  exact Seal.owns_le h1 hb
set_option maxRecDepth 100000 in
theorem refPut32_row (base : Nat) (v : Value) (l : List Nat) (y : Nat) (w : World) (h : w.ownsRow base 5 1 v l.length (l.map enc)) (hl : ∀ b ∈ l, b < 256) (hn : l.length ≤ 1000) (hy : y < 4294967296) (hb : base ≤ w.heap.size) :
    Calls Try.prog 35 #[v, .int .u32 (y : Int)] w fun e w' => ∃ v', e = .returned v' ∧ w'.ownsRow base 5 1 v' (l ++ be 4 y).length ((l ++ be 4 y).map enc) ∧ Kept [] w w' := by
  refine (Seal.refPut32_any v l y w hn hy ((byteRow_owns hl h).at (Nat.le_refl _))).mono ?_
  rintro e w' ⟨v', rfl, h1, h2⟩
  refine ⟨v', rfl, ?_, Kept.of_below h2 []⟩
  rw [List.length_append, be_length]
  exact Seal.owns_le h1 hb
set_option maxRecDepth 100000 in
theorem refPut16_row (base : Nat) (v : Value) (l : List Nat) (y : Int) (w : World) (h : w.ownsRow base 5 1 v l.length (l.map enc)) (hl : ∀ b ∈ l, b < 256) (hn : l.length ≤ 1000) (hb : base ≤ w.heap.size) :
    Calls Try.prog 34 #[v, .int .i64 y] w fun e w' => ∃ v', e = .returned v' ∧ w'.ownsRow base 5 1 v' (l ++ be 2 (y % 65536).toNat).length ((l ++ be 2 (y % 65536).toNat).map enc) ∧ Kept [] w w' := by
  refine (Seal.refPut16_any v l y w hn ((byteRow_owns hl h).at (Nat.le_refl _))).mono ?_
  rintro e w' ⟨v', rfl, h1, h2⟩
  refine ⟨v', rfl, ?_, Kept.of_below h2 []⟩
  rw [List.length_append, be_length]
  exact Seal.owns_le h1 hb
theorem app_byte {l r : List Nat} (h : ∀ b ∈ l, b < 256) (h2 : ∀ b ∈ r, b < 256) : ∀ b ∈ l ++ r, b < 256 := fun b hm => (List.mem_append.1 hm).elim (h b) (h2 b)
/-- A row of bytes of the call's own, from base on. -/
structure Own (W : World) (base : Nat) (v : Value) (l : List Nat) : Prop where
  row : W.ownsRow base 5 1 v l.length (l.map enc)
  byt : ∀ b ∈ l, b < 256
  le : base ≤ W.heap.size
theorem Own.kept {A B : World} {base : Nat} {v : Value} {l : List Nat} (h : Own A base v l) (hk : Kept [] A B) : Own B base v l := ⟨owns_kept h.row hk, h.byt, Nat.le_trans h.le hk.size⟩
theorem Own.low {A : World} {base base' : Nat} {v : Value} {l : List Nat} (h : Own A base v l) (hb : base' ≤ base) : Own A base' v l := ⟨Seal.owns_le h.row hb, h.byt, Nat.le_trans hb h.le⟩
theorem Own.is {A : World} {base : Nat} {v : Value} {l l' : List Nat} (h : Own A base v l) (e : l = l') : Own A base v l' := e ▸ h
theorem Own.byteRow {A : World} {base : Nat} {v : Value} {l : List Nat} (h : Own A base v l) : ByteRow base A.heap.size A v l := byteRow_owns h.byt h.row

theorem own_nil (W : World) (base : Nat) (hb : base ≤ W.heap.size) : Own W base (.slice none 0 0) [] := ⟨⟨by simp, .inl ⟨rfl, rfl⟩⟩, by simp, hb⟩
section
variable {ops : Array Oper} {rest : List Oper} {o : Oper} {a : Act} {w : World} {Q : Exit → Act → World → Prop}
set_option maxRecDepth 100000 in
/-- One cell of a block stored. -/
theorem wpList_store_cell (hgd : o.guard = none) (ty : TypeId) (x y : Operand) (ho : o.op = .store ty x y) (g j : Nat) (t : TypeId) (cs : Array Value) (v : Value)
    (hx : a.eval x = .pointer (some ⟨g, j, none⟩)) (hy : a.eval y = v) (h0 : Blk w g t cs) (hj : j < cs.size) (hi : (Try.prog.info? ty).map (·.size) = some 1) (h1 : v.oneCell' = true)
    (h : ∀ w', Blk w' g t (cs.setIfInBounds j v) → Kept [g] w w' → wpList Try.prog ops Q rest (a.put o.dst undef) w') : wpList Try.prog ops Q (o :: rest) a w := by
  refine wpList_plain hgd fun K' hK' => ?_
  have hrun := run_storeCells_cells (P := Try.prog) g j [v] 0 w (fun i hi => by
    have : i = 0 := by simpa using hi
    subst this
    show (w.cell? ⟨g, j, none⟩).isSome = true
    rw [h0.cell]
    simp [hj]) (fun i hi => h0.frozen _) (fun u hu => by simp at hu; subst hu; exact h1)
  have hc : v.cells = #[v] := by cases v <;> first | rfl | cases h1
  have hs : (storeVar ty ⟨g, j, none⟩ v).run Try.prog w = .ok () (w.setCell ⟨g, j, none⟩ v) := by
    cases hq : Try.prog.info? ty with
    | none => simp [hq] at hi
    | some i =>
      have hs : i.size = 1 := by simpa [hq] using hi
      simp only [Nat.add_zero] at hrun
      simp [storeVar, sizeOf, typeInfo, hq, hc, hs, hrun, World.setCells]
  unfold Oper.wp execOp
  simp only [ho, hx, hy, Instr.storeAt, Instr.sureAddr, Sem.run_bind, Sem.run_pure, Result.andThen_ok, hs]
  exact hK' _ _ (h _ (h0.set j v) (kept_set (by simp) w j v))
set_option maxRecDepth 100000 in
/-- b[n:] -/
theorem wpList_drop (hgd : o.guard = none) (x y : Operand) (ho : o.op = .slice 34 x (some y) none none) (lo hi : Nat) (W : World) (v : Value) (bs : List Nat) (n : Nat) (hx : a.eval x = v) (hy : a.eval y = .int .i64 (n : Int)) (h : ByteRow lo hi W v bs) (hn : n ≤ bs.length)
    (hk : ∀ sa z cap, ByteRow lo hi W (.slice sa z cap) (bs.drop n) → wpList Try.prog ops Q rest (a.put o.dst (.slice sa z cap)) w) : wpList Try.prog ops Q (o :: rest) a w := by
  refine wpList_plain hgd fun K' hK' => ?_
  obtain ⟨sa, cap, hrun, hr⟩ := row_drop h n hn
  unfold Oper.wp
  simp [execOp, ho, hx, hy, hrun, Result.andThen]
  exact hK' _ _ (hk sa _ cap hr)
set_option maxRecDepth 100000 in
/-- b[:n] -/
theorem wpList_take (hgd : o.guard = none) (x y : Operand) (ho : o.op = .slice 34 x none (some y) none) (lo hi : Nat) (W : World) (v : Value) (bs : List Nat) (n : Nat) (hx : a.eval x = v) (hy : a.eval y = .int .i64 (n : Int)) (h : ByteRow lo hi W v bs) (hn : n < bs.length)
    (hk : ∀ sa cap, ByteRow lo hi W (.slice sa n cap) (bs.take n) → wpList Try.prog ops Q rest (a.put o.dst (.slice sa n cap)) w) : wpList Try.prog ops Q (o :: rest) a w := by
  refine wpList_plain hgd fun K' hK' => ?_
  obtain ⟨sa, cap, hrun, hr⟩ := row_take h n hn
  unfold Oper.wp
  simp [execOp, ho, hx, hy, hrun, Result.andThen]
  exact hK' _ _ (hk sa cap hr)
set_option maxRecDepth 100000 in
/-- append(a, b..) onto a row of the call's own, the length a letter -/
theorem wpList_append_z (hgd : o.guard = none) (s x : Operand) (ho : o.op = .call { callee := .builtin .append, args := #[s, x], argTypes := #[34, 34] })
    (base : Nat) (v u : Value) (lo hi : Nat) (cs bs : List Nat) (hs : a.eval s = v) (hown : Own w base v cs) (hx : a.eval x = u) (hu : ByteRow lo hi w u bs) (hlen : cs.length + bs.length ≤ 1000000)
    (h : ∀ sa z cap w', Own w' base (.slice sa z cap) (cs ++ bs) → w.grownBy w' v.ownBlock → wpList Try.prog ops Q rest (a.put o.dst (.slice sa z cap)) w') : wpList Try.prog ops Q (o :: rest) a w :=
  wpList_append_bytes hgd s x ho base v u lo hi cs bs hs hown.row hown.byt hx hu hlen hown.le fun sa cap w' h1 h2 h3 => h sa _ cap w' ⟨h2, h1.1, Nat.le_trans hown.le h3.size⟩ h3
end
set_option maxRecDepth 100000 in
theorem Try.sizeI : (Try.prog.info? 3).map (·.size) = some 1 := by kernel_rfl
set_option maxRecDepth 100000 in
theorem Try.sizeF : (Try.prog.info? 4).map (·.size) = some 1 := by kernel_rfl

theorem Own.form {A : World} {base : Nat} {v : Value} {l : List Nat} (h : Own A base v l) : ∃ sa cap, v = .slice sa l.length cap := by
  obtain ⟨_, sa, cap, e, _⟩ := h.byteRow
  exact ⟨sa, cap, e⟩
theorem Own.alloc {A : World} {base : Nat} {v : Value} {l : List Nat} (h : Own A base v l) (ob : Obj) : Own (A.alloc ob) base v l := h.kept (kept_alloc [] A ob)
theorem one_rowC (W : World) (b : Nat) (c : Int) (hc : c = b) (h : b < 256) : ByteRow W.heap.size (W.heap.size + 1) (W.alloc (.cells #[.int .u8 c] 5)) (.slice (some ⟨W.heap.size, 0, none⟩) 1 1) [b] := by
  subst hc
  exact one_row W b h
/-- A packet in memory: its numbers, its bytes' slice, and what the bytes are. -/
structure Pv where
  f : Nat
  t : Nat
  k : Int
  s : Int
  a : Int
  sa : Option Addr
  len : Nat
  cap : Nat
  d : List Nat
def Pv.ps (x : Pv) : Ps := ⟨x.f, x.t, x.k, x.s, x.a, x.d⟩
def Pv.cells (x : Pv) : List Value := [.int .u32 (x.f : Int), .int .u32 (x.t : Int), .int .i64 x.k, .int .i64 x.s, .int .i64 x.a, .slice x.sa x.len x.cap]
def Pv.val (x : Pv) : Value := .agg #[.int .u32 (x.f : Int), .int .u32 (x.t : Int), .int .i64 x.k, .int .i64 x.s, .int .i64 x.a, .slice x.sa x.len x.cap]
structure Pv.At (lo hi : Nat) (W : World) (x : Pv) : Prop where
  row : ByteRow lo hi W (.slice x.sa x.len x.cap) x.d
  f : x.f < 4294967296
  t : x.t < 4294967296
theorem Pv.At.len {lo hi : Nat} {W : World} {x : Pv} (h : x.At lo hi W) : x.len = x.d.length := h.row.len
theorem Pv.At.kept {L : List Nat} {A B : World} {lo hi : Nat} {x : Pv} (h : x.At lo hi A) (hh : hi ≤ A.heap.size) (hK : Kept L A B) (hL : ∀ k ∈ L, k < lo ∨ hi ≤ k) : x.At lo hi B := ⟨h.row.kept hh hK hL, h.f, h.t⟩
theorem Pv.At.mono {lo hi lo' hi' : Nat} {W : World} {x : Pv} (h : x.At lo hi W) (h1 : lo' ≤ lo) (h2 : hi ≤ hi') : x.At lo' hi' W := ⟨h.row.mono h1 h2, h.f, h.t⟩
/-- The packet of nothing. -/
def pv0 : Pv := ⟨0, 0, 0, 0, 0, none, 0, 0, []⟩
theorem pv0_at (lo hi : Nat) (W : World) : pv0.At lo hi W := ⟨byteRow_nil lo hi W, by decide, by decide⟩
set_option maxRecDepth 100000 in
theorem Try.sizeP : (Try.prog.info? 47).map (·.size) = some 6 := by kernel_rfl
set_option maxRecDepth 100000 in
theorem Try.sizeU : (Try.prog.info? 25).map (·.size) = some 1 := by kernel_rfl
/-- A packet in a block, its cells said one by one. -/
def PIn (W : World) (g : Nat) (f t k s a : Int) (d : Value) : Prop := Blk W g 47 #[.int .u32 f, .int .u32 t, .int .i64 k, .int .i64 s, .int .i64 a, d]
theorem PIn.six {W : World} {g : Nat} {f t k s a : Int} {d : Value} (h : PIn W g f t k s a d) : W.cell? ⟨g, 0, none⟩ = some (.int .u32 f) ∧ W.cell? ⟨g, 1, none⟩ = some (.int .u32 t) ∧ W.cell? ⟨g, 2, none⟩ = some (.int .i64 k) ∧ W.cell? ⟨g, 3, none⟩ = some (.int .i64 s) ∧ W.cell? ⟨g, 4, none⟩ = some (.int .i64 a) ∧ W.cell? ⟨g, 5, none⟩ = some d :=
  ⟨(Blk.cell h 0).trans rfl, (Blk.cell h 1).trans rfl, (Blk.cell h 2).trans rfl, (Blk.cell h 3).trans rfl, (Blk.cell h 4).trans rfl, (Blk.cell h 5).trans rfl⟩
/-- A block that holds a packet. -/
def Pv.In (x : Pv) (W : World) (g : Nat) : Prop := PIn W g x.f x.t x.k x.s x.a (.slice x.sa x.len x.cap)
theorem Pv.In.six {x : Pv} {W : World} {g : Nat} (h : x.In W g) : W.cell? ⟨g, 0, none⟩ = some (.int .u32 (x.f : Int)) ∧ W.cell? ⟨g, 1, none⟩ = some (.int .u32 (x.t : Int)) ∧ W.cell? ⟨g, 2, none⟩ = some (.int .i64 x.k) ∧ W.cell? ⟨g, 3, none⟩ = some (.int .i64 x.s) ∧ W.cell? ⟨g, 4, none⟩ = some (.int .i64 x.a) ∧ W.cell? ⟨g, 5, none⟩ = some (.slice x.sa x.len x.cap) := PIn.six h
theorem Pv.In.kept {L : List Nat} {A B : World} {g : Nat} {x : Pv} (h : x.In A g) (hK : Kept L A B) (hg : g ∉ L) : x.In B g := Blk.kept h hK hg
theorem PIn.kept {L : List Nat} {A B : World} {g : Nat} {f t k s a : Int} {d : Value} (h : PIn A g f t k s a d) (hK : Kept L A B) (hg : g ∉ L) : PIn B g f t k s a d := Blk.kept h hK hg
end Go.Proofs.Ytnbkbakbjllmcaa.Wire

