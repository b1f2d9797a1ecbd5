import Derived.Test.YtfiofdmefgkloaaGreatBase
import Derived.Test.YtfiofdmefgkloaaGreatSeal1
import Derived.Test.YtfiofdmefgkloaaGreatPkM
import Derived.Laws.BytesArg
import Derived.Laws.ResultCell
import Derived.Laws.Rows
import Derived.Lib.Bytes
import Derived.Lib.SliceRun
import Derived.Laws.AppendOwnNone
import Derived.Deep.AppendLies
/-
  Bytes and messages in memory; bytes joined and cut; what a kind is like.
-/
namespace Go.Proofs.YtfiofdmefgkloaaGreat.Pack
open Go.RowKit
open Seal (enc)

theorem enc_one (l : List Nat) : ∀ v ∈ l.map enc, v.oneCell' = true := by
  intro u hu
  simp at hu
  obtain ⟨x, _, rfl⟩ := hu
  rfl
/-- The slice value v holds the bytes bs, in a block from lo on and below hi where there is one. -/
def ByteRow (lo hi : Nat) (W : World) (v : Value) (bs : List Nat) : Prop :=
  (∀ b ∈ bs, b < 256) ∧ ∃ a cap, v = .slice a bs.length cap ∧ (a = none → cap = 0) ∧ (bs = [] ∨ ∃ g off, a = some ⟨g, off, none⟩ ∧ bs.length ≤ cap ∧ lo ≤ g ∧ g < hi ∧ ∀ j, j < bs.length → W.cell? ⟨g, off + j, none⟩ = some (.int .u8 ((bs[j]?.getD 0 : Nat) : Int)))
theorem ByteRow.kept {L : List Nat} {A B : World} {lo hi : Nat} {v : Value} {bs : List Nat} (h : ByteRow lo hi A v bs) (hh : hi ≤ A.heap.size) (hK : Kept L A B) (hL : ∀ k ∈ L, k < lo ∨ hi ≤ k) : ByteRow lo hi B v bs := by
  obtain ⟨hb, a, cap, e, hn, h | ⟨g, off, e2, hl, h1, h2, hc⟩⟩ := h
  · exact ⟨hb, a, cap, e, hn, .inl h⟩
  · refine ⟨hb, a, cap, e, hn, .inr ⟨g, off, e2, hl, h1, h2, fun j hj => ?_⟩⟩
    rw [World.cell?_of_block (w := A) (w' := B) (hK.block g (by omega) (fun hm => by have := hL g hm; omega))]
    exact hc j hj
theorem ByteRow.mono {lo hi lo' hi' : Nat} {W : World} {v : Value} {bs : List Nat} (h : ByteRow lo hi W v bs) (h1 : lo' ≤ lo) (h2 : hi ≤ hi') : ByteRow lo' hi' W v bs := by
  obtain ⟨hb, a, cap, e, hn, h | ⟨g, off, e2, hl, h3, h4, hc⟩⟩ := h
  · exact ⟨hb, a, cap, e, hn, .inl h⟩
  · exact ⟨hb, a, cap, e, hn, .inr ⟨g, off, e2, hl, by omega, by omega, hc⟩⟩
theorem byteRow_nil (lo hi : Nat) (W : World) : ByteRow lo hi W (.slice none 0 0) [] := ⟨by simp, none, 0, rfl, fun _ => rfl, .inl rfl⟩
theorem ByteRow.at {lo hi : Nat} {W : World} {v : Value} {bs : List Nat} (h : ByteRow lo hi W v bs) (hh : hi ≤ W.heap.size) : Seal.BytesAt W.heap.size W v bs := by
  obtain ⟨hb, a, cap, e, hn, h | ⟨g, off, e2, hl, h3, h4, hc⟩⟩ := h
  · exact ⟨hb, a, cap, e, hn, .inl h⟩
  · exact ⟨hb, a, cap, e, hn, .inr ⟨g, off, e2, hl, by omega, hc⟩⟩
theorem ByteRow.len {lo hi : Nat} {W : World} {a : Option Addr} {len cap : Nat} {bs : List Nat} (h : ByteRow lo hi W (.slice a len cap) bs) : len = bs.length := by
  obtain ⟨_, _, _, e, _⟩ := h
  injection e
theorem ByteRow.cell {lo hi : Nat} {W : World} {a : Option Addr} {n cap : Nat} {bs : List Nat} (h : ByteRow lo hi W (.slice a n cap) bs) (k : Nat) (hk : k < bs.length) :
    ∃ g off, a = some ⟨g, off, none⟩ ∧ g < hi ∧ W.cell? ⟨g, off + k, none⟩ = some (.int .u8 ((bs[k]?.getD 0 : Nat) : Int)) := by
  obtain ⟨_, a', cap', e, _, h⟩ := h
  injection e with e1 e2 e3
  subst e1
  rcases h with rfl | ⟨b, off, rfl, _, _, h2, hc⟩
  · simp at hk
  · exact ⟨b, off, rfl, h2, hc k hk⟩
/-- A row of bytes of the call's own. -/
theorem byteRow_owns {W : World} {base : Nat} {v : Value} {l : List Nat} (hl : ∀ b ∈ l, b < 256) (h : W.ownsRow base 5 1 v l.length (l.map enc)) : ByteRow base W.heap.size W v l := by
  obtain ⟨_, ⟨rfl, h0⟩ | ⟨g, cap, cur, rfl, hb, hg, h1, h2, h3, h4⟩⟩ := h
  · have : l = [] := by simpa using h0
    subst this
    exact ⟨hl, none, 0, rfl, fun _ => rfl, .inl rfl⟩
  · refine ⟨hl, some ⟨g, 0, none⟩, cap, rfl, fun h => by simp at h, .inr ⟨g, 0, rfl, h1, hb, (Array.getElem?_eq_some_iff.1 hg).1, fun j hj => ?_⟩⟩
    have e : cur.toList[j]? = some (enc l[j]) := by
      have := congrArg (fun t => t[j]?) h4
      simp [hj] at this
      simpa using this
    simp [World.cell?, hg]
    rw [Array.getElem?_toList] at e
    rw [e]
    simp [enc, hj]
/-- Some bytes' text. -/
def txt (l : List Nat) : ByteArray := strOfNums (l.map Int.ofNat)
theorem txt_inj {a b : List Nat} (ha : ∀ x ∈ a, x < 256) (hb : ∀ x ∈ b, x < 256) (h : txt a = txt b) : a = b := by
  have h1 := congrArg (fun t => t.data.toList.map UInt8.toNat) h
  simp only [txt, strOfNums_data, List.map_map] at h1
  have e : ∀ l : List Nat, (∀ x ∈ l, x < 256) → l.map (UInt8.toNat ∘ (fun n : Int => UInt8.ofNat n.toNat) ∘ Int.ofNat) = l := fun l hl => by
    conv => rhs; rw [← List.map_id l]
    apply List.map_congr_left
    intro x hx
    have := hl x hx
    simp
    omega
  rw [e a ha, e b hb] at h1
  exact h1
set_option maxRecDepth 100000 in
theorem conv_txt {lo hi : Nat} {W : World} {v : Value} {l : List Nat} (h : ByteRow lo hi W v l) : (convert 24 9 v).run Tryz.prog W = .ok (.string (txt l)) W := by
  obtain ⟨hb, a, cap, rfl, hn, h⟩ := h
  cases a with
  | none =>
    rcases h with rfl | ⟨b, off, e, _⟩
    · exact run_convert_bytes_nil W 24 5 Tryz.underlying24 Tryz.underlying5 _ cap 9 Tryz.underlying9
    · simp at e
  | some a =>
    rcases h with rfl | ⟨b, off, e, _, _, _, hc⟩
    · refine (run_convert_bytes_string W 24 9 5 _ _ cap Tryz.underlying24 Tryz.underlying5 Tryz.underlying9).trans ?_
      exact run_bytesToString (P := Tryz.prog) W a 0 cap [] (run_loadCells_list (P := Tryz.prog) W a [] (fun j v hj => by simp at hj))
    · obtain rfl : a = ⟨b, off, none⟩ := by simpa using e
      refine run_convert_bytes_arg W 24 5 Tryz.underlying24 Tryz.underlying5 b off _ cap _ (by simp) (fun j hj => ?_) 9 Tryz.underlying9
      rw [hc j hj]
      simp [hj]
theorem kept_grown {w w' : World} {v : Value} {base : Nat} {e : TypeId} {z k : Nat} {l : List Value} (hown : w.ownsRow base e z v k l) (hg : w.grownBy w' v.ownBlock) (w0 : World) (h0 : Kept [] w0 w) (hb : w0.heap.size ≤ base) : Kept [] w0 w' :=
  ⟨hg.os.trans h0.os, hg.tape.trans h0.tape, hg.output.trans h0.output, Nat.le_trans h0.size hg.size, fun j hj _ => (hg.block j (Nat.lt_of_lt_of_le hj h0.size) (fun e => by have := (hown.lt j e.symm).1; omega)).trans (h0.block j hj (by simp))⟩
set_option maxRecDepth 100000 in
/-- append(a, b..) onto a row of the call's own, its run -/
theorem run_append_bytes (base : Nat) (v u : Value) (lo hi : Nat) (cs bs : List Nat) (w : World) (ty : TypeId) (hown : w.ownsRow base 5 1 v cs.length (cs.map enc)) (ha : ∀ b ∈ cs, b < 256) (hu : ByteRow lo hi w u bs) (hlen : cs.length + bs.length ≤ 1000000) (hb : base ≤ w.heap.size) :
    ∃ v' w', (Builtin.append_ #[24, 24] ty #[v, u]).run Tryz.prog w = .ok v' w' ∧ ByteRow base w'.heap.size w' v' (cs ++ bs) ∧ w'.ownsRow base 5 1 v' (cs ++ bs).length ((cs ++ bs).map enc) ∧ w.grownBy w' v.ownBlock := by
  obtain ⟨i0, hi0, hz0, hz1, hz2⟩ := info_parts Seal.Tryz.info5
  obtain ⟨hB, ad, cap, rfl, hn, hcase⟩ := hu
  have hAB : ∀ b ∈ cs ++ bs, b < 256 := fun b hm => (List.mem_append.1 hm).elim (ha b) (hB b)
  cases ad with
  | none =>
    rcases hcase with rfl | ⟨g, off, e, _⟩
    · obtain rfl := hn rfl
      have hrun := run_append_owned_none (P := Tryz.prog) (w := w) base 24 ty 5 i0 1 Tryz.underlying24 hi0 v cs.length (cs.map enc) hown
      rw [List.append_nil]
      exact ⟨v, w, hrun, byteRow_owns ha hown, hown, ⟨rfl, rfl, rfl, Nat.le_refl _, fun _ _ _ => rfl⟩⟩
    · simp at e
  | some ad =>
    obtain ⟨v', w', hr, h2, h3, _, _⟩ := run_append_own_at (P := Tryz.prog) w base 24 ty 5 i0 (.int .u8 0) 1 1 Tryz.underlying24 hi0 hz0 hz1 hz2 rfl (by decide) v cs.length (cs.map enc) hown ad bs.length cap (bs.map enc) (by simp) (by
      intro q u hq
      have hql : q < bs.length := by
        have := (List.getElem?_eq_some_iff.1 hq).1
        simpa using this
      rcases hcase with rfl | ⟨g, off, e, _, _, _, hc⟩
      · simp at hql
      · injection e with e
        subst e
        rw [Go.WideShapes.add_plain, hc q hql, ← hq]
        simp [hql, enc]) (enc_one bs) (by unfold maxLen; omega) (by omega) hb
    have h2' : w'.ownsRow base 5 1 v' (cs ++ bs).length ((cs ++ bs).map enc) := by
      rw [List.map_append, List.length_append]
      exact h2
    exact ⟨v', w', hr, byteRow_owns hAB h2', h2', h3⟩
section
variable {ops : Array Oper} {rest : List Oper} {o : Oper} {a : Act} {w : World} {Q : Exit → Act → World → Prop}
set_option maxRecDepth 100000 in
/-- append(a, b..) onto a row of the call's own -/
theorem wpList_append_bytes (hgd : o.guard = none) (s x : Operand) (ho : o.op = .call { callee := .builtin .append, args := #[s, x], argTypes := #[24, 24] })
    (base : Nat) (v u : Value) (lo hi : Nat) (cs bs : List Nat) (hs : a.eval s = v) (hown : w.ownsRow base 5 1 v cs.length (cs.map enc)) (ha : ∀ b ∈ cs, b < 256) (hx : a.eval x = u) (hu : ByteRow lo hi w u bs) (hlen : cs.length + bs.length ≤ 1000000) (hb : base ≤ w.heap.size)
    (h : ∀ sa cap w', ByteRow base w'.heap.size w' (.slice sa (cs ++ bs).length cap) (cs ++ bs) → w'.ownsRow base 5 1 (.slice sa (cs ++ bs).length cap) (cs ++ bs).length ((cs ++ bs).map enc) → w.grownBy w' v.ownBlock → wpList Tryz.prog ops Q rest (a.put o.dst (.slice sa (cs ++ bs).length cap)) w') : wpList Tryz.prog ops Q (o :: rest) a w := by
  refine wpList_plain hgd fun K' hK' => ?_
  obtain ⟨v', w', hr, h1, h2, h3⟩ := run_append_bytes base v u lo hi cs bs w o.type hown ha hu hlen hb
  obtain ⟨_, sa, cap, e, _⟩ := id h1
  subst e
  unfold Oper.wp execOp
  simp only [ho, resolve, invoke, builtin, Sem.run_bind, Sem.run_pure, Result.andThen_ok, List.map_toArray, List.map_cons, List.map_nil, hs, hx, hr]
  exact hK' _ _ (h sa cap w' h1 h2 h3)
end
set_option maxRecDepth 100000 in
/-- The same at a step of a region that draws its order. -/
theorem step_append_bytes {ops : Array Oper} {o : Oper} {a : Act} {w : World} {K : Act → World → Prop} {Q : Exit → Act → World → Prop} {E : Prop} (hgd : o.guard = none) (s x : Operand)
    (ho : o.op = .call { callee := .builtin .append, args := #[s, x], argTypes := #[24, 24] })
    (base : Nat) (v u : Value) (lo hi : Nat) (cs bs : List Nat) (hs : a.eval s = v) (hown : w.ownsRow base 5 1 v cs.length (cs.map enc)) (ha : ∀ b ∈ cs, b < 256) (hx : a.eval x = u) (hu : ByteRow lo hi w u bs) (hlen : cs.length + bs.length ≤ 1000000) (hb : base ≤ w.heap.size)
    (h : ∀ sa cap w', ByteRow base w'.heap.size w' (.slice sa (cs ++ bs).length cap) (cs ++ bs) → w'.ownsRow base 5 1 (.slice sa (cs ++ bs).length cap) (cs ++ bs).length ((cs ++ bs).map enc) → w.grownBy w' v.ownBlock → K (a.put o.dst (.slice sa (cs ++ bs).length cap)) w') :
    if Region.wanted o (yielded ops a.tmps) = true then Oper.wp Tryz.prog o a w K Q else E := by
  have hw : Region.wanted o (yielded ops a.tmps) = true := by simp [Region.wanted, hgd]
  rw [if_pos hw]
  obtain ⟨v', w', hr, h1, h2, h3⟩ := run_append_bytes base v u lo hi cs bs w o.type hown ha hu hlen hb
  obtain ⟨_, sa, cap, e, _⟩ := id h1
  subst e
  unfold Oper.wp execOp
  simp only [ho, resolve, invoke, builtin, Sem.run_bind, Sem.run_pure, Result.andThen_ok, List.map_toArray, List.map_cons, List.map_nil, hs, hx, hr]
  exact h sa cap w' h1 h2 h3
set_option maxRecDepth 100000 in
theorem Tryz.elemB : Tryz.prog.underlying 24 = some (.slice (Tryz.prog.elem 24)) := by kernel_rfl
set_option maxRecDepth 100000 in
theorem Tryz.elemZ (w : World) : (sizeOf (Tryz.prog.elem 24)).run Tryz.prog w = .ok 1 w := by kernel_rfl
set_option maxRecDepth 100000 in
theorem Tryz.sizeB : (Tryz.prog.info? 24).map (·.size) = some 1 := by kernel_rfl
set_option maxRecDepth 100000 in
/-- b[n:] -/
theorem row_drop {lo hi : Nat} {W : World} {v : Value} {bs : List Nat} (h : ByteRow lo hi W v bs) (n : Nat) (hn : n ≤ bs.length) :
    ∃ sa cap, (∀ w, (Instr.sliceAt 24 v (some (.int .i64 (n : Int))) none none).run Tryz.prog w = .ok (.slice sa (bs.length - n) cap) w) ∧ ByteRow lo hi W (.slice sa (bs.length - n) cap) (bs.drop n) := by
  obtain ⟨hb, ad, cap, rfl, hz, hrow⟩ := h
  have hcap : bs.length ≤ cap ∨ bs = [] := by
    rcases hrow with h | ⟨_, _, _, h, _⟩
    · exact .inr h
    · exact .inl h
  have hdl : (bs.drop n).length = bs.length - n := List.length_drop
  refine ⟨if cap = n then ad else ad.map (·.add (n * 1)), cap - n, fun w => ?_, fun b hm => hb b (List.mem_of_mem_drop hm), _, _, by rw [hdl], ?_, ?_⟩
  · rw [run_sliceAt_slice _ _ _ _ _ _ Tryz.elemB, run_slice_l _ _ _ _ _ Tryz.elemB _ _ (by omega) (by omega), Tryz.elemZ]
    simp [Result.andThen, sliced]
  · intro e
    split at e
    · omega
    · have : ad = none := by simpa using e
      have := hz this
      omega
  · rcases hrow with rfl | ⟨g, off, rfl, hc, h1, h2, h3⟩
    · left
      simp
    · by_cases hcn : cap = n
      · left
        exact List.drop_eq_nil_of_le (by omega)
      · right
        refine ⟨g, off + n, by simp [hcn, Addr.add], by omega, h1, h2, fun j hj => ?_⟩
        rw [Nat.add_assoc, h3 (n + j) (by omega), List.getElem?_drop]
set_option maxRecDepth 100000 in
/-- b[:n] -/
theorem row_take {lo hi : Nat} {W : World} {v : Value} {bs : List Nat} (h : ByteRow lo hi W v bs) (n : Nat) (hn : n < bs.length) :
    ∃ sa cap, (∀ w, (Instr.sliceAt 24 v none (some (.int .i64 (n : Int))) none).run Tryz.prog w = .ok (.slice sa n cap) w) ∧ ByteRow lo hi W (.slice sa n cap) (bs.take n) := by
  obtain ⟨hb, ad, cap, rfl, hz, hrow⟩ := h
  rcases hrow with rfl | ⟨g, off, rfl, hc, h1, h2, h3⟩
  · simp at hn
  · have hdl : (bs.take n).length = n := by simp; omega
    refine ⟨some ⟨g, off, none⟩, cap, fun w => ?_, fun b hm => hb b (List.mem_of_mem_take hm), some ⟨g, off, none⟩, cap, by rw [hdl], fun e => (by cases e), ?_⟩
    · rw [run_sliceAt_slice _ _ _ _ _ _ Tryz.elemB, run_slice_h _ _ _ _ _ Tryz.elemB _ _ (by omega) (by omega), Tryz.elemZ]
      simp [Result.andThen, sliced, Addr.add]
    · right
      refine ⟨g, off, rfl, by omega, h1, h2, fun j hj => ?_⟩
      rw [hdl] at hj
      rw [h3 j (by omega), List.getElem?_take_of_lt hj]
set_option maxRecDepth 100000 in
/-- What a call hands back: the thing that it laid, and a second result. -/
theorem results_row_tmp {fn : Func} {p u : Tmp} {ty : TypeId} (h : fn.results = #[.cell p ty, .tmp u]) (tmps : Array Value) (w : World) (g : Nat) (cs : Array Value)
    (hp : tmps.getD p undef = .pointer (some ⟨g, 0, none⟩)) (hl : (loadVar ty ⟨g, 0, none⟩).run Tryz.prog w = .ok (.agg cs) w) :
    (results fn tmps).run Tryz.prog w = .ok (.tuple #[.agg cs, tmps.getD u undef]) w := by
  rw [results_cell_tmp h, hp]
  simp [asAddr, hl, Result.andThen]
/-- A message in memory: its numbers, its bytes' slice, and what the bytes are. -/
structure Mv where
  k : Int
  i : Int
  o : Int
  m : Nat
  s : Bool
  sa : Option Addr
  len : Nat
  cap : Nat
  d : List Nat
def Mv.ms (x : Mv) : Ms := ⟨x.k, x.i, x.o, x.m, x.s, x.d⟩
def Mv.cells (x : Mv) : List Value := [.int .i64 x.k, .int .i64 x.i, .int .i64 x.o, .int .u64 (x.m : Int), .bool x.s, .slice x.sa x.len x.cap]
def Mv.val (x : Mv) : Value := .agg #[.int .i64 x.k, .int .i64 x.i, .int .i64 x.o, .int .u64 (x.m : Int), .bool x.s, .slice x.sa x.len x.cap]
structure Mv.At (lo hi : Nat) (W : World) (x : Mv) : Prop where
  row : ByteRow lo hi W (.slice x.sa x.len x.cap) x.d
  m : x.m < 18446744073709551616
  i0 : -9223372036854775808 ≤ x.i
  i1 : x.i ≤ 9223372036854775807
theorem Mv.At.len {lo hi : Nat} {W : World} {x : Mv} (h : x.At lo hi W) : x.len = x.d.length := h.row.len
theorem Mv.At.kept {L : List Nat} {A B : World} {lo hi : Nat} {x : Mv} (h : x.At lo hi A) (hh : hi ≤ A.heap.size) (hK : Kept L A B) (hL : ∀ k ∈ L, k < lo ∨ hi ≤ k) : x.At lo hi B := ⟨h.row.kept hh hK hL, h.m, h.i0, h.i1⟩
theorem Mv.At.mono {lo hi lo' hi' : Nat} {W : World} {x : Mv} (h : x.At lo hi W) (h1 : lo' ≤ lo) (h2 : hi ≤ hi') : x.At lo' hi' W := ⟨h.row.mono h1 h2, h.m, h.i0, h.i1⟩
/-- The message of nothing. -/
def mv0 : Mv := ⟨0, 0, 0, 0, false, none, 0, 0, []⟩
theorem mv0_at (lo hi : Nat) (W : World) : mv0.At lo hi W := ⟨byteRow_nil lo hi W, by decide, by decide, by decide⟩
set_option maxRecDepth 100000 in
theorem Tryz.sizeM : (Tryz.prog.info? 26).map (·.size) = some 6 := by kernel_rfl
set_option maxRecDepth 100000 in
theorem Tryz.sizeS : (Tryz.prog.info? 178).map (·.size) = some 5 := by kernel_rfl
/-- A block that holds a message. -/
def Mv.In (x : Mv) (W : World) (g : Nat) : Prop := Blk W g 26 #[.int .i64 x.k, .int .i64 x.i, .int .i64 x.o, .int .u64 (x.m : Int), .bool x.s, .slice x.sa x.len x.cap]
theorem Mv.In.six {x : Mv} {W : World} {g : Nat} (h : x.In W g) : W.cell? ⟨g, 0, none⟩ = some (.int .i64 x.k) ∧ W.cell? ⟨g, 1, none⟩ = some (.int .i64 x.i) ∧ W.cell? ⟨g, 2, none⟩ = some (.int .i64 x.o) ∧ W.cell? ⟨g, 3, none⟩ = some (.int .u64 (x.m : Int)) ∧ W.cell? ⟨g, 4, none⟩ = some (.bool x.s) ∧ W.cell? ⟨g, 5, none⟩ = some (.slice x.sa x.len x.cap) :=
  ⟨(Blk.cell h 0).trans rfl, (Blk.cell h 1).trans rfl, (Blk.cell h 2).trans rfl, (Blk.cell h 3).trans rfl, (Blk.cell h 4).trans rfl, (Blk.cell h 5).trans rfl⟩
theorem Mv.In.kept {L : List Nat} {A B : World} {g : Nat} {x : Mv} (h : x.In A g) (hK : Kept L A B) (hg : g ∉ L) : x.In B g := Blk.kept h hK hg
/-- What a kind is like. -/
def nameOf (k : Int) : ByteArray :=
  if k = 1 then { data := #[103, 114, 101, 101, 116] } else if k = 2 then { data := #[100, 97, 116, 97] } else if k = 3 then { data := #[97, 99, 107] } else if k = 4 then { data := #[111, 118, 101, 114] } else
  if k = 5 then { data := #[114, 101, 116, 114, 121] } else if k = 6 then { data := #[101, 120, 116] } else if k = 7 then { data := #[104, 97, 118, 101] } else if k = 8 then { data := #[101, 110, 100] } else { data := #[] }
def partsOf (k : Int) : Nat := if k = 1 then 3 else if k = 2 then 28 else if 3 ≤ k ∧ k ≤ 5 then 4 else if k = 6 then 24 else if k = 7 then 8 else 0
def offsOf (k : Int) : Nat := if k = 2 then 256 else if k = 6 ∨ k = 7 then 64 else 0
def leastOf (k : Int) : Nat := if k = 2 then 1 else if k = 6 then 4 else 0
def mostOf (k : Int) : Nat := if k = 2 then 8 else if k = 6 then 4 else 0
def isKind (k : Int) : Bool := decide (1 ≤ k ∧ k ≤ 8)
/-- A shape as a value. -/
def shV (n : ByteArray) (p o l u : Nat) : Value := .agg #[.string n, .int .i64 (p : Int), .int .i64 (o : Int), .int .i64 (l : Int), .int .i64 (u : Int)]
/-- A block that holds a shape. -/
def ShIn (W : World) (g : Nat) (n : ByteArray) (p o l u : Nat) : Prop := Blk W g 178 #[.string n, .int .i64 (p : Int), .int .i64 (o : Int), .int .i64 (l : Int), .int .i64 (u : Int)]
theorem ShIn.five {W : World} {g : Nat} {n : ByteArray} {p o l u : Nat} (h : ShIn W g n p o l u) : W.cell? ⟨g, 0, none⟩ = some (.string n) ∧ W.cell? ⟨g, 1, none⟩ = some (.int .i64 (p : Int)) ∧ W.cell? ⟨g, 2, none⟩ = some (.int .i64 (o : Int)) ∧ W.cell? ⟨g, 3, none⟩ = some (.int .i64 (l : Int)) ∧ W.cell? ⟨g, 4, none⟩ = some (.int .i64 (u : Int)) :=
  ⟨(Blk.cell h 0).trans rfl, (Blk.cell h 1).trans rfl, (Blk.cell h 2).trans rfl, (Blk.cell h 3).trans rfl, (Blk.cell h 4).trans rfl⟩
theorem ShIn.kept {L : List Nat} {A B : World} {g : Nat} {n : ByteArray} {p o l u : Nat} (h : ShIn A g n p o l u) (hK : Kept L A B) (hg : g ∉ L) : ShIn B g n p o l u := Blk.kept h hK hg
end Go.Proofs.YtfiofdmefgkloaaGreat.Pack

