/-
  Bytes and requests in memory; bytes copied: bytes.Clone, apart, and the document's Copy.
-/
import Derived.Test.YtkidaofoljmdoaaBase
import Derived.Test.YtkidaofoljmdoaaTbM
import Derived.Laws.BytesArg
import Derived.Laws.ResultCell
import Derived.Laws.Rows
import Derived.Lib.Bytes
import Derived.Lib.SliceRun
import Derived.Laws.AppendOwnNone
import Derived.Deep.AppendLies
namespace Go.Proofs.Ytkidaofoljmdoaa.Table
open Go.RowKit

/-- A byte as a value. -/
def enc (i : Nat) : Value := .int .u8 (i : Int)
theorem enc_one (l : List Nat) : ∀ v ∈ l.map enc, v.oneCell' = true := by
  intro u hu
  simp at hu
  obtain ⟨x, _, rfl⟩ := hu
  rfl
/-- The slice value v holds the bytes bs, in a block from lo on and below hi where there is one. -/
def ByteRow (lo hi : Nat) (W : World) (v : Value) (bs : List Nat) : Prop :=
  (∀ b ∈ bs, b < 256) ∧ ∃ a cap, v = .slice a bs.length cap ∧ (a = none → cap = 0) ∧ (bs = [] ∨ ∃ g off, a = some ⟨g, off, none⟩ ∧ bs.length ≤ cap ∧ lo ≤ g ∧ g < hi ∧ ∀ j, j < bs.length → W.cell? ⟨g, off + j, none⟩ = some (.int .u8 ((bs[j]?.getD 0 : Nat) : Int)))
theorem ByteRow.kept {L : List Nat} {A B : World} {lo hi : Nat} {v : Value} {bs : List Nat} (h : ByteRow lo hi A v bs) (hh : hi ≤ A.heap.size) (hK : Kept L A B) (hL : ∀ k ∈ L, k < lo ∨ hi ≤ k) : ByteRow lo hi B v bs := by
  obtain ⟨hb, a, cap, e, hn, h | ⟨g, off, e2, hl, h1, h2, hc⟩⟩ := h
  · exact ⟨hb, a, cap, e, hn, .inl h⟩
  · refine ⟨hb, a, cap, e, hn, .inr ⟨g, off, e2, hl, h1, h2, fun j hj => ?_⟩⟩
    rw [World.cell?_of_block (w := A) (w' := B) (hK.block g (by omega) (fun hm => by have := hL g hm; omega))]
    exact hc j hj
theorem ByteRow.mono {lo hi lo' hi' : Nat} {W : World} {v : Value} {bs : List Nat} (h : ByteRow lo hi W v bs) (h1 : lo' ≤ lo) (h2 : hi ≤ hi') : ByteRow lo' hi' W v bs := by
  obtain ⟨hb, a, cap, e, hn, h | ⟨g, off, e2, hl, h3, h4, hc⟩⟩ := h
  · exact ⟨hb, a, cap, e, hn, .inl h⟩
  · exact ⟨hb, a, cap, e, hn, .inr ⟨g, off, e2, hl, by omega, by omega, hc⟩⟩
theorem byteRow_nil (lo hi : Nat) (W : World) : ByteRow lo hi W (.slice none 0 0) [] := ⟨by simp, none, 0, rfl, fun _ => rfl, .inl rfl⟩
/-- A row of bytes of the call's own. -/
theorem byteRow_owns {W : World} {base : Nat} {v : Value} {l : List Nat} (hl : ∀ b ∈ l, b < 256) (h : W.ownsRow base 5 1 v l.length (l.map enc)) : ByteRow base W.heap.size W v l := by
  obtain ⟨_, ⟨rfl, h0⟩ | ⟨g, cap, cur, rfl, hb, hg, h1, h2, h3, h4⟩⟩ := h
  · have : l = [] := by simpa using h0
    subst this
    exact ⟨hl, none, 0, rfl, fun _ => rfl, .inl rfl⟩
  · refine ⟨hl, some ⟨g, 0, none⟩, cap, rfl, fun h => by simp at h, .inr ⟨g, 0, rfl, h1, hb, (Array.getElem?_eq_some_iff.1 hg).1, fun j hj => ?_⟩⟩
    have e : cur.toList[j]? = some (enc l[j]) := by
      have := congrArg (fun t => t[j]?) h4
      simp [hj] at this
      simpa using this
    simp [World.cell?, hg]
    rw [Array.getElem?_toList] at e
    rw [e]
    simp [enc, hj]
/-- Some bytes' text. -/
def txt (l : List Nat) : ByteArray := strOfNums (l.map Int.ofNat)
set_option maxRecDepth 100000 in
theorem conv_txt {lo hi : Nat} {W : World} {v : Value} {l : List Nat} (h : ByteRow lo hi W v l) : (convert 33 9 v).run Try.prog W = .ok (.string (txt l)) W := by
  obtain ⟨hb, a, cap, rfl, hn, h⟩ := h
  cases a with
  | none =>
    rcases h with rfl | ⟨b, off, e, _⟩
    · exact run_convert_bytes_nil W 33 5 Try.underlying33 Try.underlying5 _ cap 9 Try.underlying9
    · simp at e
  | some a =>
    rcases h with rfl | ⟨b, off, e, _, _, _, hc⟩
    · refine (run_convert_bytes_string W 33 9 5 _ _ cap Try.underlying33 Try.underlying5 Try.underlying9).trans ?_
      exact run_bytesToString (P := Try.prog) W a 0 cap [] (run_loadCells_list (P := Try.prog) W a [] (fun j v hj => by simp at hj))
    · obtain rfl : a = ⟨b, off, none⟩ := by simpa using e
      refine run_convert_bytes_arg W 33 5 Try.underlying33 Try.underlying5 b off _ cap _ (by simp) (fun j hj => ?_) 9 Try.underlying9
      rw [hc j hj]
      simp [hj]
set_option maxRecDepth 100000 in
theorem Try.info5 : (Try.prog.info? 5).map (fun i => (i.zero, i.size, i.bytes)) = some (some (.int .u8 0), 1, 1) := by kernel_rfl
theorem kept_grown {w w' : World} {v : Value} {base : Nat} {e : TypeId} {z k : Nat} {l : List Value} (hown : w.ownsRow base e z v k l) (hg : w.grownBy w' v.ownBlock) (w0 : World) (h0 : Kept [] w0 w) (hb : w0.heap.size ≤ base) : Kept [] w0 w' :=
  ⟨hg.os.trans h0.os, hg.tape.trans h0.tape, hg.output.trans h0.output, Nat.le_trans h0.size hg.size, fun j hj _ => (hg.block j (Nat.lt_of_lt_of_le hj h0.size) (fun e => by have := (hown.lt j e.symm).1; omega)).trans (h0.block j hj (by simp))⟩
set_option maxRecDepth 100000 in
/-- append([]byte{}, b..), its run -/
theorem run_append_bytes (base : Nat) (v u : Value) (lo hi : Nat) (bs : List Nat) (w : World) (ty : TypeId) (hown : w.ownsRow base 5 1 v 0 []) (hu : ByteRow lo hi w u bs) (hlen : bs.length ≤ 1000000) (hb : base ≤ w.heap.size) :
    ∃ v' w', (Builtin.append_ #[33, 33] ty #[v, u]).run Try.prog w = .ok v' w' ∧ ByteRow base w'.heap.size w' v' bs ∧ w'.ownsRow base 5 1 v' bs.length (bs.map enc) ∧ w.grownBy w' v.ownBlock := by
  obtain ⟨i0, hi0, hz0, hz1, hz2⟩ := info_parts Try.info5
  obtain ⟨hB, ad, cap, rfl, hn, hcase⟩ := hu
  cases ad with
  | none =>
    rcases hcase with rfl | ⟨g, off, e, _⟩
    · obtain rfl := hn rfl
      have hrun := run_append_owned_none (P := Try.prog) (w := w) base 33 ty 5 i0 1 Try.underlying33 hi0 v 0 [] hown
      exact ⟨v, w, hrun, byteRow_owns hB (by simpa using hown), by simpa using hown, ⟨rfl, rfl, rfl, Nat.le_refl _, fun _ _ _ => rfl⟩⟩
    · simp at e
  | some ad =>
    obtain ⟨v', w', hr, h2, h3, _, _⟩ := run_append_own_at (P := Try.prog) w base 33 ty 5 i0 (.int .u8 0) 1 1 Try.underlying33 hi0 hz0 hz1 hz2 rfl (by decide) v 0 [] hown ad bs.length cap (bs.map enc) (by simp) (by
      intro q u hq
      have hql : q < bs.length := by
        have := (List.getElem?_eq_some_iff.1 hq).1
        simpa using this
      rcases hcase with rfl | ⟨g, off, e, _, _, _, hc⟩
      · simp at hql
      · injection e with e
        subst e
        rw [Go.WideShapes.add_plain, hc q hql, ← hq]
        simp [hql, enc]) (enc_one bs) (by unfold maxLen; omega) (by omega) hb
    have h2' : w'.ownsRow base 5 1 v' bs.length (bs.map enc) := by simpa using h2
    exact ⟨v', w', hr, byteRow_owns hB h2', h2', h3⟩
section
variable {ops : Array Oper} {rest : List Oper} {o : Oper} {a : Act} {w : World} {Q : Exit → Act → World → Prop}
set_option maxRecDepth 100000 in
/-- append([]byte{}, b..) -/
theorem wpList_append_bytes (hgd : o.guard = none) (s x : Operand) (ho : o.op = .call { callee := .builtin .append, args := #[s, x], argTypes := #[33, 33] })
    (base : Nat) (v u : Value) (lo hi : Nat) (bs : List Nat) (hs : a.eval s = v) (hown : w.ownsRow base 5 1 v 0 []) (hx : a.eval x = u) (hu : ByteRow lo hi w u bs) (hlen : bs.length ≤ 1000000) (hb : base ≤ w.heap.size)
    (h : ∀ v' w', ByteRow base w'.heap.size w' v' bs → w'.ownsRow base 5 1 v' bs.length (bs.map enc) → w.grownBy w' v.ownBlock → wpList Try.prog ops Q rest (a.put o.dst v') w') : wpList Try.prog ops Q (o :: rest) a w := by
  obtain ⟨i0, hi0, hz0, hz1, hz2⟩ := info_parts Try.info5
  obtain ⟨hB, ad, cap, rfl, hn, hcase⟩ := hu
  have fin : ∀ v' w', w'.ownsRow base 5 1 v' bs.length (bs.map enc) → w.grownBy w' v.ownBlock → wpList Try.prog ops Q rest (a.put o.dst v') w' := fun v' w' h1 h2 => h v' w' (byteRow_owns hB h1) h1 h2
  cases ad with
  | none =>
    rcases hcase with rfl | ⟨g, off, e, _⟩
    · obtain rfl := hn rfl
      refine wpList_append_own_none hgd s x 33 ho base 5 i0 1 Try.underlying33 hi0 v 0 [] hs hown hx ?_
      exact fin v w (by simpa using hown) ⟨rfl, rfl, rfl, Nat.le_refl _, fun _ _ _ => rfl⟩
    · simp at e
  | some ad =>
    refine wpList_append_own _ hgd s x 33 ho base 5 i0 (.int .u8 0) 1 1 Try.underlying33 hi0 hz0 hz1 hz2 rfl (by decide) v 0 [] hs hown ad bs.length cap (bs.map enc) hx (by simp) ?_ (enc_one bs) (by unfold maxLen; omega) (by omega) hb ?_
    · intro q u hq
      have hql : q < bs.length := by
        have := (List.getElem?_eq_some_iff.1 hq).1
        simpa using this
      rcases hcase with rfl | ⟨g, off, e, _, _, _, hc⟩
      · simp at hql
      · injection e with e
        subst e
        rw [Go.WideShapes.add_plain, hc q hql, ← hq]
        simp [hql, enc]
    · intro v' w' h3 h4 _
      exact fin v' w' (by simpa using h3) h4
end
set_option maxRecDepth 100000 in
/-- The same at a step of a region that draws its order. -/
theorem step_append_bytes {ops : Array Oper} {o : Oper} {a : Act} {w : World} {K : Act → World → Prop} {Q : Exit → Act → World → Prop} {E : Prop} (hgd : o.guard = none) (s x : Operand)
    (ho : o.op = .call { callee := .builtin .append, args := #[s, x], argTypes := #[33, 33] })
    (base : Nat) (v u : Value) (lo hi : Nat) (bs : List Nat) (hs : a.eval s = v) (hown : w.ownsRow base 5 1 v 0 []) (hx : a.eval x = u) (hu : ByteRow lo hi w u bs) (hlen : bs.length ≤ 1000000) (hb : base ≤ w.heap.size)
    (h : ∀ sa cap w', ByteRow base w'.heap.size w' (.slice sa bs.length cap) bs → w'.ownsRow base 5 1 (.slice sa bs.length cap) bs.length (bs.map enc) → w.grownBy w' v.ownBlock → K (a.put o.dst (.slice sa bs.length cap)) w') :
    if Region.wanted o (yielded ops a.tmps) = true then Oper.wp Try.prog o a w K Q else E := by
  have hw : Region.wanted o (yielded ops a.tmps) = true := by simp [Region.wanted, hgd]
  rw [if_pos hw]
  obtain ⟨v', w', hr, h1, h2, h3⟩ := run_append_bytes base v u lo hi bs w o.type hown hu hlen hb
  obtain ⟨_, sa, cap, e, _⟩ := id h1
  subst e
  unfold Oper.wp execOp
  simp only [ho, resolve, invoke, builtin, Sem.run_bind, Sem.run_pure, Result.andThen_ok, List.map_toArray, List.map_cons, List.map_nil, hs, hx, hr]
  exact h sa cap w' h1 h2 h3
/-- The slice's block, where there is one, lies from base on, and may be written. -/
def Soft (base : Nat) (W : World) (v : Value) : Prop := ∀ g off len cap, v = .slice (some ⟨g, off, none⟩) len cap → base ≤ g ∧ ∃ t cur, Blk W g t cur
theorem Soft.kept {K : List Nat} {A B : World} {base : Nat} {v : Value} (h : Soft base A v) (hk : Kept K A B) (hK : ∀ k ∈ K, k < base) : Soft base B v := fun g off len cap e => by
  obtain ⟨h1, t, cur, h2⟩ := h g off len cap e
  exact ⟨h1, t, cur, h2.kept hk (fun hm => by have := hK g hm; omega)⟩
theorem Soft.mono {base base' : Nat} {W : World} {v : Value} (h : Soft base W v) (hb : base' ≤ base) : Soft base' W v := fun g off len cap e => ⟨Nat.le_trans hb (h g off len cap e).1, (h g off len cap e).2⟩
theorem soft_none (base : Nat) (W : World) (len cap : Nat) : Soft base W (.slice none len cap) := fun g off l c e => by cases e
theorem soft_owns {W : World} {base : Nat} {e : TypeId} {z n : Nat} {v : Value} {l : List Value} (h : W.ownsRow base e z v n l) : Soft base W v := fun g off len cap ev => by
  rcases h.2 with ⟨hv, _⟩ | ⟨g', cap', cur, hv, hb, hg, _⟩
  · rw [hv] at ev
    cases ev
  · rw [hv] at ev
    injection ev with e1 _ _
    injection e1 with e1
    injection e1 with e1 _ _
    subst e1
    exact ⟨hb, _, cur, hg⟩
set_option maxRecDepth 100000 in
/-- bytes.Clone -/
theorem clone_soft (v : Value) (lo hi : Nat) (bs : List Nat) (w : World) (h : ByteRow lo hi w v bs) (hh : hi ≤ w.heap.size) (hlen : bs.length ≤ 1000000) :
    Calls Try.prog 28 #[v] w fun e w' => ∃ sa cap, e = .returned (.slice sa bs.length cap) ∧ ByteRow w.heap.size w'.heap.size w' (.slice sa bs.length cap) bs ∧ Kept [] w w' ∧ Soft w.heap.size w' (.slice sa bs.length cap) := by
  have qT : ∀ (w : World) (a : Option Addr) (n c n' c' : Nat), (binOp .eql 33 (.slice a n c) (.slice none n' c')).run Try.prog w = .ok (.bool a.isNone) w := fun w a n c n' c' => Lib.run_eql_slice_nil w _ _ a n c n' c' Try.underlying33
  have hk0 := kept_alloc [] w (.cells #[] 5)
  have h1 : Hid (ByteRow lo hi (w.alloc (.cells #[] 5)) v bs) := h.kept hh hk0 (by simp)
  have r0 : Hid ((w.alloc (.cells #[] 5)).ownsRow w.heap.size 5 1 (.slice (some ⟨w.heap.size, 0, none⟩) 0 0) 0 []) := World.ownsRow_made w #[] 0 (Nat.le_refl _) (by unfold maxLen; omega) rfl
  obtain ⟨hB, a, cap, rfl, hn, hcase⟩ := id h
  obtain ⟨len, hl⟩ : ∃ len, bs.length = len := ⟨_, rfl⟩
  cases a with
  | none =>
    rcases hcase with rfl | ⟨g, off, e, _⟩
    · obtain rfl := hn rfl
      clear h h1
      go_enter Try.func28, Try.ntmps28
      go_wp2
      go_ret
      exact ⟨none, 0, rfl, byteRow_nil _ _ _, Kept.refl _ _, soft_none _ _ _ _⟩
    · simp at e
  | some ad =>
    have hlen' : Hid (bs.length ≤ 1000000) := hlen
    rw [hl] at h1 ⊢
    replace hl : Hid (bs.length = len) := hl
    clear h hB hn hlen hcase
    go_enter Try.func28, Try.ntmps28
    go_wp2_with (first
      | (at_builtin; refine wpList_append_bytes rfl _ _ rfl w.heap.size _ _ lo hi bs rfl r0.out rfl h1.out hlen'.out (by simp) ?_; intro v2 w2 hb2 hr2 hg2; have hk2 : Kept [] w w2 := kept_grown r0.out hg2 w hk0 (Nat.le_refl _)))
    go_ret
    obtain ⟨_, a2, cap2, e2, _⟩ := id hb2
    rw [hl.out] at e2
    subst e2
    refine ⟨a2, cap2, rfl, hb2, hk2, ?_⟩
    have := soft_owns hr2
    exact this
/-- A request in memory: its numbers, its bytes' slice, and what the bytes are. -/
structure Qv where
  k : Int
  o : Int
  l : Int
  sa : Option Addr
  len : Nat
  cap : Nat
  bs : List Nat
def Qv.rq (x : Qv) : Rq := ⟨x.k, x.o, x.l, x.bs⟩
def Qv.sl (x : Qv) : Value := .slice x.sa x.len x.cap
def Qv.val (x : Qv) : Value := .agg #[.int .i64 x.k, .int .i64 x.o, .int .i64 x.l, .slice x.sa x.len x.cap]
def Qv.At (lo hi : Nat) (W : World) (x : Qv) : Prop := ByteRow lo hi W (.slice x.sa x.len x.cap) x.bs
theorem Qv.At.len {lo hi : Nat} {W : World} {x : Qv} (h : x.At lo hi W) : x.len = x.bs.length := by
  obtain ⟨_, a, cap, e, _⟩ := h
  injection e
theorem Qv.At.kept {L : List Nat} {A B : World} {lo hi : Nat} {x : Qv} (h : x.At lo hi A) (hh : hi ≤ A.heap.size) (hK : Kept L A B) (hL : ∀ k ∈ L, k < lo ∨ hi ≤ k) : x.At lo hi B := ByteRow.kept h hh hK hL
theorem Qv.At.mono {lo hi lo' hi' : Nat} {W : World} {x : Qv} (h : x.At lo hi W) (h1 : lo' ≤ lo) (h2 : hi ≤ hi') : x.At lo' hi' W := ByteRow.mono h h1 h2
/-- The request of nothing. -/
def q0 : Qv := ⟨0, 0, 0, none, 0, 0, []⟩
theorem q0_at (lo hi : Nat) (W : World) : q0.At lo hi W := byteRow_nil lo hi W
set_option maxRecDepth 100000 in
theorem Try.sizeQ : (Try.prog.info? 35).map (·.size) = some 4 := by kernel_rfl
set_option maxRecDepth 100000 in
theorem Try.sizeB : (Try.prog.info? 33).map (·.size) = some 1 := by kernel_rfl
/-- The same, with other bytes' slice. -/
def Qv.with (x : Qv) (sa : Option Addr) (len cap : Nat) : Qv := ⟨x.k, x.o, x.l, sa, len, cap, x.bs⟩

set_option maxRecDepth 100000 in
set_option maxHeartbeats 1000000 in
/-- apart -/
theorem apart_soft (x : Qv) (lo hi : Nat) (w : World) (h : x.At lo hi w) (hh : hi ≤ w.heap.size) (hlen : x.len ≤ 1000) :
    Calls Try.prog 23 #[x.val] w fun e w' => ∃ y : Qv, e = .returned y.val ∧ y.rq = x.rq ∧ y.At w.heap.size w'.heap.size w' ∧ Kept [] w w' ∧ Soft w.heap.size w' (.slice y.sa y.len y.cap) := by
  have hk1 := kept_alloc [] w (.cells #[.int .i64 x.k, .int .i64 x.o, .int .i64 x.l, .slice x.sa x.len x.cap] 35)
  have hb1 := blk_new w 35 #[.int .i64 x.k, .int .i64 x.o, .int .i64 x.l, .slice x.sa x.len x.cap]
  have hk2 := kept_alloc [] (w.alloc (.cells #[.int .i64 x.k, .int .i64 x.o, .int .i64 x.l, .slice x.sa x.len x.cap] 35)) (.cells #[.int .i64 0, .int .i64 0, .int .i64 0, .slice none 0 0] 35)
  have hb2 := blk_new (w.alloc (.cells #[.int .i64 x.k, .int .i64 x.o, .int .i64 x.l, .slice x.sa x.len x.cap] 35)) 35 #[.int .i64 0, .int .i64 0, .int .i64 0, .slice none 0 0]
  have hb1' := hb1.kept hk2 (by simp)
  rw [show (w.alloc (.cells #[.int .i64 x.k, .int .i64 x.o, .int .i64 x.l, .slice x.sa x.len x.cap] 35)).heap.size = w.heap.size + 1 by simp] at hb2
  have hx2 := h.kept hh (hk1.trans hk2) (by simp)
  have hxl := h.len
  have q := clone_soft (.slice x.sa x.len x.cap) lo hi x.bs _ hx2 (Nat.le_trans hh (hk1.trans hk2).size) (by omega)
  replace hx2 : Hid _ := hx2
  replace hxl : Hid _ := hxl
  unfold Qv.val
  go_enter Try.func23, Try.ntmps23
  go_wp2_with (first
    | (go_at_call 28; refine q.mono ?_; rintro e w3 ⟨sa, cap, rfl, hr3, hk3, hsf⟩; have hb13 := hb1'.kept hk3 (by simp); have hb23 := hb2.kept hk3 (by simp); have cx3 := hb13.cell 3; have fx3 := hb13.frozen 3; have hb14 := hb13.set 3 (.slice sa x.bs.length cap); have hk4 := kept_set (L := [w.heap.size]) (g := w.heap.size) (by simp) w3 3 (.slice sa x.bs.length cap); have hb24 := hb23.kept hk4 (by simp); obtain ⟨w4, hw4⟩ : ∃ w4, w3.setCell ⟨w.heap.size, 3, none⟩ (.slice sa x.bs.length cap) = w4 := ⟨_, rfl⟩; rw [hw4] at hb14 hk4 hb24; have d0 : w4.cell? ⟨w.heap.size, 0, none⟩ = some (.int .i64 x.k) := (hb14.cell 0).trans rfl; have d1 : w4.cell? ⟨w.heap.size, 1, none⟩ = some (.int .i64 x.o) := (hb14.cell 1).trans rfl; have d2 : w4.cell? ⟨w.heap.size, 2, none⟩ = some (.int .i64 x.l) := (hb14.cell 2).trans rfl; have d3 : w4.cell? ⟨w.heap.size, 3, none⟩ = some (.slice sa x.bs.length cap) := (hb14.cell 3).trans rfl)
    | (refine wpList_store_blk rfl 35 _ _ rfl (w.heap.size + 1) 35 _ [.int .i64 x.k, .int .i64 x.o, .int .i64 x.l, .slice sa x.bs.length cap] rfl rfl hb24 rfl Try.sizeQ (by simp [Value.oneCell']) ?_; intro w5 hb5 hk5 hz5))
  have hb5' : w5.heap[w.heap.size + 1]? = some (.cells #[.int .i64 x.k, .int .i64 x.o, .int .i64 x.l, .slice sa x.bs.length cap] 35 (0, 0)) := hb5
  refine bodyPost_ret (v := .agg #[.int .i64 x.k, .int .i64 x.o, .int .i64 x.l, .slice sa x.bs.length cap]) (results_cell_row rfl _ _ (w.heap.size + 1) 35 _ (0, 0) _ rfl hb5' Try.underlying35 rfl Try.sizeQ) rfl ?_
  have e2 : ((w.alloc (.cells #[.int .i64 x.k, .int .i64 x.o, .int .i64 x.l, .slice x.sa x.len x.cap] 35)).alloc (.cells #[.int .i64 0, .int .i64 0, .int .i64 0, .slice none 0 0] 35)).heap.size = w.heap.size + 2 := by simp
  rw [e2] at hr3 hsf
  have s3 := hk3.size
  rw [e2] at s3
  have hr5 := (hr3.kept (Nat.le_refl _) hk4 (by simp)).kept hk4.size hk5 (by simp)
  refine ⟨x.with sa x.bs.length cap, rfl, rfl, ByteRow.mono hr5 (by omega) (Nat.le_trans hk4.size hk5.size), ?_, ((hsf.kept hk4 (by simp)).kept hk5 (by simp)).mono (by omega)⟩
  exact (((hk1.trans hk2).trans hk3).young hk4 (Nat.le_refl _)).young hk5 (by omega)
set_option maxRecDepth 100000 in
theorem apart_any (x : Qv) (lo hi : Nat) (w : World) (h : x.At lo hi w) (hh : hi ≤ w.heap.size) (hlen : x.len ≤ 1000) :
    Calls Try.prog 23 #[x.val] w fun e w' => ∃ y : Qv, e = .returned y.val ∧ y.rq = x.rq ∧ y.At w.heap.size w'.heap.size w' ∧ Kept [] w w' :=
  (apart_soft x lo hi w h hh hlen).mono fun _ _ ⟨y, h1, h2, h3, h4, _⟩ => ⟨y, h1, h2, h3, h4⟩
set_option maxRecDepth 100000 in
set_option maxHeartbeats 1000000 in
/-- twainref15.Copy -/
theorem rcopy_any (x : Qv) (lo hi : Nat) (w : World) (h : x.At lo hi w) (hh : hi ≤ w.heap.size) (hlen : x.len ≤ 1000) :
    Calls Try.prog 25 #[x.val] w fun e w' => ∃ y : Qv, e = .returned y.val ∧ y.rq = x.rq ∧ y.At w.heap.size w'.heap.size w' ∧ Kept [] w w' := by
  have hk1 := kept_alloc [] w (.cells #[.int .i64 x.k, .int .i64 x.o, .int .i64 x.l, .slice x.sa x.len x.cap] 35)
  have hb1 := blk_new w 35 #[.int .i64 x.k, .int .i64 x.o, .int .i64 x.l, .slice x.sa x.len x.cap]
  have hk2 := kept_alloc [] (w.alloc (.cells #[.int .i64 x.k, .int .i64 x.o, .int .i64 x.l, .slice x.sa x.len x.cap] 35)) (.cells #[.int .i64 0, .int .i64 0, .int .i64 0, .slice none 0 0] 35)
  have hb2 := blk_new (w.alloc (.cells #[.int .i64 x.k, .int .i64 x.o, .int .i64 x.l, .slice x.sa x.len x.cap] 35)) 35 #[.int .i64 0, .int .i64 0, .int .i64 0, .slice none 0 0]
  have hb1' := hb1.kept hk2 (by simp)
  have e2 : ((w.alloc (.cells #[.int .i64 x.k, .int .i64 x.o, .int .i64 x.l, .slice x.sa x.len x.cap] 35)).alloc (.cells #[.int .i64 0, .int .i64 0, .int .i64 0, .slice none 0 0] 35)).heap.size = w.heap.size + 2 := by simp
  rw [show (w.alloc (.cells #[.int .i64 x.k, .int .i64 x.o, .int .i64 x.l, .slice x.sa x.len x.cap] 35)).heap.size = w.heap.size + 1 by simp] at hb2
  have hx2 := h.kept hh (hk1.trans hk2) (by simp)
  have hxl : Hid (x.len = x.bs.length) := h.len
  unfold Qv.val
  obtain ⟨W, hW⟩ : ∃ W, (w.alloc (.cells #[.int .i64 x.k, .int .i64 x.o, .int .i64 x.l, .slice x.sa x.len x.cap] 35)).alloc (.cells #[.int .i64 0, .int .i64 0, .int .i64 0, .slice none 0 0] 35) = W := ⟨_, rfl⟩
  rw [hW] at hb1' hb2 hx2 hk2 e2
  have ka := (kept_alloc [] W (.cells #[] 5)).trans (kept_drew [] _)
  have r0 : (W.alloc (.cells #[] 5)).drew.ownsRow W.heap.size 5 1 (.slice (some ⟨W.heap.size, 0, none⟩) 0 0) 0 [] := World.ownsRow_made (e := 5) (size := 1) W #[] 0 (Nat.le_refl _) (by unfold maxLen; omega) rfl
  rw [e2] at r0
  have hx3 := hx2.kept (Nat.le_trans hh (by omega)) ka (by simp)
  have S0 : ∀ A, Kept [w.heap.size + 1] W A → A.cell? ⟨w.heap.size, 0, none⟩ = some (.int .i64 x.k) ∧ A.cell? ⟨w.heap.size, 1, none⟩ = some (.int .i64 x.o) ∧ A.cell? ⟨w.heap.size, 2, none⟩ = some (.int .i64 x.l) ∧ A.cell? ⟨w.heap.size, 3, none⟩ = some (.slice x.sa x.len x.cap) := fun A hA => ⟨((hb1'.kept hA (by simp)).cell 0).trans rfl, ((hb1'.kept hA (by simp)).cell 1).trans rfl, ((hb1'.kept hA (by simp)).cell 2).trans rfl, ((hb1'.kept hA (by simp)).cell 3).trans rfl⟩
  have hlen3 : Hid (x.bs.length ≤ 1000000) := by show _ ≤ _; rw [← hxl.out]; omega
  have r0' : Hid ((W.alloc (.cells #[] 5)).drew.ownsRow (w.heap.size + 2) 5 1 (.slice (some ⟨w.heap.size + 2, 0, none⟩) 0 0) 0 []) := r0
  have hx3' : Hid (ByteRow lo hi (W.alloc (.cells #[] 5)).drew (.slice x.sa x.len x.cap) x.bs) := hx3
  have hbig : Hid (w.heap.size + 2 ≤ (W.alloc (.cells #[] 5)).drew.heap.size) := by show _ ≤ (W.alloc (.cells #[] 5)).heap.size; simp [e2]
  have hfin : Hid (∀ w', (W.alloc (.cells #[] 5)).drew.grownBy w' (Value.slice (some ⟨w.heap.size + 2, 0, none⟩) 0 0).ownBlock → Kept [] W w') := fun w' hg => kept_grown r0 hg W ka (by omega)
  clear r0 hx3
  have hkd := kept_drew [w.heap.size + 1] W
  have ka' := ka.mono (L' := [w.heap.size + 1]) (by simp)
  go_enter Try.func25, Try.ntmps25
  go_wp2_with fail
  go_region_held3 (fun A => A.cell? ⟨w.heap.size, 0, none⟩ = some (.int .i64 x.k) ∧ A.cell? ⟨w.heap.size, 1, none⟩ = some (.int .i64 x.o) ∧ A.cell? ⟨w.heap.size, 2, none⟩ = some (.int .i64 x.l) ∧ A.cell? ⟨w.heap.size, 3, none⟩ = some (.slice x.sa x.len x.cap)) (first
    | exact S0 _ hkd
    | exact S0 _ ka'
    | exact S0 _ hk3'
    | exact S0 _ ((((hk3'.trans (kept_set (by simp) _ _ _)).trans (kept_set (by simp) _ _ _)).trans (kept_set (by simp) _ _ _)).trans (kept_set (by simp) _ _ _))) (first
    | (refine step_append_bytes rfl (.tmp 7) (.tmp 9) rfl (w.heap.size + 2) (.slice (some ⟨w.heap.size + 2, 0, none⟩) 0 0) (.slice x.sa x.len x.cap) lo hi x.bs (by simp [Act.eval]) r0'.out (by simp [Act.eval]) hx3'.out hlen3.out hbig.out ?_; intro sa cap w' hb3 hr3 hg3; have hk3 : Kept [] W w' := hfin.out w' hg3; have hk3' : Kept [w.heap.size + 1] W w' := hk3.mono (by simp); have hq2 := hb2.kept hk3 (by simp); have c0 := hq2.cell 0; have c1 := hq2.cell 1; have c2 := hq2.cell 2; have c3 := hq2.cell 3; have f0 := hq2.frozen 0; have f1 := hq2.frozen 1; have f2 := hq2.frozen 2; have f3 := hq2.frozen 3))
  have hb6 := (((hq2.set 0 (.int .i64 x.k)).set 1 (.int .i64 x.o)).set 2 (.int .i64 x.l)).set 3 (.slice sa x.bs.length cap)
  have hk6 : Kept [w.heap.size + 1] w' ((((w'.setCell ⟨w.heap.size + 1, 0, none⟩ (.int .i64 x.k)).setCell ⟨w.heap.size + 1, 1, none⟩ (.int .i64 x.o)).setCell ⟨w.heap.size + 1, 2, none⟩ (.int .i64 x.l)).setCell ⟨w.heap.size + 1, 3, none⟩ (.slice sa x.bs.length cap)) := (((kept_set (by simp) _ _ _).trans (kept_set (by simp) _ _ _)).trans (kept_set (by simp) _ _ _)).trans (kept_set (by simp) _ _ _)
  obtain ⟨w6, hw6⟩ : ∃ w6, (((w'.setCell ⟨w.heap.size + 1, 0, none⟩ (.int .i64 x.k)).setCell ⟨w.heap.size + 1, 1, none⟩ (.int .i64 x.o)).setCell ⟨w.heap.size + 1, 2, none⟩ (.int .i64 x.l)).setCell ⟨w.heap.size + 1, 3, none⟩ (.slice sa x.bs.length cap) = w6 := ⟨_, rfl⟩
  rw [hw6] at hb6 hk6 ⊢
  clear hw6 c0 c1 c2 c3 f0 f1 f2 f3
  go_wp2_with fail
  have hb7 : w6.heap[w.heap.size + 1]? = some (.cells #[.int .i64 x.k, .int .i64 x.o, .int .i64 x.l, .slice sa x.bs.length cap] 35 (0, 0)) := hb6
  refine bodyPost_ret (v := .agg #[.int .i64 x.k, .int .i64 x.o, .int .i64 x.l, .slice sa x.bs.length cap]) (results_cell_row rfl _ _ (w.heap.size + 1) 35 _ (0, 0) _ rfl hb7 Try.underlying35 rfl Try.sizeQ) rfl ?_
  have s3 := hk3.size
  have hr6 := hb3.kept (Nat.le_refl _) hk6 (by simp)
  refine ⟨x.with sa x.bs.length cap, rfl, rfl, ByteRow.mono hr6 (by omega) hk6.size, ?_⟩
  have hkW : Kept [] w W := by rw [← hW]; exact hk1.trans (kept_alloc [] _ _)
  exact (hkW.trans hk3).young hk6 (by omega)
end Go.Proofs.Ytkidaofoljmdoaa.Table
