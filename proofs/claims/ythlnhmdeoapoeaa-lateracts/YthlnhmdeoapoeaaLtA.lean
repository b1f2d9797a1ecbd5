/-
  Bytes and writes in memory; bytes.Clone.
-/
import Derived.Test.YthlnhmdeoapoeaaBase
import Derived.Test.YthlnhmdeoapoeaaClB
import Derived.Laws.BytesArg
import Derived.Laws.ResultCell
import Derived.Laws.Rows
import Derived.Lib.Bytes
import Derived.Lib.SliceRun
import Derived.Laws.AppendOwnNone
import Derived.Deep.AppendLies
import Derived.ArgAppend
namespace Go.Proofs.Ythlnhmdeoapoeaa.Later
open Go.RowKit

/-- A byte as a value. -/
def benc (i : Nat) : Value := .int .u8 (i : Int)
theorem benc_one (l : List Nat) : ∀ v ∈ l.map benc, v.oneCell' = true := by
  intro u hu
  simp at hu
  obtain ⟨x, _, rfl⟩ := hu
  rfl
/-- The slice value v holds the bytes bs, in a block below hi where there is one. -/
def ByteRow (hi : Nat) (W : World) (v : Value) (bs : List Nat) : Prop :=
  (∀ b ∈ bs, b < 256) ∧ ∃ a cap, v = .slice a bs.length cap ∧ (a = none → cap = 0) ∧ (bs = [] ∨ ∃ g off, a = some ⟨g, off, none⟩ ∧ bs.length ≤ cap ∧ g < hi ∧ ∀ j, j < bs.length → W.cell? ⟨g, off + j, none⟩ = some (.int .u8 ((bs[j]?.getD 0 : Nat) : Int)))
theorem ByteRow.kept {L : List Nat} {A B : World} {hi : Nat} {v : Value} {bs : List Nat} (h : ByteRow hi A v bs) (hh : hi ≤ A.heap.size) (hK : Kept L A B) (hL : ∀ k ∈ L, hi ≤ k) : ByteRow hi B v bs := by
  obtain ⟨hb, a, cap, e, hn, h | ⟨g, off, e2, hl, h2, hc⟩⟩ := h
  · exact ⟨hb, a, cap, e, hn, .inl h⟩
  · refine ⟨hb, a, cap, e, hn, .inr ⟨g, off, e2, hl, h2, fun j hj => ?_⟩⟩
    rw [World.cell?_of_block (w := A) (w' := B) (hK.block g (by omega) (fun hm => by have := hL g hm; omega))]
    exact hc j hj
theorem byteRow_nil (hi : Nat) (W : World) : ByteRow hi W (.slice none 0 0) [] := ⟨by simp, none, 0, rfl, fun _ => rfl, .inl rfl⟩
/-- The slice value v holds the bytes bs, in a block of bytes that may be written. -/
def Byt (W : World) (v : Value) (bs : List Nat) : Prop :=
  (∀ b ∈ bs, b < 256) ∧ ∃ a cap, v = .slice a bs.length cap ∧ (a = none → cap = 0) ∧ (bs = [] ∨ ∃ g off cur, a = some ⟨g, off, none⟩ ∧ bs.length ≤ cap ∧ Blk W g 5 cur ∧ ∀ j, j < bs.length → cur[off + j]? = some (.int .u8 ((bs[j]?.getD 0 : Nat) : Int)))
theorem Byt.row {W : World} {v : Value} {bs : List Nat} (h : Byt W v bs) : ByteRow W.heap.size W v bs := by
  obtain ⟨hb, a, cap, e, hn, h | ⟨g, off, cur, e2, hl, h2, hc⟩⟩ := h
  · exact ⟨hb, a, cap, e, hn, .inl h⟩
  · exact ⟨hb, a, cap, e, hn, .inr ⟨g, off, e2, hl, h2.lt, fun j hj => (h2.cell _).trans (hc j hj)⟩⟩
/-- Every block of cells in K is of one of the kinds ts. -/
def Foot (ts : List TypeId) (W : World) (K : List Nat) : Prop := ∀ k ∈ K, ∀ t c, Blk W k t c → t ∈ ts
theorem foot_nil (ts : List TypeId) (W : World) : Foot ts W [] := fun k hk => by simp at hk
theorem blk_type {W : World} {g : Nat} {t t' : TypeId} {c c' : Array Value} (h : Blk W g t c) (h' : Blk W g t' c') : t = t' := by
  unfold Blk at h h'
  rw [h] at h'
  injection h' with h'
  injection h' with _ h' _
theorem Foot.ne {ts : List TypeId} {W : World} {K : List Nat} (h : Foot ts W K) {g : Nat} {t : TypeId} {c : Array Value} (hb : Blk W g t c) (ht : t ∉ ts) : g ∉ K := fun hm => ht (h g hm t c hb)
theorem Foot.mono {ts ts' : List TypeId} {W : World} {K : List Nat} (h : Foot ts W K) (hs : ∀ t ∈ ts, t ∈ ts') : Foot ts' W K := fun k hk t c hb => hs t (h k hk t c hb)
theorem Foot.cons {ts : List TypeId} {W : World} {K : List Nat} (h : Foot ts W K) {g : Nat} {t : TypeId} {c : Array Value} (hb : Blk W g t c) (ht : t ∈ ts) : Foot ts W (g :: K) := fun k hk t' c' hb' => by
  rcases List.mem_cons.1 hk with e | e
  · subst e
    exact blk_type hb hb' ▸ ht
  · exact h k e t' c' hb'
theorem kept_grownBy {A B : World} {row : Option Nat} (h : A.grownBy B row) : Kept row.toList A B := ⟨h.os, h.tape, h.output, h.size, fun k hk hn => h.block k hk (fun e => hn (by simp [← e]))⟩
theorem Byt.kept {ts : List TypeId} {K : List Nat} {A B : World} {v : Value} {bs : List Nat} (h : Byt A v bs) (hk : Kept K A B) (hK : Foot ts A K) (ht : 5 ∉ ts) : Byt B v bs := by
  obtain ⟨hb, a, cap, e, hn, h | ⟨g, off, cur, e2, hl, h2, hc⟩⟩ := h
  · exact ⟨hb, a, cap, e, hn, .inl h⟩
  · exact ⟨hb, a, cap, e, hn, .inr ⟨g, off, cur, e2, hl, h2.kept hk (hK.ne h2 ht), hc⟩⟩
theorem byt_nil (W : World) : Byt W (.slice none 0 0) [] := ⟨by simp, none, 0, rfl, fun _ => rfl, .inl rfl⟩
/-- A row of bytes of the call's own. -/
theorem byt_owns {W : World} {base : Nat} {v : Value} {l : List Nat} (hl : ∀ b ∈ l, b < 256) (h : W.ownsRow base 5 1 v l.length (l.map benc)) : Byt W v l := by
  obtain ⟨_, ⟨rfl, h0⟩ | ⟨g, cap, cur, rfl, hb, hg, h1, h2, h3, h4⟩⟩ := h
  · have : l = [] := by simpa using h0
    subst this
    exact byt_nil W
  · refine ⟨hl, some ⟨g, 0, none⟩, cap, rfl, fun h => by simp at h, .inr ⟨g, 0, cur, rfl, h1, hg, fun j hj => ?_⟩⟩
    have e : cur.toList[j]? = some (benc l[j]) := by
      have := congrArg (fun t => t[j]?) h4
      simp [hj] at this
      simpa using this
    rw [Array.getElem?_toList] at e
    rw [Nat.zero_add, e]
    simp [benc, hj]
/-- Some bytes' text. -/
def txt (l : List Nat) : ByteArray := strOfNums (l.map Int.ofNat)
set_option maxRecDepth 100000 in
theorem conv_txt {hi : Nat} {W : World} {v : Value} {l : List Nat} (h : ByteRow hi W v l) : (convert 32 9 v).run Try.prog W = .ok (.string (txt l)) W := by
  obtain ⟨hb, a, cap, rfl, hn, h⟩ := h
  cases a with
  | none =>
    rcases h with rfl | ⟨b, off, e, _⟩
    · exact run_convert_bytes_nil W 32 5 Try.underlying32 Try.underlying5 _ cap 9 Try.underlying9
    · simp at e
  | some a =>
    rcases h with rfl | ⟨b, off, e, _, _, hc⟩
    · refine (run_convert_bytes_string W 32 9 5 _ _ cap Try.underlying32 Try.underlying5 Try.underlying9).trans ?_
      exact run_bytesToString (P := Try.prog) W a 0 cap [] (run_loadCells_list (P := Try.prog) W a [] (fun j v hj => by simp at hj))
    · obtain rfl : a = ⟨b, off, none⟩ := by simpa using e
      refine run_convert_bytes_arg W 32 5 Try.underlying32 Try.underlying5 b off _ cap _ (by simp) (fun j hj => ?_) 9 Try.underlying9
      rw [hc j hj]
      simp [hj]
set_option maxRecDepth 100000 in
theorem Try.info5 : (Try.prog.info? 5).map (fun i => (i.zero, i.size, i.bytes)) = some (some (.int .u8 0), 1, 1) := by kernel_rfl
theorem kept_grown {w w' : World} {v : Value} {base : Nat} {e : TypeId} {z k : Nat} {l : List Value} (hown : w.ownsRow base e z v k l) (hg : w.grownBy w' v.ownBlock) (w0 : World) (h0 : Kept [] w0 w) (hb : w0.heap.size ≤ base) : Kept [] w0 w' :=
  ⟨hg.os.trans h0.os, hg.tape.trans h0.tape, hg.output.trans h0.output, Nat.le_trans h0.size hg.size, fun j hj _ => (hg.block j (Nat.lt_of_lt_of_le hj h0.size) (fun e => by have := (hown.lt j e.symm).1; omega)).trans (h0.block j hj (by simp))⟩
theorem kept_none {w w' : World} (hg : w.grownBy w' none) : Kept [] w w' := ⟨hg.os, hg.tape, hg.output, hg.size, fun j hj _ => hg.block j hj (fun e => by cases e)⟩
set_option maxRecDepth 100000 in
/-- append([]byte{}, b..), its run -/
theorem run_append_bytes (base : Nat) (v u : Value) (hi : Nat) (bs : List Nat) (w : World) (ty : TypeId) (hown : w.ownsRow base 5 1 v 0 []) (hu : ByteRow hi w u bs) (hlen : bs.length ≤ 140737488351232) (hb : base ≤ w.heap.size) :
    ∃ v' w', (Builtin.append_ #[32, 32] ty #[v, u]).run Try.prog w = .ok v' w' ∧ Byt w' v' bs ∧ w.grownBy w' v.ownBlock := by
  obtain ⟨i0, hi0, hz0, hz1, hz2⟩ := info_parts Try.info5
  obtain ⟨hB, ad, cap, rfl, hn, hcase⟩ := hu
  cases ad with
  | none =>
    rcases hcase with rfl | ⟨g, off, e, _⟩
    · obtain rfl := hn rfl
      have hrun := run_append_owned_none (P := Try.prog) (w := w) base 32 ty 5 i0 1 Try.underlying32 hi0 v 0 [] hown
      exact ⟨v, w, hrun, byt_owns hB (by simpa using hown), ⟨rfl, rfl, rfl, Nat.le_refl _, fun _ _ _ => rfl⟩⟩
    · simp at e
  | some ad =>
    obtain ⟨v', w', hr, h2, h3, _, _⟩ := run_append_own_at (P := Try.prog) w base 32 ty 5 i0 (.int .u8 0) 1 1 Try.underlying32 hi0 hz0 hz1 hz2 rfl (by decide) v 0 [] hown ad bs.length cap (bs.map benc) (by simp) (by
      intro q u hq
      have hql : q < bs.length := by
        have := (List.getElem?_eq_some_iff.1 hq).1
        simpa using this
      rcases hcase with rfl | ⟨g, off, e, _, _, hc⟩
      · simp at hql
      · injection e with e
        subst e
        rw [Go.WideShapes.add_plain, hc q hql, ← hq]
        simp [hql, benc]) (benc_one bs) (by unfold maxLen; omega) (by omega) hb
    have h2' : w'.ownsRow base 5 1 v' bs.length (bs.map benc) := by simpa using h2
    exact ⟨v', w', hr, byt_owns hB h2', h3⟩
section
variable {ops : Array Oper} {rest : List Oper} {o : Oper} {a : Act} {w : World} {Q : Exit → Act → World → Prop}
set_option maxRecDepth 100000 in
/-- append([]byte{}, b..) -/
theorem wpList_append_bytes (hgd : o.guard = none) (s x : Operand) (ho : o.op = .call { callee := .builtin .append, args := #[s, x], argTypes := #[32, 32] })
    (base : Nat) (v u : Value) (hi : Nat) (bs : List Nat) (hs : a.eval s = v) (hown : w.ownsRow base 5 1 v 0 []) (hx : a.eval x = u) (hu : ByteRow hi w u bs) (hlen : bs.length ≤ 140737488351232) (hb : base ≤ w.heap.size)
    (h : ∀ sa len cap w', Byt w' (.slice sa len cap) bs → w.grownBy w' v.ownBlock → wpList Try.prog ops Q rest (a.put o.dst (.slice sa len cap)) w') : wpList Try.prog ops Q (o :: rest) a w := by
  refine wpList_plain hgd fun K' hK' => ?_
  obtain ⟨v', w', hr, h1, h2⟩ := run_append_bytes base v u hi bs w o.type hown hu hlen hb
  obtain ⟨_, sa, cap, e, _⟩ := id h1
  subst e
  unfold Oper.wp
  simp [execOp, ho, resolve, invoke, builtin, hs, hx, hr, Result.andThen]
  exact hK' _ _ (h sa _ cap w' h1 h2)
end
set_option maxRecDepth 100000 in
/-- The same at a step of a region that draws its order. -/
theorem step_append_bytes {ops : Array Oper} {o : Oper} {a : Act} {w : World} {K : Act → World → Prop} {Q : Exit → Act → World → Prop} {E : Prop} (hgd : o.guard = none) (s x : Operand)
    (ho : o.op = .call { callee := .builtin .append, args := #[s, x], argTypes := #[32, 32] })
    (base : Nat) (v u : Value) (hi : Nat) (bs : List Nat) (hs : a.eval s = v) (hown : w.ownsRow base 5 1 v 0 []) (hx : a.eval x = u) (hu : ByteRow hi w u bs) (hlen : bs.length ≤ 140737488351232) (hb : base ≤ w.heap.size)
    (h : ∀ sa len cap w', Byt w' (.slice sa len cap) bs → w.grownBy w' v.ownBlock → K (a.put o.dst (.slice sa len cap)) w') :
    if Region.wanted o (yielded ops a.tmps) = true then Oper.wp Try.prog o a w K Q else E := by
  have hw : Region.wanted o (yielded ops a.tmps) = true := by simp [Region.wanted, hgd]
  rw [if_pos hw]
  obtain ⟨v', w', hr, h1, h3⟩ := run_append_bytes base v u hi bs w o.type hown hu hlen hb
  obtain ⟨_, sa, cap, e, _⟩ := id h1
  subst e
  unfold Oper.wp execOp
  simp only [ho, resolve, invoke, builtin, Sem.run_bind, Sem.run_pure, Result.andThen_ok, List.map_toArray, List.map_cons, List.map_nil, hs, hx, hr]
  exact h sa _ cap w' h1 h3
/-- A write that waits. -/
structure Lw where
  id : Int
  o : Int
  l : Int
  bs : List Nat
/-- A write in memory: its numbers, its bytes' slice, and what the bytes are. -/
structure Lv where
  id : Int
  o : Int
  l : Int
  sa : Option Addr
  len : Nat
  cap : Nat
  bs : List Nat
def Lv.lw (x : Lv) : Lw := ⟨x.id, x.o, x.l, x.bs⟩
def Lv.cells (x : Lv) : List Value := [.int .i64 x.id, .int .i64 x.o, .int .i64 x.l, .slice x.sa x.len x.cap]
def Lv.val (x : Lv) : Value := .agg #[.int .i64 x.id, .int .i64 x.o, .int .i64 x.l, .slice x.sa x.len x.cap]
def Lv.At (W : World) (x : Lv) : Prop := Byt W (.slice x.sa x.len x.cap) x.bs
theorem Lv.At.kept {ts : List TypeId} {K : List Nat} {A B : World} {x : Lv} (h : x.At A) (hk : Kept K A B) (hK : Foot ts A K) (ht : 5 ∉ ts) : x.At B := Byt.kept h hk hK ht
theorem Lv.At.kept0 {A B : World} {x : Lv} (h : x.At A) (hk : Kept [] A B) : x.At B := Byt.kept h hk (foot_nil [] A) (by simp)
/-- The write of nothing. -/
def lv0 : Lv := ⟨0, 0, 0, none, 0, 0, []⟩
def lw0 : Lw := ⟨0, 0, 0, []⟩
theorem lv0_at (W : World) : lv0.At W := byt_nil W
theorem Lv.cells_length (x : Lv) : x.cells.length = 4 := rfl
theorem Lv.cells_one (x : Lv) : ∀ v ∈ x.cells, v.oneCell' = true := fun v hv => by
  simp [Lv.cells] at hv
  rcases hv with rfl | rfl | rfl | rfl <;> rfl
set_option maxRecDepth 100000 in
/-- bytes.Clone -/
theorem clone_any (v : Value) (hi : Nat) (bs : List Nat) (w : World) (h : ByteRow hi w v bs) (hh : hi ≤ w.heap.size) (hlen : bs.length ≤ 140737488351232) :
    Calls Try.prog 24 #[v] w fun e w' => ∃ sa len cap, e = .returned (.slice sa len cap) ∧ Byt w' (.slice sa len cap) bs ∧ Kept [] w w' := by
  have qT : ∀ (w : World) (a : Option Addr) (n c n' c' : Nat), (binOp .eql 32 (.slice a n c) (.slice none n' c')).run Try.prog w = .ok (.bool a.isNone) w := fun w a n c n' c' => Lib.run_eql_slice_nil w _ _ a n c n' c' Try.underlying32
  have hk0 := kept_alloc [] w (.cells #[] 5)
  have h1 : Hid (ByteRow hi (w.alloc (.cells #[] 5)) v bs) := h.kept hh hk0 (by simp)
  have r0 : Hid ((w.alloc (.cells #[] 5)).ownsRow w.heap.size 5 1 (.slice (some ⟨w.heap.size, 0, none⟩) 0 0) 0 []) := World.ownsRow_made w #[] 0 (Nat.le_refl _) (by unfold maxLen; omega) rfl
  obtain ⟨hB, a, cap, rfl, hn, hcase⟩ := id h
  obtain ⟨len, hl⟩ : ∃ len, bs.length = len := ⟨_, rfl⟩
  cases a with
  | none =>
    rcases hcase with rfl | ⟨g, off, e, _⟩
    · obtain rfl := hn rfl
      clear h h1
      go_enter Try.func24, Try.ntmps24
      go_wp2
      go_ret
      exact ⟨none, 0, 0, rfl, byt_nil _, Kept.refl _ _⟩
    · simp at e
  | some ad =>
    have hlen' : Hid (bs.length ≤ 140737488351232) := hlen
    rw [hl] at h1 ⊢
    replace hl : Hid (bs.length = len) := hl
    clear h hB hn hlen hcase
    go_enter Try.func24, Try.ntmps24
    go_wp2_with (first
      | (at_builtin; refine wpList_append_bytes rfl _ _ rfl w.heap.size _ _ hi bs rfl r0.out rfl h1.out hlen'.out (by simp) ?_; intro sa2 len2 cap2 w2 hb2 hg2; have hk2 : Kept [] w w2 := kept_grown r0.out hg2 w hk0 (Nat.le_refl _)))
    go_ret
    exact ⟨sa2, len2, cap2, rfl, hb2, hk2⟩
end Go.Proofs.Ythlnhmdeoapoeaa.Later
