/-
 Bytes and writes in memory; bytes copied: bytes.Clone, apart.
-/
import Derived.Laws.AppendOwnNone
import Derived.Deep.AppendLies
import Derived.Test.YtoaeficfmcncjaaGreatM13
import Derived.Test.YtoaeficfmcncjaaGreatM3
namespace Go.Proofs.YtoaeficfmcncjaaGreat.Flight
open Go.RowKit
def benc (i : Nat) : Value := .int .u8 (i : Int)
theorem benc_one (l : List Nat) : ∀ v ∈ l.map benc, v.oneCell' = true := by
 intro u hu
 simp at hu
 obtain ⟨x, _, rfl⟩ := hu
 rfl
def ByteRow (hi : Nat) (W : World) (v : Value) (bs : List Nat) : Prop :=
 (∀ b ∈ bs, b < 256) ∧ ∃ a cap, v = .slice a bs.length cap ∧ (a = none → cap = 0) ∧ (bs = [] ∨ ∃ g off, a = some ⟨g, off, none⟩ ∧ bs.length ≤ cap ∧ g < hi ∧ ∀ j, j < bs.length → W.cell? ⟨g, off + j, none⟩ = some (.int .u8 ((bs[j]?.getD 0 : Nat) : Int)))
theorem ByteRow.kept {L : List Nat} {A B : World} {hi : Nat} {v : Value} {bs : List Nat} (h : ByteRow hi A v bs) (hh : hi ≤ A.heap.size) (hK : Kept L A B) (hL : ∀ k ∈ L, hi ≤ k) : ByteRow hi B v bs := by
 obtain ⟨hb, a, cap, e, hn, h | ⟨g, off, e2, hl, h2, hc⟩⟩ := h
 ·exact ⟨hb, a, cap, e, hn, .inl h⟩
 ·refine ⟨hb, a, cap, e, hn, .inr ⟨g, off, e2, hl, h2, fun j hj => ?_⟩⟩
  rw [World.cell?_of_block (w := A) (w' := B) (hK.block g (by omega) (fun hm => by have := hL g hm; omega))]
  exact hc j hj
def Byt (lo hi : Nat) (W : World) (v : Value) (bs : List Nat) : Prop :=
 (∀ b ∈ bs, b < 256) ∧ ∃ a cap, v = .slice a bs.length cap ∧ (a = none → cap = 0) ∧ (bs = [] ∨ ∃ g off cur, a = some ⟨g, off, none⟩ ∧ bs.length ≤ cap ∧ lo ≤ g ∧ g < hi ∧ Blk W g 5 cur ∧ ∀ j, j < bs.length → cur[off + j]? = some (.int .u8 ((bs[j]?.getD 0 : Nat) : Int)))
theorem Byt.row {lo hi : Nat} {W : World} {v : Value} {bs : List Nat} (h : Byt lo hi W v bs) : ByteRow hi W v bs := by
 obtain ⟨hb, a, cap, e, hn, h | ⟨g, off, cur, e2, hl, h1, h3, h2, hc⟩⟩ := h
 ·exact ⟨hb, a, cap, e, hn, .inl h⟩
 ·exact ⟨hb, a, cap, e, hn, .inr ⟨g, off, e2, hl, h3, fun j hj => (h2.cell _).trans (hc j hj)⟩⟩
def Off (lo hi : Nat) (W : World) (k : Nat) : Prop := k < lo ∨ hi ≤ k ∨ ∀ cur, ¬ Blk W k 5 cur
theorem off_blk {lo hi : Nat} {W : World} {k : Nat} {t : TypeId} {cur : Array Value} (h : Blk W k t cur) (ht : t ≠ 5) : Off lo hi W k := .inr (.inr fun c hc => by
 unfold Blk at h hc
 rw [h] at hc
 injection hc with hc
 injection hc with _ hc _
 exact ht hc)
theorem Byt.kept {K : List Nat} {lo hi : Nat} {A B : World} {v : Value} {bs : List Nat} (h : Byt lo hi A v bs) (hk : Kept K A B) (hK : ∀ k ∈ K, Off lo hi A k) : Byt lo hi B v bs := by
 obtain ⟨hb, a, cap, e, hn, h | ⟨g, off, cur, e2, hl, h1, h3, h2, hc⟩⟩ := h
 ·exact ⟨hb, a, cap, e, hn, .inl h⟩
 ·refine ⟨hb, a, cap, e, hn, .inr ⟨g, off, cur, e2, hl, h1, h3, h2.kept hk (fun hm => ?_), hc⟩⟩
  rcases hK g hm with h | h | h
  ·omega
  ·omega
  ·exact h cur h2
theorem Byt.mono {lo hi lo' hi' : Nat} {W : World} {v : Value} {bs : List Nat} (h : Byt lo hi W v bs) (h1 : lo' ≤ lo) (h2 : hi ≤ hi') : Byt lo' hi' W v bs := by
 obtain ⟨hb, a, cap, e, hn, h | ⟨g, off, cur, e2, hl, h3, h4, h5, hc⟩⟩ := h
 ·exact ⟨hb, a, cap, e, hn, .inl h⟩
 ·exact ⟨hb, a, cap, e, hn, .inr ⟨g, off, cur, e2, hl, by omega, by omega, h5, hc⟩⟩
theorem byt_nil (lo hi : Nat) (W : World) : Byt lo hi W (.slice none 0 0) [] := ⟨by simp, none, 0, rfl, fun _ => rfl, .inl rfl⟩
theorem byt_owns {W : World} {base : Nat} {v : Value} {l : List Nat} (hl : ∀ b ∈ l, b < 256) (h : W.ownsRow base 5 1 v l.length (l.map benc)) : Byt base W.heap.size W v l := by
 obtain ⟨_, ⟨rfl, h0⟩ | ⟨g, cap, cur, rfl, hb, hg, h1, h2, h3, h4⟩⟩ := h
 ·have : l = [] := by simpa using h0
  subst this
  exact byt_nil _ _ W
 ·refine ⟨hl, some ⟨g, 0, none⟩, cap, rfl, fun h => by simp at h, .inr ⟨g, 0, cur, rfl, h1, hb, (Array.getElem?_eq_some_iff.1 hg).1, hg, fun j hj => ?_⟩⟩
  have e : cur.toList[j]? = some (benc l[j]) := by
   have := congrArg (fun t => t[j]?) h4
   simp [hj] at this
   simpa using this
  rw [Array.getElem?_toList] at e
  rw [Nat.zero_add, e]
  simp [benc, hj]
set_option maxRecDepth 100000 in
theorem Tryz.info5 : (Tryz.prog.info? 5).map (fun i => (i.zero, i.size, i.bytes)) = some (some (.int .u8 0), 1, 1) := by kernel_rfl
theorem kept_grown {w w' : World} {v : Value} {base : Nat} {e : TypeId} {z k : Nat} {l : List Value} (hown : w.ownsRow base e z v k l) (hg : w.grownBy w' v.ownBlock) (w0 : World) (h0 : Kept [] w0 w) (hb : w0.heap.size ≤ base) : Kept [] w0 w' :=
 ⟨hg.os.trans h0.os, hg.tape.trans h0.tape, hg.output.trans h0.output, Nat.le_trans h0.size hg.size, fun j hj _ => (hg.block j (Nat.lt_of_lt_of_le hj h0.size) (fun e => by have := (hown.lt j e.symm).1; omega)).trans (h0.block j hj (by simp))⟩
theorem kept_none {w w' : World} (hg : w.grownBy w' none) : Kept [] w w' := ⟨hg.os, hg.tape, hg.output, hg.size, fun j hj _ => hg.block j hj (fun e => by cases e)⟩
set_option maxRecDepth 100000 in
theorem run_append_bytes (base : Nat) (v u : Value) (hi : Nat) (bs : List Nat) (w : World) (ty : TypeId) (hown : w.ownsRow base 5 1 v 0 []) (hu : ByteRow hi w u bs) (hlen : bs.length ≤ 140737488351232) (hb : base ≤ w.heap.size) :
  ∃ v' w', (Builtin.append_ #[45, 45] ty #[v, u]).run Tryz.prog w = .ok v' w' ∧ Byt base w'.heap.size w' v' bs ∧ w.grownBy w' v.ownBlock := by
 obtain ⟨i0, hi0, hz0, hz1, hz2⟩ := info_parts Tryz.info5
 obtain ⟨hB, ad, cap, rfl, hn, hcase⟩ := hu
 cases ad with
 | none =>
  rcases hcase with rfl | ⟨g, off, e, _⟩
  ·obtain rfl := hn rfl
   have hrun := run_append_owned_none (P := Tryz.prog) (w := w) base 45 ty 5 i0 1 Tryz.underlying45 hi0 v 0 [] hown
   exact ⟨v, w, hrun, byt_owns hB (by simpa using hown), ⟨rfl, rfl, rfl, Nat.le_refl _, fun _ _ _ => rfl⟩⟩
  ·simp at e
 | some ad =>
  obtain ⟨v', w', hr, h2, h3, _, _⟩ := run_append_own_at (P := Tryz.prog) w base 45 ty 5 i0 (.int .u8 0) 1 1 Tryz.underlying45 hi0 hz0 hz1 hz2 rfl (by decide) v 0 [] hown ad bs.length cap (bs.map benc) (by simp) (by
   intro q u hq
   have hql : q < bs.length := by
    have := (List.getElem?_eq_some_iff.1 hq).1
    simpa using this
   rcases hcase with rfl | ⟨g, off, e, _, _, hc⟩
   ·simp at hql
   ·injection e with e
    subst e
    rw [Go.WideShapes.add_plain, hc q hql, ← hq]
    simp [hql, benc]) (benc_one bs) (by unfold maxLen; omega) (by omega) hb
  have h2' : w'.ownsRow base 5 1 v' bs.length (bs.map benc) := by simpa using h2
  exact ⟨v', w', hr, byt_owns hB h2', h3⟩
section
variable {ops : Array Oper} {rest : List Oper} {o : Oper} {a : Act} {w : World} {Q : Exit → Act → World → Prop}
set_option maxRecDepth 100000 in
theorem wpList_append_bytes (hgd : o.guard = none) (s x : Operand) (ho : o.op = .call { callee := .builtin .append, args := #[s, x], argTypes := #[45, 45] })
  (base : Nat) (v u : Value) (hi : Nat) (bs : List Nat) (hs : a.eval s = v) (hown : w.ownsRow base 5 1 v 0 []) (hx : a.eval x = u) (hu : ByteRow hi w u bs) (hlen : bs.length ≤ 140737488351232) (hb : base ≤ w.heap.size)
  (h : ∀ sa len cap w', Byt base w'.heap.size w' (.slice sa len cap) bs → w.grownBy w' v.ownBlock → wpList Tryz.prog ops Q rest (a.put o.dst (.slice sa len cap)) w') : wpList Tryz.prog ops Q (o :: rest) a w := by
 refine wpList_plain hgd fun K' hK' => ?_
 obtain ⟨v', w', hr, h1, h2⟩ := run_append_bytes base v u hi bs w o.type hown hu hlen hb
 obtain ⟨_, sa, cap, e, _⟩ := id h1
 subst e
 unfold Oper.wp
 simp [execOp, ho, resolve, invoke, builtin, hs, hx, hr, Result.andThen]
 exact hK' _ _ (h sa _ cap w' h1 h2)
end
set_option maxRecDepth 100000 in
theorem clone_any (v : Value) (hi : Nat) (bs : List Nat) (w : World) (h : ByteRow hi w v bs) (hh : hi ≤ w.heap.size) (hlen : bs.length ≤ 140737488351232) :
  Calls Tryz.prog 132 #[v] w fun e w' => ∃ sa len cap, e = .returned (.slice sa len cap) ∧ Byt w.heap.size w'.heap.size w' (.slice sa len cap) bs ∧ Kept [] w w' := by
 have qT : ∀ (w : World) (a : Option Addr) (n c n' c' : Nat), (binOp .eql 45 (.slice a n c) (.slice none n' c')).run Tryz.prog w = .ok (.bool a.isNone) w := fun w a n c n' c' => Lib.run_eql_slice_nil w _ _ a n c n' c' Tryz.underlying45
 have hk0 := kept_alloc [] w (.cells #[] 5)
 have h1 : Hid (ByteRow hi (w.alloc (.cells #[] 5)) v bs) := h.kept hh hk0 (by simp)
 have r0 : Hid ((w.alloc (.cells #[] 5)).ownsRow w.heap.size 5 1 (.slice (some ⟨w.heap.size, 0, none⟩) 0 0) 0 []) := World.ownsRow_made w #[] 0 (Nat.le_refl _) (by unfold maxLen; omega) rfl
 obtain ⟨hB, a, cap, rfl, hn, hcase⟩ := id h
 obtain ⟨len, hl⟩ : ∃ len, bs.length = len := ⟨_, rfl⟩
 cases a with
 | none =>
  rcases hcase with rfl | ⟨g, off, e, _⟩
  ·obtain rfl := hn rfl
   clear h h1
   go_enter Tryz.func132, Tryz.ntmps132
   go_wp2
   go_ret
   exact ⟨none, 0, 0, rfl, byt_nil _ _ _, Kept.refl _ _⟩
  ·simp at e
 | some ad =>
  have hlen' : Hid (bs.length ≤ 140737488351232) := hlen
  rw [hl] at h1 ⊢
  replace hl : Hid (bs.length = len) := hl
  clear h hB hn hlen hcase
  go_enter Tryz.func132, Tryz.ntmps132
  go_wp2_with (first
   | (at_builtin; refine wpList_append_bytes rfl _ _ rfl w.heap.size _ _ hi bs rfl r0.out rfl h1.out hlen'.out (by simp) ?_; intro sa2 len2 cap2 w2 hb2 hg2; have hk2 : Kept [] w w2 := kept_grown r0.out hg2 w hk0 (Nat.le_refl _)))
  go_ret
  exact ⟨sa2, len2, cap2, rfl, hb2, hk2⟩
structure Fv where
 t : Int
 o : Int
 l : Int
 sa : Option Addr
 len : Nat
 cap : Nat
 st : Int
 bs : List Nat
 deriving Inhabited
def Fv.fw (x : Fv) : Fw := ⟨x.o, x.l, x.bs, x.st⟩
def Fv.cells (x : Fv) : List Value := [.int .i64 x.t, .int .i64 x.o, .int .i64 x.l, .slice x.sa x.len x.cap, .int .i64 x.st]
def Fv.val (x : Fv) : Value := .agg #[.int .i64 x.t, .int .i64 x.o, .int .i64 x.l, .slice x.sa x.len x.cap, .int .i64 x.st]
def Fv.In (hi : Nat) (W : World) (x : Fv) : Prop := ByteRow hi W (.slice x.sa x.len x.cap) x.bs
def Fv.At (lo hi : Nat) (W : World) (x : Fv) : Prop := Byt lo hi W (.slice x.sa x.len x.cap) x.bs
theorem Fv.At.kept {K : List Nat} {lo hi : Nat} {A B : World} {x : Fv} (h : x.At lo hi A) (hk : Kept K A B) (hK : ∀ k ∈ K, Off lo hi A k) : x.At lo hi B := Byt.kept h hk hK
theorem Fv.At.kept0 {lo hi : Nat} {A B : World} {x : Fv} (h : x.At lo hi A) (hk : Kept [] A B) : x.At lo hi B := Byt.kept h hk (by simp)
theorem Fv.At.mono {lo hi lo' hi' : Nat} {W : World} {x : Fv} (h : x.At lo hi W) (h1 : lo' ≤ lo) (h2 : hi ≤ hi') : x.At lo' hi' W := Byt.mono h h1 h2
theorem Fv.At.in {lo hi : Nat} {W : World} {x : Fv} (h : x.At lo hi W) : x.In hi W := Byt.row h
def fv0 : Fv := ⟨0, 0, 0, none, 0, 0, 0, []⟩
def fw0 : Fw := ⟨0, 0, [], 0⟩
theorem fv0_at (lo hi : Nat) (W : World) : fv0.At lo hi W := byt_nil lo hi W
set_option maxRecDepth 100000 in
theorem Tryz.sizeW : (Tryz.prog.info? 94).map (·.size) = some 5 := by kernel_rfl
def Fv.with (x : Fv) (sa : Option Addr) (len cap : Nat) : Fv := ⟨x.t, x.o, x.l, sa, len, cap, x.st, x.bs⟩
set_option maxRecDepth 100000 in
set_option maxHeartbeats 1000000 in
theorem apart_any (x : Fv) (hi : Nat) (w : World) (h : x.In hi w) (hh : hi ≤ w.heap.size) (hlen : x.bs.length ≤ 140737488351232) :
  Calls Tryz.prog 117 #[x.val] w fun e w' => ∃ y : Fv, e = .returned y.val ∧ y.t = x.t ∧ y.fw = x.fw ∧ y.At w.heap.size w'.heap.size w' ∧ Kept [] w w' := by
 have hk1 := kept_alloc [] w (.cells #[.int .i64 x.t, .int .i64 x.o, .int .i64 x.l, .slice x.sa x.len x.cap, .int .i64 x.st] 94)
 have hb1 := blk_new w 94 #[.int .i64 x.t, .int .i64 x.o, .int .i64 x.l, .slice x.sa x.len x.cap, .int .i64 x.st]
 have hk2 := kept_alloc [] (w.alloc (.cells #[.int .i64 x.t, .int .i64 x.o, .int .i64 x.l, .slice x.sa x.len x.cap, .int .i64 x.st] 94)) (.cells #[.int .i64 0, .int .i64 0, .int .i64 0, .slice none 0 0, .int .i64 0] 94)
 have hb2 := blk_new (w.alloc (.cells #[.int .i64 x.t, .int .i64 x.o, .int .i64 x.l, .slice x.sa x.len x.cap, .int .i64 x.st] 94)) 94 #[.int .i64 0, .int .i64 0, .int .i64 0, .slice none 0 0, .int .i64 0]
 have hb1' := hb1.kept hk2 (by simp)
 rw [show (w.alloc (.cells #[.int .i64 x.t, .int .i64 x.o, .int .i64 x.l, .slice x.sa x.len x.cap, .int .i64 x.st] 94)).heap.size = w.heap.size + 1 by simp] at hb2
 have hx2 := ByteRow.kept h hh (hk1.trans hk2) (by simp)
 have q := clone_any (.slice x.sa x.len x.cap) hi x.bs _ hx2 (Nat.le_trans hh (hk1.trans hk2).size) hlen
 replace hx2 : Hid _ := hx2
 clear hlen
 unfold Fv.val
 go_enter Tryz.func117, Tryz.ntmps117
 go_wp2_with (first
  | (go_at_call 132; refine q.mono ?_; rintro e w3 ⟨sa, len, cap, rfl, hr3, hk3⟩; have hb13 := hb1'.kept hk3 (by simp); have hb23 := hb2.kept hk3 (by simp); have cx3 := hb13.cell 3; have fx3 := hb13.frozen 3; have hb14 := hb13.set 3 (.slice sa len cap); have hk4 := kept_set (L := [w.heap.size]) (g := w.heap.size) (by simp) w3 3 (.slice sa len cap); have hb24 := hb23.kept hk4 (by simp); obtain ⟨w4, hw4⟩ : ∃ w4, w3.setCell ⟨w.heap.size, 3, none⟩ (.slice sa len cap) = w4 := ⟨_, rfl⟩; rw [hw4] at hb14 hk4 hb24; have d0 : w4.cell? ⟨w.heap.size, 0, none⟩ = some (.int .i64 x.t) := (hb14.cell 0).trans rfl; have d1 : w4.cell? ⟨w.heap.size, 1, none⟩ = some (.int .i64 x.o) := (hb14.cell 1).trans rfl; have d2 : w4.cell? ⟨w.heap.size, 2, none⟩ = some (.int .i64 x.l) := (hb14.cell 2).trans rfl; have d3 : w4.cell? ⟨w.heap.size, 3, none⟩ = some (.slice sa len cap) := (hb14.cell 3).trans rfl; have d4 : w4.cell? ⟨w.heap.size, 4, none⟩ = some (.int .i64 x.st) := (hb14.cell 4).trans rfl)
  | (refine wpList_store_blk rfl 94 _ _ rfl (w.heap.size + 1) 94 _ [.int .i64 x.t, .int .i64 x.o, .int .i64 x.l, .slice sa len cap, .int .i64 x.st] rfl rfl hb24 rfl Tryz.sizeW (by simp [Value.oneCell']) ?_; intro w5 hb5 hk5 hz5))
 have hb5' : w5.heap[w.heap.size + 1]? = some (.cells #[.int .i64 x.t, .int .i64 x.o, .int .i64 x.l, .slice sa len cap, .int .i64 x.st] 94 (0, 0)) := hb5
 refine bodyPost_ret (v := .agg #[.int .i64 x.t, .int .i64 x.o, .int .i64 x.l, .slice sa len cap, .int .i64 x.st]) (results_cell_row rfl _ _ (w.heap.size + 1) 94 _ (0, 0) _ rfl hb5' Tryz.underlying94 rfl Tryz.sizeW) rfl ?_
 have e2 : ((w.alloc (.cells #[.int .i64 x.t, .int .i64 x.o, .int .i64 x.l, .slice x.sa x.len x.cap, .int .i64 x.st] 94)).alloc (.cells #[.int .i64 0, .int .i64 0, .int .i64 0, .slice none 0 0, .int .i64 0] 94)).heap.size = w.heap.size + 2 := by simp
 rw [e2] at hr3
 have s3 := hk3.size
 rw [e2] at s3
 have hr5 := (hr3.kept hk4 (by simp; exact .inl (by omega))).kept hk5 (by simp; exact .inl (by omega))
 refine ⟨x.with sa len cap, rfl, rfl, rfl, Byt.mono hr5 (by omega) (Nat.le_trans hk4.size hk5.size), ?_⟩
 exact (((hk1.trans hk2).trans hk3).young hk4 (Nat.le_refl _)).young hk5 (by omega)
end Go.Proofs.YtoaeficfmcncjaaGreat.Flight
namespace Go.Proofs.YtoaeficfmcncjaaGreat.Flight
open Go.RowKit Go.Maps Go.Sort
section
set_option maxRecDepth 100000
theorem Tryz.wideK : (match Tryz.prog.underlying 225 with | some (.array _ _) | some (.struct _) => true | _ => false) = true := by kernel_rfl
theorem Tryz.keyTypeAtK : Tryz.prog.keyTypeAt 2 225 = true := by kernel_rfl
theorem Tryz.tiledK : Tryz.prog.tiled 2 225 = true := by kernel_rfl
theorem keyedK : Go.Maps.Keyed Tryz.prog 225 := Go.Maps.Keyed.of_law (deep_law (m := 2) (by omega) Tryz.keyTypeAtK Tryz.tiledK Tryz.wideK)
end
def kl (k : Int) : Lit := .string (keyBytes [.int .i64 k])
section
set_option maxRecDepth 100000
theorem Tryz.keyTypeK : Tryz.prog.keyType 225 = true := by kernel_rfl
theorem Tryz.cellsK : Tryz.prog.cellsOf 225 = 1 := by kernel_rfl
theorem Tryz.cells3 : Tryz.prog.cellsOf 3 = 1 := by kernel_rfl
theorem Tryz.sizeT : ∃ n, Tryz.prog.types.size = n + 1 := ⟨Tryz.prog.types.size - 1, by kernel_rfl⟩
theorem lits3 (d : Nat) (v : Value) : Tryz.prog.keyLits (d + 1) 3 [v] = match v with | .int .i64 k => if (Lit.int .i64 k).wf = true then some [.int .i64 k] else none | _ => none := by
 rw [Program.keyLits.eq_def]
 simp only [Tryz.underlying3]
 cases v <;> simp
 split <;> rename_i h
 ·obtain ⟨rfl, h⟩ := h
  simp [h]
 ·split <;> rename_i h2
  ·injection h2 with h2 h3
   subst h2 h3
   simpa using h
  ·rfl
theorem litsK (d : Nat) (cs : List Value) : Tryz.prog.keyLits (d + 1) 225 cs = match cs with | [v] => Tryz.prog.keyLits d 3 [v] | _ => none := by
 rw [Program.keyLits.eq_def]
 simp only [Tryz.underlying225]
 match cs with
 | [] => simp [Tryz.cellsK]
 | [v] =>
  simp [Tryz.cellsK, Tryz.cells3]
  cases Tryz.prog.keyLits d 3 [v] <;> simp
 | v :: u :: r => simp [Tryz.cellsK]
theorem formedK (v : Value) : (Value.agg #[v]).formed Tryz.prog 225 = true := by simp [Value.formed, Tryz.underlying225, Tryz.cellsK]
theorem keyOf_mk {k : Int} (hw : (Lit.int .i64 k).wf = true) : keyOf Tryz.prog 225 (.agg #[.int .i64 k]) = some (kl k) := by
 obtain ⟨n, hn⟩ := Tryz.sizeT
 unfold keyOf
 rw [Tryz.underlying225]
 simp only [Tryz.keyTypeK, formedK, hn, Value.cells, litsK, lits3, hw, Bool.and_self, if_true, Option.map_some]
 rfl
theorem keyOf_inv {v : Value} {l : Lit} (h : keyOf Tryz.prog 225 v = some l) : ∃ k, v = .agg #[.int .i64 k] ∧ l = kl k ∧ (Lit.int .i64 k).wf = true := by
 obtain ⟨xs, L, rfl, hL, rfl⟩ := keyOf_top Tryz.wideK h
 obtain ⟨n, hn⟩ := Tryz.sizeT
 rw [hn, litsK] at hL
 obtain ⟨cs⟩ := xs
 match cs, hL with
 | [u], hL =>
  simp only [lits3] at hL
  split at hL
  ·split at hL
   ·injection hL with hL
    subst hL
    exact ⟨_, rfl, rfl, by assumption⟩
   ·cases hL
  ·cases hL
end
theorem kl_inj {a b : Int} (ha : (Lit.int .i64 a).wf = true) (hb : (Lit.int .i64 b).wf = true) (h : kl a = kl b) : a = b := by
 have := keyedK.inj (keyOf_mk ha) (h ▸ keyOf_mk hb)
 injection this with this
 have := congrArg (fun l : Array Value => l[0]?) this
 simpa using this
theorem wf_i64 {k : Int} (h0 : -9223372036854775808 ≤ k) (h1 : k ≤ 9223372036854775807) : (Lit.int .i64 k).wf = true := WalkArith.wf_i64 ⟨h0, h1⟩
end Go.Proofs.YtoaeficfmcncjaaGreat.Flight
