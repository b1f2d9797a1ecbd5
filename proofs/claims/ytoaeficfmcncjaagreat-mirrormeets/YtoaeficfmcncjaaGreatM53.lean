/-
 What comes in, as it reads: bytes, messages.
-/
import Derived.Test.YtoaeficfmcncjaaGreatRows
import Derived.Lib.SmallJoins
import Derived.Test.YtoaeficfmcncjaaGreatM38
namespace Go.Proofs.YtoaeficfmcncjaaGreat.Pack
open Go.ChangeShapes Go.WideShapes Go.ChangeAt Go.RowKit
theorem byte_of {n : Int} (h : (Lit.int .u8 n).wf = true) : 0 ≤ n ∧ n < 256 := by
 have := bounds_u8 h
 omega
theorem cut_step (cs : List Value) (o n : Nat) (p r : List Value) (h : (cs.drop o).take n = p) (hr : cs.drop (o + n) = r) : cs.drop o = p ++ r := by
 rw [← h, ← hr, ← List.drop_drop, List.take_append_drop]
theorem cut_last (cs : List Value) (o n : Nat) (p : List Value) (h : (cs.drop o).take n = p) (hl : cs.length = o + n) : cs.drop o = p := by
 rw [← h, List.take_of_length_le]
 rw [List.length_drop]
 omega
section
set_option maxRecDepth 100000
theorem cells3 : Tryz.prog.cellsOf 3 = 1 := by kernel_rfl
theorem cells5 : Tryz.prog.cellsOf 5 = 1 := by kernel_rfl
theorem cellsB : Tryz.prog.cellsOf 45 = 1 := by kernel_rfl
theorem cellsM : Tryz.prog.cellsOf 47 = 6 := by kernel_rfl
end
section
variable {H : Type} {enc : TypeId × Value → H} {W : World} {base : Nat} {spare : Nat → Bool} {held : Bool} {fuel : Nat} {x : DataW H × List MemPlace}
set_option maxRecDepth 100000 in
theorem int_cell {t : TypeId} {q : IntKind} (ht : Tryz.prog.underlying t = some (.int q)) {cs : List Value} (h : DataW.trod enc Tryz.prog W base spare held fuel t cs = some x) : ∃ n, cs = [.int q n] ∧ (Lit.int q n).wf = true := by
 obtain ⟨n, hn, -, wn⟩ := DataW.trod_int ht h
 exact ⟨n, hn, wn⟩
set_option maxRecDepth 100000 in
theorem bytes_cell {cs : List Value} (h : DataW.trod enc Tryz.prog W base spare held fuel 45 cs = some x) : ∃ sa len cap bs, cs = [.slice sa len cap] ∧ len ≤ 9223372036854775807 ∧ ByteRow 0 W.heap.size W (.slice sa len cap) bs := by
 rcases open_ints Tryz.underlying45 Tryz.underlying5 cells5 h with ⟨hcs, _⟩ | ⟨a, len, cap, zs, hcs, _, hl, hm, hz, _, hcell, hwz⟩
 ·exact ⟨none, 0, 0, [], hcs, by omega, byteRow_nil _ _ _⟩
 ·unfold maxLen at hm
  have hzl : len ≤ zs.length := by rw [hz]; split <;> omega
  have hbl : ((zs.take len).map Int.toNat).length = len := by simp; omega
  refine ⟨some a, len, cap, (zs.take len).map Int.toNat, hcs, by omega, ?_, some a, cap, by rw [hbl], fun e => (by cases e), ?_⟩
  ·intro b hb
   obtain ⟨n, hn, rfl⟩ := List.mem_map.1 hb
   have := byte_of (hwz n (List.mem_of_mem_take hn))
   omega
  ·by_cases h0 : len = 0
   ·left
    subst h0
    simp
   ·right
    have hc0 := hcell 0 (by omega)
    obtain ⟨b, off, sp⟩ := a
    have hsp : sp = none := by simpa [Addr.add] using World.cell?_spot hc0
    subst hsp
    rw [hbl]
    refine ⟨b, off, rfl, by omega, Nat.zero_le _, ?_, fun j hj => ?_⟩
    ·exact World.block_lt_of_cell? W ⟨b, off, none⟩ (by have := hc0; simpa [Addr.add] using this)
    ·have hjz : j < zs.length := by omega
     have := hcell j hjz
     rw [Go.WideShapes.add_plain] at this
     rw [this]
     have hb := byte_of (hwz (zs[j]) (List.getElem_mem hjz))
     simp [hj, hjz]
     omega
end
end Go.Proofs.YtoaeficfmcncjaaGreat.Pack
namespace Go.Proofs.YtoaeficfmcncjaaGreat.Mirror
open Go.RowKit
open Math
open Pack (Mv Ms)
theorem row_len {lo n : Nat} {W : World} {a : Option Addr} {l c : Nat} {bs : List Nat} (h : Pack.ByteRow lo n W (.slice a l c) bs) : bs.length = l := by
 obtain ⟨_, _, _, e, _⟩ := h
 injection e with _ e _
 exact e.symm
theorem bts_in {lo n : Nat} {W : World} {v : Value} {bs : List Nat} {X : List Nat} (h : Pack.ByteRow lo n W v bs) (hn : n ≤ W.heap.size) (hX : ∀ k ∈ X, n ≤ k) : Bts W X v bs := by
 obtain ⟨hb, a, cap, e, hc, h | ⟨g, off, e2, hl, h1, h2, hq⟩⟩ := h
 ·exact ⟨hb, a, cap, e, hc, .inl h⟩
 ·exact ⟨hb, a, cap, e, hc, .inr ⟨g, off, e2, hl, by omega, fun hm => by have := hX g hm; omega, hq⟩⟩
open Go.ChangeShapes Go.WideShapes Go.ChangeAt Go.RowKit
set_option maxRecDepth 100000 in
theorem cellsSp : Tryz.prog.cellsOf 44 = 2 := by kernel_rfl
section
variable {H : Type} {enc : TypeId × Value → H} {W : World} {base : Nat} {spare : Nat → Bool} {held : Bool} {fuel : Nat} {x : DataW H × List MemPlace}
set_option maxRecDepth 100000 in
theorem span_cells {cs : List Value} (h : DataW.trod enc Tryz.prog W base spare held fuel 44 cs = some x) : ∃ o l, cs = [.int .i64 o, .int .i64 l] ∧ (-9223372036854775808 ≤ o ∧ o ≤ 9223372036854775807) ∧ (-9223372036854775808 ≤ l ∧ l ≤ 9223372036854775807) := by
 obtain ⟨xs, n, _, _, hl, hlen, hf⟩ := DataW.trod_struct Tryz.underlying44 h
 have h0 : DataW.trod enc Tryz.prog W base spare held n 3 ((cs.drop 0).take (Tryz.prog.cellsOf 3)) = xs[0]? := hf 0 _ rfl
 have h1 : DataW.trod enc Tryz.prog W base spare held n 3 ((cs.drop 1).take (Tryz.prog.cellsOf 3)) = xs[1]? := hf 1 _ rfl
 rw [Pack.cells3] at h0 h1
 match xs, hlen with
 | [y0, y1], _ =>
  simp only [List.getElem?_cons_zero, List.getElem?_cons_succ] at h0 h1
  obtain ⟨n0, e0, w0⟩ := Pack.int_cell Tryz.underlying3 h0
  obtain ⟨n1, e1, w1⟩ := Pack.int_cell Tryz.underlying3 h1
  have hc : cs.drop 0 = _ := Pack.cut_step cs 0 1 _ _ e0 (Pack.cut_last cs 1 1 _ e1 (hl.trans cellsSp))
  rw [List.drop_zero] at hc
  exact ⟨n0, n1, hc, bounds_i64 w0, bounds_i64 w1⟩
end
structure Gm where
 k : Int
 who : Int
 o : Int
 l : Int
 ba : Option Addr
 bn : Nat
 bc : Nat
 bs : List Nat
def Gm.cells (a : Gm) : List Value := [.int .i64 a.k, .int .i64 a.who, .int .i64 a.o, .int .i64 a.l, .slice a.ba a.bn a.bc]
structure Gm.Ok (a : Gm) (n : Nat) (W : World) : Prop where
 w0 : -9223372036854775808 ≤ a.who
 w1 : a.who ≤ 9223372036854775807
 blen : a.bn ≤ 9223372036854775807
 row : Pack.ByteRow 0 n W (.slice a.ba a.bn a.bc) a.bs
theorem Gm.Ok.kept {a : Gm} {n : Nat} {L : List Nat} {A B : World} (h : a.Ok n A) (hn : n ≤ A.heap.size) (hK : Kept L A B) (hL : ∀ k ∈ L, n ≤ k) : a.Ok n B :=
 ⟨h.w0, h.w1, h.blen, h.row.kept hn hK (fun k hk => .inr (hL k hk))⟩
set_option maxRecDepth 100000 in
theorem cellsG : Tryz.prog.cellsOf 81 = 5 := by kernel_rfl
set_option maxRecDepth 100000 in
theorem game_cells {H : Type} {enc : TypeId × Value → H} {W : World} {base : Nat} {spare : Nat → Bool} {held : Bool} {fuel : Nat} {x : DataW H × List MemPlace} {cs : List Value} (h : DataW.trod enc Tryz.prog W base spare held fuel 81 cs = some x) : ∃ a : Gm, cs = a.cells ∧ a.Ok W.heap.size W := by
 obtain ⟨xs, n, _, _, hl, hlen, hf⟩ := DataW.trod_struct Tryz.underlying81 h
 have h0 : DataW.trod enc Tryz.prog W base spare held n 3 ((cs.drop 0).take (Tryz.prog.cellsOf 3)) = xs[0]? := hf 0 _ rfl
 have h1 : DataW.trod enc Tryz.prog W base spare held n 3 ((cs.drop 1).take (Tryz.prog.cellsOf 3)) = xs[1]? := hf 1 _ rfl
 have h2 : DataW.trod enc Tryz.prog W base spare held n 44 ((cs.drop 2).take (Tryz.prog.cellsOf 44)) = xs[2]? := hf 2 _ rfl
 have h3 : DataW.trod enc Tryz.prog W base spare held n 45 ((cs.drop 4).take (Tryz.prog.cellsOf 45)) = xs[3]? := hf 3 _ rfl
 rw [Pack.cells3] at h0 h1
 rw [cellsSp] at h2
 rw [Pack.cellsB] at h3
 match xs, hlen with
 | [y0, y1, y2, y3], _ =>
  simp only [List.getElem?_cons_zero, List.getElem?_cons_succ] at h0 h1 h2 h3
  obtain ⟨n0, e0, w0⟩ := Pack.int_cell Tryz.underlying3 h0
  obtain ⟨n1, e1, w1⟩ := Pack.int_cell Tryz.underlying3 h1
  obtain ⟨o, l, e2, ho, hl3⟩ := span_cells h2
  obtain ⟨sa, len, cap, bs, e3, hbl, hr⟩ := Pack.bytes_cell h3
  have b1 := bounds_i64 w1
  refine ⟨⟨n0, n1, o, l, sa, len, cap, bs⟩, ?_, ⟨b1.1, b1.2, hbl, hr⟩⟩
  have hc : cs.drop 0 = _ := Pack.cut_step cs 0 1 _ _ e0 (Pack.cut_step cs 1 1 _ _ e1 (Pack.cut_step cs 2 2 _ _ e2 (Pack.cut_last cs 4 1 _ e3 (hl.trans cellsG))))
  rw [List.drop_zero] at hc
  exact hc
def GmsAt (n : Nat) (W : World) (a : Option Addr) (len cap : Nat) (acts : List Gm) : Prop :=
 acts.length = len ∧ (∀ x ∈ acts, x.Ok n W) ∧ (acts = [] ∨ ∃ b off, a = some ⟨b, off, none⟩ ∧ len ≤ cap ∧ b < n ∧ ∀ j x, acts[j]? = some x → ∀ i v, x.cells[i]? = some v → W.cell? ⟨b, off + j * 5 + i, none⟩ = some v)
theorem GmsAt.kept {n : Nat} {L : List Nat} {A B : World} {a : Option Addr} {len cap : Nat} {acts : List Gm} (h : GmsAt n A a len cap acts) (hn : n ≤ A.heap.size) (hK : Kept L A B) (hL : ∀ k ∈ L, n ≤ k) : GmsAt n B a len cap acts := by
 obtain ⟨h1, h2, h3⟩ := h
 refine ⟨h1, fun x hx => ?_, ?_⟩
 ·have := h2 x hx
  exact this.kept hn hK hL
 ·rcases h3 with h3 | ⟨b, off, e, hl, hb, hc⟩
  ·exact .inl h3
  ·refine .inr ⟨b, off, e, hl, hb, fun j x hx i v hv => ?_⟩
   rw [World.cell?_of_block (w := A) (w' := B) (hK.block b (by omega) (fun hm => by have := hL b hm; omega))]
   exact hc j x hx i v hv
set_option maxRecDepth 100000 in
theorem gms_in {H : Type} {enc : TypeId × Value → H} {W : World} {base : Nat} {spare : Nat → Bool} {held : Bool} {a : Option Addr} {len cap : Nat} {d : DataW H} {p : List MemPlace} (h : DataW.Trod enc Tryz.prog W base spare held 72 (.slice a len cap) d p) :
  len ≤ 9223372036854775807 ∧ ∃ acts, GmsAt W.heap.size W a len cap acts := by
 obtain ⟨fuel, hf⟩ := h
 rcases Go.Deep.open_slice Tryz.underlying72 hf with ⟨hcs, _⟩ | ⟨ad, l, c, m, n, D, Pl, hcs, _, hlc, hmax, hm, _, hel⟩
 ·simp [Value.cells] at hcs
  obtain ⟨rfl, rfl, rfl⟩ := hcs
  exact ⟨by omega, [], rfl, by simp, .inl rfl⟩
 ·simp [Value.cells] at hcs
  obtain ⟨rfl, rfl, rfl⟩ := hcs
  unfold maxLen at hmax
  refine ⟨by omega, ?_⟩
  have hlm : len ≤ m := by rw [hm]; split <;> omega
  have hex : ∀ i, i < len → ∃ x : Gm, x.Ok W.heap.size W ∧ ∀ j v, x.cells[j]? = some v → W.cell? ((ad.add (i * 5)).add j) = some v := fun i hi => by
   obtain ⟨cs', hc1, hc2⟩ := hel i (by omega)
   rw [cellsG] at hc1
   obtain ⟨x, rfl, hok⟩ := game_cells hc2
   refine ⟨x, hok, fun j v hv => ?_⟩
   obtain ⟨_, hlen, hcell⟩ := World.cells?_some hc1
   have hj : j < 5 := by
    have := (List.getElem?_eq_some_iff.1 hv).1
    exact this
   rw [hcell j hj]
   exact hv
  have hall : ∀ n, n ≤ len → ∃ acts : List Gm, acts.length = n ∧ ∀ i x, acts[i]? = some x → x.Ok W.heap.size W ∧ ∀ j v, x.cells[j]? = some v → W.cell? ((ad.add (i * 5)).add j) = some v := fun n => by
   induction n with
   | zero => exact fun _ => ⟨[], rfl, fun i x hx => by simp at hx⟩
   | succ n ih =>
    intro hn
    obtain ⟨acts, hl, hx⟩ := ih (by omega)
    obtain ⟨y, hy⟩ := hex n (by omega)
    refine ⟨acts ++ [y], by simp [hl], fun i x hi => ?_⟩
    by_cases hin : i < acts.length
    ·rw [List.getElem?_append_left hin] at hi
     exact hx i x hi
    ·have hlt := (List.getElem?_eq_some_iff.1 hi).1
     simp at hlt
     obtain rfl : i = n := by omega
     rw [List.getElem?_append_right (by omega), hl, Nat.sub_self] at hi
     simp at hi
     subst hi
     exact hy
  obtain ⟨acts, hl, hx⟩ := hall len (Nat.le_refl _)
  refine ⟨acts, hl, fun x hm => ?_, ?_⟩
  ·obtain ⟨i, hi⟩ := List.getElem?_of_mem hm
   exact (hx i x hi).1
  ·by_cases h0 : len = 0
   ·left
    exact List.eq_nil_of_length_eq_zero (hl.trans h0)
   ·right
    obtain ⟨y, hy⟩ : ∃ y, acts[0]? = some y := ⟨_, List.getElem?_eq_getElem (by omega)⟩
    have hc0 := (hx 0 y hy).2 0 _ rfl
    obtain ⟨b, off, sp⟩ := ad
    have hsp : sp = none := by simpa [Addr.add] using World.cell?_spot hc0
    subst hsp
    have hc0' : W.cell? ⟨b, off + 0 * 5 + 0, none⟩ = some (.int .i64 y.k) := by rw [← hc0, Go.WideShapes.add_plain, Go.WideShapes.add_plain]
    refine ⟨b, off, rfl, hlc, World.block_lt_of_cell? W _ hc0', fun j x hj i v hv => ?_⟩
    have := (hx j x hj).2 i v hv
    rwa [Go.WideShapes.add_plain, Go.WideShapes.add_plain] at this
theorem GmsAt.at {n : Nat} {W : World} {a : Option Addr} {len cap : Nat} {acts : List Gm} (h : GmsAt n W a len cap acts) {j : Nat} (hj : j < len) : ∃ x b off, acts[j]? = some x ∧ x.Ok n W ∧ a = some ⟨b, off, none⟩ ∧ b < n ∧ ∀ i v, x.cells[i]? = some v → W.cell? ⟨b, off + j * 5 + i, none⟩ = some v := by
 obtain ⟨h1, h2, h3 | ⟨b, off, e, hl, hb, hc⟩⟩ := h
 ·rw [h3] at h1
  simp at h1
  omega
 ·obtain ⟨x, hx⟩ : ∃ x, acts[j]? = some x := ⟨_, List.getElem?_eq_getElem (by omega)⟩
  exact ⟨x, b, off, hx, h2 x (List.mem_of_getElem? hx), e, hb, fun i v hv => hc j x hx i v hv⟩
end Go.Proofs.YtoaeficfmcncjaaGreat.Mirror
namespace Go.Proofs.YtoaeficfmcncjaaGreat
open Go.RowKit Go.Maps Go.Shelf
open Math
attribute [local go_sem] Oper.semAt_some
structure RBox (W : World) (n d : Nat) (o l : Int) (v r : Value) : Prop where
 b0 : Blk W n 27 #[.pointer (some ⟨d, 0, none⟩)]
 b1 : Blk W (n + 1) 44 #[.int .i64 o, .int .i64 l]
 b2 : Blk W (n + 2) 45 #[v]
 b3 : Blk W (n + 3) 28 #[r]
theorem RBox.kept {L : List Nat} {A B : World} {n d : Nat} {o l : Int} {v r : Value} (h : RBox A n d o l v r) (hk : Kept L A B) (hL : ∀ k ∈ L, k < n ∨ n + 4 ≤ k) : RBox B n d o l v r :=
 ⟨h.b0.kept hk (fun hm => by have := hL _ hm; omega), h.b1.kept hk (fun hm => by have := hL _ hm; omega), h.b2.kept hk (fun hm => by have := hL _ hm; omega), h.b3.kept hk (fun hm => by have := hL _ hm; omega)⟩
theorem rbox_new (w : World) (d : Nat) (o l : Int) (v r : Value) :
  RBox ((((w.alloc (.cells #[.pointer (some ⟨d, 0, none⟩)] 27)).alloc (.cells #[.int .i64 o, .int .i64 l] 44)).alloc (.cells #[v] 45)).alloc (.cells #[r] 28)) w.heap.size d o l v r := by
 obtain ⟨a0, a1, a2, a3⟩ := wbox_new w d o l v r
 exact ⟨a0, a1, a2, a3⟩
theorem RBox.cells {W : World} {n d : Nat} {o l : Int} {v r : Value} (h : RBox W n d o l v r) :
  W.cell? ⟨n, 0, none⟩ = some (.pointer (some ⟨d, 0, none⟩)) ∧ W.cell? ⟨n + 1, 0, none⟩ = some (.int .i64 o) ∧ W.cell? ⟨n + 1, 1, none⟩ = some (.int .i64 l) ∧ W.cell? ⟨n + 1 + 1, 0, none⟩ = some v ∧ W.cell? ⟨n + 1 + 1 + 1, 0, none⟩ = some r ∧ W.frozen? ⟨n + 1 + 1, 0, none⟩ = false ∧ W.frozen? ⟨n + 1 + 1 + 1, 0, none⟩ = false :=
 ⟨h.b0.cell 0, h.b1.cell 0, h.b1.cell 1, h.b2.cell 0, h.b3.cell 0, h.b2.frozen 0, h.b3.frozen 0⟩
theorem RBox.lt {W : World} {n d : Nat} {o l : Int} {v r : Value} (h : RBox W n d o l v r) : n + 4 ≤ W.heap.size := by
 have := h.b3.lt
 omega
theorem RBox.tell {W : World} {n d : Nat} {o l : Int} {v r : Value} (h : RBox W n d o l v r) (v' r' : Value) : RBox ((W.setCell ⟨n + 2, 0, none⟩ v').setCell ⟨n + 3, 0, none⟩ r') n d o l v' r' := by
 have k1 := kept_set (L := [n + 2]) (g := n + 2) (by simp) W 0 v'
 have k2 := kept_set (L := [n + 3]) (g := n + 3) (by simp) (W.setCell ⟨n + 2, 0, none⟩ v') 0 r'
 exact ⟨(h.b0.kept k1 (by simp)).kept k2 (by simp), (h.b1.kept k1 (by simp)).kept k2 (by simp), (h.b2.set 0 v').kept k2 (by simp), (h.b3.kept k1 (by simp)).set 0 r'⟩
theorem kept_tell (W : World) (n : Nat) (v' r' : Value) : Kept [n + 2, n + 3] W ((W.setCell ⟨n + 2, 0, none⟩ v').setCell ⟨n + 3, 0, none⟩ r') :=
 (kept_set (by simp) _ _ _).trans (kept_set (by simp) _ _ _)
set_option maxRecDepth 100000 in
theorem results_two {fn : Func} {p q : Tmp} (h : fn.results = #[.cell p 45, .cell q 28]) (tmps : Array Value) (w : World) (g k : Nat) (v r : Value) (hp : tmps[p]? = some (.pointer (some ⟨g, 0, none⟩))) (hq : tmps[q]? = some (.pointer (some ⟨k, 0, none⟩))) (hv : w.cell? ⟨g, 0, none⟩ = some v) (hr : w.cell? ⟨k, 0, none⟩ = some r) :
  (results fn tmps).run Tryz.prog w = .ok (.tuple #[v, r]) w := by
 simp [results, h, go_sem, hp, hq, hv, hr]
set_option maxRecDepth 100000 in
set_option maxHeartbeats 1000000 in
theorem dRead_range (d b1 b2 : Nat) (s : Dk) (o l : Int) (w : World) (h : DiskAt w d b1 b2 s) (hg : Span.Math.good o l (dataN s : Nat) = false) :
  Calls Tryz.prog 38 #[.pointer (some ⟨d, 0, none⟩), .agg #[.int .i64 o, .int .i64 l]] w fun e w' => e = .returned (.tuple #[.slice none 0 0, .int .i64 13]) ∧ Kept [] w w' := by
 have hb := rbox_new w d o l (.slice none 0 0) (.int .i64 0)
 have hk : Kept [] w ((((w.alloc (.cells #[.pointer (some ⟨d, 0, none⟩)] 27)).alloc (.cells #[.int .i64 o, .int .i64 l] 44)).alloc (.cells #[.slice none 0 0] 45)).alloc (.cells #[.int .i64 0] 28)) :=
  (((kept_alloc [] _ _).trans (kept_alloc [] _ _)).trans (kept_alloc [] _ _)).trans (kept_alloc [] _ _)
 have h1 := h.kept hk (by simp) (by simp) (by simp)
 have q := dfind_any d b1 b2 s o l _ h1
 rw [hg, if_neg (by simp)] at q
 go_enter Tryz.func38, Tryz.ntmps38
 go_wp2_with (go_at_call 85; refine q.mono ?_; rintro e w1 ⟨rfl, hk1⟩; have hb1 := hb.kept hk1 (by simp); obtain ⟨-, -, -, c3, c4, f3, f4⟩ := hb1.cells)
 have hb2 := hb1.tell (.slice none 0 0) (.int .i64 13)
 refine bodyPost_ret (results_two rfl _ _ (w.heap.size + 2) (w.heap.size + 3) _ _ rfl rfl (hb2.b2.cell 0) (hb2.b3.cell 0)) rfl ⟨rfl, ?_⟩
 exact (hk.trans hk1).youngs (kept_tell w1 w.heap.size _ _) (by simp)
structure RMid (W0 W : World) (n d b1 b2 q qb L : Nat) (o l : Int) (v r : Value) (s : Dk) (bs : List Nat) : Prop where
 box : RBox W n d o l v r
 disk : DiskAt W d b1 b2 s
 row : Arr W q 5 bs
 var : Blk W qb 45 #[.slice (some ⟨q, 0, none⟩) L L]
 kept : Kept [q, n + 2, n + 3] W0 W
theorem RMid.grown {W0 A B : World} {row : Option Nat} {n d b1 b2 q qb L : Nat} {o l : Int} {v r : Value} {s : Dk} {bs : List Nat} (h : RMid W0 A n d b1 b2 q qb L o l v r s bs) (hn : n + 4 ≤ W0.heap.size) (hd : d < W0.heap.size ∧ b1 < W0.heap.size ∧ b2 < W0.heap.size) (hq : q < W0.heap.size ∧ qb < W0.heap.size) (hg : A.grownBy B row) (hr : ∀ r, row = some r → W0.heap.size ≤ r) : RMid W0 B n d b1 b2 q qb L o l v r s bs := by
 obtain ⟨M, hk, hL⟩ := kept_grown hg hr
 refine ⟨h.box.kept hk (fun k hm => by have := hL k hm; omega), h.disk.kept hk (fun hm => by have := hL _ hm; omega) (fun hm => by have := hL _ hm; omega) (fun hm => by have := hL _ hm; omega), h.row.kept hk (fun hm => by have := hL _ hm; omega), h.var.kept hk (fun hm => by have := hL _ hm; omega), ?_⟩
 exact ⟨hk.os.trans h.kept.os, hk.tape.trans h.kept.tape, hk.output.trans h.kept.output, Nat.le_trans h.kept.size hk.size, fun i hi hn => (hk.block i (Nat.lt_of_lt_of_le hi h.kept.size) (fun hm => by have := hL i hm; omega)).trans (h.kept.block i hi hn)⟩
section
set_option maxRecDepth 100000
set_option maxHeartbeats 4000000 in
theorem dRead_in (m : Nat) (hm : 3 ≤ m) (d b1 b2 : Nat) (s : Dk) (o n : Nat) (w : World) (h : DiskAt w d b1 b2 s) (hg : Span.Math.good (o : Int) (n : Int) (dataN s : Nat) = true) :
  CallsIn Fence.wide m Tryz.prog 38 #[.pointer (some ⟨d, 0, none⟩), .agg #[.int .i64 (o : Int), .int .i64 (n : Int)]] w fun e w' =>
   ∃ v, e = .returned (.tuple #[v, .int .i64 (if s.broken then 3 else 0)]) ∧ ByteRow w.heap.size w'.heap.size w' v (if s.broken then [] else flatL (readF s o) n) ∧ Kept [] w w' ∧ ∃ a k, v = .slice a k k := by
 have h1m : 1 ≤ m := by omega
 have hro : Fence.wide.round = none := rfl
 have hgo := good_of hg
 obtain ⟨E, hE⟩ : ∃ E : Int, (if s.broken then (3 : Int) else 0) = E := ⟨_, rfl⟩
 obtain ⟨BS, hBS⟩ : ∃ BS : List Nat, (if s.broken then [] else flatL (readF s o) n) = BS := ⟨_, rfl⟩
 rw [hE, hBS]
 replace hE : Hid _ := hE
 replace hBS : Hid _ := hBS
 have hval := h.valid
 have hn2 : n ≤ 1024 := by have := hval.top; simp [dataN] at hgo; omega
 have hb := rbox_new w d o n (.slice none 0 0) (.int .i64 0)
 have hk : Kept [] w ((((w.alloc (.cells #[.pointer (some ⟨d, 0, none⟩)] 27)).alloc (.cells #[.int .i64 (o : Int), .int .i64 (n : Int)] 44)).alloc (.cells #[.slice none 0 0] 45)).alloc (.cells #[.int .i64 0] 28)) :=
  (((kept_alloc [] _ _).trans (kept_alloc [] _ _)).trans (kept_alloc [] _ _)).trans (kept_alloc [] _ _)
 have q := dfind_any d b1 b2 s o n _ (h.kept hk (by simp) (by simp) (by simp))
 rw [hg, if_pos rfl] at q
 have q2 := fun W => dsize_any o n (by omega) (by omega) W
 have hmk : ∀ W : World, (Instr.makeSlice 45 (.int .i64 ((n : Int) * 16)) (.int .i64 ((n : Int) * 16))).run Tryz.prog W = .ok (.slice (some ⟨W.heap.size, 0, none⟩) (n * 16) (n * 16)) (W.alloc (.cells ((zeros (n * 16)).map enc).toArray 5)) := fun W => by
  have := make_bytes (n * 16) (by omega) W
  rwa [Int.natCast_mul] at this
 refine callsIn_of_wp_marks Tryz.func38 rfl trivial ?_ hro
 simp only [Tryz.ntmps38, List.size_toArray, List.length_cons, List.length_nil, Nat.reduceAdd, Nat.reduceSub, Array.replicate_succ, Array.replicate_zero, List.push_toArray, List.append_toArray, List.nil_append, List.cons_append]
 have hmx : Tryz.prog.follows .mixedOrders = true := by kernel_rfl
 gi_wp2_with (first
  | (refine ⟨trivial, ?_⟩; gi_at_call 85; refine (callsIn_wide.2 q).mono ?_; rintro e w1 ⟨rfl, hk1⟩; have hb1 := hb.kept hk1 (by simp); obtain ⟨c0, c1, c2, c3, c4, f3, f4⟩ := hb1.cells)
  | (refine ⟨trivial, ?_⟩; gi_at_call 86; refine (callsIn_wide.2 (q2 _)).mono ?_; rintro e w2 ⟨rfl, hk2⟩; have hb2 := hb1.kept hk2 (by simp); have hb3 := (hb2.kept (kept_alloc [] _ (.cells ((zeros (n * 16)).map enc).toArray 5)) (by simp)).kept (kept_alloc [] _ (.cells #[.slice (some ⟨w2.heap.size, 0, none⟩) (n * 16) (n * 16)] 45)) (by simp); obtain ⟨g0, g1, g2, g3, g4, e3, e4⟩ := hb3.cells)
  | (refine ⟨trivial, ?_⟩; gi_at_call 87; refine (callsIn_wide.2 (dsectors_any _ _ _)).mono ?_; rintro e w3 ⟨rfl, rfl⟩))
 obtain ⟨q0, hq0⟩ : ∃ q0, w2.heap.size = q0 := ⟨_, rfl⟩
 have hq4 : w.heap.size + 4 ≤ q0 := hq0 ▸ hb2.lt
 obtain ⟨W0, hW0⟩ : ∃ W0, ((w2.alloc (.cells ((zeros (n * 16)).map enc).toArray 5)).alloc (.cells #[.slice (some ⟨w2.heap.size, 0, none⟩) (n * 16) (n * 16)] 45)).alloc (.cells #[.int .i64 (o : Int), .int .i64 (n : Int)] 44) = W0 := ⟨_, rfl⟩
 have hkW : Kept [] w W0 := hW0 ▸ ((((hk.trans hk1).trans hk2).trans (kept_alloc [] _ _)).trans (kept_alloc [] _ _)).trans (kept_alloc [] _ _)
 have hbW : RBox W0 w.heap.size d o n (.slice none 0 0) (.int .i64 0) := hW0 ▸ hb3.kept (kept_alloc [] _ _) (by simp)
 have hdW : DiskAt W0 d b1 b2 s := h.kept hkW (by simp) (by simp) (by simp)
 have hrW : Arr W0 q0 5 (zeros (n * 16)) := by rw [← hW0, ← hq0]; exact ((arr_new w2 5 _).alloc _).alloc _
 have hvW : Blk W0 (q0 + 1) 45 #[.slice (some ⟨q0, 0, none⟩) (n * 16) (n * 16)] := by
  have := (blk_new (w2.alloc (.cells ((zeros (n * 16)).map enc).toArray 5)) 45 #[.slice (some ⟨w2.heap.size, 0, none⟩) (n * 16) (n * 16)]).alloc (.cells #[.int .i64 (o : Int), .int .i64 (n : Int)] 44)
  rw [World.size_alloc, hW0, hq0] at this
  exact this
 have hbox : Blk W0 (q0 + 2) 44 #[.int .i64 (o : Int), .int .i64 (n : Int)] := by
  have := blk_new ((w2.alloc (.cells ((zeros (n * 16)).map enc).toArray 5)).alloc (.cells #[.slice (some ⟨w2.heap.size, 0, none⟩) (n * 16) (n * 16)] 45)) 44 #[.int .i64 (o : Int), .int .i64 (n : Int)]
  rw [World.size_alloc, World.size_alloc, hW0, hq0] at this
  exact this
 rw [hW0, hq0]
 clear g0 g1 g2 g3 g4 e3 e4 hb3 hb2 hk2 c0 c1 c2 c3 c4 f3 f4 hb1 hk1 hb hk q q2 hW0 hq0 hmk
 have hlt0 := h.lt
 have hltW := hdW.lt
 have hltB := hbox.lt
 have hltX := hbW.lt
 obtain ⟨L, hL⟩ : ∃ L, n * 16 = L := ⟨_, rfl⟩
 rw [hL] at hrW hvW ⊢
 replace hL : Hid _ := hL
 have hfl : ∀ i, (readF s o i).length = 16 := fun i => (sec_readF hval o i).1
 have h0 : Arr W0 q0 5 (fillL (readF s o) n ([].map (· % n))) := by
  have e : fillL (readF s o) n ([].map (· % n)) = zeros L := by rw [← hL.out, Nat.mul_comm]; rfl
  rw [e]
  exact hrW
 refine wpIn_rangeFunc_ownG hro h1m (gf := 150) (lb := #[.pointer (some ⟨q0 + 2, 0, none⟩)]) rfl trivial (enters_of Tryz.func150 (by kernel_rfl) rfl)
  (sectors_stops Fence.wide (m - 1) trivial hro (by omega) (q0 + 2) o n (by omega) (by omega) W0 hbox) sameAt_t (sameAt_b hltB) (Below.refl _ _) (fun _ => rfl)
  (fun pre W => RMid W0 W w.heap.size d b1 b2 q0 (q0 + 1) L o n (.slice none 0 0) (.int .i64 0) s (fillL (readF s o) n (pre.map (· % n))) ∧ (pre ≠ [] → s.broken = false))
  (fun c pre W => c = .ret ∧ s.broken = true ∧ RMid W0 W w.heap.size d b1 b2 q0 (q0 + 1) L o n (.slice none 0 0) (.int .i64 3) s (fillL (readF s o) n []))
  (fun pre A B row hs hg hr => ⟨hs.1.grown hltX hltW ⟨by omega, by omega⟩ hg (fun r e => (hr r e).1), hs.2⟩)
  (fun c pre A B row hs hg hr => ⟨hs.1, hs.2.1, hs.2.2.grown hltX hltW ⟨by omega, by omega⟩ hg (fun r e => (hr r e).1)⟩)
  ⟨⟨hbW, hdW, h0, hvW, Kept.refl _ _⟩, by simp⟩
  (fun x => { tmps := #[.pointer (some ⟨d, 0, none⟩), .agg #[.int .i64 (o : Int), .int .i64 (n : Int)], .pointer (some ⟨w.heap.size, 0, none⟩), .pointer (some ⟨w.heap.size + 1, 0, none⟩), .pointer (some ⟨w.heap.size + 1 + 1, 0, none⟩), .pointer (some ⟨w.heap.size + 1 + 1 + 1, 0, none⟩), .int .i64 0, .pointer (some ⟨q0 + 1, 0, none⟩),
   .int .i64 (8 + (o : Int) + ((x % n : Nat) : Int)), .int .i64 (((x % n : Nat) : Int) * 16), undef, undef, .pointer (some ⟨d, 0, none⟩), .agg #[.int .i64 (o : Int), .int .i64 (n : Int)], .int .i64 0, .int .i64 0, .bool false, undef, .agg #[.int .i64 (o : Int), .int .i64 (n : Int)], .int .i64 ((n : Int) * 16), .slice (some ⟨q0, 0, none⟩) L L, .agg #[.int .i64 (o : Int), .int .i64 (n : Int)],
   .func (.func 150) #[] #[.pointer (some ⟨q0 + 1 + 1, 0, none⟩)], .int .i64 (8 + (o : Int) + ((x % n : Nat) : Int)), .int .i64 (((x % n : Nat) : Int) * 16), undef, undef, undef, undef, undef, undef, undef, undef, undef, undef, undef, undef, undef, undef, undef], defers := [] }) ?assign ?body ?done ?stop
 case assign =>
  intro l x W K hK
  simp only [encS]
  gi_wp2
  exact hK
 case body =>
  rintro l pre x W ⟨hM, hnb⟩ hlt
  obtain ⟨i, hi⟩ : ∃ i, x % n = i := ⟨_, rfl⟩
  have hin : i < n := hi ▸ Nat.mod_lt _ (by omega)
  obtain ⟨c0, c1, c2, c3, c4, f3, f4⟩ := hM.box.cells
  have hd2 : 1 ≤ m - 1 - 1 := by omega
  have hins : inside s (spot o i) = true := by
   have := inside_spot (s := s) hg (i := i) (by omega)
   simpa using this
  have hq := read_any d b1 b2 s (spot o i) (by simp only [spot]; omega) (by simp only [spot]; omega) W hM.disk
  have hrl : readL s (spot o i) = readF s o i := rfl
  rw [hrl] at hq
  have hre : readE s (spot o i) = if s.broken then 3 else 0 := by unfold readE; rw [if_pos hins]
  rw [hre, show spot o i = 8 + (o : Int) + (i : Int) by simp [spot]] at hq
  have hsec := sec_readF hval o i
  rw [hi]
  obtain ⟨X, hX⟩ : ∃ X, readF s o i = X := ⟨_, rfl⟩
  rw [hX] at hq hsec
  have hX' : Hid _ := hX
  simp only [arr] at hq
  have hlenX : Hid (X.length = 16) := hsec.1
  clear hins hrl hre hX
  by_cases hbr : s.broken = true
  ·rw [if_pos hbr] at hq
   gi_wp2_with (first
    | (refine ⟨trivial, ?_⟩; gi_at_call 88; refine (CallsIn.inRound l (callsIn_wide.2 hq)).mono ?_; rintro e w4 ⟨rfl, hk4⟩)
    | (refine wpListIn_store_arr rfl _ _ rfl w4.heap.size 113 nought X rfl rfl (arr_new w4 113 nought) rfl hlenX.out ?_; intro w5 hA5 hk5 hz5; have hkY : Kept [] W w5 := ((hk4.trans (kept_alloc [] _ _)).young hk5 (by have := hk4.size; omega)); have hb5 := hM.box.kept hkY (by simp); obtain ⟨-, -, -, t3, t4, r3, r4⟩ := hb5.cells))
   have hkT : Kept [w.heap.size + 2, w.heap.size + 3] W ((w5.setCell ⟨w.heap.size + 2, 0, none⟩ (.slice none 0 0)).setCell ⟨w.heap.size + 3, 0, none⟩ (.int .i64 3)) := (hkY.mono (by simp)).trans (kept_tell w5 w.heap.size _ _)
   have hpre : pre = [] := by
    by_cases e : pre = []
    ·exact e
    ·exact absurd (hnb e) (by rw [hbr]; simp)
   refine ⟨hkT.keepsFrom (by simp; omega), rfl, hbr, ?_⟩
   rw [hpre, List.map_nil] at hM
   exact ⟨hb5.tell _ _, hM.disk.kept hkT (by simp; omega) (by simp; omega) (by simp; omega), hM.row.kept hkT (by simp; omega), hM.var.kept hkT (by simp; omega), hM.kept.trans (hkT.mono (by simp))⟩
  ·rw [if_neg hbr] at hq
   have k1 : (i : Int) * 16 ≤ (L : Int) := by have := hL.out; omega
   have k2 : ¬ (L = i * 16) := by have := hL.out; omega
   have hfill : (fillL (readF s o) n (pre.map (· % n))).length = 16 * n := fillL_length hfl (mods_lt (by omega) pre)
   have hFs : Hid (over (fillL (readF s o) n (pre.map (· % n))) (i * 16) X = fillL (readF s o) n ((pre ++ [x]).map (· % n))) := by
    show _ = _
    rw [List.map_append, List.map_cons, List.map_nil, hi, fillL_snoc, hX'.out, Nat.mul_comm]
   generalize fillL (readF s o) n (pre.map (· % n)) = Z at *
   gi_wp2_with (first
    | (refine ⟨trivial, ?_⟩; gi_at_call 88; refine (CallsIn.inRound l (callsIn_wide.2 hq)).mono ?_; rintro e w4 ⟨rfl, hk4⟩)
    | (refine wpListIn_store_arr rfl _ _ rfl w4.heap.size 113 nought X rfl rfl (arr_new w4 113 nought) rfl hlenX.out ?_; intro w5 hA5 hk5 hz5; have hkY : Kept [] W w5 := ((hk4.trans (kept_alloc [] _ _)).young hk5 (by have := hk4.size; omega)); have hv5 := (hM.var.kept hkY (by simp)).cell 0; have hr5 := hM.row.kept hkY (by simp)))
   obtain ⟨V, hcp, hA2, hkc, hzc⟩ := run_copy_arr (off := i * 16) (l := X) hr5.drew w4.heap.size 0 (L - i * 16) (L - i * 16) 16 16 3 (by rw [hlenX.out]; have := hL.out; exact (Nat.min_eq_left (by omega)).symm) (by rw [hlenX.out, hfill]; omega) (fun j hj => by rw [Nat.zero_add]; exact hA5.drew.cell j hj)
   rw [hlenX.out] at hcp
   replace hzc : Hid _ := hzc
   have hv5' : w5.drew.cell? ⟨q0 + 1, 0, none⟩ = some (.slice (some ⟨q0, 0, none⟩) L L) := hv5
   have hkT : Kept [q0] W V := ((hkY.mono (by simp)).trans (kept_drew _ _)).trans hkc
   rw [hFs.out] at hA2
   first | gi_region_with_o (fail) | fail
   all_goals (try gi_wp2)
   all_goals refine ⟨hkT.keepsFrom (by simp; omega), hkT.sameAt (by have := hM.kept.size; omega) (by simp), ?_, fun _ => by simpa using hbr⟩
   all_goals exact ⟨hM.box.kept hkT (by simp; omega), hM.disk.kept hkT (by simp; omega) (by simp; omega) (by simp; omega), hA2, hM.var.kept hkT (by simp), hM.kept.trans (hkT.mono (by simp))⟩
 case done =>
  rintro D ys W hD rfl ⟨hM, hnb⟩ hK
  rw [mods_range n n (Nat.le_refl _), fillL_all hfl] at hM
  have hbf := hnb (by simp; omega)
  have hEo := hE.out
  have hBo := hBS.out
  rw [hbf, if_neg (by simp)] at hEo hBo
  rw [hBo] at hM
  have hbl : Hid (BS.length = L) := by
   show _ = _
   rw [← hBo, flatL_length hfl, ← hL.out, Nat.mul_comm]
  have hbb : Hid (∀ b ∈ BS, b < 256) := by
   show ∀ b ∈ BS, b < 256
   rw [← hBo]
   exact flatL_byte (fun i => (sec_readF hval o i).2) n
  replace hEo : Hid _ := hEo
  clear hBo
  obtain ⟨-, -, -, c3, c4, f3, f4⟩ := hM.box.cells
  have cv : W.cell? ⟨q0 + 1, 0, none⟩ = some (.slice (some ⟨q0, 0, none⟩) L L) := hM.var.cell 0
  gi_wp2
  have hkS := kept_tell W w.heap.size (.slice (some ⟨q0, 0, none⟩) L L) (.int .i64 0)
  have hlD := (Array.getElem?_eq_some_iff.1 hK).1
  have hK' : ((W.setCell ⟨w.heap.size + 2, 0, none⟩ (.slice (some ⟨q0, 0, none⟩) L L)).setCell ⟨w.heap.size + 3, 0, none⟩ (.int .i64 0)).heap[D]? = some (.deferred (some [])) := (hkS.block D hlD (by simp; omega)).trans hK
  refine ⟨by simp, .inl ⟨_, _, rfl, run_takeDeferred hK', ?_⟩⟩
  have hkP := kept_put (W := (W.setCell ⟨w.heap.size + 2, 0, none⟩ (.slice (some ⟨q0, 0, none⟩) L L)).setCell ⟨w.heap.size + 3, 0, none⟩ (.int .i64 0)) (D := D) (.deferred none)
  have hbP := (hM.box.tell (.slice (some ⟨q0, 0, none⟩) L L) (.int .i64 0)).kept hkP (by simp; omega)
  have hrP := (hM.row.kept hkS (by simp; omega)).kept hkP (by simp; omega)
  refine ⟨_, results_two rfl _ _ (w.heap.size + 2) (w.heap.size + 3) _ _ rfl rfl (hbP.b2.cell 0) (hbP.b3.cell 0), .slice (some ⟨q0, 0, none⟩) L L, by rw [← hEo.out]; rfl, ?_, ?_, _, _, rfl⟩
  ·have := byteRow_arr (lo := w.heap.size) (cap := L) hrP hbb.out (by omega) (by rw [hbl.out]; exact Nat.le_refl _)
   rw [hbl.out] at this
   exact this
  ·exact ((hkW.youngs hM.kept (by simp; omega)).youngs hkS (by simp)).youngs hkP (by simp; omega)
 case stop =>
  rintro D c pre W hD ⟨k, hk, rfl⟩ ⟨rfl, hbr, hM⟩ hK
  have hEo := hE.out
  have hBo := hBS.out
  rw [if_pos hbr] at hEo hBo
  replace hEo : Hid _ := hEo
  replace hBo : Hid _ := hBo
  gi_wp2
  refine ⟨by simp, .inl ⟨_, _, rfl, run_takeDeferred hK, ?_⟩⟩
  have hkP := kept_put (W := W) (D := D) (.deferred none)
  have hbP := hM.box.kept hkP (by simp; omega)
  refine ⟨_, results_two rfl _ _ (w.heap.size + 2) (w.heap.size + 3) _ _ rfl rfl (hbP.b2.cell 0) (hbP.b3.cell 0), .slice none 0 0, by rw [← hEo.out]; rfl, by rw [← hBo.out]; exact byteRow_nil _ _ _, ?_, _, _, rfl⟩
  exact (hkW.youngs hM.kept (by simp; omega)).youngs hkP (by simp; omega)
theorem dRead_tight (d b1 b2 : Nat) (s : Dk) (o l : Int) (w : World) (h : DiskAt w d b1 b2 s) :
  Calls Tryz.prog 38 #[.pointer (some ⟨d, 0, none⟩), .agg #[.int .i64 o, .int .i64 l]] w fun e w' => ∃ v, e = .returned (.tuple #[v, .int .i64 (gotE s o l : Nat)]) ∧ ByteRow w.heap.size w'.heap.size w' v (gotL s o l) ∧ Kept [] w w' ∧ ∃ a k, v = .slice a k k := by
 unfold gotE gotL
 cases hg : Span.Math.good o l (dataN s : Nat) with
 | false =>
  simp only [Bool.false_eq_true, if_false]
  exact (dRead_range d b1 b2 s o l w h hg).mono fun e w' ⟨he, hk⟩ => ⟨_, he, byteRow_nil _ _ _, hk, _, _, rfl⟩
 | true =>
  simp only [if_true]
  have hgo := good_of hg
  obtain ⟨p, rfl⟩ : ∃ p : Nat, o = p := ⟨o.toNat, by omega⟩
  obtain ⟨n, rfl⟩ : ∃ n : Nat, l = n := ⟨l.toNat, by omega⟩
  refine (callsIn_wide.1 (dRead_in 3 (Nat.le_refl _) d b1 b2 s p n w h hg)).mono ?_
  rintro e w' ⟨v, rfl, hr, hk, ht⟩
  refine ⟨v, ?_, by simpa using hr, hk, ht⟩
  by_cases hq : s.broken = true <;> simp [hq]
theorem dImage_tight (d b1 b2 : Nat) (s : Dk) (w : World) (h : DiskAt w d b1 b2 s) :
  Calls Tryz.prog 28 #[.pointer (some ⟨d, 0, none⟩)] w fun e w' => ∃ v, e = .returned v ∧ ByteRow w.heap.size w'.heap.size w' v (imgL s) ∧ Kept [] w w' ∧ ∃ a k, v = .slice a k k := by
 have q1 := dSectors_any d b1 b2 s w h
 have q2 := dRead_tight d b1 b2 s 0 (dataN s : Nat) w h
 unfold imgL
 generalize dataN s = N at *
 go_enter Tryz.func28, Tryz.ntmps28
 go_wp2_with (first
  | (go_at_call 65; refine q1.mono ?_; rintro e w ⟨rfl, rfl⟩)
  | (go_at_call 38; refine q2.mono ?_; rintro e w2 ⟨v, rfl, hR, hk2, ht⟩))
 go_ret
 exact ⟨v, rfl, hR, hk2, ht⟩
theorem dImage_any (d b1 b2 : Nat) (s : Dk) (w : World) (h : DiskAt w d b1 b2 s) :
  Calls Tryz.prog 28 #[.pointer (some ⟨d, 0, none⟩)] w fun e w' => ∃ v, e = .returned v ∧ ByteRow w.heap.size w'.heap.size w' v (imgL s) ∧ Kept [] w w' :=
 (dImage_tight d b1 b2 s w h).mono fun _ _ ⟨v, he, hr, hk, _⟩ => ⟨v, he, hr, hk⟩
end
end Go.Proofs.YtoaeficfmcncjaaGreat
