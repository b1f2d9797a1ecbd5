/-
 The walk of MirrorNone.
-/
import Derived.Test.YtoaeficfmcncjaaGreatN45
import Derived.Test.YtoaeficfmcncjaaGreatRows
import Derived.Test.YtoaeficfmcncjaaGreatN34
import Derived.ProofKit
import Derived.OpenShut
import Derived.ShutString
import Derived.ChangeOld
import Derived.ChangeSlices
import Derived.Deep.Slices
import Derived.Lib.SmallJoins
import Derived.Test.YtoaeficfmcncjaaGreatN37
namespace Go.Proofs.YtoaeficfmcncjaaGreat.Mirror
open Go.RowKit
open Math
open Later (Lw Lv QAt Foot RowAt)
open Pack (Ms Mv)

set_option maxRecDepth 100000 in
set_option maxHeartbeats 8000000 in
theorem none_walk (k t : Int) (u : Nat) (o l : Int) (ba : Option Addr) (bn bc : Nat) (xk xi xo : Int) (xm : Nat) (xs : Bool) (xa : Option Addr) (xlen xcap : Nat) (w : World) :
  Calls Tryz.prog 6 #[.agg #[.int .i64 k, .int .i64 t, .int .u64 (u : Int), .int .i64 o, .int .i64 l, .slice ba bn bc, .int .i64 xk, .int .i64 xi, .int .i64 xo, .int .u64 (xm : Int), .bool xs, .slice xa xlen xcap]] w fun e w' => e = .returned (.bool true) ∧ Kept [] w w' := by
 obtain ⟨W1, eW, hB1, k1⟩ : ∃ W1, w.alloc (.cells #[.int .i64 k, .int .i64 t, .int .u64 (u : Int), .int .i64 o, .int .i64 l, .slice ba bn bc, .int .i64 xk, .int .i64 xi, .int .i64 xo, .int .u64 (xm : Int), .bool xs, .slice xa xlen xcap] 49) = W1 ∧ Blk W1 w.heap.size 49 #[.int .i64 k, .int .i64 t, .int .u64 (u : Int), .int .i64 o, .int .i64 l, .slice ba bn bc, .int .i64 xk, .int .i64 xi, .int .i64 xo, .int .u64 (xm : Int), .bool xs, .slice xa xlen xcap] ∧ Kept [] w W1 := ⟨_, rfl, blk_new _ _ _, kept_alloc [] _ _⟩
 have x5 : W1.cell? ⟨w.heap.size, 5, none⟩ = some (.slice ba bn bc) := (hB1.cell 5).trans rfl
 have x11 : W1.cell? ⟨w.heap.size, 11, none⟩ = some (.slice xa xlen xcap) := (hB1.cell 11).trans rfl
 have q0 := lives_any W1
 by_cases h1 : (200 : Int) < bn
 ·clear hB1
  go_enter Tryz.func6, Tryz.ntmps6
  go_wp2_with (go_at_call 7; refine q0.mono ?_; rintro e w1 ⟨rfl, hk1⟩)
  go_ret
  exact ⟨rfl, k1.trans hk1⟩
 by_cases h2 : (200 : Int) < xlen
 ·clear hB1
  go_enter Tryz.func6, Tryz.ntmps6
  go_wp2_with (go_at_call 7; refine q0.mono ?_; rintro e w1 ⟨rfl, hk1⟩)
  go_ret
  exact ⟨rfl, k1.trans hk1⟩
 clear q0
 have k2 := kept_alloc [] W1 (.cells #[.pointer none, .pointer none, .pointer none, .pointer none, .bool false] 105)
 have hb2 := blk_new W1 105 #[.pointer none, .pointer none, .pointer none, .pointer none, .bool false]
 have k3 := kept_alloc [] (W1.alloc (.cells #[.pointer none, .pointer none, .pointer none, .pointer none, .bool false] 105)) (.cells #[.pointer none, .pointer (some ⟨W1.heap.size, 0, none⟩)] 34)
 have hb3 := blk_new (W1.alloc (.cells #[.pointer none, .pointer none, .pointer none, .pointer none, .bool false] 105)) 34 #[.pointer none, .pointer (some ⟨W1.heap.size, 0, none⟩)]
 rw [World.size_alloc] at hb3
 have hb1 := (hB1.kept k2 (by simp)).kept k3 (by simp)
 replace hb2 := hb2.kept k3 (by simp)
 have k0 := (k1.trans k2).trans k3
 clear k1 k2 k3 hB1
 obtain ⟨W0, hW⟩ : ∃ W0, (W1.alloc (.cells #[.pointer none, .pointer none, .pointer none, .pointer none, .bool false] 105)).alloc (.cells #[.pointer none, .pointer (some ⟨W1.heap.size, 0, none⟩)] 34) = W0 := ⟨_, rfl⟩
 rw [hW] at hb1 hb2 hb3 k0
 go_enter Tryz.func6, Tryz.ntmps6
 go_wp2_with fail
 clear hW eW x5 x11 h1 h2
 go_loopw [31] (fun i wr => ∃ j : Nat, j ≤ 2 ∧ i = .int .i64 j ∧ Kept [] W0 wr) (fun i _ => 2 - (RowKit.intOf i).toNat)
 case atStart => exact ⟨0, by omega, rfl, Kept.refl _ _⟩
 case round =>
  obtain ⟨j, hj, rfl, hk⟩ := hrel
  by_cases hlt : j < 2
  ·obtain ⟨p, hp, hN⟩ : ∃ p, wr.cell? ⟨W1.heap.size + 1, j, none⟩ = some (.pointer p) ∧ NoMi wr p := by
    have hc := (hb3.kept hk (by simp)).cell j
    rcases (by omega : j = 0 ∨ j = 1) with rfl | rfl
    ·exact ⟨none, hc, .inl rfl⟩
    ·exact ⟨_, hc, .inr ⟨_, rfl, hb2.kept hk (by simp)⟩⟩
   have i1 : (j : Int) < 2 := by omega
   have hm1 : Hid (2 - (j + 1) < 2 - j) := by show _ < _; omega
   have cc : Hid (∀ V, Kept [] wr V → V.cell? ⟨w.heap.size, 1, none⟩ = some (.int .i64 t) ∧ V.cell? ⟨w.heap.size, 3, none⟩ = some (.int .i64 o) ∧ V.cell? ⟨w.heap.size, 4, none⟩ = some (.int .i64 l) ∧ V.cell? ⟨w.heap.size, 5, none⟩ = some (.slice ba bn bc) ∧ V.cell? ⟨w.heap.size, 6, none⟩ = some (.int .i64 xk) ∧ V.cell? ⟨w.heap.size, 7, none⟩ = some (.int .i64 xi) ∧ V.cell? ⟨w.heap.size, 8, none⟩ = some (.int .i64 xo) ∧ V.cell? ⟨w.heap.size, 9, none⟩ = some (.int .u64 (xm : Int)) ∧ V.cell? ⟨w.heap.size, 10, none⟩ = some (.bool xs) ∧ V.cell? ⟨w.heap.size, 11, none⟩ = some (.slice xa xlen xcap)) := fun V hv => by
    have hb := (hb1.kept hk (by simp)).kept hv (by simp)
    exact ⟨(hb.cell 1).trans rfl, (hb.cell 3).trans rfl, (hb.cell 4).trans rfl, (hb.cell 5).trans rfl, (hb.cell 6).trans rfl, (hb.cell 7).trans rfl, (hb.cell 8).trans rfl, (hb.cell 9).trans rfl, (hb.cell 10).trans rfl, (hb.cell 11).trans rfl⟩
   obtain ⟨c1, c2, c3, c4, -⟩ := cc.out wr (Kept.refl _ _)
   have hNh : Hid (∀ V, Kept [] wr V → NoMi V p) := fun V hv => hN.kept hv
   have qw := nwrite p t o l ba bn bc wr hN
   clear hb1 hb2 hb3 hN
   go_wp2_with (first
    | (go_at_call 31; refine qw.mono ?_; clear qw; rintro e w1 ⟨rfl, hr1⟩; clear c1 c2 c3 c4; obtain ⟨-, -, -, -, d1, d2, d3, d4, d5, d6⟩ := cc.out _ hr1; have qt : Calls Tryz.prog 34 #[.pointer p, .agg #[.int .i64 xk, .int .i64 xi, .int .i64 xo, .int .u64 (xm : Int), .bool xs, .slice xa xlen xcap]] w1 _ := ntake p ⟨xk, xi, xo, xm, xs, xa, xlen, xcap, []⟩ _ (hNh.out _ hr1))
    | (go_at_call 34; refine qt.mono ?_; clear qt; rintro e w2 ⟨rfl, hk2⟩; have hr2 := hr1.trans hk2; clear d1 d2 d3 d4 d5 d6 hk2; have qg := ngo p _ (hNh.out _ hr2))
    | (go_at_call 35; refine qg.mono ?_; clear qg; rintro e w3 ⟨rfl, hk3⟩; have hr3 := hr2.trans hk3; clear hk3; have qf := nforget p _ (hNh.out _ hr3))
    | (go_at_call 40; refine qf.mono ?_; clear qf; rintro e w4 ⟨rfl, hk4⟩; have hr4 := hr3.trans hk4; clear hk4; have qr := nrelease p _ (hNh.out _ hr4))
    | (go_at_call 37; refine qr.mono ?_; clear qr; rintro e w5 ⟨rfl, hk5⟩; have hr5 := hr4.trans hk5; clear hk5; have ql := nflights p _ (hNh.out _ hr5))
    | (go_at_call 21; refine ql.mono ?_; clear ql; rintro e w6 ⟨rfl, hk6⟩; have hr6 := hr5.trans hk6; clear hk6; have qq := nlater p _ (hNh.out _ hr6))
    | (go_at_call 24; refine qq.mono ?_; clear qq; rintro e w7 ⟨rfl, hk7⟩; have hr7 := hr6.trans hk7; clear hk7; have qh := nhold p _ (hNh.out _ hr7))
    | (go_at_call 36; refine qh.mono ?_; clear qh; rintro e w8 ⟨rfl, hk8⟩; have hr8 := hr7.trans hk8; clear hk8; have qo := nhot p _ (hNh.out _ hr8))
    | (go_at_call 17; refine qo.mono ?_; clear qo; rintro e w9 ⟨rfl, hk9⟩; have hr9 := hr8.trans hk9; clear hk9; obtain ⟨-, e2, e3, -⟩ := cc.out _ hr9; have qb := nbusy p o l _ (hNh.out _ hr9))
    | (go_at_call 26; refine qb.mono ?_; clear qb; rintro e w10 ⟨rfl, hk10⟩; have hr10 := hr9.trans hk10; clear hk10))
   go_roundw
   case rel => exact ⟨j + 1, by omega, by go_num, hk.trans hr10⟩
   case measure => simpa [RowKit.intOf] using hm1.out
  ·obtain rfl : j = 2 := by omega
   have q := lives_any wr
   clear hb1 hb2 hb3
   go_wp2_with (go_at_call 7; refine q.mono ?_; rintro e w1 ⟨rfl, hk1⟩)
   go_ret
   exact ⟨rfl, (k0.trans hk).trans hk1⟩
end Go.Proofs.YtoaeficfmcncjaaGreat.Mirror
namespace Go.Proofs.YtoaeficfmcncjaaGreat.Pack
open Go.ChangeShapes Go.WideShapes Go.ChangeAt Go.RowKit

theorem byte_of {n : Int} (h : (Lit.int .u8 n).wf = true) : 0 ≤ n ∧ n < 256 := by
 have := bounds_u8 h
 omega
theorem cut_step (cs : List Value) (o n : Nat) (p r : List Value) (h : (cs.drop o).take n = p) (hr : cs.drop (o + n) = r) : cs.drop o = p ++ r := by
 rw [← h, ← hr, ← List.drop_drop, List.take_append_drop]
theorem cut_last (cs : List Value) (o n : Nat) (p : List Value) (h : (cs.drop o).take n = p) (hl : cs.length = o + n) : cs.drop o = p := by
 rw [← h, List.take_of_length_le]
 rw [List.length_drop]
 omega
set_option maxRecDepth 100000 in
theorem cells3 : Tryz.prog.cellsOf 3 = 1 := by kernel_rfl
set_option maxRecDepth 100000 in
theorem cells4 : Tryz.prog.cellsOf 4 = 1 := by kernel_rfl
set_option maxRecDepth 100000 in
theorem cells5 : Tryz.prog.cellsOf 5 = 1 := by kernel_rfl
set_option maxRecDepth 100000 in
theorem cellsB : Tryz.prog.cellsOf 45 = 1 := by kernel_rfl
set_option maxRecDepth 100000 in
theorem cellsU : Tryz.prog.cellsOf 23 = 1 := by kernel_rfl
set_option maxRecDepth 100000 in
theorem cellsM : Tryz.prog.cellsOf 47 = 6 := by kernel_rfl
section
variable {H : Type} {enc : TypeId × Value → H} {W : World} {base : Nat} {spare : Nat → Bool} {held : Bool} {fuel : Nat} {x : DataW H × List MemPlace}
set_option maxRecDepth 100000 in
theorem int_cell {t : TypeId} {q : IntKind} (ht : Tryz.prog.underlying t = some (.int q)) {cs : List Value} (h : DataW.trod enc Tryz.prog W base spare held fuel t cs = some x) : ∃ n, cs = [.int q n] ∧ (Lit.int q n).wf = true := by
 obtain ⟨n, hn, -, wn⟩ := DataW.trod_int ht h
 exact ⟨n, hn, wn⟩
set_option maxRecDepth 100000 in
theorem bytes_cell {cs : List Value} (h : DataW.trod enc Tryz.prog W base spare held fuel 45 cs = some x) : ∃ sa len cap bs, cs = [.slice sa len cap] ∧ len ≤ 9223372036854775807 ∧ ByteRow 0 W.heap.size W (.slice sa len cap) bs := by
 rcases open_ints Tryz.underlying45 Tryz.underlying5 cells5 h with ⟨hcs, _⟩ | ⟨a, len, cap, zs, hcs, _, hl, hm, hz, _, hcell, hwz⟩
 ·exact ⟨none, 0, 0, [], hcs, by omega, byteRow_nil _ _ _⟩
 ·unfold maxLen at hm
  have hzl : len ≤ zs.length := by rw [hz]; split <;> omega
  have hbl : ((zs.take len).map Int.toNat).length = len := by simp; omega
  refine ⟨some a, len, cap, (zs.take len).map Int.toNat, hcs, by omega, ?_, some a, cap, by rw [hbl], fun e => (by cases e), ?_⟩
  ·intro b hb
   obtain ⟨n, hn, rfl⟩ := List.mem_map.1 hb
   have := byte_of (hwz n (List.mem_of_mem_take hn))
   omega
  ·by_cases h0 : len = 0
   ·left
    subst h0
    simp
   ·right
    have hc0 := hcell 0 (by omega)
    obtain ⟨b, off, sp⟩ := a
    have hsp : sp = none := by simpa [Addr.add] using World.cell?_spot hc0
    subst hsp
    rw [hbl]
    refine ⟨b, off, rfl, by omega, Nat.zero_le _, ?_, fun j hj => ?_⟩
    ·exact World.block_lt_of_cell? W ⟨b, off, none⟩ (by have := hc0; simpa [Addr.add] using this)
    ·have hjz : j < zs.length := by omega
     have := hcell j hjz
     rw [Go.WideShapes.add_plain] at this
     rw [this]
     have hb := byte_of (hwz (zs[j]) (List.getElem_mem hjz))
     simp [hj, hjz]
     omega
set_option maxRecDepth 100000 in
theorem msg_cells {cs : List Value} (h : DataW.trod enc Tryz.prog W base spare held fuel 47 cs = some x) : ∃ y : Mv, cs = y.cells ∧ y.len ≤ 9223372036854775807 ∧ y.At 0 W.heap.size W := by
 obtain ⟨xs, n, _, _, hl, hlen, hf⟩ := DataW.trod_struct Tryz.underlying47 h
 have h0 : DataW.trod enc Tryz.prog W base spare held n 3 ((cs.drop 0).take (Tryz.prog.cellsOf 3)) = xs[0]? := hf 0 _ rfl
 have h1 : DataW.trod enc Tryz.prog W base spare held n 3 ((cs.drop 1).take (Tryz.prog.cellsOf 3)) = xs[1]? := hf 1 _ rfl
 have h2 : DataW.trod enc Tryz.prog W base spare held n 3 ((cs.drop 2).take (Tryz.prog.cellsOf 3)) = xs[2]? := hf 2 _ rfl
 have h3 : DataW.trod enc Tryz.prog W base spare held n 23 ((cs.drop 3).take (Tryz.prog.cellsOf 23)) = xs[3]? := hf 3 _ rfl
 have h4 : DataW.trod enc Tryz.prog W base spare held n 4 ((cs.drop 4).take (Tryz.prog.cellsOf 4)) = xs[4]? := hf 4 _ rfl
 have h5 : DataW.trod enc Tryz.prog W base spare held n 45 ((cs.drop 5).take (Tryz.prog.cellsOf 45)) = xs[5]? := hf 5 _ rfl
 rw [cells3] at h0 h1 h2
 rw [cellsU] at h3
 rw [cells4] at h4
 rw [cellsB] at h5
 match xs, hlen with
 | [y0, y1, y2, y3, y4, y5], _ =>
  simp only [List.getElem?_cons_zero, List.getElem?_cons_succ] at h0 h1 h2 h3 h4 h5
  obtain ⟨n0, e0, w0⟩ := int_cell Tryz.underlying3 h0
  obtain ⟨n1, e1, w1⟩ := int_cell Tryz.underlying3 h1
  obtain ⟨n2, e2, w2⟩ := int_cell Tryz.underlying3 h2
  obtain ⟨n3, e3, w3⟩ := int_cell Tryz.underlying23 h3
  obtain ⟨b4, e4, _⟩ := DataW.trod_bool Tryz.underlying4 h4
  obtain ⟨sa, len, cap, bs, e5, hlen, hr⟩ := bytes_cell h5
  have b1 := bounds_i64 w1
  have b3 := bounds_u64 w3
  refine ⟨⟨n0, n1, n2, n3.toNat, b4, sa, len, cap, bs⟩, ?_, hlen, hr, ?_, b1.1, b1.2⟩
  ·have hc : cs.drop 0 = _ := cut_step cs 0 1 _ _ e0 (cut_step cs 1 1 _ _ e1 (cut_step cs 2 1 _ _ e2 (cut_step cs 3 1 _ _ e3 (cut_step cs 4 1 _ _ e4 (cut_last cs 5 1 _ e5 (hl.trans cellsM))))))
   rw [List.drop_zero] at hc
   rw [hc]
   show _ = [_, _, _, Value.int .u64 ((n3.toNat : Nat) : Int), _, _]
   rw [Int.toNat_of_nonneg b3.1]
   rfl
  ·show n3.toNat < _
   omega
end
end Go.Proofs.YtoaeficfmcncjaaGreat.Pack
namespace Go.Proofs.YtoaeficfmcncjaaGreat.Mirror
open Go.RowKit
open Math
open Pack (Mv Ms)

structure Ac where
 k : Int
 t : Int
 u : Nat
 o : Int
 l : Int
 ba : Option Addr
 bn : Nat
 bc : Nat
 bs : List Nat
 x : Mv
def Ac.cells (a : Ac) : List Value := [.int .i64 a.k, .int .i64 a.t, .int .u64 (a.u : Int), .int .i64 a.o, .int .i64 a.l, .slice a.ba a.bn a.bc, .int .i64 a.x.k, .int .i64 a.x.i, .int .i64 a.x.o, .int .u64 (a.x.m : Int), .bool a.x.s, .slice a.x.sa a.x.len a.x.cap]
structure Ac.Ok (a : Ac) (n : Nat) (W : World) : Prop where
 t0 : -9223372036854775808 ≤ a.t
 t1 : a.t ≤ 9223372036854775807
 u0 : a.u < 18446744073709551616
 o0 : -9223372036854775808 ≤ a.o
 o1 : a.o ≤ 9223372036854775807
 l0 : -9223372036854775808 ≤ a.l
 l1 : a.l ≤ 9223372036854775807
 blen : a.bn ≤ 9223372036854775807
 xlen : a.x.len ≤ 9223372036854775807
 row : Pack.ByteRow 0 n W (.slice a.ba a.bn a.bc) a.bs
 msg : a.x.At 0 n W
open Go.ChangeShapes Go.WideShapes Go.ChangeAt Go.RowKit
set_option maxRecDepth 100000 in
theorem cellsA : Tryz.prog.cellsOf 49 = 12 := by kernel_rfl
set_option maxRecDepth 100000 in
theorem cellsSp : Tryz.prog.cellsOf 44 = 2 := by kernel_rfl
section
variable {H : Type} {enc : TypeId × Value → H} {W : World} {base : Nat} {spare : Nat → Bool} {held : Bool} {fuel : Nat} {x : DataW H × List MemPlace}
set_option maxRecDepth 100000 in
theorem span_cells {cs : List Value} (h : DataW.trod enc Tryz.prog W base spare held fuel 44 cs = some x) : ∃ o l, cs = [.int .i64 o, .int .i64 l] ∧ (-9223372036854775808 ≤ o ∧ o ≤ 9223372036854775807) ∧ (-9223372036854775808 ≤ l ∧ l ≤ 9223372036854775807) := by
 obtain ⟨xs, n, _, _, hl, hlen, hf⟩ := DataW.trod_struct Tryz.underlying44 h
 have h0 : DataW.trod enc Tryz.prog W base spare held n 3 ((cs.drop 0).take (Tryz.prog.cellsOf 3)) = xs[0]? := hf 0 _ rfl
 have h1 : DataW.trod enc Tryz.prog W base spare held n 3 ((cs.drop 1).take (Tryz.prog.cellsOf 3)) = xs[1]? := hf 1 _ rfl
 rw [Pack.cells3] at h0 h1
 match xs, hlen with
 | [y0, y1], _ =>
  simp only [List.getElem?_cons_zero, List.getElem?_cons_succ] at h0 h1
  obtain ⟨n0, e0, w0⟩ := Pack.int_cell Tryz.underlying3 h0
  obtain ⟨n1, e1, w1⟩ := Pack.int_cell Tryz.underlying3 h1
  have hc : cs.drop 0 = _ := Pack.cut_step cs 0 1 _ _ e0 (Pack.cut_last cs 1 1 _ e1 (hl.trans cellsSp))
  rw [List.drop_zero] at hc
  exact ⟨n0, n1, hc, bounds_i64 w0, bounds_i64 w1⟩
set_option maxRecDepth 100000 in
theorem act_cells {cs : List Value} (h : DataW.trod enc Tryz.prog W base spare held fuel 49 cs = some x) : ∃ a : Ac, cs = a.cells ∧ a.Ok W.heap.size W := by
 obtain ⟨xs, n, _, _, hl, hlen, hf⟩ := DataW.trod_struct Tryz.underlying49 h
 have h0 : DataW.trod enc Tryz.prog W base spare held n 3 ((cs.drop 0).take (Tryz.prog.cellsOf 3)) = xs[0]? := hf 0 _ rfl
 have h1 : DataW.trod enc Tryz.prog W base spare held n 3 ((cs.drop 1).take (Tryz.prog.cellsOf 3)) = xs[1]? := hf 1 _ rfl
 have h2 : DataW.trod enc Tryz.prog W base spare held n 23 ((cs.drop 2).take (Tryz.prog.cellsOf 23)) = xs[2]? := hf 2 _ rfl
 have h3 : DataW.trod enc Tryz.prog W base spare held n 44 ((cs.drop 3).take (Tryz.prog.cellsOf 44)) = xs[3]? := hf 3 _ rfl
 have h4 : DataW.trod enc Tryz.prog W base spare held n 45 ((cs.drop 5).take (Tryz.prog.cellsOf 45)) = xs[4]? := hf 4 _ rfl
 have h5 : DataW.trod enc Tryz.prog W base spare held n 47 ((cs.drop 6).take (Tryz.prog.cellsOf 47)) = xs[5]? := hf 5 _ rfl
 rw [Pack.cells3] at h0 h1
 rw [Pack.cellsU] at h2
 rw [cellsSp] at h3
 rw [Pack.cellsB] at h4
 rw [Pack.cellsM] at h5
 match xs, hlen with
 | [y0, y1, y2, y3, y4, y5], _ =>
  simp only [List.getElem?_cons_zero, List.getElem?_cons_succ] at h0 h1 h2 h3 h4 h5
  obtain ⟨n0, e0, w0⟩ := Pack.int_cell Tryz.underlying3 h0
  obtain ⟨n1, e1, w1⟩ := Pack.int_cell Tryz.underlying3 h1
  obtain ⟨n2, e2, w2⟩ := Pack.int_cell Tryz.underlying23 h2
  obtain ⟨o, l, e3, ho, hl3⟩ := span_cells h3
  obtain ⟨sa, len, cap, bs, e4, hbl, hr⟩ := Pack.bytes_cell h4
  obtain ⟨y, e5, hyl, hyA⟩ := Pack.msg_cells h5
  have b1 := bounds_i64 w1
  have b2 := bounds_u64 w2
  refine ⟨⟨n0, n1, n2.toNat, o, l, sa, len, cap, bs, y⟩, ?_, ⟨b1.1, b1.2, by show n2.toNat < _; omega, ho.1, ho.2, hl3.1, hl3.2, hbl, hyl, hr, hyA⟩⟩
  have hc : cs.drop 0 = _ := Pack.cut_step cs 0 1 _ _ e0 (Pack.cut_step cs 1 1 _ _ e1 (Pack.cut_step cs 2 1 _ _ e2 (Pack.cut_step cs 3 2 _ _ e3 (Pack.cut_step cs 5 1 _ _ e4 (Pack.cut_last cs 6 6 _ e5 (hl.trans cellsA))))))
  rw [List.drop_zero] at hc
  rw [hc]
  show _ = [_, _, Value.int .u64 ((n2.toNat : Nat) : Int), _, _, _, _, _, _, _, _, _]
  rw [Int.toNat_of_nonneg b2.1]
  rfl
end
set_option maxRecDepth 100000 in
theorem act_in {H : Type} {enc : TypeId × Value → H} {W : World} {r : Reach} {b0 base : Nat} {spare : Nat → Bool} {held : Bool} {v : Value} {d : DataW H} {p : List MemPlace} (hv : Value.okWide Tryz.prog W r b0 49 v) (h : DataW.Trod enc Tryz.prog W base spare held 49 v d p) :
  ∃ a : Ac, v = .agg a.cells.toArray ∧ a.Ok W.heap.size W := by
 obtain ⟨cs, rfl, hsz⟩ := okWide_struct Tryz.underlying49 hv
 obtain ⟨fuel, hf⟩ := h
 obtain ⟨a, hc, hA⟩ := act_cells hf
 refine ⟨a, ?_, hA⟩
 congr 1
 have hc' : cs.toList = a.cells := by simpa [Value.cells] using hc
 rw [← Array.toArray_toList (xs := cs), hc']
end Go.Proofs.YtoaeficfmcncjaaGreat.Mirror
