/-
 The walk of MirrorDurable.
-/
import Derived.Test.YtoaeficfmcncjaaGreatD47
import Derived.Test.YtoaeficfmcncjaaGreatD48
import Derived.Test.YtoaeficfmcncjaaGreatD49
import Derived.Test.YtoaeficfmcncjaaGreatD50
import Derived.Deep.MidRow
import Derived.Deep.WholeRow
import Derived.Deep.CutBlock
namespace Go.Proofs.YtoaeficfmcncjaaGreat.Mirror
open Go.RowKit
open Math
open Flight (Fw Fv)
open Later (Lw Lv QAt Foot RowAt)
open Pack (Ms Mv)

theorem Ac.one (a : Ac) : ∀ v ∈ a.cells, v.oneCell' = true := by
 intro v hv
 simp only [Ac.cells, List.mem_cons, List.not_mem_nil, or_false] at hv
 rcases hv with rfl | rfl | rfl | rfl | rfl | rfl | rfl | rfl | rfl | rfl | rfl | rfl <;> rfl
theorem Fv.one (a : Fv) : ∀ v ∈ a.cells, v.oneCell' = true := by
 intro v hv
 simp only [Fv.cells, List.mem_cons, List.not_mem_nil, or_false] at hv
 rcases hv with rfl | rfl | rfl | rfl | rfl <;> rfl
set_option maxRecDepth 100000 in
theorem Tryz.sizeAct : (Tryz.prog.info? 49).map (·.size) = some 12 := by kernel_rfl
set_option maxRecDepth 100000 in
theorem Tryz.sizeFw : (Tryz.prog.info? 94).map (·.size) = some 5 := by kernel_rfl
def Ac.In (a : Ac) (W : World) (g : Nat) : Prop := Blk W g 49 a.cells.toArray
theorem Ac.In.all {a : Ac} {W : World} {g : Nat} (h : a.In W g) : W.cell? ⟨g, 0, none⟩ = some (.int .i64 a.k) ∧ W.cell? ⟨g, 1, none⟩ = some (.int .i64 a.t) ∧ W.cell? ⟨g, 2, none⟩ = some (.int .u64 (a.u : Int)) ∧ W.cell? ⟨g, 3, none⟩ = some (.int .i64 a.o) ∧ W.cell? ⟨g, 4, none⟩ = some (.int .i64 a.l) ∧ W.cell? ⟨g, 5, none⟩ = some (.slice a.ba a.bn a.bc) ∧
  W.cell? ⟨g, 6, none⟩ = some (.int .i64 a.x.k) ∧ W.cell? ⟨g, 7, none⟩ = some (.int .i64 a.x.i) ∧ W.cell? ⟨g, 8, none⟩ = some (.int .i64 a.x.o) ∧ W.cell? ⟨g, 9, none⟩ = some (.int .u64 (a.x.m : Int)) ∧ W.cell? ⟨g, 10, none⟩ = some (.bool a.x.s) ∧ W.cell? ⟨g, 11, none⟩ = some (.slice a.x.sa a.x.len a.x.cap) :=
 ⟨(Blk.cell h 0).trans rfl, (Blk.cell h 1).trans rfl, (Blk.cell h 2).trans rfl, (Blk.cell h 3).trans rfl, (Blk.cell h 4).trans rfl, (Blk.cell h 5).trans rfl, (Blk.cell h 6).trans rfl, (Blk.cell h 7).trans rfl, (Blk.cell h 8).trans rfl, (Blk.cell h 9).trans rfl, (Blk.cell h 10).trans rfl, (Blk.cell h 11).trans rfl⟩
theorem and_of_in {x y : Nat} (h : ∀ j, x.testBit j = true → y.testBit j = true) : x &&& y = x := by
 apply Nat.eq_of_testBit_eq
 intro j
 rw [Nat.testBit_and]
 cases hx : x.testBit j with
 | false => simp
 | true => simp [h j hx]
theorem andNot_of_in {x y : Nat} (hx : x < 18446744073709551616) (hy : y < 18446744073709551616) (h : ∀ j, x.testBit j = true → y.testBit j = true) : x &&& (18446744073709551615 - y) = 0 := by
 have e := Bits.Math.and_add_andNot 64 x y hx hy
 rw [and_of_in h] at e
 have e2 : x + (x &&& (18446744073709551615 - y)) = x := e
 omega
theorem Much.up {m : Mr} {k : Nat} (h : Much m k) : Much m (k + 1) := ⟨h.size, by have := h.ops; omega, by have := h.fly; omega, by have := h.lat; omega⟩
structure Plays (w W : World) (lo m d b1 b2 : Nat) (K : List Nat) (M : Mr) (j : Nat) : Prop where
 at_ : MiAt W lo m d b1 b2 K M
 dur : Dur M
 much : Much M j
 kept : Kept [] w W
 lows : w.heap.size ≤ lo ∧ w.heap.size ≤ d ∧ w.heap.size ≤ b1 ∧ w.heap.size ≤ b2
theorem Plays.past {w W : World} {lo m d b1 b2 : Nat} {K : List Nat} {M : Mr} {j : Nat} (h : Plays w W lo m d b1 b2 K M j) : ∀ k ∈ K ++ [d, b1, b2], w.heap.size ≤ k := fun k hk => by
 obtain ⟨l1, l2, l3, l4⟩ := h.lows
 rcases List.mem_append.1 hk with h1 | h1
 ·exact Nat.le_trans l1 (h.at_.low.1 k h1).1
 ·simp at h1
  omega
theorem Plays.on {w W V : World} {lo m d b1 b2 : Nat} {K : List Nat} {M : Mr} {j : Nat} (h : Plays w W lo m d b1 b2 K M j) (hk : Kept [] W V) : Plays w V lo m d b1 b2 K M j := ⟨h.at_.kept0 hk, h.dur, h.much, h.kept.trans hk, h.lows⟩
theorem Plays.goes {w W V : World} {lo m d b1 b2 : Nat} {K K' : List Nat} {M M' : Mr} {j : Nat} (h : Plays w W lo m d b1 b2 K M j) (g : Goes W V lo m d b1 b2 K K' M') (hd : Dur M') (hm : Much M' (j + 1)) : Plays w V lo m d b1 b2 K' M' (j + 1) :=
 ⟨g.at_, hd, hm, goes_past h.kept g h.past, h.lows⟩
set_option maxRecDepth 100000 in
set_option maxHeartbeats 4000000 in
theorem dur_early (who : Int) (a0 : Option Addr) (len cap : Nat) (hlen : len ≤ 9223372036854775807) (w : World) (hno : who < 0 ∨ 1 < who ∨ 40 < len) :
  Calls Tryz.prog 5 #[.int .i64 who, .slice a0 len cap] w fun e w' => e = .returned (.bool true) ∧ Kept [] w w' := by
 have q := lives_any w
 by_cases h1 : who < 0
 ·go_enter Tryz.func5, Tryz.ntmps5
  go_wp2_with (go_at_call 7; refine q.mono ?_; rintro e w1 ⟨rfl, hk1⟩)
  go_ret
  exact ⟨rfl, hk1⟩
 by_cases h2 : 1 < who
 ·go_enter Tryz.func5, Tryz.ntmps5
  go_wp2_with (go_at_call 7; refine q.mono ?_; rintro e w1 ⟨rfl, hk1⟩)
  go_ret
  exact ⟨rfl, hk1⟩
 have h3 : (40 : Int) < (len : Int) := by omega
 go_enter Tryz.func5, Tryz.ntmps5
 go_wp2_with (go_at_call 7; refine q.mono ?_; rintro e w1 ⟨rfl, hk1⟩)
 go_ret
 exact ⟨rfl, hk1⟩
theorem plays_start (who : Int) (d b1 b2 m : Nat) (K : List Nat) (w A W : World) (hkA : Kept [] w A) (hl : w.heap.size ≤ d ∧ w.heap.size ≤ b1 ∧ w.heap.size ≤ b2) (hk : Kept [] A W) (H : MiAt W A.heap.size m d b1 b2 K ⟨made 24, 3, Bits.Math.elems 0, [], [], decide (who = 0)⟩) : Plays w W A.heap.size m d b1 b2 K ⟨made 24, 3, Bits.Math.elems 0, [], [], decide (who = 0)⟩ 0 := by
 have hv : Dry (made 24) := ⟨valid_made 24 (by omega) (by omega), ⟨rfl, by show (-1 : Int) < 0; omega⟩, fun _ => rfl⟩
 refine ⟨H, ⟨⟨hv, rfl, Flight.good_nil, fun x hx => (by cases hx), fun x hx => (by cases hx)⟩, fun x hx => (by cases hx), Hot.Good.elems 0, fun x hx => (by cases hx)⟩, ⟨by show (24 : Nat) ≤ 1024; omega, by show (0 : Nat) ≤ _; omega, Nat.zero_le _, Nat.zero_le _⟩, hkA.trans hk, ⟨hkA.size, hl⟩⟩
theorem _root_.Go.Proofs.YtoaeficfmcncjaaGreat.Flight.Lies.range {ty : TypeId} {W : World} {g off : Nat} {xs : List Fv} (h : Flight.Lies ty W g off xs) {i : Nat} {x : Fv} (hx : xs[i]? = some x) : W.rangeAt g (off + i * 5) x.cells := fun c v hv => by
 obtain ⟨cur, h1, _, h3⟩ := h
 have hc : c < 5 := by
  have := (List.getElem?_eq_some_iff.1 hv).1
  exact this
 exact (h1.cell _).trans ((h3 i x hx c hc).trans hv)
theorem fv_cells {x : Fv} {W : World} {g : Nat} (h : Blk W g 94 x.cells.toArray) : W.cell? ⟨g, 0, none⟩ = some (.int .i64 x.t) ∧ W.cell? ⟨g, 1, none⟩ = some (.int .i64 x.o) ∧ W.cell? ⟨g, 2, none⟩ = some (.int .i64 x.l) ∧ W.cell? ⟨g, 3, none⟩ = some (.slice x.sa x.len x.cap) ∧ W.cell? ⟨g, 4, none⟩ = some (.int .i64 x.st) :=
 ⟨(h.cell 0).trans rfl, (h.cell 1).trans rfl, (h.cell 2).trans rfl, (h.cell 3).trans rfl, (h.cell 4).trans rfl⟩
theorem nums_nil {W : World} {base : Nat} {v : Value} (h : Nums W base v []) : ∃ a cap, v = .slice a 0 cap := by
 obtain ⟨_, ⟨rfl, _⟩ | ⟨g, cap, cur, rfl, _⟩⟩ := h
 ·exact ⟨_, _, rfl⟩
 ·exact ⟨_, _, rfl⟩
set_option maxRecDepth 100000 in
set_option maxHeartbeats 8000000 in
theorem dur_play (who : Int) (hw : who = 0 ∨ who = 1) (a0 : Option Addr) (len cap0 : Nat) (acts : List Ac) (hlen : len ≤ 40) (w : World) (hacts : AcsAt w.heap.size w a0 len cap0 acts) :
  Calls Tryz.prog 5 #[.int .i64 who, .slice a0 len cap0] w fun e w' => e = .returned (.bool true) ∧ Kept [] w w' := by
 have q7 := lives_any
 have q8 : Calls Tryz.prog 8 #[.int .i64 24] w fun e w' => e = .returned (.tuple #[.pointer (some ⟨w.heap.size + 2, 0, none⟩), .int .i64 0]) ∧ DiskAt w' (w.heap.size + 2) w.heap.size (w.heap.size + 1) (made 24) ∧ Kept [] w w' := new_any 24 (by omega) (by omega) w
 have q9 : ∀ W d b1 b2, DiskAt W d b1 b2 (made 24) → Calls Tryz.prog 10 #[.pointer (some ⟨d, 0, none⟩), .int .i64 3, .int .i64 who, .int .u64 0] W fun e w' => ∃ m K, e = .returned (.tuple #[.pointer (some ⟨m, 0, none⟩), .int .i64 0]) ∧ MiAt w' W.heap.size m d b1 b2 K ⟨made 24, 3, Bits.Math.elems 0, [], [], decide (who = 0)⟩ ∧ Kept [] W w' := fun W d b1 b2 h => new_ok 3 0 who hw (by omega) (by omega) (by omega) W h
 have g0 : ¬ (who < 0) := by omega
 have g1 : ¬ (1 < who) := by omega
 have g2 : ¬ ((40 : Int) < (len : Int)) := by omega
 go_enter Tryz.func5, Tryz.ntmps5
 go_wp2_with (first
  | (go_at_call 8; refine q8.mono ?_; rintro e w4 ⟨rfl, hD, hk4⟩)
  | (go_at_call 10; refine (q9 _ _ _ _ hD).mono ?_; rintro e w5 ⟨m, K, rfl, hM, hk5⟩))
 have hP0 := plays_start who _ _ _ m K w w4 w5 hk4 ⟨by omega, by omega, by omega⟩ hk5 hM
 clear q8 q9 g0 g1 g2 hD hM hk5 hk4 hw
 generalize (⟨made 24, 3, Bits.Math.elems 0, [], [], decide (who = 0)⟩ : Mr) = M0 at *
 obtain ⟨d, hd⟩ : ∃ d, w.heap.size + 2 = d := ⟨_, rfl⟩
 obtain ⟨b1, hb1⟩ : ∃ b1, w.heap.size = b1 := ⟨_, rfl⟩
 obtain ⟨b2, hb2⟩ : ∃ b2, w.heap.size + 1 = b2 := ⟨_, rfl⟩
 obtain ⟨lo, hlo⟩ : ∃ lo, w4.heap.size = lo := ⟨_, rfl⟩
 replace hP0 : Plays w w5 lo m d b1 b2 K M0 0 := by rw [← hd, ← hb1, ← hb2, ← hlo]; exact hP0
 rw [hd]
 clear hd hb1 hb2 hlo
 go_loopw [41] (fun i wr => ∃ (j : Nat) (K : List Nat) (M : Mr), j ≤ len ∧ i = .int .i64 j ∧ Plays w wr lo m d b1 b2 K M j) (fun i _ => len - (RowKit.intOf i).toNat)
 case atStart => exact ⟨0, K, M0, by omega, rfl, hP0⟩
 case round =>
  clear hP0
  obtain ⟨j, K, M, hj, rfl, hP⟩ := hrel
  by_cases hlt : j < len
  ·obtain ⟨a, blk, off, ha, hok, rfl, hblk, hcs⟩ := (hacts.kept (Nat.le_refl _) hP.kept (by simp)).at hlt
   have hr : Hid (wr.rangeAt blk (off + j * 12) a.cells) := hcs
   have kk4 : (j : Int) < (len : Int) := by omega
   have hm1 : Hid (len - (j + 1) < len - j) := by show _ < _; omega
   have hz0 : Blk (wr.alloc (.cells #[.int .i64 0, .int .i64 0, .int .u64 0, .int .i64 0, .int .i64 0, .slice none 0 0, .int .i64 0, .int .i64 0, .int .i64 0, .int .u64 0, .bool false, .slice none 0 0] 49)) wr.heap.size 49 #[.int .i64 0, .int .i64 0, .int .u64 0, .int .i64 0, .int .i64 0, .slice none 0 0, .int .i64 0, .int .i64 0, .int .i64 0, .int .u64 0, .bool false, .slice none 0 0] := blk_new wr 49 _
   have hsz : Hid (a.cells.length = 12) := rfl
   clear hcs hacts ha
   by_cases hbig : 200 < a.bn
   ·have kb : (200 : Int) < (a.bn : Int) := by omega
    go_wp2_with (first
     | refine wpList_load_mid rfl 49 _ rfl blk (off + j * 12) rfl a.cells _ hr.out Tryz.underlying49 rfl (by rw [hsz.out]; exact Tryz.sizeAct) ?_
     | (refine wpList_store_blk rfl 49 _ _ rfl wr.heap.size 49 _ a.cells rfl rfl hz0 hsz.out (by rw [hsz.out]; exact Tryz.sizeAct) a.one ?_; intro w7 hB7 hk7 hz7; have hk07 : Kept [] wr w7 := (kept_alloc [] wr _).young hk7 (Nat.le_refl _); have hB7' : a.In w7 wr.heap.size := hB7; obtain ⟨c0, c1, c2, c3, c4, c5, c6, c7, c8, c9, c10, c11⟩ := hB7'.all)
     | (go_at_call 7; refine (q7 _).mono ?_; rintro e w8 ⟨rfl, hk8⟩))
    go_ret
    exact ⟨rfl, (hP.kept.trans hk07).trans hk8⟩
   have kb : ¬ ((200 : Int) < (a.bn : Int)) := by omega
   by_cases hbig2 : 200 < a.x.len
   ·have kb2 : (200 : Int) < (a.x.len : Int) := by omega
    go_wp2_with (first
     | refine wpList_load_mid rfl 49 _ rfl blk (off + j * 12) rfl a.cells _ hr.out Tryz.underlying49 rfl (by rw [hsz.out]; exact Tryz.sizeAct) ?_
     | (refine wpList_store_blk rfl 49 _ _ rfl wr.heap.size 49 _ a.cells rfl rfl hz0 hsz.out (by rw [hsz.out]; exact Tryz.sizeAct) a.one ?_; intro w7 hB7 hk7 hz7; have hk07 : Kept [] wr w7 := (kept_alloc [] wr _).young hk7 (Nat.le_refl _); have hB7' : a.In w7 wr.heap.size := hB7; obtain ⟨c0, c1, c2, c3, c4, c5, c6, c7, c8, c9, c10, c11⟩ := hB7'.all)
     | (go_at_call 7; refine (q7 _).mono ?_; rintro e w8 ⟨rfl, hk8⟩))
    go_ret
    exact ⟨rfl, (hP.kept.trans hk07).trans hk8⟩
   have kb2 : ¬ ((200 : Int) < (a.x.len : Int)) := by omega
   go_upto_block 2 with (first
    | refine wpList_load_mid rfl 49 _ rfl blk (off + j * 12) rfl a.cells _ hr.out Tryz.underlying49 rfl (by rw [hsz.out]; exact Tryz.sizeAct) ?_
    | (refine wpList_store_blk rfl 49 _ _ rfl wr.heap.size 49 _ a.cells rfl rfl hz0 hsz.out (by rw [hsz.out]; exact Tryz.sizeAct) a.one ?_; intro w7 hB7 hk7 hz7; have hk07 : Kept [] wr w7 := (kept_alloc [] wr _).young hk7 (Nat.le_refl _); have hB7' : a.In w7 wr.heap.size := hB7; obtain ⟨c0, c1, c2, c3, c4, c5, c6, c7, c8, c9, c10, c11⟩ := hB7'.all))
   have hP7 := hP.on hk07
   have hK7 : Kept [] w w7 := hP7.kept
   have hrow : Pack.ByteRow 0 w.heap.size w7 (.slice a.ba a.bn a.bc) a.bs := hok.row.kept hP.kept.size hk07 (by simp)
   have hmsg := hok.msg.kept hP.kept.size hk07 (by simp)
   have hbl := row_len hrow
   have hxl := row_len hmsg.row
   have hF : M.fly.length ≤ 600 := by have := hP.much.fly; omega
   have hL : M.lat.length ≤ 900000 := by have := hP.much.lat; omega
   have hO : M.d.ops + 1030 * M.lat.length + 1030 * M.fly.length ≤ 100000000 := by have h1 := hP.much.ops; have h2 := hP.much.fly; have h3 := hP.much.lat; omega
   have hj40 : j ≤ 400 := by omega
   clear hP
   go_cut [] from 57 to 130 (fun W => ∃ K' M', Plays w W lo m d b1 b2 K' M' (j + 1))
   case first =>
    by_cases n0 : a.k = 0
    ·have q := write_any a.t a.o a.l a.ba a.bn a.bc a.bs hok.t0 hok.t1 w7 hP7.at_ (bts_in hrow hK7.size hP7.past) (by omega) hF hL (by omega)
     go_wp2_with (go_at_call 31; refine q.mono ?_; clear q; rintro e w8 ⟨v, Q, K', rfl, hT, hG⟩)
     go_meet
     case rel => exact ⟨K', _, hP7.goes hG (hP7.dur.write _ hrow.1) (hP7.much.write _)⟩
    by_cases n1 : a.k = 1
    ·have q := take_any a.x hmsg.i0 hmsg.i1 w7 hP7.at_ (bts_in hmsg.row hK7.size hP7.past) (by omega) hF (by omega) (by omega)
     simp only [Mv.val] at q
     go_wp2_with (go_at_call 34; refine q.mono ?_; clear q; rintro e w8 ⟨vi, v, Q, K', rfl, hI, hT, hG⟩)
     go_meet
     case rel => exact ⟨K', _, hP7.goes hG (hP7.dur.take _ hmsg.row.1) (hP7.much.take _)⟩
    by_cases n2 : a.k = 2
    ·have q := go_any w7 hP7.at_ hF hL (by omega)
     go_wp2_with (go_at_call 35; refine q.mono ?_; clear q; rintro e w8 ⟨v, Q, K', rfl, hT, hG⟩)
     go_meet
     case rel => exact ⟨K', _, hP7.goes hG hP7.dur.go (hP7.much.go hj40)⟩
    by_cases n3 : a.k = 3
    ·have q := hold_any w7 hP7.at_ hF (by omega)
     go_wp2_with (go_at_call 36; refine q.mono ?_; clear q; rintro e w8 ⟨K', rfl, hG⟩)
     go_meet
     case rel => exact ⟨K', _, hP7.goes hG hP7.dur.hold (hP7.much.hold hj40)⟩
    by_cases n4 : a.k = 4
    ·have q := release_any w7 hP7.at_ hF
     go_wp2_with (go_at_call 37; refine q.mono ?_; clear q; rintro e w8 ⟨sa, n, cap, K', rfl, hI, hG⟩)
     go_meet
     case rel => exact ⟨K', _, hP7.goes hG hP7.dur.release hP7.much.release⟩
    go_wp2_with fail
    go_meet
    case rel => exact ⟨K, M, hP7.at_, hP7.dur, hP7.much.up, hP7.kept, hP7.lows⟩
   case rest =>
    obtain ⟨K', M', hP'⟩ := hcut
    have hF' : M'.fly.length ≤ 600 := by have := hP'.much.fly; omega
    have qf := flights_any wc hP'.at_ hF'
    clear hP7 hK7 hrow hmsg hF hL hO hr hz0 c0 c1 c2 c3 c4 c5 c6 c7 c8 c9 c10 c11 hB7 hB7' hk7 hz7 hk07 hsz hbl hxl hok kb kb2 hbig hbig2 hj40
    go_wp2_with (go_at_call 21; refine qf.mono ?_; clear qf; rintro e w8 ⟨v, rfl, ⟨xs, hxL, hxA, hxW⟩, hk8⟩; obtain ⟨sa, cp, rfl, hcp, hcase⟩ := hxW.open; obtain ⟨n, hnn⟩ : ∃ n, xs.length = n := ⟨_, rfl⟩; rw [hnn] at hcp ⊢; replace hnn : Hid _ := hnn)
    have hP8 := hP'.on hk8
    have hn40 : n ≤ 600 := by have h1 := hnn.out; have h2 := congrArg List.length hxL; rw [List.length_map] at h2; omega
    replace hcase : Hid (xs = [] ∨ ∃ g off, sa = some ⟨g, off, none⟩ ∧ wc.heap.size ≤ g ∧ Flight.Lies 94 w8 g off xs) := hcase
    go_loopw [90] (fun i wq => ∃ q : Nat, i = .int .i64 q ∧ q ≤ n ∧ Kept [] w8 wq) (fun i _ => n - (RowKit.intOf i).toNat)
    case atStart => exact ⟨0, rfl, Nat.zero_le _, Kept.refl _ _⟩
    case round =>
     obtain ⟨q, rfl, hq, hkq⟩ := hrel
     by_cases hin : q < n
     ·have hin' : (q : Int) < (n : Int) := by omega
      have hqc : (q : Int) < (cp : Int) := by omega
      obtain ⟨g, off, rfl, hg, hLi⟩ : ∃ g off, sa = some ⟨g, off, none⟩ ∧ wc.heap.size ≤ g ∧ Flight.Lies 94 w8 g off xs := by
       rcases hcase.out with h0 | h0
       ·have := hnn.out
        rw [h0] at this
        simp at this
        omega
       ·exact h0
      obtain ⟨x, hx⟩ : ∃ x, xs[q]? = some x := ⟨_, List.getElem?_eq_getElem (by rw [hnn.out]; exact hin)⟩
      have hmem : (x.t, x.fw) ∈ M'.fly := by rw [← hxL]; exact List.mem_map.2 ⟨x, List.mem_of_getElem? hx, rfl⟩
      have hxin := ((hxA x (List.mem_of_getElem? hx)).kept0 hkq)
      obtain ⟨t1, t2⟩ := hP'.dur.told hmem
      have t3 := andNot_of_in (Span.Math.ofL_lt _) (Hot.mask_lt M'.hot) (hP'.dur.extents hmem)
      have x3 := u64_andNot_nat (Span.Math.ext x.o x.l) (Hot.mask M'.hot) (Span.Math.ofL_lt _) (Hot.mask_lt M'.hot)
      rw [show Span.Math.ext x.o x.l &&& (18446744073709551615 - Hot.mask M'.hot) = 0 from t3] at x3
      have hr5 : Hid (wr.rangeAt g (off + q * 5) x.cells) := (hLi.kept hkq (by simp)).range hx
      have hz5 : Blk (wr.alloc (.cells #[.int .i64 0, .int .i64 0, .int .i64 0, .slice none 0 0, .int .i64 0] 94)) wr.heap.size 94 #[.int .i64 0, .int .i64 0, .int .i64 0, .slice none 0 0, .int .i64 0] := blk_new wr 94 _
      have hs5 : Hid (x.cells.length = 5) := rfl
      have hm5 : Hid (n - (q + 1) < n - q) := by show _ < _; omega
      have q5 := fun W (h : DiskAt W d b1 b2 M'.d) => dRead_any d b1 b2 M'.d x.o x.l W h
      rw [show gotE M'.d x.o x.l = 0 from t1] at q5
      have q6 := fun W => Span.refExtents_any x.o x.l W
      have q7' := fun W (h : MiAt W lo m d b1 b2 K' M') => hot_any W h
      have hP10 := hP8.on hkq
      by_cases hst : x.st = 1
      ·go_wp2_with (first
        | refine wpList_load_mid rfl 94 _ rfl g (off + q * 5) rfl x.cells _ hr5.out Tryz.underlying94 rfl (by rw [hs5.out]; exact Tryz.sizeFw) ?_
        | (refine wpList_store_blk rfl 94 _ _ rfl wr.heap.size 94 _ x.cells rfl rfl hz5 hs5.out (by rw [hs5.out]; exact Tryz.sizeFw) (Fv.one x) ?_; intro w9 hB9 hk9 hz9; have hk09 : Kept [] wr w9 := (kept_alloc [] wr _).young hk9 (Nat.le_refl _); have hB9' : Blk w9 wr.heap.size 94 x.cells.toArray := hB9; have hP9 := hP10.on hk09; obtain ⟨c0, c1, c2, c3, c4⟩ := fv_cells hB9')
        | (go_at_call 38; refine (q5 _ hP9.at_.disk).mono ?_; clear q5; rintro e w11 ⟨v2, rfl, hrow2, hk11⟩; obtain ⟨a2, cap2, rfl⟩ := hrow2.slice; have hP11 := hP9.on hk11; obtain ⟨d0, d1, d2, d3, d4⟩ := fv_cells (hB9'.kept hk11 (by simp)))
        | (go_at_call 39; refine (q6 _).mono ?_; rintro e w12 ⟨rfl, hB12⟩; have hk12 := of_below hB12; have hP12 := hP11.on hk12)
        | (go_at_call 17; refine (q7' _ hP12.at_).mono ?_; rintro e w13 ⟨rfl, hk13⟩))
       go_roundw
       case rel => exact ⟨q + 1, by go_num, by omega, (((hkq.trans hk09).trans hk11).trans hk12).trans hk13⟩
       case measure => simpa [RowKit.intOf] using hm5.out
      ·rw [show gotL M'.d x.o x.l = x.bs from t2 hst] at q5
       go_wp2_with (first
        | refine wpList_load_mid rfl 94 _ rfl g (off + q * 5) rfl x.cells _ hr5.out Tryz.underlying94 rfl (by rw [hs5.out]; exact Tryz.sizeFw) ?_
        | (refine wpList_store_blk rfl 94 _ _ rfl wr.heap.size 94 _ x.cells rfl rfl hz5 hs5.out (by rw [hs5.out]; exact Tryz.sizeFw) (Fv.one x) ?_; intro w9 hB9 hk9 hz9; have hk09 : Kept [] wr w9 := (kept_alloc [] wr _).young hk9 (Nat.le_refl _); have hB9' : Blk w9 wr.heap.size 94 x.cells.toArray := hB9; have hP9 := hP10.on hk09; obtain ⟨c0, c1, c2, c3, c4⟩ := fv_cells hB9')
        | (go_at_call 38; refine (q5 _ hP9.at_.disk).mono ?_; clear q5; rintro e w11 ⟨v2, rfl, hrow2, hk11⟩; obtain ⟨a2, cap2, rfl⟩ := hrow2.slice; have hP11 := hP9.on hk11; obtain ⟨d0, d1, d2, d3, d4⟩ := fv_cells (hB9'.kept hk11 (by simp)); have hc1 : (convert 45 9 (.slice a2 x.bs.length cap2)).run Tryz.prog w11 = .ok (.string (Flight.txt x.bs)) w11 := conv_txt hrow2; have hc2 := Flight.conv_txt ((hxin.kept0 hk09).kept0 hk11).in)
        | (go_at_call 39; refine (q6 _).mono ?_; rintro e w12 ⟨rfl, hB12⟩; have hk12 := of_below hB12; have hP12 := hP11.on hk12)
        | (go_at_call 17; refine (q7' _ hP12.at_).mono ?_; rintro e w13 ⟨rfl, hk13⟩))
       go_roundw
       case rel => exact ⟨q + 1, by go_num, by omega, (((hkq.trans hk09).trans hk11).trans hk12).trans hk13⟩
       case measure => simpa [RowKit.intOf] using hm5.out
     ·obtain rfl : q = n := by omega
      have hlt' : ¬ ((q : Int) < (q : Int)) := by omega
      have hP10 := hP8.on hkq
      have qc := cached_any d b1 b2 M'.d wr hP10.at_.disk
      rw [keys_dry hP'.dur.lies.dry] at qc
      go_wp2_with (go_at_call 33; refine qc.mono ?_; clear qc; rintro e w9 ⟨v9, rfl, hN9, hk9⟩; obtain ⟨a9, cap9, rfl⟩ := nums_nil hN9)
      go_roundw
      case rel => exact ⟨j + 1, K', M', by omega, by go_num, hP10.on hk9⟩
      case measure => simpa [RowKit.intOf] using hm1.out
  ·obtain rfl : j = len := by omega
   have hlt' : ¬ ((j : Int) < (j : Int)) := by omega
   clear hacts
   go_wp2_with (go_at_call 7; refine (q7 _).mono ?_; rintro e w8 ⟨rfl, hk8⟩)
   go_ret
   exact ⟨rfl, hP.kept.trans hk8⟩
end Go.Proofs.YtoaeficfmcncjaaGreat.Mirror
