/-
  The document's flights in memory: the walks of List, Own and Extents; twainref01.Both.
-/
import Derived.Test.YtollfckgjhklcaaGreatFlY
namespace Go.Proofs.YtollfckgjhklcaaGreat.Flight
open Go.RowKit Go.Maps Go.Sort
open Table (Rising ins del tks)
open Bits Bits.Math

/-- One of the document's writes, where it lies. -/
theorem RFl.at {w : World} {lo hi r : Nat} {P : List Fv} (h : RFl w lo hi r P) {a : Option Addr} {n cap : Nat} (hr : Blk w r 31 #[.slice a n cap]) {j : Nat} {y : Fv} (hy : P[j]? = some y) : ∃ b off, a = some ⟨b, off, none⟩ ∧ Lies 42 w b off P := by
  obtain ⟨v, hr', a', cap', rfl, hc, hm, hrow⟩ := h.row
  unfold Blk at hr hr'
  rw [hr] at hr'
  simp at hr'
  obtain ⟨e, _, _⟩ := hr'
  rcases hrow with ⟨-, -, h4⟩ | ⟨b, off, e2, -, hL⟩
  · rw [h4] at hy
    simp at hy
  · exact ⟨b, off, e.trans e2, hL⟩
theorem RFl.slice {w : World} {lo hi r : Nat} {P : List Fv} (h : RFl w lo hi r P) : ∃ a cap, Blk w r 31 #[.slice a P.length cap] := by
  obtain ⟨v, hr', a', cap', rfl, hc, hm, hrow⟩ := h.row
  exact ⟨a', cap', hr'⟩
set_option maxRecDepth 100000 in
set_option maxHeartbeats 2000000 in
/-- List -/
theorem rlist_any {lo hi r : Nat} {P : List Fv} (w : World) (h : RFl w lo hi r P) (hn6 : P.length ≤ 600) :
    Calls Tryz.prog 22 #[.pointer (some ⟨r, 0, none⟩)] w fun e w' => ∃ v : Value, e = .returned v ∧ Listed 42 w.heap.size w' v (tl P) ∧ Kept [] w w' := by
  obtain ⟨a, cap, hr⟩ := h.slice
  obtain ⟨len, hlen⟩ : ∃ len, P.length = len := ⟨_, rfl⟩
  rw [hlen] at hr hn6
  have c0 := (hr.cell 0).trans (show _ = some (Value.slice a len cap) from rfl)
  replace hlen : Hid (P.length = len) := hlen
  have hH : Hid (RFl w lo hi r P) := h
  have hih := h.hih
  clear h
  go_enter Tryz.func22, Tryz.ntmps22
  go_wp2_with fail
  go_loopw [11, 3] (fun i u wr => ∃ (j : Nat) (xs : List Fv), j ≤ len ∧ i = .int .i64 j ∧ Hid (wr.ownsRow w.heap.size 42 5 u xs.length (cellsL xs)) ∧ Hid (tl xs = (tl P).take j) ∧ Hid (∀ x ∈ xs, x.At w.heap.size wr.heap.size wr) ∧ Kept [] w wr) (fun i _ _ => len - (RowKit.intOf i).toNat)
  case atStart => exact ⟨0, [], by omega, rfl, World.ownsRow_nil _ _ _ _, rfl, (fun x hx => by cases hx), Kept.refl _ _⟩
  case round =>
    obtain ⟨j, xs, hj, rfl, hI, hT, hA, hk⟩ := hrel
    by_cases hlt : j < len
    · have hil : (j : Int) < (len : Int) := by omega
      have hj1 : (j : Int) + 1 < 9223372036854775808 := by omega
      obtain ⟨y, hy⟩ : ∃ y, P[j]? = some y := ⟨_, List.getElem?_eq_getElem (by rw [hlen.out]; exact hlt)⟩
      obtain ⟨b, off, rfl, hL⟩ := hH.out.at hr hy
      obtain ⟨d0, d1, d2, d3, d4⟩ := hL.at hy hk (by simp)
      have hxl : Hid (xs.length = j) := (show _ = _ by have := congrArg List.length hT.out; rw [tl_length, List.length_take, tl_length, hlen.out] at this; omega)
      have eT : Hid (∀ z : Fv, z.t = y.t → z.fw = y.fw → tl (xs ++ [z]) = (tl P).take (j + 1)) := fun z h1 h2 => by
        rw [tl_append, hT.out, List.take_add_one, tl_at hy]
        show _ ++ [(z.t, z.fw)] = _
        rw [h1, h2]
        rfl
      have hyA := hH.out.byt y (List.mem_of_getElem? hy)
      have hys := hH.out.fit.short _ (List.mem_of_getElem? (tl_at hy))
      have kA := kept_alloc [] wr (.cells #[.int .i64 y.t, .int .i64 y.o, .int .i64 y.l, .slice y.sa y.len y.cap, .int .i64 y.st] 42)
      have q := rcopied_any y hi _ (hyA.kept0 (hk.trans kA)).in (Nat.le_trans hih (hk.trans kA).size) hys
      unfold Fv.val at q
      have hl2 : Hid (∀ z : Fv, xs.length + [z].length ≤ 2000) := fun z => (by rw [hxl.out]; simp; omega)
      replace hyA : Hid _ := hyA
      clear hy hL hys
      go_wp2_with (first
        | (go_at_call 34; refine q.mono ?_; rintro e w4 ⟨z, rfl, hzt, hzw, hzA, hk4⟩; replace hzt : Hid (z.t = y.t) := hzt; replace hzw : Hid (z.fw = y.fw) := hzw; have k5 := kept_alloc [] w4 (.cells #[.int .i64 z.t, .int .i64 z.o, .int .i64 z.l, .slice z.sa z.len z.cap, .int .i64 z.st] 42); have hk5 := (kA.trans hk4).trans k5; have hr5 : Hid ((w4.alloc (.cells #[.int .i64 z.t, .int .i64 z.o, .int .i64 z.l, .slice z.sa z.len z.cap, .int .i64 z.st] 42)).ownsRow w.heap.size 42 5 _ xs.length (cellsL xs)) := owns_kept0 hI.out hk5; have hu5 : Hid (RAt (w4.alloc (.cells #[.int .i64 z.t, .int .i64 z.o, .int .i64 z.l, .slice z.sa z.len z.cap, .int .i64 z.st] 42)) w4.heap.size (.slice (some ⟨w4.heap.size, 0, none⟩) 1 1) [z]) := rat_one w4 z; have hbig := Nat.le_trans hk.size hk5.size; replace hbig : Hid _ := hbig; replace hzA : Hid (z.At _ w4.heap.size w4) := hzA)
        | (at_builtin; refine wpList_append_rows rfl _ _ rfl w.heap.size w4.heap.size _ _ xs [z] rfl hr5.out rfl hu5.out (hl2.out z) hbig.out ?_; intro v6 w6 hr6 hg6 hw6; have hk6 : Kept [] w w6 := kept_grown hr5.out hg6 w (hk.trans hk5) (Nat.le_refl _); have hz6 : Hid (z.At _ w6.heap.size w6) := rgrown (hzA.out.kept0 k5) k5.size hr5.out hg6; have hA6 : Hid (∀ x ∈ xs, x.At w.heap.size w6.heap.size w6) := (fun x hx => rgrown ((hA.out x hx).kept0 hk5) hk5.size hr5.out hg6); clear hu5 hr5 hw6 hg6))
      go_roundw
      case rel =>
        refine ⟨j + 1, xs ++ [z], by omega, by go_num, hr6, eT.out z hzt.out hzw.out, fun x hx => ?_, hk6⟩
        rcases List.mem_append.1 hx with hx | hx
        · exact hA6.out x hx
        · simp at hx
          rw [hx]
          exact hz6.out.mono (Nat.le_trans hk.size kA.size) (Nat.le_refl _)
      case measure => show len - (((j : Int) + 1).toNat) < len - ((j : Int).toNat); omega
    · obtain rfl : j = len := by omega
      have i1 : ¬ ((j : Int) < (j : Int)) := by omega
      have et : (tl P).take j = tl P := List.take_of_length_le (by rw [tl_length, hlen.out]; exact Nat.le_refl _)
      rw [et] at hT
      clear et
      go_wp2_with fail
      go_ret
      exact ⟨_, rfl, ⟨xs, hT.out, hA.out, (rat_owns hI.out).wat⟩, hk⟩
set_option maxRecDepth 100000 in
set_option maxHeartbeats 2000000 in
/-- Own -/
theorem rown_any {lo hi r : Nat} {P : List Fv} (w : World) (h : RFl w lo hi r P) (hn6 : P.length ≤ 600) :
    Calls Tryz.prog 26 #[.pointer (some ⟨r, 0, none⟩)] w fun e w' => ∃ v : Value, e = .returned v ∧ OwnOws 79 w' w.heap.size v (owsL (tl P)) ∧ Kept [] w w' := by
  obtain ⟨a, cap, hr⟩ := h.slice
  obtain ⟨len, hlen⟩ : ∃ len, P.length = len := ⟨_, rfl⟩
  rw [hlen] at hr hn6
  have c0 := (hr.cell 0).trans (show _ = some (Value.slice a len cap) from rfl)
  replace hlen : Hid (P.length = len) := hlen
  have hH : Hid (RFl w lo hi r P) := h
  clear h
  go_enter Tryz.func26, Tryz.ntmps26
  go_wp2_with fail
  go_loopw [11, 3] (fun i u wr => ∃ j : Nat, j ≤ len ∧ i = .int .i64 j ∧ OwnOws 79 wr w.heap.size u (owsL ((tl P).take j)) ∧ Kept [] w wr) (fun i _ _ => len - (RowKit.intOf i).toNat)
  case atStart => exact ⟨0, by omega, rfl, own_nil _ _ _, Kept.refl _ _⟩
  case round =>
    obtain ⟨j, hj, rfl, hI, hk⟩ := hrel
    by_cases hlt : j < len
    · have hil : (j : Int) < (len : Int) := by omega
      have hj1 : (j : Int) + 1 < 9223372036854775808 := by omega
      obtain ⟨x, hx⟩ : ∃ y, P[j]? = some y := ⟨_, List.getElem?_eq_getElem (by rw [hlen.out]; exact hlt)⟩
      obtain ⟨b, off, rfl, hL⟩ := hH.out.at hr hx
      obtain ⟨d0, d1, d2, d3, d4⟩ := hL.at hx hk (by simp)
      have ej : Hid (owsL ((tl P).take (j + 1)) = owsL ((tl P).take j) ++ [⟨x.o, x.l, !decide (x.st = 1)⟩]) := by
        show _ = _
        rw [List.take_add_one, tl_at hx]
        simp [owsL, Fv.fw]
      have hll : Hid ((owsL ((tl P).take j)).length ≤ 2000) := by
        show _ ≤ _
        simp [owsL]
        omega
      obtain ⟨sx, hsx⟩ : ∃ sx, (!decide (x.st = 1)) = sx := ⟨_, rfl⟩
      rw [hsx] at ej
      have hsx2 : (!(x.st == 1)) = sx := by rw [← hsx]; rfl
      have hsx3 : (x.st != 1) = sx := hsx2
      have kA := kept_alloc [] wr (.cells #[.int .i64 x.t, .int .i64 x.o, .int .i64 x.l, .slice x.sa x.len x.cap, .int .i64 x.st] 42)
      have kB := kept_alloc [] (wr.alloc (.cells #[.int .i64 x.t, .int .i64 x.o, .int .i64 x.l, .slice x.sa x.len x.cap, .int .i64 x.st] 42)) (.cells #[.int .i64 x.o, .int .i64 x.l, .bool sx] 79)
      have hb := blk_new (wr.alloc (.cells #[.int .i64 x.t, .int .i64 x.o, .int .i64 x.l, .slice x.sa x.len x.cap, .int .i64 x.st] 42)) 79 #[.int .i64 x.o, .int .i64 x.l, .bool sx]
      rw [show (wr.alloc (.cells #[.int .i64 x.t, .int .i64 x.o, .int .i64 x.l, .slice x.sa x.len x.cap, .int .i64 x.st] 42)).heap.size = wr.heap.size + 1 by simp] at hb
      have hIB : Hid (OwnOws 79 _ _ _ _) := hI.kept (kA.trans kB)
      have hbs : Hid _ := Nat.le_trans hk.size (kA.trans kB).size
      replace hb : Hid (Blk _ _ _ _) := hb
      replace hsx : Hid _ := hsx
      clear hx hL hI hsx2
      go_wp2_with (at_builtin; refine wpList_append_owR rfl _ _ rfl w.heap.size _ (owsL ((tl P).take j)) ⟨x.o, x.l, sx⟩ (wr.heap.size + 1) rfl hIB.out rfl hb.out hll.out hbs.out ?_; intro v1 w5 hI1 hg1; have hk5 := kept_grown hIB.out hg1 w (hk.trans (kA.trans kB)) (Nat.le_refl _); rw [← ej.out] at hI1; clear hg1)
      go_roundw
      case rel => exact ⟨j + 1, by omega, by go_num, hI1, hk5⟩
      case measure => show len - (((j : Int) + 1).toNat) < len - ((j : Int).toNat); omega
    · obtain rfl : j = len := by omega
      have i1 : ¬ ((j : Int) < (j : Int)) := by omega
      have et : (tl P).take j = tl P := List.take_of_length_le (by rw [tl_length, hlen.out]; exact Nat.le_refl _)
      rw [et] at hI
      clear et
      go_wp2_with fail
      go_ret
      exact ⟨_, rfl, hI, hk⟩
/-- Both, behind k rounds. -/
def bt (a b k : Nat) : Nat := a ||| (b % 2 ^ k)
theorem bt_bit (a b k j : Nat) : (bt a b k).testBit j = (a.testBit j || (decide (j < k) && b.testBit j)) := by
  unfold bt
  rw [Nat.testBit_or, Nat.testBit_mod_two_pow]
theorem bt_zero (a b : Nat) : bt a b 0 = a := by simp [bt, Nat.mod_one]
theorem bt_all (a b : Nat) (hb : b < 18446744073709551616) : bt a b 64 = a ||| b := by
  unfold bt
  rw [Nat.mod_eq_of_lt (show b < 2 ^ 64 from hb)]
theorem bt_lt (a b k : Nat) (ha : a < 18446744073709551616) (hb : b < 18446744073709551616) : bt a b k < 18446744073709551616 :=
  Nat.or_lt_two_pow (n := 64) ha (Nat.lt_of_le_of_lt (Nat.mod_le _ _) hb)
theorem bt_true {a b k : Nat} (hk : k < 64) (h : b.testBit k = true) : withN (bt a b k) (k : Int) = bt a b (k + 1) := by
  apply Nat.eq_of_testBit_eq
  intro j
  unfold withN
  rw [one_in (by omega) (by omega), Nat.testBit_or, bt_bit, bt_bit, Int.toNat_natCast, Nat.testBit_two_pow]
  by_cases e : k = j
  · subst e
    simp [h]
  · have : (j < k + 1) ↔ (j < k) := by omega
    simp [e, this]
theorem bt_false {a b k : Nat} (h : b.testBit k = false) : bt a b (k + 1) = bt a b k := by
  apply Nat.eq_of_testBit_eq
  intro j
  rw [bt_bit, bt_bit]
  by_cases e : k = j
  · subst e
    simp [h]
  · have : (j < k + 1) ↔ (j < k) := by omega
    simp [this]
set_option maxRecDepth 100000 in
/-- twainref01.Both -/
theorem both_any (a b : Nat) (ha : a < 18446744073709551616) (hb : b < 18446744073709551616) (w : World) :
    Calls Tryz.prog 41 #[.int .u64 (a : Int), .int .u64 (b : Int)] w fun e w' => e = .returned (.int .u64 ((a ||| b : Nat) : Int)) ∧ w' = w := by
  have z := bt_zero a b
  go_enter Tryz.func41, Tryz.ntmps41
  go_wp2
  go_loop [0, 5] (fun x i => ∃ k : Nat, k ≤ 64 ∧ i = .int .i64 k ∧ x = .int .u64 ((bt a b k : Nat) : Int)) (fun _ i => 64 - (RowKit.intOf i).toNat)
  case atStart => exact ⟨0, by omega, rfl, by rw [z]⟩
  case round =>
    clear z
    obtain ⟨k, hk, rfl, rfl⟩ := hrel
    have hl := bt_lt a b k ha hb
    by_cases hlt : k < 64
    · have hh := has_nat (s := b) hlt
      cases h : b.testBit k with
      | true =>
        have HS : Hid (withN (bt a b k) (k : Int) = bt a b (k + 1)) := bt_true hlt h
        rw [h] at hh
        clear h
        go_wp2_with (first
          | (go_at_call 58; refine (refHas_any _ _ _ hb).mono ?_; rw [hh]; rintro e w' ⟨rfl, rfl⟩)
          | (go_at_call 59; refine (refWith_any _ _ _ hl).mono ?_; rw [HS.out]; rintro e w' ⟨rfl, rfl⟩))
        go_round
        case rel => exact ⟨k + 1, by omega, by go_num, rfl⟩
        case measure => simp [RowKit.intOf]; omega
      | false =>
        have HS : Hid (bt a b (k + 1) = bt a b k) := bt_false h
        rw [h] at hh
        clear h
        go_wp2_with (first
          | (go_at_call 58; refine (refHas_any _ _ _ hb).mono ?_; rw [hh]; rintro e w' ⟨rfl, rfl⟩))
        go_round
        case rel => exact ⟨k + 1, by omega, by go_num, by rw [HS.out]⟩
        case measure => simp [RowKit.intOf]; omega
    · obtain rfl : k = 64 := by omega
      go_wp2
      go_ret
      exact ⟨ret_int (by rw [bt_all a b hb]), rfl⟩
theorem exts_take {L : List (Int × Fw)} {j : Nat} {x : Int × Fw} (h : L[j]? = some x) : exts (L.take (j + 1)) = exts (L.take j) ||| Span.Math.ext x.2.o x.2.l := by
  unfold exts
  rw [List.take_add_one, h, List.foldl_append]
  rfl
set_option maxRecDepth 100000 in
set_option maxHeartbeats 1000000 in
/-- Extents -/
theorem rextents_any {lo hi r : Nat} {P : List Fv} (w : World) (h : RFl w lo hi r P) (hn6 : P.length ≤ 600) :
    Calls Tryz.prog 19 #[.pointer (some ⟨r, 0, none⟩)] w fun e w' => e = .returned (.int .u64 (exts (tl P) : Nat)) ∧ Kept [] w w' := by
  obtain ⟨a, cap, hr⟩ := h.slice
  obtain ⟨len, hlen⟩ : ∃ len, P.length = len := ⟨_, rfl⟩
  rw [hlen] at hr hn6
  have c0 := (hr.cell 0).trans (show _ = some (Value.slice a len cap) from rfl)
  replace hlen : Hid (P.length = len) := hlen
  have hH : Hid (RFl w lo hi r P) := h
  clear h
  go_enter Tryz.func19, Tryz.ntmps19
  go_wp2_with fail
  go_loopw [11, 3] (fun i u wr => ∃ j : Nat, j ≤ len ∧ i = .int .i64 j ∧ u = .int .u64 ((exts ((tl P).take j) : Nat) : Int) ∧ Kept [] w wr) (fun i _ _ => len - (RowKit.intOf i).toNat)
  case atStart => exact ⟨0, by omega, rfl, rfl, Kept.refl _ _⟩
  case round =>
    obtain ⟨j, hj, rfl, rfl, hk⟩ := hrel
    by_cases hlt : j < len
    · have hil : (j : Int) < (len : Int) := by omega
      have hj1 : (j : Int) + 1 < 9223372036854775808 := by omega
      obtain ⟨x, hx⟩ : ∃ y, P[j]? = some y := ⟨_, List.getElem?_eq_getElem (by rw [hlen.out]; exact hlt)⟩
      obtain ⟨b, off, rfl, hL⟩ := hH.out.at hr hx
      obtain ⟨d0, d1, d2, d3, d4⟩ := hL.at hx hk (by simp)
      have e1 := exts_take (tl_at hx)
      have hl := exts_lt ((tl P).take j)
      have q := fun W => Span.refExtents_any x.o x.l W
      have q2 := fun W => both_any (exts ((tl P).take j)) (Span.Math.ext x.o x.l) hl (Span.Math.ext_lt x.o x.l) W
      have e2 : Hid (exts ((tl P).take (j + 1)) = exts ((tl P).take j) ||| Span.Math.ext x.o x.l) := e1
      generalize exts ((tl P).take j) = E at *
      generalize Span.Math.ext x.o x.l = X at *
      have kA := kept_alloc [] wr (.cells #[.int .i64 x.t, .int .i64 x.o, .int .i64 x.l, .slice x.sa x.len x.cap, .int .i64 x.st] 42)
      clear hx hL e1 hl
      go_wp2_with (first
        | (go_at_call 42; refine (q _).mono ?_; rintro e w2 ⟨rfl, hb2⟩)
        | (go_at_call 41; refine (q2 _).mono ?_; rintro e w3 ⟨rfl, rfl⟩))
      go_roundw
      case rel => exact ⟨j + 1, by omega, by go_num, by rw [e2.out], hk.trans (kA.trans (Kept.of_below hb2 []))⟩
      case measure => show len - (((j : Int) + 1).toNat) < len - ((j : Int).toNat); omega
    · obtain rfl : j = len := by omega
      have i1 : ¬ ((j : Int) < (j : Int)) := by omega
      have et : (tl P).take j = tl P := List.take_of_length_le (by rw [tl_length, hlen.out]; exact Nat.le_refl _)
      rw [et]
      clear et
      go_wp2_with fail
      go_ret
      exact ⟨rfl, hk⟩
end Go.Proofs.YtollfckgjhklcaaGreat.Flight
