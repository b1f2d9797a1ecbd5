import Derived.Test.YtfiofdmefgkloaaGreatBase
import Derived.Test.YtfiofdmefgkloaaGreatBits1
import Derived.Test.YtfiofdmefgkloaaGreatRoM
import Derived.ChangeKeysEq
/-
  Arbiter, Source and Union, the program's and the document's.
-/
namespace Go.Proofs.YtfiofdmefgkloaaGreat.Role
open Go.RowKit
open Bits Bits.Math

set_option maxRecDepth 100000 in
/-- Arbiter -/
theorem arbiter_any (who : Int) (w : World) : Calls Tryz.prog 75 #[.int .i64 who] w fun e w' => e = .returned (.bool (decide (who = 0))) ∧ w' = w := by
  go_enter Tryz.func75, Tryz.ntmps75
  go_wp2
  go_ret
  exact ⟨ret_bool (by rw [Bool.eq_iff_iff]; simp), rfl⟩
set_option maxRecDepth 100000 in
/-- the document's Arbiter -/
theorem rArbiter_any (who : Int) (w : World) : Calls Tryz.prog 85 #[.int .i64 who] w fun e w' => e = .returned (.bool (decide (who = 0))) ∧ w' = w := by
  go_enter Tryz.func85, Tryz.ntmps85
  go_wp2
  go_ret
  exact ⟨ret_bool (by rw [Bool.eq_iff_iff]; simp), rfl⟩
set_option maxRecDepth 100000 in
/-- the document's Source -/
theorem rSource_any (who : Int) (mine theirs : Bool) (w : World) : Calls Tryz.prog 42 #[.int .i64 who, .bool mine, .bool theirs] w fun e w' => e = .returned (.bool (gives who mine theirs)) ∧ w' = w := by
  have q := rArbiter_any who w
  cases mine <;> cases theirs <;>
  · go_enter Tryz.func42, Tryz.ntmps42
    go_wp2_with (go_at_call 85; refine q.mono ?_; rintro e w1 ⟨rfl, rfl⟩)
    go_ret
    exact ⟨rfl, rfl⟩
set_option maxRecDepth 100000 in
/-- Two bools that are compared. -/
theorem eql_two (a b c d : Bool) (w : World) : (binOp .eql 143 (.agg #[.bool a, .bool b]) (.agg #[.bool c, .bool d])).run Tryz.prog w = .ok (.bool (a == c && b == d)) w := by
  have hc : Tryz.prog.cellsOf 4 = 1 := by kernel_rfl
  have hi : ∃ i, Tryz.prog.info? 4 = some i := ⟨_, rfl⟩
  obtain ⟨i, hi⟩ := hi
  have px : ∀ (x y : Bool) w, (part 4 #[.bool x, .bool y] 0).run Tryz.prog w = .ok (.bool x) w := fun x y w => by
    simp [part, isAgg, run_underlying Tryz.underlying4]
  have py : ∀ (x y : Bool) w, (part 4 #[.bool x, .bool y] 1).run Tryz.prog w = .ok (.bool y) w := fun x y w => by
    simp [part, isAgg, run_underlying Tryz.underlying4]
  rw [run_eql_struct, run_equalIn_array w 9999 _ _ Tryz.underlying143 hi, hc, show List.range 2 = [0, 1] from rfl]
  have pe : ∀ (x y : Bool) w, (Op.equalIn 9999 4 (.bool x) (.bool y)).run Tryz.prog w = .ok (x == y) w := fun x y w => run_equalIn_bool w 9998 4 x y Tryz.underlying4
  cases a <;> cases b <;> cases c <;> cases d <;> simp [Op.eqItems, px, py, pe]
set_option maxRecDepth 100000 in
/-- Source -/
theorem source_any (who : Int) (mine theirs : Bool) (w : World) : Calls Tryz.prog 37 #[.int .i64 who, .bool mine, .bool theirs] w fun e w' => e = .returned (.bool (gives who mine theirs)) ∧ Below w.heap.size w w' := by
  have q := fun w => arbiter_any who w
  have e2 := eql_two mine theirs
  cases mine <;> cases theirs <;>
  · go_enter Tryz.func37, Tryz.ntmps37
    go_wp2_with (go_at_call 75; refine (q _).mono ?_; rintro e w1 ⟨rfl, rfl⟩)
    go_ret
    exact ⟨rfl, (Below.refl _ _).alloc (Nat.le_refl _) _⟩
set_option maxRecDepth 100000 in
/-- Row from 0 on -/
theorem row_any (n : Int) (w : World) : Calls Tryz.prog 70 #[.int .i64 0, .int .i64 n] w fun e w' => e = .returned (.int .u64 ((row 0 (min n.toNat 64) : Nat) : Int)) ∧ w' = w := by
  by_cases h : 1 ≤ n
  · exact rowIn_any 0 n w (by omega) h
  · refine (rowOut_any 0 n w (.inl (by omega))).mono ?_
    rintro e w' ⟨rfl, rfl⟩
    have : n.toNat = 0 := by omega
    rw [this]
    exact ⟨rfl, rfl⟩
theorem quo4 (z : Int) (h0 : -9223372036854775808 ≤ z) (h1 : z ≤ 9223372036854775807) : (wrap64 (z.tdiv 4)).toNat = (z / 4).toNat := by
  by_cases h : 0 ≤ z
  · rw [Int.tdiv_eq_ediv_of_nonneg h]
    unfold wrap64
    omega
  · obtain ⟨m, rfl⟩ : ∃ m, z = -m := ⟨-z, by omega⟩
    rw [Int.neg_tdiv, Int.tdiv_eq_ediv_of_nonneg (by omega)]
    unfold wrap64
    omega
set_option maxRecDepth 100000 in
/-- Union -/
theorem union_any (a b : Nat) (z : Int) (ha : a < 18446744073709551616) (hb : b < 18446744073709551616) (h0 : -9223372036854775808 ≤ z) (h1 : z ≤ 9223372036854775807) (w : World) :
    Calls Tryz.prog 34 #[.int .u64 (a : Int), .int .u64 (b : Int), .int .i64 z] w fun e w' => e = .returned (.int .u64 ((uni a b z : Nat) : Int)) ∧ w' = w := by
  have q := fun n w => row_any n w
  have o := u64_or_nat a b ha hb
  have H0 : Hid (-9223372036854775808 ≤ z) := h0
  have H1 : Hid (z ≤ 9223372036854775807) := h1
  clear h0 h1
  go_enter Tryz.func34, Tryz.ntmps34
  go_wp2_with (go_at_call 70; refine (q _ _).mono ?_; rintro e w' ⟨rfl, rfl⟩)
  go_ret
  refine ⟨ret_int ?_, rfl⟩
  rw [quo4 z H0.out H1.out, show min (z / 4).toNat 64 = exts z from rfl]
  have hr : row 0 (exts z) < 18446744073709551616 := row_lt64 (by have := exts_le z; omega)
  rw [u64_and_nat _ _ (Nat.or_lt_two_pow (n := 64) ha hb) hr, and_row]
  rfl
/-- Both, behind k rounds. -/
def bt (a b k : Nat) : Nat := a ||| (b % 2 ^ k)
theorem bt_bit (a b k j : Nat) : (bt a b k).testBit j = (a.testBit j || (decide (j < k) && b.testBit j)) := by
  unfold bt
  rw [Nat.testBit_or, Nat.testBit_mod_two_pow]
theorem bt_zero (a b : Nat) : bt a b 0 = a := by simp [bt, Nat.mod_one]
theorem bt_all (a b : Nat) (hb : b < 18446744073709551616) : bt a b 64 = a ||| b := by
  unfold bt
  rw [Nat.mod_eq_of_lt (show b < 2 ^ 64 from hb)]
theorem bt_lt (a b k : Nat) (ha : a < 18446744073709551616) (hb : b < 18446744073709551616) : bt a b k < 18446744073709551616 :=
  Nat.or_lt_two_pow (n := 64) ha (Nat.lt_of_le_of_lt (Nat.mod_le _ _) hb)
theorem bt_true {a b k : Nat} (hk : k < 64) (h : b.testBit k = true) : withN (bt a b k) (k : Int) = bt a b (k + 1) := by
  apply Nat.eq_of_testBit_eq
  intro j
  unfold withN
  rw [one_in (by omega) (by omega), Nat.testBit_or, bt_bit, bt_bit, Int.toNat_natCast, Nat.testBit_two_pow]
  by_cases e : k = j
  · subst e
    simp [h]
  · have : (j < k + 1) ↔ (j < k) := by omega
    simp [e, this]
theorem bt_false {a b k : Nat} (h : b.testBit k = false) : bt a b (k + 1) = bt a b k := by
  apply Nat.eq_of_testBit_eq
  intro j
  rw [bt_bit, bt_bit]
  by_cases e : k = j
  · subst e
    simp [h]
  · have : (j < k + 1) ↔ (j < k) := by omega
    simp [this]
set_option maxRecDepth 100000 in
/-- twainref01.Both -/
theorem both_any (a b : Nat) (ha : a < 18446744073709551616) (hb : b < 18446744073709551616) (w : World) :
    Calls Tryz.prog 81 #[.int .u64 (a : Int), .int .u64 (b : Int)] w fun e w' => e = .returned (.int .u64 ((a ||| b : Nat) : Int)) ∧ w' = w := by
  have z := bt_zero a b
  go_enter Tryz.func81, Tryz.ntmps81
  go_wp2
  go_loop [0, 5] (fun x i => ∃ k : Nat, k ≤ 64 ∧ i = .int .i64 k ∧ x = .int .u64 ((bt a b k : Nat) : Int)) (fun _ i => 64 - (RowKit.intOf i).toNat)
  case atStart => exact ⟨0, by omega, rfl, by rw [z]⟩
  case round =>
    clear z
    obtain ⟨k, hk, rfl, rfl⟩ := hrel
    have hl := bt_lt a b k ha hb
    by_cases hlt : k < 64
    · have hh := has_nat (s := b) hlt
      cases h : b.testBit k with
      | true =>
        have HS : Hid (withN (bt a b k) (k : Int) = bt a b (k + 1)) := bt_true hlt h
        rw [h] at hh
        clear h
        go_wp2_with (first
          | (go_at_call 48; refine (refHas_any _ _ _ hb).mono ?_; rw [hh]; rintro e w' ⟨rfl, rfl⟩)
          | (go_at_call 82; refine (refWith_any _ _ _ hl).mono ?_; rw [HS.out]; rintro e w' ⟨rfl, rfl⟩))
        go_round
        case rel => exact ⟨k + 1, by omega, by go_num, rfl⟩
        case measure => simp [RowKit.intOf]; omega
      | false =>
        have HS : Hid (bt a b (k + 1) = bt a b k) := bt_false h
        rw [h] at hh
        clear h
        go_wp2_with (first
          | (go_at_call 48; refine (refHas_any _ _ _ hb).mono ?_; rw [hh]; rintro e w' ⟨rfl, rfl⟩))
        go_round
        case rel => exact ⟨k + 1, by omega, by go_num, by rw [HS.out]⟩
        case measure => simp [RowKit.intOf]; omega
    · obtain rfl : k = 64 := by omega
      go_wp2
      go_ret
      exact ⟨ret_int (by rw [bt_all a b hb]), rfl⟩
/-- What List hands back. -/
theorem owns_at {W : World} {base : Nat} {v : Value} {l : List Nat} (h : W.ownsRow base 3 1 v l.length (l.map Bits.enc)) :
    ∃ a cap, v = .slice a l.length cap ∧ ∀ (j e : Nat), l[j]? = some e → ∃ b off, a = some ⟨b, off, none⟩ ∧ W.cell? ⟨b, off + j, none⟩ = some (.int .i64 (e : Int)) := by
  obtain ⟨a, cap, e, h⟩ := intsAt_of_owns h
  refine ⟨a, cap, by rw [e, List.length_map], fun j e he => ?_⟩
  have hj := (List.getElem?_eq_some_iff.1 he).1
  rcases h with h | ⟨b, off, rfl, -, hc⟩
  · have : l = [] := by simpa using h
    subst this
    simp at hj
  · refine ⟨b, off, rfl, ?_⟩
    have := hc j (by rw [List.length_map]; exact hj)
    rw [List.getElem?_map, he] at this
    exact this
set_option maxRecDepth 100000 in
/-- the document's Union -/
theorem rUnion_any (a b : Nat) (z : Int) (ha : a < 18446744073709551616) (hb : b < 18446744073709551616) (w : World) :
    Calls Tryz.prog 40 #[.int .u64 (a : Int), .int .u64 (b : Int), .int .i64 z] w fun e w' => e = .returned (.int .u64 ((uni a b z : Nat) : Int)) ∧ Below w.heap.size w w' := by
  have q := both_any a b ha hb w
  have hs := Nat.or_lt_two_pow (n := 64) ha hb
  have ql := refList_any (a ||| b) w hs
  have hall : Hid (uniL (elems (a ||| b)) z (elems (a ||| b)).length = uni a b z) := uniL_all (a ||| b) z
  have hlt := elems_lt (a ||| b)
  have hl64 : Hid ((elems (a ||| b)).length ≤ 64) := lst_len 64 _
  generalize elems (a ||| b) = L at *
  generalize uni a b z = U at *
  clear hs ha hb
  have hz := uniL_zero L z
  go_enter Tryz.func40, Tryz.ntmps40
  go_wp2_with (first
    | (go_at_call 81; refine q.mono ?_; rintro e w' ⟨rfl, rfl⟩)
    | (go_at_call 43; refine ql.mono ?_; rintro e w1 ⟨v, rfl, hrow, hB⟩; obtain ⟨la, cap, rfl, hat⟩ := owns_at hrow; clear hrow ql q))
  obtain ⟨len, hlen⟩ : ∃ len, L.length = len := ⟨_, rfl⟩
  rw [hlen] at hall hl64
  rw [hlen]
  have hlen' : Hid (L.length = len) := hlen
  clear hlen
  have hl := hl64.out
  go_loop [7, 15] (fun x i => ∃ k : Nat, k ≤ len ∧ i = .int .i64 k ∧ x = .int .u64 ((uniL L z k : Nat) : Int)) (fun _ i => len - (intOf i).toNat)
  case atStart => exact ⟨0, Nat.zero_le _, rfl, by rw [hz]; rfl⟩
  case round =>
    obtain ⟨k, hk, rfl, rfl⟩ := hrel
    clear hz
    have hx := uniL_lt L z k
    by_cases hlt2 : k < len
    · obtain ⟨e, he⟩ : ∃ e, L[k]? = some e := ⟨L[k]'(by rw [hlen'.out]; exact hlt2), List.getElem?_eq_getElem _⟩
      have he64 := hlt e (List.mem_of_getElem? he)
      obtain ⟨bb, off, rfl, hc⟩ := hat k e he
      clear hat hlt
      by_cases ht : 4 * (e : Int) + 4 ≤ z
      · have HS : Hid (withN (uniL L z k) (e : Int) = uniL L z (k + 1)) := uniL_true he ht
        clear he
        go_wp2_with (go_at_call 82; refine (refWith_any _ _ _ hx).mono ?_; rw [HS.out]; rintro e w' ⟨rfl, rfl⟩)
        go_round
        case rel => exact ⟨k + 1, by omega, by go_num, rfl⟩
        case measure => simp [intOf]; omega
      · have HS : Hid (uniL L z (k + 1) = uniL L z k) := uniL_false he ht
        clear he
        go_wp2_with fail
        go_round
        case rel => exact ⟨k + 1, by omega, by go_num, by rw [HS.out]⟩
        case measure => simp [intOf]; omega
    · obtain rfl : k = len := by omega
      go_wp2
      go_ret
      exact ⟨ret_int (by rw [hall.out]), hB⟩
end Go.Proofs.YtfiofdmefgkloaaGreat.Role

