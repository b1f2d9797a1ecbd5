/-
  The walks of the document's Both, over, without and Fits.
-/
import Derived.Test.YtldeecjocapfgaaHotC
namespace Go.Proofs.Ytldeecjocapfgaa.Hot
open Go.RowKit
open Bits Bits.Math

/-- Both, behind k rounds. -/
def bt (a b k : Nat) : Nat := a ||| (b % 2 ^ k)
theorem bt_bit (a b k j : Nat) : (bt a b k).testBit j = (a.testBit j || (decide (j < k) && b.testBit j)) := by
  unfold bt
  rw [Nat.testBit_or, Nat.testBit_mod_two_pow]
theorem bt_zero (a b : Nat) : bt a b 0 = a := by simp [bt, Nat.mod_one]
theorem bt_all (a b : Nat) (hb : b < 18446744073709551616) : bt a b 64 = a ||| b := by
  unfold bt
  rw [Nat.mod_eq_of_lt (show b < 2 ^ 64 from hb)]
theorem bt_lt (a b k : Nat) (ha : a < 18446744073709551616) (hb : b < 18446744073709551616) : bt a b k < 18446744073709551616 :=
  Nat.or_lt_two_pow (n := 64) ha (Nat.lt_of_le_of_lt (Nat.mod_le _ _) hb)
theorem bt_true {a b k : Nat} (hk : k < 64) (h : b.testBit k = true) : withN (bt a b k) (k : Int) = bt a b (k + 1) := by
  apply Nat.eq_of_testBit_eq
  intro j
  unfold withN
  rw [one_in (by omega) (by omega), Nat.testBit_or, bt_bit, bt_bit, Int.toNat_natCast, Nat.testBit_two_pow]
  by_cases e : k = j
  · subst e
    simp [h]
  · have : (j < k + 1) ↔ (j < k) := by omega
    simp [e, this]
theorem bt_false {a b k : Nat} (h : b.testBit k = false) : bt a b (k + 1) = bt a b k := by
  apply Nat.eq_of_testBit_eq
  intro j
  rw [bt_bit, bt_bit]
  by_cases e : k = j
  · subst e
    simp [h]
  · have : (j < k + 1) ↔ (j < k) := by omega
    simp [this]

set_option maxRecDepth 100000 in
/-- twainref01.Both -/
theorem both_any (a b : Nat) (ha : a < 18446744073709551616) (hb : b < 18446744073709551616) (w : World) :
    Calls Try.prog 39 #[.int .u64 (a : Int), .int .u64 (b : Int)] w fun e w' => e = .returned (.int .u64 ((a ||| b : Nat) : Int)) ∧ w' = w := by
  have z := bt_zero a b
  go_enter Try.func39, Try.ntmps39
  go_wp2
  go_loop [0, 5] (fun x i => ∃ k : Nat, k ≤ 64 ∧ i = .int .i64 k ∧ x = .int .u64 ((bt a b k : Nat) : Int)) (fun _ i => 64 - (intOf i).toNat)
  case atStart => exact ⟨0, by omega, rfl, by rw [z]⟩
  case round =>
    clear z
    obtain ⟨k, hk, rfl, rfl⟩ := hrel
    have hl := bt_lt a b k ha hb
    by_cases hlt : k < 64
    · have hh := has_nat (s := b) hlt
      cases h : b.testBit k with
      | true =>
        have HS : Hid (withN (bt a b k) (k : Int) = bt a b (k + 1)) := bt_true hlt h
        rw [h] at hh
        clear h
        go_wp2_with (first
          | (go_at_call 22; refine (refHas_any _ _ _ hb).mono ?_; rw [hh]; rintro e w' ⟨rfl, rfl⟩)
          | (go_at_call 42; refine (refWith_any _ _ _ hl).mono ?_; rw [HS.out]; rintro e w' ⟨rfl, rfl⟩))
        go_round
        case rel => exact ⟨k + 1, by omega, by go_num, rfl⟩
        case measure => simp [intOf]; omega
      | false =>
        have HS : Hid (bt a b (k + 1) = bt a b k) := bt_false h
        rw [h] at hh
        clear h
        go_wp2_with (first
          | (go_at_call 22; refine (refHas_any _ _ _ hb).mono ?_; rw [hh]; rintro e w' ⟨rfl, rfl⟩))
        go_round
        case rel => exact ⟨k + 1, by omega, by go_num, by rw [HS.out]⟩
        case measure => simp [intOf]; omega
    · obtain rfl : k = 64 := by omega
      go_wp2
      go_ret
      exact ⟨ret_int (by rw [bt_all a b hb]), rfl⟩

theorem Nums.cell_at {n₀ : Nat} {W : World} {a : Option Addr} {m cap : Nat} {l : List Nat} (h : Nums n₀ W (.slice a m cap) l) {k : Nat} (hk : k < l.length) : ∃ b off, a = some ⟨b, off, none⟩ ∧ W.cell? ⟨b, off + k, none⟩ = some (.int .i64 ((l[k]?.getD 0 : Nat) : Int)) := by
  obtain ⟨a', cap', e, hc, ⟨_, h⟩ | ⟨b, off, e2, _, _, h2⟩⟩ := h
  · omega
  · injection e with e3 _ _
    exact ⟨b, off, e3.trans e2, h2 k hk⟩
theorem RefAt.drew {W : World} {p n₀ most : Nat} {v : Value} {l : List Nat} (h : RefAt W p n₀ most v l) : RefAt W.drew p n₀ most v l := h.kept (kept_drew [] W) (by simp) (by simp)

set_option maxRecDepth 100000 in
set_option maxHeartbeats 1000000 in
/-- The document's over -/
theorem over_any (p n₀ most : Nat) (v : Value) (l : List Nat) (need : Nat) (hn : need < 18446744073709551616) (w : World) (h : RefAt w p n₀ most v l) :
    Calls Try.prog 30 #[.pointer (some ⟨p, 0, none⟩), .int .u64 (need : Int)] w fun e w' => e = .returned (.bool (over most need l)) ∧ Below w.heap.size w w' := by
  have hml := mask_lt l
  have qb := fun W => both_any (mask l) need hml hn W
  have hlt : mask l ||| need < 18446744073709551616 := Nat.or_lt_two_pow (n := 64) hml hn
  have ql := fun W => refList_any (mask l ||| need) W hlt
  have HE : Hid (over most need l = decide (most < (elems (mask l ||| need)).length)) := (show over most need l = decide (most < (elems (mask l ||| need)).length) by unfold over; rw [pop_elems])
  have hle := elems_len (mask l ||| need)
  have hS := h.drew
  have hB : Below w.heap.size w w.drew := (kept_drew [] w).below (Nat.le_refl _) (by simp)
  clear h
  generalize elems (mask l ||| need) = E at *
  go_enter Try.func30, Try.ntmps30
  go_wp2
  go_region_held3 (fun W => W.cell? ⟨p, 1, none⟩ = some (.int .i64 (most : Int))) (exact hS.cell.2) (first
    | (go_at_call 16; refine (rmask_any p n₀ most v l _ hS).mono ?_; rintro e w' ⟨rfl, rfl⟩)
    | (go_at_call 39; refine (qb _).mono ?_; rintro e w' ⟨rfl, rfl⟩)
    | (go_at_call 19; refine (ql _).mono ?_; rintro e w1 ⟨v1, rfl, hr, hB1⟩; have n1 := nums_of_owns hr (Nat.le_refl _); obtain ⟨a1, cap1, e1, -⟩ := id n1; subst e1; replace hS := hS.below hB1; replace hB := hB.trans (hB1.mono hB.size); clear hr))
  go_wp2
  go_ret
  exact ⟨ret_bool (by rw [HE.out]), hB⟩

theorem filter_take (l : List Nat) (f : Nat → Bool) {k : Nat} (hk : k < l.length) : (l.take (k + 1)).filter f = (l.take k).filter f ++ (if f (l[k]?.getD 0) then [l[k]?.getD 0] else []) := by
  rw [List.take_succ_eq_append_getElem hk, List.filter_append]
  have : l[k]?.getD 0 = l[k] := by simp [hk]
  rw [this]
  cases h : f l[k] <;> simp [h]

set_option maxRecDepth 100000 in
set_option maxHeartbeats 1000000 in
/-- The document's without -/
theorem without_any (p n₀ most : Nat) (v : Value) (l : List Nat) (x : Nat) (w : World) (h : RefAt w p n₀ most v l) :
    Calls Try.prog 31 #[.pointer (some ⟨p, 0, none⟩), .int .i64 (x : Int)] w fun e w' => ∃ v', e = .returned v' ∧ w'.ownsRow w.heap.size 3 1 v' (l.filter fun y => y != x).length ((l.filter fun y => y != x).map enc) ∧ Below w.heap.size w w' := by
  obtain ⟨i0, hi, hz0, hz1, hz2⟩ := info_parts Try.info3
  have hl := h.good.len
  have c0 := h.cell.1
  obtain ⟨a, cap, rfl, hc, hN⟩ := id h.nums
  have hcell : ∀ k, k < l.length → ∃ b off, a = some ⟨b, off, none⟩ ∧ b < w.heap.size ∧ w.cell? ⟨b, off + k, none⟩ = some (.int .i64 ((l[k]?.getD 0 : Nat) : Int)) := fun k hk => by
    rcases hN with ⟨_, h0⟩ | ⟨b, off, e, _, hb, h2⟩
    · omega
    · exact ⟨b, off, e, hb, h2 k hk⟩
  have hft := fun k (hk : k < l.length) => filter_take l (fun y => y != x) hk
  have hfl : ∀ k, ((l.take k).filter fun y => y != x).length ≤ 64 := fun k => by
    have h1 := List.length_filter_le (fun y => y != x) (l.take k)
    have h2 : (l.take k).length ≤ l.length := by rw [List.length_take]; omega
    omega
  have HA : Hid ((l.take l.length).filter (fun y => y != x) = l.filter (fun y => y != x)) := (show (l.take l.length).filter (fun y => y != x) = l.filter (fun y => y != x) by rw [List.take_length])
  obtain ⟨len, hlen⟩ : ∃ len, l.length = len := ⟨_, rfl⟩
  rw [hlen] at hl hcell hft HA c0
  clear hN hc h hlen
  go_enter Try.func31, Try.ntmps31
  go_wp2
  go_loopw [5, 13] (fun o i wr => ∃ k : Nat, k ≤ len ∧ i = .int .i64 k ∧ wr.ownsRow w.heap.size 3 1 o ((l.take k).filter fun y => y != x).length (((l.take k).filter fun y => y != x).map enc) ∧ Below w.heap.size w wr) (fun _ i _ => len - (intOf i).toNat)
  case atStart => exact ⟨0, Nat.zero_le _, rfl, by simpa using World.ownsRow_nil _ _ _ _, Below.refl _ _⟩
  case round =>
    obtain ⟨k, hk, rfl, hown, hB⟩ := hrel
    by_cases hlt : k < len
    · obtain ⟨b, off, rfl, hb, hcx⟩ := hcell k hlt
      have hcx' := (hB.cell (p := ⟨b, off + k, none⟩) hb).trans hcx
      have hf := hft k hlt
      have hf1 := hfl k
      clear hcell hft hfl hcx
      generalize l[k]?.getD 0 = y at *
      cases he : y != x with
      | true =>
        have hne : ((y : Int) != (x : Int)) = true := by
          simp at he ⊢
          omega
        have HS : Hid ((l.take (k + 1)).filter (fun y => y != x) = (l.take k).filter (fun y => y != x) ++ [y]) := (show (l.take (k + 1)).filter (fun y => y != x) = (l.take k).filter (fun y => y != x) ++ [y] by rw [hf, he]; rfl)
        clear hf he
        generalize (l.take k).filter (fun y => y != x) = F at *
        go_wp2_with (first
          | (at_builtin; refine wpList_append_own _ rfl _ _ 40 rfl w.heap.size 3 i0 (.int .i64 0) 1 8 Try.underlying40 hi hz0 hz1 hz2 rfl (by decide) _ _ _ rfl (hown.alloc _) ⟨World.heap _ |>.size, 0, none⟩ 1 1 [.int .i64 (y : Int)] rfl rfl ?c1 ?c2 ?c3 ?c4 ?c5 ?_)
          | go_in)
        case c1 => exact cell_one_new _ _ _
        case c2 => intro u hu; simp at hu; subst hu; rfl
        case c3 => unfold maxLen; omega
        case c4 => omega
        case c5 => have := hB.size; simp; omega
        intro v' w1 hown' hgrow _
        have hB1 := below_append (Nat.le_refl _) hB hown hgrow
        have hr1 : w1.ownsRow w.heap.size 3 1 v' ((l.take (k + 1)).filter fun y => y != x).length (((l.take (k + 1)).filter fun y => y != x).map enc) := by
          rw [HS.out, List.length_append, List.map_append]; exact hown'
        clear hown' hgrow hown HS
        go_wp2
        go_roundw
        case rel => exact ⟨k + 1, by omega, by go_num, hr1, hB1⟩
        case measure => simp [intOf]; omega
      | false =>
        have hne : ((y : Int) != (x : Int)) = false := by
          simp at he ⊢
          omega
        have HS : Hid ((l.take (k + 1)).filter (fun y => y != x) = (l.take k).filter (fun y => y != x)) := (show (l.take (k + 1)).filter (fun y => y != x) = (l.take k).filter (fun y => y != x) by rw [hf, he]; simp)
        clear hf he
        go_wp2
        go_roundw
        case rel => exact ⟨k + 1, by omega, by go_num, by rw [HS.out]; exact hown, hB⟩
        case measure => simp [intOf]; omega
    · obtain rfl : k = len := by omega
      go_wp2
      go_ret
      rw [HA.out] at hown
      exact ⟨_, rfl, hown, hB⟩

set_option maxRecDepth 100000 in
set_option maxHeartbeats 1000000 in
/-- The document's Fits -/
theorem rfits_any (p n₀ most : Nat) (v : Value) (l : List Nat) (need busy : Nat) (hn : need < 18446744073709551616) (hb : busy < 18446744073709551616) (w : World) (h : RefAt w p n₀ most v l) :
    Calls Try.prog 10 #[.pointer (some ⟨p, 0, none⟩), .int .u64 (need : Int), .int .u64 (busy : Int)] w fun e w' => e = .returned (.bool (fits most need busy l)) ∧ Below w.heap.size w w' := by
  have ql := refList_any need w hn
  have HE : Hid (fits most need busy l = decide ((elems need).length + (l.filter fun y => busy.testBit y && !need.testBit y).length ≤ most)) := (show fits most need busy l = decide ((elems need).length + (l.filter fun y => busy.testBit y && !need.testBit y).length ≤ most) by unfold fits; rw [ref_fits h.good])
  have hle := elems_len need
  have hl := h.good.len
  have hx : ∀ k, k < l.length → l[k]?.getD 0 < 64 := fun k hk => by
    have := h.good.lt l[k] (List.getElem_mem hk)
    simpa [hk] using this
  have hft := fun k (hk : k < l.length) => filter_take l (fun y => busy.testBit y && !need.testBit y) hk
  have hfl : ∀ k, ((l.take k).filter fun y => busy.testBit y && !need.testBit y).length ≤ 64 := fun k => by
    have h1 := List.length_filter_le (fun y => busy.testBit y && !need.testBit y) (l.take k)
    have h2 : (l.take k).length ≤ l.length := by rw [List.length_take]; omega
    omega
  have HA : Hid ((l.take l.length).filter (fun y => busy.testBit y && !need.testBit y) = l.filter (fun y => busy.testBit y && !need.testBit y)) := (show (l.take l.length).filter (fun y => busy.testBit y && !need.testBit y) = l.filter (fun y => busy.testBit y && !need.testBit y) by rw [List.take_length])
  obtain ⟨a, cap, rfl, -⟩ := id h.nums
  obtain ⟨len, hlen⟩ : ∃ len, l.length = len := ⟨_, rfl⟩
  have HL : Hid (l.length = len) := hlen
  rw [hlen] at hl hx hft HA h
  clear hlen
  generalize elems need = E at *
  go_enter Try.func10, Try.ntmps10
  go_wp2_with (first
    | (go_at_call 19; refine ql.mono ?_; clear ql; rintro e w1 ⟨v1, rfl, hr, hB1⟩; have n1 := nums_of_owns hr (Nat.le_refl _); obtain ⟨a1, cap1, e1, -⟩ := id n1; subst e1; have hS := h.below hB1; have c0 := hS.cell.1; have c1 := hS.cell.2; clear hr h n1))
  have hcell : ∀ k, k < len → ∃ b off, a = some ⟨b, off, none⟩ ∧ w1.cell? ⟨b, off + k, none⟩ = some (.int .i64 ((l[k]?.getD 0 : Nat) : Int)) := fun k hk => hS.nums.cell_at (by rw [HL.out]; exact hk)
  go_loop [7, 18] (fun x i => ∃ k : Nat, k ≤ len ∧ i = .int .i64 k ∧ x = .int .i64 ((E.length + ((l.take k).filter fun y => busy.testBit y && !need.testBit y).length : Nat) : Int)) (fun _ i => len - (intOf i).toNat)
  case atStart => exact ⟨0, Nat.zero_le _, rfl, by simp⟩
  case round =>
    obtain ⟨k, hk, rfl, rfl⟩ := hrel
    by_cases hlt : k < len
    · obtain ⟨b, off, rfl, hcx⟩ := hcell k hlt
      have hf := hft k hlt
      have hf1 := hfl k
      have hy := hx k hlt
      clear hcell hft hfl hx
      generalize l[k]?.getD 0 = y at *
      have h1 := has_nat (s := busy) hy
      have h2 := has_nat (s := need) hy
      cases eb : busy.testBit y with
      | false =>
        have HS : Hid (((l.take (k + 1)).filter fun y => busy.testBit y && !need.testBit y) = ((l.take k).filter fun y => busy.testBit y && !need.testBit y)) := (show ((l.take (k + 1)).filter fun y => busy.testBit y && !need.testBit y) = ((l.take k).filter fun y => busy.testBit y && !need.testBit y) by rw [hf, eb]; simp)
        rw [eb] at h1
        clear hf eb h2
        generalize ((l.take k).filter fun y => busy.testBit y && !need.testBit y) = F at *
        go_wp2_with (first
          | (go_at_call 22; refine (refHas_any busy _ _ hb).mono ?_; rw [h1]; rintro e w' ⟨rfl, rfl⟩))
        go_round
        case rel => exact ⟨k + 1, by omega, by go_num, by rw [HS.out]; first | rfl | go_num⟩
        case measure => simp [intOf]; omega
      | true =>
        cases en : need.testBit y with
        | true =>
          have HS : Hid (((l.take (k + 1)).filter fun y => busy.testBit y && !need.testBit y) = ((l.take k).filter fun y => busy.testBit y && !need.testBit y)) := (show ((l.take (k + 1)).filter fun y => busy.testBit y && !need.testBit y) = ((l.take k).filter fun y => busy.testBit y && !need.testBit y) by rw [hf, eb, en]; simp)
          rw [eb] at h1
          rw [en] at h2
          have q1 := fun W => refHas_any busy (y : Int) W hb
          have q2 := fun W => refHas_any need (y : Int) W hn
          simp only [h1] at q1
          simp only [h2] at q2
          clear hf eb en h1 h2
          generalize ((l.take k).filter fun y => busy.testBit y && !need.testBit y) = F at *
          go_wp2_with (first
            | (go_at_call 22; refine (q1 _).mono ?_; clear q1; rintro e w' ⟨rfl, rfl⟩)
            | (go_at_call 22; refine (q2 _).mono ?_; clear q2; rintro e w' ⟨rfl, rfl⟩))
          go_round
          case rel => exact ⟨k + 1, by omega, by go_num, by rw [HS.out]; first | rfl | go_num⟩
          case measure => simp [intOf]; omega
        | false =>
          have HS : Hid (((l.take (k + 1)).filter fun y => busy.testBit y && !need.testBit y) = ((l.take k).filter fun y => busy.testBit y && !need.testBit y) ++ [y]) := (show ((l.take (k + 1)).filter fun y => busy.testBit y && !need.testBit y) = ((l.take k).filter fun y => busy.testBit y && !need.testBit y) ++ [y] by rw [hf, eb, en]; simp)
          rw [eb] at h1
          rw [en] at h2
          have q1 := fun W => refHas_any busy (y : Int) W hb
          have q2 := fun W => refHas_any need (y : Int) W hn
          simp only [h1] at q1
          simp only [h2] at q2
          clear hf eb en h1 h2
          generalize ((l.take k).filter fun y => busy.testBit y && !need.testBit y) = F at *
          go_wp2_with (first
            | (go_at_call 22; refine (q1 _).mono ?_; clear q1; rintro e w' ⟨rfl, rfl⟩)
            | (go_at_call 22; refine (q2 _).mono ?_; clear q2; rintro e w' ⟨rfl, rfl⟩))
          go_round
          case rel => exact ⟨k + 1, by omega, by go_num, by rw [HS.out, List.length_append, ← Nat.add_assoc]; first | rfl | go_num⟩
          case measure => simp [intOf]; omega
    · obtain rfl : k = len := by omega
      clear hft hx
      have hf1 := hfl k
      clear hfl
      generalize ((l.take k).filter fun y => busy.testBit y && !need.testBit y) = F at *
      go_wp2
      go_ret
      refine ⟨ret_bool ?_, hB1⟩
      rw [HE.out, ← HA.out]
      exact decide_eq_decide.2 (by omega)

end Go.Proofs.Ytldeecjocapfgaa.Hot
