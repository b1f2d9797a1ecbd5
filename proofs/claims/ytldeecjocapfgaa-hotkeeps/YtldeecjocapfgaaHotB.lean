/-
  Orders joined, cloned and looked through: slices.Clone, Index, IndexFunc (at the closure of Use), Grow and Concat, as far as the program calls them; and Order.
-/
import Derived.Test.YtldeecjocapfgaaHotA
import Derived.Lib.AppendZeros
import Derived.Lib.SliceRun
namespace Go.Proofs.Ytldeecjocapfgaa.Hot
open Go.RowKit
open Bits Bits.Math

theorem addr_add (b off j : Nat) : (⟨b, off, none⟩ : Addr).add j = ⟨b, off + j, none⟩ := by
  unfold Addr.add
  split <;> simp_all

section
variable {ops : Array Oper} {rest : List Oper} {o : Oper} {a : Act} {w : World} {Q : Exit → Act → World → Prop}
set_option maxRecDepth 100000 in
/-- Numbers appended to numbers that the call itself has made. -/
theorem wpList_append_nums (hgd : o.guard = none) (s x : Operand) (ho : o.op = .call { callee := .builtin .append, args := #[s, x], argTypes := #[40, 40] })
    (base n₀ : Nat) (v u : Value) (l k : List Nat) (hs : a.eval s = v) (hown : w.ownsRow base 3 1 v l.length (l.map enc)) (hx : a.eval x = u) (hu : Nums n₀ w u k) (hlen : l.length + k.length ≤ 1000) (hb : base ≤ w.heap.size)
    (h : ∀ v' w', w'.ownsRow base 3 1 v' (l ++ k).length ((l ++ k).map enc) → w.grownBy w' v.ownBlock → wpList Try.prog ops Q rest (a.put o.dst v') w') : wpList Try.prog ops Q (o :: rest) a w := by
  obtain ⟨i0, hi, hz0, hz1, hz2⟩ := info_parts Try.info3
  obtain ⟨ao, cap, rfl, hc, ⟨rfl, rfl⟩ | ⟨b, off, rfl, _, _, h2⟩⟩ := hu
  · obtain rfl : k = [] := List.eq_nil_of_length_eq_zero (by omega)
    refine wpList_append_own_none hgd s x 40 ho base 3 i0 1 Try.underlying40 hi v l.length (l.map enc) hs hown hx ?_
    exact h v w (by simpa using hown) ⟨rfl, rfl, rfl, Nat.le_refl _, fun _ _ _ => rfl⟩
  · refine wpList_append_own _ hgd s x 40 ho base 3 i0 (.int .i64 0) 1 8 Try.underlying40 hi hz0 hz1 hz2 rfl (by decide) v l.length (l.map enc) hs hown ⟨b, off, none⟩ k.length cap (k.map enc) hx (by simp) ?_ (enc_one k) (by unfold maxLen; omega) (by omega) hb ?_
    · intro j u hu
      rw [addr_add]
      have hj : j < k.length := by
        have := (List.getElem?_eq_some_iff.1 hu).1
        simpa using this
      rw [h2 j hj, ← hu, enc_int k j hj]
    · intro v' w' h3 h4 _
      exact h v' w' (by simpa using h3) h4
end

theorem below_grown {w w' : World} {v : Value} {base n : Nat} {l : List Value} {k : Nat} (hown : w.ownsRow base 3 1 v k l) (hg : w.grownBy w' v.ownBlock) (hn : n ≤ base) (hb : base ≤ w.heap.size) : Below n w w' :=
  ⟨hg.os, hg.tape, hg.output, hg.size, fun j hj => hg.block j (by omega) (fun e => by have := (hown.lt j e.symm).1; omega)⟩

set_option maxRecDepth 100000 in
/-- slices.Clone -/
theorem clone_any (n₀ : Nat) (v : Value) (l : List Nat) (w : World) (h : Nums n₀ w v l) (hl : l.length ≤ 64) :
    Calls Try.prog 34 #[v] w fun e w' => ∃ v', e = .returned v' ∧ Nums w.heap.size w' v' l ∧ Below w.heap.size w w' := by
  have q40 : ∀ (w : World) (a : Option Addr) (n c n' c' : Nat), (binOp .eql 40 (.slice a n c) (.slice none n' c')).run Try.prog w = .ok (.bool a.isNone) w := fun w a n c n' c' => Lib.run_eql_slice_nil w _ _ a n c n' c' Try.underlying40
  obtain ⟨ao, cap, rfl, hc, ⟨rfl, rfl⟩ | ⟨b, off, rfl, hb0, hb, h2⟩⟩ := id h
  · obtain rfl : l = [] := List.eq_nil_of_length_eq_zero (by omega)
    go_enter Try.func34, Try.ntmps34
    go_wp2
    go_ret
    exact ⟨_, rfl, Nums.nil _ _, Below.refl _ _⟩
  · have hN : Hid (Nums n₀ w (.slice (some ⟨b, off, none⟩) l.length cap) l) := h
    clear h2
    have r0 : Hid ((w.alloc (.cells #[] 3)).ownsRow w.heap.size 3 1 (.slice (some ⟨w.heap.size, 0, none⟩) 0 0) ([] : List Nat).length (([] : List Nat).map enc)) := World.ownsRow_made w #[] 0 (Nat.le_refl _) (by unfold maxLen; omega) rfl
    go_enter Try.func34, Try.ntmps34
    go_wp2_with (at_builtin; refine wpList_append_nums rfl _ _ rfl w.heap.size n₀ _ _ [] l rfl r0.out rfl (hN.out.kept (kept_alloc [] w _) (by simp)) (by simpa using (by omega)) (by simp) ?_; intro v1 w1 hr hg)
    go_ret
    exact ⟨_, rfl, nums_of_owns hr (Nat.le_refl _), ((Below.refl w.heap.size w).alloc (Nat.le_refl _) _).trans (below_grown r0.out hg (Nat.le_refl _) (by simp))⟩
set_option maxRecDepth 100000 in
/-- Order -/
theorem order_any (p n₀ most : Nat) (v : Value) (l : List Nat) (w : World) (h : SetAt w p n₀ most v l) :
    Calls Try.prog 18 #[.pointer (some ⟨p, 0, none⟩)] w fun e w' => ∃ v', e = .returned v' ∧ Nums w.heap.size w' v' l ∧ Below w.heap.size w w' := by
  have c1 := h.cell.2
  have q := made_any p n₀ most v l w h
  have o := clone_any n₀ v l w h.nums h.good.len
  go_enter Try.func18, Try.ntmps18
  go_wp2_with (first | (go_at_call 20; refine q.mono ?_; rintro e w ⟨rfl, rfl⟩) | (go_at_call 34; refine o.mono ?_; rintro e w' ⟨v', rfl, hn, hB⟩))
  go_ret
  exact ⟨_, rfl, hn, hB⟩

set_option maxRecDepth 100000 in
/-- slices.Index, of a number that is there -/
theorem index_any (n₀ : Nat) (v : Value) (l : List Nat) (x : Nat) (w : World) (h : Nums n₀ w v l) (hl : l.length ≤ 64) (hx : x ∈ l) :
    Calls Try.prog 28 #[v, .int .i64 (x : Int)] w fun e w' => e = .returned (.int .i64 (l.idxOf x : Nat)) ∧ w' = w := by
  have hi : l.idxOf x < l.length := List.idxOf_lt_length_of_mem hx
  obtain ⟨ao, cap, rfl, hc, ⟨rfl, rfl⟩ | ⟨b, off, rfl, hb0, hb, h2⟩⟩ := h
  · omega
  · have hne : ∀ k, k < l.idxOf x → ((x : Int) == ((l[k]?.getD 0 : Nat) : Int)) = false := fun k hk => by
      have := List.not_of_lt_findIdx (p := (· == x)) (xs := l) (i := k) hk
      have hk2 : k < l.length := by omega
      simp [hk2] at this ⊢
      intro e
      exact this (by omega)
    have heq : ((x : Int) == ((l[l.idxOf x]?.getD 0 : Nat) : Int)) = true := by
      have := List.getElem_idxOf (x := x) (xs := l) hi
      simp [hi]
    obtain ⟨len, hlen⟩ : ∃ len, l.length = len := ⟨_, rfl⟩
    obtain ⟨i, hI⟩ : ∃ i, l.idxOf x = i := ⟨_, rfl⟩
    rw [hlen] at hi hl h2 ⊢
    rw [hI] at hi hne heq ⊢
    go_enter Try.func28, Try.ntmps28
    go_wp2
    go_loop [8] (fun j => ∃ k : Nat, k ≤ i ∧ j = .int .i64 k) (fun j => i - (intOf j).toNat)
    case atStart => exact ⟨0, Nat.zero_le _, rfl⟩
    case round =>
      obtain ⟨k, hk, rfl⟩ := hrel
      have hcx := h2 k (by omega)
      have hlt : (k : Int) < (len : Int) := by omega
      by_cases hki : k < i
      · have hnk := hne k hki
        clear h2 hne heq
        generalize ((l[k]?.getD 0 : Nat) : Int) = y at *
        go_wp2
        go_round
        case rel => exact ⟨k + 1, by omega, by go_num⟩
        case measure => simp [intOf]; omega
      · obtain rfl : k = i := by omega
        clear h2 hne
        generalize ((l[k]?.getD 0 : Nat) : Int) = y at *
        go_wp2
        go_ret
        exact ⟨rfl, rfl⟩

/-- The closure of Use: who may leave. -/
theorem has_or (need busy x : Nat) (hx : x < 64) : (!has (need ||| busy) (x : Int)) = may need busy x := by
  rw [has_nat hx, Nat.testBit_or]
  rfl
set_option maxRecDepth 100000 in
theorem leave_any (g h need busy x : Nat) (hn : need < 18446744073709551616) (hb : busy < 18446744073709551616) (hx : x < 64) (w : World) (c1 : w.cell? ⟨g, 0, none⟩ = some (.int .u64 (need : Int))) (c2 : w.cell? ⟨h, 0, none⟩ = some (.int .u64 (busy : Int))) :
    Calls Try.prog 24 #[.int .i64 (x : Int), .pointer (some ⟨g, 0, none⟩), .pointer (some ⟨h, 0, none⟩)] w fun e w' => e = .returned (.bool (may need busy x)) ∧ w' = w := by
  have e1 := u64_or_nat need busy hn hb
  have q := fun w => has_any (need ||| busy) (x : Int) w (Nat.or_lt_two_pow (n := 64) hn hb)
  go_enter Try.func24, Try.ntmps24
  go_wp2_with (go_at_call 25; refine (q _).mono ?_; rintro e w ⟨rfl, rfl⟩)
  go_ret
  exact ⟨ret_bool (has_or need busy x hx), rfl⟩

set_option maxRecDepth 100000 in
/-- slices.IndexFunc, at that closure, where one is found -/
theorem indexFunc_any (g h n₀ need busy : Nat) (v : Value) (l : List Nat) (w : World) (hN : Nums n₀ w v l) (hg : Good l) (hn : need < 18446744073709551616) (hb : busy < 18446744073709551616)
    (c1 : w.cell? ⟨g, 0, none⟩ = some (.int .u64 (need : Int))) (c2 : w.cell? ⟨h, 0, none⟩ = some (.int .u64 (busy : Int))) (hi : l.findIdx (may need busy) < l.length) :
    Calls Try.prog 27 #[v, .func (.func 24) #[] #[.pointer (some ⟨g, 0, none⟩), .pointer (some ⟨h, 0, none⟩)]] w fun e w' => e = .returned (.int .i64 (l.findIdx (may need busy) : Nat)) ∧ w' = w := by
  have hl := hg.len
  obtain ⟨ao, cap, rfl, hc, ⟨rfl, rfl⟩ | ⟨b, off, rfl, hb0, hbl, h2⟩⟩ := hN
  · omega
  · have hne : ∀ k, k < l.findIdx (may need busy) → may need busy (l[k]?.getD 0) = false := fun k hk => by
      have := List.not_of_lt_findIdx (p := may need busy) (xs := l) (i := k) hk
      have hk2 : k < l.length := by omega
      simpa [hk2] using this
    have heq : may need busy (l[l.findIdx (may need busy)]?.getD 0) = true := by
      have : may need busy (l[l.findIdx (may need busy)]'hi) = true := List.findIdx_getElem (w := hi)
      simpa [hi] using this
    have hx : ∀ k, k < l.length → l[k]?.getD 0 < 64 := fun k hk => by
      have := hg.lt l[k] (List.getElem_mem hk)
      simpa [hk] using this
    obtain ⟨len, hlen⟩ : ∃ len, l.length = len := ⟨_, rfl⟩
    obtain ⟨i, hI⟩ : ∃ i, l.findIdx (may need busy) = i := ⟨_, rfl⟩
    rw [hlen] at hi hl h2 hx ⊢
    rw [hI] at hi hne heq ⊢
    go_enter Try.func27, Try.ntmps27
    go_wp2
    go_loop [8] (fun j => ∃ k : Nat, k ≤ i ∧ j = .int .i64 k) (fun j => i - (intOf j).toNat)
    case atStart => exact ⟨0, Nat.zero_le _, rfl⟩
    case round =>
      obtain ⟨k, hk, rfl⟩ := hrel
      have hcx := h2 k (by omega)
      have hlt : (k : Int) < (len : Int) := by omega
      have hx64 := hx k (by omega)
      by_cases hki : k < i
      · have hnk := hne k hki
        clear h2 hne heq hx
        generalize l[k]?.getD 0 = y at *
        have q := leave_any g h need busy y hn hb hx64 w c1 c2
        rw [hnk] at q
        go_wp2_with (go_at_call 24; refine q.mono ?_; rintro e w ⟨rfl, rfl⟩)
        go_round
        case rel => exact ⟨k + 1, by omega, by go_num⟩
        case measure => simp [intOf]; omega
      · obtain rfl : k = i := by omega
        clear h2 hne hx
        generalize l[k]?.getD 0 = y at *
        have q := leave_any g h need busy y hn hb hx64 w c1 c2
        rw [heq] at q
        go_wp2_with (go_at_call 24; refine q.mono ?_; rintro e w ⟨rfl, rfl⟩)
        go_ret
        exact ⟨rfl, rfl⟩

set_option maxRecDepth 100000 in
/-- slices.Grow of nil: room of the call's own -/
theorem grow_any (n : Nat) (w : World) (hn : n ≤ 1000) :
    Calls Try.prog 38 #[.slice none 0 0, .int .i64 (n : Int)] w fun e w' => ∃ v, e = .returned v ∧ w'.ownsRow w.heap.size 3 1 v 0 [] ∧ Below w.heap.size w w' := by
  by_cases h0 : n = 0
  · subst h0
    go_enter Try.func38, Try.ntmps38
    go_wp2
    go_ret
    exact ⟨_, rfl, World.ownsRow_nil _ _ _ _, Below.refl _ _⟩
  · obtain ⟨i0, hi, hz0, hz1, hz2⟩ := info_parts Try.info3
    have h1 : ¬ ((n : Int) < 0) := by omega
    have h4 : (n : Int) > 0 := by omega
    have hr := Lib.run_append_nil_zeros (P := Try.prog) w 40 3 40 3 i0 (.int .i64 0) .i64 .i64 Try.underlying40 Try.underlying3 hi hz0 n (by omega) (by omega) (by omega) (by rw [hz2]; omega)
    have hG0 := grownCap_ge w n 0 3
    have hG1 := grownCap_le_maxLen w n 0 3 (by unfold maxLen; omega)
    generalize grownCap w n 0 3 = G at *
    have hs : (Builtin.zeroCells (Value.int .i64 0).cells n ++ Builtin.zeroCells (Value.int .i64 0).cells (G - n)).size = G * 1 := by
      simp [Builtin.zeroCells, Value.cells]
      omega
    generalize (Builtin.zeroCells (Value.int .i64 0).cells n ++ Builtin.zeroCells (Value.int .i64 0).cells (G - n)) = cs at *
    have r0 := World.ownsRow_made (e := 3) (size := 1) (base := w.heap.size) w.drew cs G (Nat.le_refl _) hG1 hs
    have hG2 : G ≤ 9223372036854775807 := by unfold maxLen at hG1; omega
    clear hG1 hs
    go_enter Try.func38, Try.ntmps38
    go_wp2_with (at_builtin; refine Lib.wpList_append_run _ rfl _ _ _ _ rfl _ _ rfl rfl _ _ hr ?_)
    all_goals (go_ret; exact ⟨_, rfl, r0, (Kept.trans (kept_drew [] w) (kept_alloc [] _ _)).below (Nat.le_refl _) (by simp)⟩)

end Go.Proofs.Ytldeecjocapfgaa.Hot
