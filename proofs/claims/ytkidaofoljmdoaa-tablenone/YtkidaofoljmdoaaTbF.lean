/-
  What the laws call besides: alike, lives; a table that no call made.
-/
import Derived.Test.YtkidaofoljmdoaaTbE
namespace Go.Proofs.Ytkidaofoljmdoaa.Table
open Go.RowKit

set_option maxRecDepth 100000 in
/-- Two spans of the same numbers -/
theorem same_span (o l : Int) (w : World) : (binOp .eql 32 (.agg #[.int .i64 o, .int .i64 l]) (.agg #[.int .i64 o, .int .i64 l])).run Try.prog w = .ok (.bool true) w := by
  have h1 : Try.prog.underlying 32 = some (.struct (Try.prog.fieldsOf 32)) := by kernel_rfl
  have h2 : Try.prog.stoodInHeld 32 = false := by kernel_rfl
  rw [run_eql_struct, run_equalIn_agg w 9999 32 _ _ h1 h2]
  simp [Program.fieldsOf, Try.underlying32, go_sem]
set_option maxRecDepth 100000 in
set_option maxHeartbeats 1000000 in
/-- alike, of what is alike -/
theorem alike_any (x y : Qv) (lx hx ly hy : Nat) (w : World) (h : x.At lx hx w) (hh : hx ≤ w.heap.size) (k : y.At ly hy w) (kk : hy ≤ w.heap.size) (e : x.rq = y.rq) :
    Calls Try.prog 15 #[x.val, y.val] w fun e w' => e = .returned (.bool true) ∧ Kept [] w w' := by
  obtain ⟨xk, xo, xl, xsa, xlen, xcap, xbs⟩ := x
  obtain ⟨yk, yo, yl, ysa, ylen, ycap, ybs⟩ := y
  simp only [Qv.rq, Rq.mk.injEq] at e
  obtain ⟨rfl, rfl, rfl, rfl⟩ := e
  have k1 := kept_alloc [] w (.cells #[.int .i64 xk, .int .i64 xo, .int .i64 xl, .slice xsa xlen xcap] 35)
  have k2 := kept_alloc [] (w.alloc (.cells #[.int .i64 xk, .int .i64 xo, .int .i64 xl, .slice xsa xlen xcap] 35)) (.cells #[.int .i64 xk, .int .i64 xo, .int .i64 xl, .slice ysa ylen ycap] 35)
  have hk := k1.trans k2
  have t1 := conv_txt (h.kept hh hk (by simp))
  have t2 := conv_txt (k.kept kk hk (by simp))
  have qs := fun W => same_span xo xl W
  unfold Qv.val
  simp only at t1 t2 ⊢
  generalize txt xbs = s at *
  clear h k k1 k2
  go_enter Try.func15, Try.ntmps15
  go_wp2_with fail
  go_ret
  exact ⟨by simp, hk⟩
set_option maxRecDepth 100000 in
/-- Add to an empty table for one, and to that table when it is full -/
theorem add_first {lo hi t b : Nat} (k n : Int) (h0 : 1 ≤ k) (h1 : k ≤ 9223372036854775807) (w : World) (h : TabAt w lo hi t b 1 []) (hlo : lo ≤ w.heap.size) :
    Calls Try.prog 9 #[.pointer (some ⟨t, 0, none⟩), .int .i64 k, .agg #[.int .i64 n, .int .i64 0, .int .i64 0, .slice none 0 0]] w fun e w' => e = .returned (.int .i64 0) ∧ TabAt w' lo w'.heap.size t b 1 [(k, ⟨n, 0, 0, []⟩)] ∧ Kept [b] w w' := by
  have q := add_any k (by omega) h1 ⟨n, 0, 0, none, 0, 0, []⟩ 0 0 w h (byteRow_nil _ _ _) (by omega) (by show (0 : Nat) ≤ 1000; omega) hlo
  have e1 : addE 1 ([] : List (Int × Rq)) k = 0 := by
    unfold addE look
    rw [if_neg (by simp; omega), if_neg (by simp)]
  have e2 : addL 1 ([] : List (Int × Rq)) k ⟨n, 0, 0, []⟩ = [(k, ⟨n, 0, 0, []⟩)] := by
    unfold addL
    rw [e1, if_pos rfl]
    rfl
  rw [e1] at q
  change Calls Try.prog 9 #[.pointer (some ⟨t, 0, none⟩), .int .i64 k, .agg #[.int .i64 n, .int .i64 0, .int .i64 0, .slice none 0 0]] w (fun e w' => e = .returned (.int .i64 0) ∧ TabAt w' lo w'.heap.size t b 1 (addL 1 [] k ⟨n, 0, 0, []⟩) ∧ Kept [b] w w') at q
  rw [e2] at q
  exact q
set_option maxRecDepth 100000 in
theorem add_second {lo hi t b : Nat} (r : Rq) (w : World) (h : TabAt w lo hi t b 1 [(1, r)]) (hlo : lo ≤ w.heap.size) :
    Calls Try.prog 9 #[.pointer (some ⟨t, 0, none⟩), .int .i64 2, .agg #[.int .i64 0, .int .i64 0, .int .i64 0, .slice none 0 0]] w fun e w' => e = .returned (.int .i64 12) ∧ TabAt w' lo w'.heap.size t b 1 [(1, r)] ∧ Kept [b] w w' := by
  have q := add_any 2 (by omega) (by omega) q0 0 0 w h (q0_at _ _ _) (by omega) (by decide) hlo
  have e1 : addE 1 [((1 : Int), r)] 2 = 12 := by
    simp [addE, look]
  have e2 : addL 1 [((1 : Int), r)] 2 q0.rq = [(1, r)] := by
    unfold addL
    rw [e1, if_neg (by decide)]
  rw [e1, e2] at q
  exact q
set_option maxRecDepth 100000 in
theorem rem_first {lo hi t b : Nat} (r : Rq) (w : World) (h : TabAt w lo hi t b 1 [(1, r)]) :
    Calls Try.prog 11 #[.pointer (some ⟨t, 0, none⟩), .int .i64 1] w fun e w' => e = .returned (.bool true) ∧ TabAt w' lo hi t b 1 [] ∧ Kept [b] w w' := by
  have q := remove_any 1 (by omega) (by omega) w h
  have e1 : (look [((1 : Int), r)] 1).isSome = true := by simp [look]
  have e2 : remL [((1 : Int), r)] 1 = [] := by simp [remL, look, del, place]
  rw [e1, e2] at q
  exact q
set_option maxRecDepth 100000 in
set_option maxHeartbeats 1000000 in
/-- lives -/
theorem lives_any (w : World) : Calls Try.prog 6 #[] w fun e w' => e = .returned (.bool true) ∧ Kept [] w w' := by
  have qn : Calls Try.prog 7 #[.int .i64 1] w _ := new_any 1 (by omega) (by omega) w
  go_enter Try.func6, Try.ntmps6
  go_wp2_with (first
    | (go_at_call 7; refine qn.mono ?_; rintro e w1 ⟨rfl, ht1, hs1, hk1⟩; replace ht1 := ht1 (w.heap.size + 2) w1.heap.size (Nat.le_refl _) (Nat.le_refl _); have hl1 : Hid (w.heap.size + 2 ≤ w1.heap.size) := Nat.le_of_eq hs1.symm; have q1 := add_first 1 2 (by omega) (by omega) w1 ht1 hl1.out; clear hs1 qn)
    | (go_at_call 9; refine q1.mono ?_; rintro e w2 ⟨rfl, ht2, hk2⟩; have hl2 : Hid (w.heap.size + 2 ≤ w2.heap.size) := Nat.le_trans hl1.out hk2.size; have q2 := add_second _ w2 ht2 hl2.out; clear q1)
    | (go_at_call 9; refine q2.mono ?_; rintro e w3 ⟨rfl, ht3, hk3⟩; have hl3 : Hid (w.heap.size + 2 ≤ w3.heap.size) := Nat.le_trans hl2.out hk3.size; have q3 := rem_first _ w3 ht3; clear q2)
    | (go_at_call 11; refine q3.mono ?_; rintro e w4 ⟨rfl, ht4, hk4⟩; have hl4 : Hid (w.heap.size + 2 ≤ w4.heap.size) := Nat.le_trans hl3.out hk4.size; have q4 := add_first 2 0 (by omega) (by omega) w4 ht4 hl4.out; clear q3)
    | (go_at_call 9; refine q4.mono ?_; rintro e w5 ⟨rfl, ht5, hk5⟩; clear q4))
  go_ret
  exact ⟨rfl, hk1.young (((hk2.trans hk3).trans hk4).trans hk5) (Nat.le_refl _)⟩
end Go.Proofs.Ytkidaofoljmdoaa.Table
