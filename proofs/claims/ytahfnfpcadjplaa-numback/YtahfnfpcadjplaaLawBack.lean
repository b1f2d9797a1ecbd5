/-
  NumBack: a ticket's parts come back, the tickets of a later boot are greater, and a number that was put is got, for every number, boot and counts; the law returns true.
  Conditions: none beyond the row's own; each argument reads behind the call as it read before it.
-/
import Derived.Test.YtahfnfpcadjplaaRows
import Derived.Test.YtahfnfpcadjplaaWalksE
import Derived.Lib.SmallJoins
import Derived.WalkKit
import Derived.ProofKit
import Derived.OpenShut
import Derived.ShutString
import Derived.ChangeOld
import Derived.Below
namespace Go.Proofs.Ytahfnfpcadjplaa
open Math
namespace numBack
open Go.ChangeShapes Go.WideShapes Go.ChangeAt Go.RowKit
set_option linter.unusedVariables false

theorem own : ownKnob Try.prog.godebug = none := by kernel_rfl
theorem laidOut : laidOutB Try.prog = true := by kernel_rfl

/-- Put64 behind nothing. -/
theorem put_nil (x : Nat) (hx : x < 18446744073709551616) (W : World) :
    Calls Try.prog 12 #[.slice none 0 0, .int .u64 x] W fun e W' => ∃ v, e = .returned v ∧ BytesAt W'.heap.size W' v (be 8 x) ∧ Below W.heap.size W W' := by
  refine (put64_any (.slice none 0 0) [] x W (by simp) hx ⟨by simp, none, 0, rfl, fun _ => rfl, .inl rfl⟩).mono ?_
  rintro e W' ⟨v, rfl, ho, hB⟩
  exact ⟨v, rfl, bytesAt_owns (be_byte 8 x) (Nat.le_refl _) ho, hB⟩

/-- Get64 of what was put. -/
theorem get_put (x : Nat) (hx : x < 18446744073709551616) (v : Value) (W : World) (h : BytesAt W.heap.size W v (be 8 x)) :
    Calls Try.prog 16 #[v] W fun e W' => e = .returned (.tuple #[.int .u64 x, .bool true]) ∧ W' = W := by
  have q := get64_any W.heap.size v (be 8 x) W (by rw [be_length]; omega) h
  rw [getv_in (by rw [be_length]; omega), getB_in (by rw [be_length]; omega), List.take_of_length_le (by rw [be_length]; omega), val_be] at q
  rw [show x % 256 ^ 8 = x from Nat.mod_eq_of_lt hx] at q
  exact q

/-- What follows Ticket's answer, where there is one. -/
theorem boot_tick (b n : Int) (h0 : 0 ≤ b) (h1 : b < 4294967296) (h : 0 ≤ n) (h' : n < 16777216) (W : World) :
    Calls Try.prog 20 #[.int .i64 (b * 16777216 + n)] W fun e W' => e = .returned (.tuple #[.int .u32 b, .int .i64 n]) ∧ W' = W := by
  have q := boot_any (b * 16777216 + n) W
  rw [bootOf_tick h0 h1 h h', restOf_tick h0 h1 h h'] at q
  exact q
theorem ticket_in (b n : Int) (h0 : 0 ≤ b) (h1 : b < 4294967296) (h : 0 ≤ n) (h' : n < 16777216) (W : World) :
    Calls Try.prog 18 #[.int .u32 b, .int .i64 n] W fun e W' => e = .returned (.tuple #[.int .i64 (b * 16777216 + n), .bool true]) ∧ W' = W := by
  have q := ticket_any b n W h0 h1
  rw [tick_in h h', tickB_in h h'] at q
  exact q
theorem ticket_out (b n : Int) (h0 : 0 ≤ b) (h1 : b < 4294967296) (h : n < 0 ∨ 16777216 ≤ n) (W : World) :
    Calls Try.prog 18 #[.int .u32 b, .int .i64 n] W fun e W' => e = .returned (.tuple #[.int .i64 0, .bool false]) ∧ W' = W := by
  have q := ticket_any b n W h0 h1
  rw [tick_out h, tickB_out h] at q
  exact q

theorem below_box (w : World) (o : Obj) (m : Nat) : Below w.heap.size w ((w.alloc o).drewN m) := by
  have h : Below w.heap.size w (w.alloc o) := (Below.refl _ _).alloc (Nat.le_refl _) _
  exact ⟨h.os, h.tape, h.output, h.size, h.block⟩

set_option maxHeartbeats 1000000 in
theorem walkOut (x : Nat) (b n k : Int) (w : World) (h0 : 0 ≤ b) (h1 : b < 4294967296) (hn : n < 0 ∨ 16777216 ≤ n) :
    Calls Try.prog 6 #[.int .u64 x, .agg #[.int .u32 b, .int .i64 n, .int .i64 k]] w fun e w' => e = .returned (.bool true) ∧ Below w.heap.size w w' := by
  have t := ticket_out b n h0 h1 hn
  go_enter Try.func6, Try.ntmps6
  go_wp2
  go_quiet (fail)
  have hB := below_box w (.cells #[.int .u32 b, .int .i64 n, .int .i64 k] 44) nq
  go_wp2_with (first
    | (go_at_call 18; refine (t _).mono ?_; rintro e w1 ⟨rfl, rfl⟩)
    | (go_at_call 7; refine (lives_any _).mono ?_; rintro e w9 ⟨rfl, hB9⟩))
  go_ret
  exact ⟨rfl, hB.trans (hB9.mono hB.size)⟩

set_option maxHeartbeats 1000000 in
theorem walkLast (x : Nat) (n k : Int) (w : World) (hx : x < 18446744073709551616) (hn : 0 ≤ n) (hn' : n < 16777216) :
    Calls Try.prog 6 #[.int .u64 x, .agg #[.int .u32 4294967295, .int .i64 n, .int .i64 k]] w fun e w' => e = .returned (.bool true) ∧ Below w.heap.size w w' := by
  have t := ticket_in 4294967295 n (by omega) (by omega) hn hn'
  have bt := boot_tick 4294967295 n (by omega) (by omega) hn hn'
  generalize 4294967295 * 16777216 + n = a at *
  go_enter Try.func6, Try.ntmps6
  go_wp2
  go_quiet (fail)
  have hB := below_box w (.cells #[.int .u32 4294967295, .int .i64 n, .int .i64 k] 44) nq
  go_wp2_with (first
    | (go_at_call 18; refine (t _).mono ?_; rintro e w1 ⟨rfl, rfl⟩)
    | (go_at_call 20; refine (bt _).mono ?_; rintro e w2 ⟨rfl, rfl⟩)
    | (go_at_call 12; refine (put_nil x hx _).mono ?_; rintro e w3 ⟨v, rfl, hI, hB3⟩; replace hB := hB.trans (hB3.mono hB.size); clear hB3)
    | (go_at_call 16; refine (get_put x hx _ _ hI).mono ?_; rintro e w4 ⟨rfl, rfl⟩)
    | (go_at_call 7; refine (lives_any _).mono ?_; rintro e w9 ⟨rfl, hB9⟩))
  go_ret
  exact ⟨rfl, hB.trans (hB9.mono hB.size)⟩

set_option maxHeartbeats 1000000 in
theorem walkNone (x : Nat) (b n k : Int) (w : World) (hx : x < 18446744073709551616) (h0 : 0 ≤ b) (h1 : b < 4294967295) (hn : 0 ≤ n) (hn' : n < 16777216) (hk : k < 0 ∨ 16777216 ≤ k) :
    Calls Try.prog 6 #[.int .u64 x, .agg #[.int .u32 b, .int .i64 n, .int .i64 k]] w fun e w' => e = .returned (.bool true) ∧ Below w.heap.size w w' := by
  have t := ticket_in b n (by omega) (by omega) hn hn'
  have t' := ticket_out (b + 1) k (by omega) (by omega) hk
  have bt := boot_tick b n (by omega) (by omega) hn hn'
  have hne : (b == 4294967295) = false := by simp; omega
  generalize b * 16777216 + n = a at *
  go_enter Try.func6, Try.ntmps6
  go_wp2
  go_quiet (fail)
  have hB := below_box w (.cells #[.int .u32 b, .int .i64 n, .int .i64 k] 44) nq
  go_wp2_with (first
    | (go_at_call 18; refine (t _).mono ?_; rintro e w1 ⟨rfl, rfl⟩; clear t)
    | (go_at_call 18; refine (t' _).mono ?_; rintro e w5 ⟨rfl, rfl⟩; clear t')
    | (go_at_call 20; refine (bt _).mono ?_; rintro e w2 ⟨rfl, rfl⟩)
    | (go_at_call 12; refine (put_nil x hx _).mono ?_; rintro e w3 ⟨v, rfl, hI, hB3⟩; replace hB := hB.trans (hB3.mono hB.size); clear hB3)
    | (go_at_call 16; refine (get_put x hx _ _ hI).mono ?_; rintro e w4 ⟨rfl, rfl⟩)
    | (go_at_call 7; refine (lives_any _).mono ?_; rintro e w9 ⟨rfl, hB9⟩))
  go_ret
  exact ⟨rfl, hB.trans (hB9.mono hB.size)⟩

set_option maxHeartbeats 1000000 in
theorem walkBoth (x : Nat) (b n k : Int) (w : World) (hx : x < 18446744073709551616) (h0 : 0 ≤ b) (h1 : b < 4294967295) (hn : 0 ≤ n) (hn' : n < 16777216) (hk : 0 ≤ k) (hk' : k < 16777216) :
    Calls Try.prog 6 #[.int .u64 x, .agg #[.int .u32 b, .int .i64 n, .int .i64 k]] w fun e w' => e = .returned (.bool true) ∧ Below w.heap.size w w' := by
  have t := ticket_in b n (by omega) (by omega) hn hn'
  have t' := ticket_in (b + 1) k (by omega) (by omega) hk hk'
  have bt := boot_tick b n (by omega) (by omega) hn hn'
  have hne : (b == 4294967295) = false := by simp; omega
  have hlt : b * 16777216 + n < (b + 1) * 16777216 + k := by omega
  generalize b * 16777216 + n = a at *
  generalize (b + 1) * 16777216 + k = a' at *
  go_enter Try.func6, Try.ntmps6
  go_wp2
  go_quiet (fail)
  have hB := below_box w (.cells #[.int .u32 b, .int .i64 n, .int .i64 k] 44) nq
  go_wp2_with (first
    | (go_at_call 18; refine (t _).mono ?_; rintro e w1 ⟨rfl, rfl⟩; clear t)
    | (go_at_call 18; refine (t' _).mono ?_; rintro e w5 ⟨rfl, rfl⟩; clear t')
    | (go_at_call 20; refine (bt _).mono ?_; rintro e w2 ⟨rfl, rfl⟩)
    | (go_at_call 12; refine (put_nil x hx _).mono ?_; rintro e w3 ⟨v, rfl, hI, hB3⟩; replace hB := hB.trans (hB3.mono hB.size); clear hB3)
    | (go_at_call 16; refine (get_put x hx _ _ hI).mono ?_; rintro e w4 ⟨rfl, rfl⟩)
    | (go_at_call 7; refine (lives_any _).mono ?_; rintro e w9 ⟨rfl, hB9⟩))
  go_ret
  exact ⟨rfl, hB.trans (hB9.mono hB.size)⟩

theorem walk (x : Nat) (b n k : Int) (w : World) (hx : x < 18446744073709551616) (h0 : 0 ≤ b) (h1 : b < 4294967296) :
    Calls Try.prog 6 #[.int .u64 x, .agg #[.int .u32 b, .int .i64 n, .int .i64 k]] w fun e w' => e = .returned (.bool true) ∧ Below w.heap.size w w' := by
  by_cases hn : n < 0 ∨ 16777216 ≤ n
  · exact walkOut x b n k w h0 h1 hn
  · by_cases hb : b = 4294967295
    · subst hb
      exact walkLast x n k w hx (by omega) (by omega)
    · by_cases hk : k < 0 ∨ 16777216 ≤ k
      · exact walkNone x b n k w hx h0 (by omega) (by omega) (by omega) hk
      · exact walkBoth x b n k w hx h0 (by omega) (by omega) (by omega) (by omega) (by omega)

set_option maxRecDepth 100000 in
theorem lifted (os : Os) (started : os.Started) (H : Type) (enc : TypeId × Value → H) :
    ReturnsInHanded {} Try.checked os 6 .any (Rows.numBackSpec.pre6 enc Try.prog Try.f6 Rows.numBackRow.domain false) (Rows.numBackSpec.post enc Try.prog Try.f6 false true false false) := by
  refine returnsInHanded_of_change (C := Try.checked) own started (by kernel_rfl) Try.func6
    (ChangeSpec.witness6 (enc := enc) (C := Try.checked) false ⟨#[], #[.int .u64 0, .agg #[.int .u32 0, .int .i64 0, .int .i64 0]], []⟩ 8 (by kernel_rfl) (by kernel_rfl) (by kernel_rfl) (by kernel_rfl)) ?_
  intro W base args ds gs before hval0 hW hcnd _
  have hval : ∀ (j : Nat) t v, Try.f6.params[j]? = some t → args[j]? = some v → Value.okWide Try.prog W .any base t v := hval0
  have hW' := hW
  obtain ⟨p, q, hA0, hV, rfl, hfz, hnd⟩ := hW
  have hA : DataW.TrodAll enc Try.prog W 0 (fun _ => true) true Try.f6.params.toList args.toList ds p := hA0
  rw [Try.params6] at hA hval
  obtain ⟨v0, vs0, d0, ds0, p0, q0, hargs, rfl, rfl, h0, r0⟩ := trodAll_cons hA
  obtain ⟨v1, vs1, d1, ds1, p1, q1, rfl, rfl, rfl, h1, r1⟩ := trodAll_cons r0
  obtain ⟨rfl, rfl, rfl⟩ := trodAll_nil r1
  obtain rfl : args = #[v0, v1] := by cases args; simp_all
  obtain ⟨rfl, rfl⟩ := trodVars_none hV
  obtain ⟨a0, rfl, rfl, rfl, w0⟩ := open_int Try.underlying23 (hval 0 23 v0 rfl rfl) h0
  have k1 := h1
  have lt1 : ∀ x ∈ p1, x.block < W.heap.size := by obtain ⟨m, hm⟩ := k1; exact DataW.trod_lt m _ _ _ hm
  obtain ⟨c0, c1, c2, y0, y1, y2, fuel, rfl, e1, e2, t0, t1, t2⟩ := Go.Joins.open_agg3 Try.underlying44 (by kernel_rfl) (by kernel_rfl) (hval 1 44 v1 rfl rfl) h1
  obtain ⟨b, hb, _, wb⟩ := DataW.trod_int Try.underlying27 t0
  obtain ⟨n, hn, _, wn⟩ := DataW.trod_int Try.underlying3 t1
  obtain ⟨k, hk, _, wk⟩ := DataW.trod_int Try.underlying3 t2
  obtain rfl : c0 = .int .u32 b := by simpa using hb
  obtain rfl : c1 = .int .i64 n := by simpa using hn
  obtain rfl : c2 = .int .i64 k := by simpa using hk
  clear hA0 hval0
  have b0 := bounds_u64 w0
  have b1 := bounds_u32 wb
  obtain ⟨x, rfl⟩ : ∃ x : Nat, a0 = x := ⟨a0.toNat, by omega⟩
  refine (walk x b n k W (by omega) (by omega) (by omega)).mono fun e W' ⟨he, bel⟩ => ?_
  subst he
  exact ⟨_, rfl, _, _, _, [], _, [], hW', trodAll_mk1 (shut_bool Try.underlying4 _), (trodAll_cons_mk (shut_int Try.underlying23 w0) (trodAll_cons_mk (Below.trod laidOut (by kernel_rfl) (of_decide_eq_true (by kernel_rfl)) k1 bel lt1) trodAll_mk0)), rfl, bel.frame _, fun h => by cases h⟩

end numBack

/-- NumBack: a ticket's parts come back, the tickets of a later boot are greater, and a number that was put is got; the law returns true. -/
theorem numBack_holds : Rows.NumBackSaid :=
  OpenClaim.holds_of_wide 6 Try.f6 rfl rfl rfl rfl rfl rfl rfl ⟨rfl, rfl, rfl, rfl, rfl⟩ rfl rfl rfl rfl rfl (by kernel_rfl) Try.func6 (by kernel_rfl)
    (of_decide_eq_true (by kernel_rfl)) (by unfold Func.isWrapper; first | (rw [if_pos (by decide +kernel)]; kernel_rfl) | (rw [if_neg (by decide +kernel)]; exact ⟨rfl, rfl⟩))
    (fun os started H enc _ => numBack.lifted os started H enc)
#print axioms numBack_holds
end Go.Proofs.Ytahfnfpcadjplaa
