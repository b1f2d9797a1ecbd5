/-
  Texts of ours, joined: BitsA, BitsB, BitsC.
-/
import Derived.Test.YtcmfejgimnjbgaaGreatProg
import Derived.Test.YtcmfejgimnjbgaaGreatBitsMath
import Derived.WalkKit
import Derived.WalkSpells
import Derived.WalkLawsBesides
import Derived.Laws.BitsAllLaws
import Derived.Laws.ShiftsVarLaws
import Derived.Below
import Derived.LoopTactic
import Derived.Deep.QuietTactic
import Derived.BigQuiet
import Derived.WalkSmall
import Derived.RegionTactic
import Derived.Maps.AppendAt
import Derived.RangeFuncCalls
import Derived.RangeFuncLeaves
import Derived.RangeFuncBox
import Derived.Shelf.Abstract
import Derived.Shelf.RegionOpen
import Derived.OwnWalkIn
import Derived.TacticsInMore
import Derived.LoopNIn
import Derived.LoopIn
/-
  The walks of layer 1's functions without an iterator: what each call answers, in the plain words of the Math text.
-/
namespace Go.Proofs.YtcmfejgimnjbgaaGreat.Bits
open Go.RowKit
open Math

theorem ret_int {k : IntKind} {a b : Int} (h : a = b) : Ending.returned (.int k a) = .returned (.int k b) := by rw [h]
theorem ret_bool {a b : Bool} (h : a = b) : Ending.returned (.bool a) = .returned (.bool b) := by rw [h]
theorem ne_bool (a : Nat) : ((a : Int) != 0) = decide (a ≠ 0) := by
  by_cases h : a = 0
  · subst h; rfl
  · have : (a : Int) ≠ 0 := by omega
    simp [h]
theorem wrap_pow {k : Nat} (h : k < 64) : IntKind.u64.wrap ((2 : Int) ^ k) = ((2 ^ k : Nat) : Int) := by
  have a := Nat.pow_lt_pow_right (a := 2) (by omega) h
  have b : ((2 : Int) ^ k) = ((2 ^ k : Nat) : Int) := by simp
  rw [IntKind.wrap_u64, b]
  generalize 2 ^ k = P at *
  have : P < 18446744073709551616 := a
  omega

set_option maxRecDepth 100000 in
/-- bits.One -/
theorem one_any (n : Int) (w : World) :
    Calls Tryz.prog 92 #[.int .i64 n] w fun e w' => e = .returned (.int .u64 (one n)) ∧ w' = w := by
  by_cases ha : n < 0
  · rw [one_out (.inl ha)]
    go_enter Tryz.func92, Tryz.ntmps92
    go_wp2
    go_ret
    exact ⟨rfl, rfl⟩
  · by_cases hb : 64 ≤ n
    · rw [one_out (.inr (by omega))]
      go_enter Tryz.func92, Tryz.ntmps92
      go_wp2
      go_ret
      exact ⟨rfl, rfl⟩
    · rw [one_in (by omega) (by omega)]
      go_enter Tryz.func92, Tryz.ntmps92
      go_wp2
      go_ret
      exact ⟨ret_int (wrap_pow (by omega)), rfl⟩

set_option maxRecDepth 100000 in
/-- bits.Without -/
theorem without_any (s : Nat) (n : Int) (w : World) (hs : s < 18446744073709551616) :
    Calls Tryz.prog 65 #[.int .u64 s, .int .i64 n] w fun e w' => e = .returned (.int .u64 (without s n)) ∧ w' = w := by
  have ho := one_lt n
  have e := u64_andNot_nat s (one n) hs ho
  go_enter Tryz.func65, Tryz.ntmps65
  go_wp2_with (go_at_call 92; refine (one_any _ _).mono ?_; rintro e w' ⟨rfl, rfl⟩)
  go_ret
  exact ⟨rfl, rfl⟩

set_option maxRecDepth 100000 in
/-- twainref01.One -/
theorem refOne_any (n : Int) (w : World) :
    Calls Tryz.prog 94 #[.int .i64 n] w fun e w' => e = .returned (.int .u64 (one n)) ∧ w' = w := by
  by_cases ha : n < 0
  · rw [one_out (.inl ha)]
    go_enter Tryz.func94, Tryz.ntmps94
    go_wp2
    go_ret
    exact ⟨rfl, rfl⟩
  · by_cases hb : 63 < n
    · rw [one_out (.inr (by omega))]
      go_enter Tryz.func94, Tryz.ntmps94
      go_wp2
      go_ret
      exact ⟨rfl, rfl⟩
    · rw [one_in (by omega) (by omega)]
      obtain ⟨m, rfl⟩ : ∃ m : Nat, n = m := ⟨n.toNat, by omega⟩
      go_enter Tryz.func94, Tryz.ntmps94
      go_wp2
      go_loop [3, 4] (fun x i => ∃ k : Nat, k ≤ m ∧ i = .int .i64 k ∧ x = .int .u64 ((2 ^ k : Nat) : Int)) (fun _ i => m - (intOf i).toNat)
      case atStart => exact ⟨0, Nat.zero_le _, rfl, rfl⟩
      case round =>
        obtain ⟨k, hk, rfl, rfl⟩ := hrel
        by_cases hlt : k < m
        · have hp : 2 ^ (k + 1) = 2 ^ k * 2 := Nat.pow_succ 2 k
          have hq := Nat.pow_lt_pow_right (a := 2) (by omega) (show k + 1 < 64 by omega)
          obtain ⟨P, hP⟩ : ∃ P, 2 ^ k = P := ⟨_, rfl⟩
          have HP : Hid (2 ^ (k + 1) = P * 2) := by rw [← hP]; exact hp
          have hP2 : P < 9223372036854775808 := by rw [hp, hP] at hq; omega
          rw [hP]
          clear hp hq hP
          go_wp2
          go_round
          case rel => exact ⟨k + 1, by omega, by go_num, by rw [HP.out]; first | rfl | go_num⟩
          case measure => simp [intOf]; omega
        · obtain rfl : k = m := by omega
          go_wp2
          go_ret
          exact ⟨ret_int (by simp), rfl⟩

theorem quo_bit (s p : Nat) (hs : s < 18446744073709551616) (_hp : 0 < p) : ((IntKind.u64.wrap ((s : Int) / (p : Int))).tmod 2 == 1) = decide (s / p % 2 = 1) := by
  have a : s / p ≤ s := Nat.div_le_self s p
  have b : ((s : Int) / (p : Int)) = ((s / p : Nat) : Int) := by simp
  rw [IntKind.wrap_u64, b]
  generalize s / p = q at *
  have c : ((q : Int) % 18446744073709551616) = q := by omega
  rw [c]
  have d : ((q : Int).tmod 2) = ((q % 2 : Nat) : Int) := by rw [Int.tmod_eq_emod_of_nonneg (by omega)]; omega
  rw [d]
  rcases Nat.mod_two_eq_zero_or_one q with h | h <;> simp [h]

set_option maxRecDepth 100000 in
/-- twainref01.Has -/
theorem refHas_any (s : Nat) (n : Int) (w : World) (hs : s < 18446744073709551616) :
    Calls Tryz.prog 93 #[.int .u64 s, .int .i64 n] w fun e w' => e = .returned (.bool (has s n)) ∧ w' = w := by
  by_cases ha : n < 0
  · rw [has_out s (.inl ha)]
    go_enter Tryz.func93, Tryz.ntmps93
    go_wp2
    go_ret
    exact ⟨rfl, rfl⟩
  · by_cases hb : 63 < n
    · rw [has_out s (.inr hb)]
      go_enter Tryz.func93, Tryz.ntmps93
      go_wp2
      go_ret
      exact ⟨rfl, rfl⟩
    · have ho := one_lt n
      have hp : 0 < one n := by rw [one_in (by omega) (by omega)]; exact Nat.two_pow_pos _
      have hh := has_in s (n := n) (by omega) (by omega)
      rw [← one_in (by omega) (by omega)] at hh
      rw [hh]
      clear hh
      go_enter Tryz.func93, Tryz.ntmps93
      go_wp2_with (go_at_call 94; refine (refOne_any _ _).mono ?_; rintro e w' ⟨rfl, rfl⟩)
      go_ret
      exact ⟨ret_bool (quo_bit s (one n) hs hp), rfl⟩

set_option maxRecDepth 100000 in
/-- twainref01.Without -/
theorem refWithout_any (s : Nat) (n : Int) (w : World) (hs : s < 18446744073709551616) :
    Calls Tryz.prog 73 #[.int .u64 s, .int .i64 n] w fun e w' => e = .returned (.int .u64 (without s n)) ∧ w' = w := by
  have ho := one_lt n
  cases hh : has s n with
  | true =>
    obtain ⟨he, hle⟩ := without_true hs hh
    rw [he]
    clear he
    go_enter Tryz.func73, Tryz.ntmps73
    go_wp2_with (first | (go_at_call 93; refine (refHas_any _ _ _ hs).mono ?_; rw [hh]; rintro e w' ⟨rfl, rfl⟩) | (go_at_call 94; refine (refOne_any _ _).mono ?_; rintro e w' ⟨rfl, rfl⟩))
    go_ret
    exact ⟨ret_int (by omega), rfl⟩
  | false =>
    rw [without_false hs hh]
    go_enter Tryz.func73, Tryz.ntmps73
    go_wp2_with (first | (go_at_call 93; refine (refHas_any _ _ _ hs).mono ?_; rw [hh]; rintro e w' ⟨rfl, rfl⟩))
    go_ret
    exact ⟨rfl, rfl⟩

/-- What the set has become behind k rounds. -/
def cc : Nat → Nat → Nat
  | 0, x => x
  | 1, x => c1 x
  | 2, x => c2 x
  | 3, x => c3 x
  | 4, x => c4 x
  | 5, x => c5 x
  | _, x => c6 x

theorem step_u64 (x d m : Nat) (hx : x < 18446744073709551616) (hm : m < 18446744073709551616) (hlt : (x &&& m) + ((x / d) &&& m) < 18446744073709551616) :
    IntKind.u64.wrap (bits .and .u64 (x : Int) (m : Int) + bits .and .u64 ((x : Int) / (d : Int)) (m : Int)) = (((x &&& m) + ((x / d) &&& m) : Nat) : Int) := by
  have a : x / d ≤ x := Nat.div_le_self x d
  have b : ((x : Int) / (d : Int)) = ((x / d : Nat) : Int) := by simp
  rw [b, u64_and_nat x m hx hm, u64_and_nat (x / d) m (by omega) hm, IntKind.wrap_u64]
  generalize (x &&& m) = p at *
  generalize (x / d &&& m) = q at *
  omega

theorem cc_lt (s : Nat) (hs : s < 18446744073709551616) : ∀ k, cc k s < 18446744073709551616
  | 0 => hs
  | 1 => (c_lt s).1
  | 2 => (c_lt s).2.1
  | 3 => (c_lt s).2.2.1
  | 4 => (c_lt s).2.2.2.1
  | 5 => (c_lt s).2.2.2.2.1
  | _ + 6 => (c_lt s).2.2.2.2.2

theorem round0 (s : Nat) (hs : s < 18446744073709551616) : IntKind.u64.wrap (bits .and .u64 ((cc 0 s : Nat) : Int) 6148914691236517205 + bits .and .u64 (((cc 0 s : Nat) : Int) / 2) 6148914691236517205) = ((cc 1 s : Nat) : Int) := by
  have e : cc 1 s = (cc 0 s &&& 6148914691236517205) + ((cc 0 s / 2) &&& 6148914691236517205) := c1_eq s
  have h := cc_lt s hs 1
  rw [e] at h ⊢
  exact step_u64 (cc 0 s) 2 6148914691236517205 (cc_lt s hs 0) (by omega) h

theorem round1 (s : Nat) (hs : s < 18446744073709551616) : IntKind.u64.wrap (bits .and .u64 ((cc 1 s : Nat) : Int) 3689348814741910323 + bits .and .u64 (((cc 1 s : Nat) : Int) / 4) 3689348814741910323) = ((cc 2 s : Nat) : Int) := by
  have e : cc 2 s = (cc 1 s &&& 3689348814741910323) + ((cc 1 s / 4) &&& 3689348814741910323) := c2_eq s
  have h := cc_lt s hs 2
  rw [e] at h ⊢
  exact step_u64 (cc 1 s) 4 3689348814741910323 (cc_lt s hs 1) (by omega) h

theorem round2 (s : Nat) (hs : s < 18446744073709551616) : IntKind.u64.wrap (bits .and .u64 ((cc 2 s : Nat) : Int) 1085102592571150095 + bits .and .u64 (((cc 2 s : Nat) : Int) / 16) 1085102592571150095) = ((cc 3 s : Nat) : Int) := by
  have e : cc 3 s = (cc 2 s &&& 1085102592571150095) + ((cc 2 s / 16) &&& 1085102592571150095) := c3_eq s
  have h := cc_lt s hs 3
  rw [e] at h ⊢
  exact step_u64 (cc 2 s) 16 1085102592571150095 (cc_lt s hs 2) (by omega) h

theorem round3 (s : Nat) (hs : s < 18446744073709551616) : IntKind.u64.wrap (bits .and .u64 ((cc 3 s : Nat) : Int) 71777214294589695 + bits .and .u64 (((cc 3 s : Nat) : Int) / 256) 71777214294589695) = ((cc 4 s : Nat) : Int) := by
  have e : cc 4 s = (cc 3 s &&& 71777214294589695) + ((cc 3 s / 256) &&& 71777214294589695) := c4_eq s
  have h := cc_lt s hs 4
  rw [e] at h ⊢
  exact step_u64 (cc 3 s) 256 71777214294589695 (cc_lt s hs 3) (by omega) h

theorem round4 (s : Nat) (hs : s < 18446744073709551616) : IntKind.u64.wrap (bits .and .u64 ((cc 4 s : Nat) : Int) 281470681808895 + bits .and .u64 (((cc 4 s : Nat) : Int) / 65536) 281470681808895) = ((cc 5 s : Nat) : Int) := by
  have e : cc 5 s = (cc 4 s &&& 281470681808895) + ((cc 4 s / 65536) &&& 281470681808895) := c5_eq s
  have h := cc_lt s hs 5
  rw [e] at h ⊢
  exact step_u64 (cc 4 s) 65536 281470681808895 (cc_lt s hs 4) (by omega) h

theorem round5 (s : Nat) (hs : s < 18446744073709551616) : IntKind.u64.wrap (bits .and .u64 ((cc 5 s : Nat) : Int) 4294967295 + bits .and .u64 (((cc 5 s : Nat) : Int) / 4294967296) 4294967295) = ((cc 6 s : Nat) : Int) := by
  have e : cc 6 s = (cc 5 s &&& 4294967295) + ((cc 5 s / 4294967296) &&& 4294967295) := c6_eq s
  have h := cc_lt s hs 6
  rw [e] at h ⊢
  exact step_u64 (cc 5 s) 4294967296 4294967295 (cc_lt s hs 5) (by omega) h

theorem row_u64 (f n : Nat) (hn : n ≤ 64) (h : f + n ≤ 64) : IntKind.u64.wrap ((18446744073709551615 : Int) / 2 ^ (64 - n) * 2 ^ f) = ((row f n : Nat) : Int) := by
  have a := full_div n (by omega)
  have b : ((18446744073709551615 : Int) / 2 ^ (64 - n) * 2 ^ f) = ((18446744073709551615 / 2 ^ (64 - n) * 2 ^ f : Nat) : Int) := by
    simp
  have c := row_lt64 h
  rw [b, a, IntKind.wrap_u64]
  show (((row f n : Nat) : Int) % 18446744073709551616) = _
  omega

end Go.Proofs.YtcmfejgimnjbgaaGreat.Bits

/-
  The walks of the document's List, Of and Ints: what each call answers, in the plain words of the Math text.
-/
namespace Go.Proofs.YtcmfejgimnjbgaaGreat.Bits
open Go.RowKit
open Math

/-- The slice value sv holds the ints zs, in a block below n₀ where there is one. -/
def IntsAt (n₀ : Nat) (W : World) (sv : Value) (zs : List Int) : Prop :=
  ∃ a cap, sv = .slice a zs.length cap ∧ (zs = [] ∨ ∃ b off, a = some ⟨b, off, none⟩ ∧ b < n₀ ∧ ∀ j, j < zs.length → W.cell? ⟨b, off + j, none⟩ = some (.int .i64 (zs[j]?.getD 0)))
theorem IntsAt.below {n₀ : Nat} {A B : World} (h : Below n₀ A B) {sv : Value} {zs : List Int} : IntsAt n₀ A sv zs → IntsAt n₀ B sv zs
  | ⟨a, cap, e, .inl r⟩ => ⟨a, cap, e, .inl r⟩
  | ⟨a, cap, e, .inr ⟨b, off, e2, hb, hc⟩⟩ => ⟨a, cap, e, .inr ⟨b, off, e2, hb, fun j hj => (h.cell (p := ⟨b, off + j, none⟩) hb).trans (hc j hj)⟩⟩
theorem IntsAt.mono {n m : Nat} {A : World} {sv : Value} {zs : List Int} (hn : n ≤ m) : IntsAt n A sv zs → IntsAt m A sv zs
  | ⟨a, cap, e, .inl r⟩ => ⟨a, cap, e, .inl r⟩
  | ⟨a, cap, e, .inr ⟨b, off, e2, hb, hc⟩⟩ => ⟨a, cap, e, .inr ⟨b, off, e2, by omega, hc⟩⟩

/-- twainref01.List -/
theorem lst_snoc (k s : Nat) : lst (k + 1) s = lst k s ++ (if s.testBit k then [k] else []) := by
  unfold lst
  rw [List.range_succ, List.filter_append]
  cases h : s.testBit k <;> simp [h]
theorem lst_len (k s : Nat) : (lst k s).length ≤ k := by
  have := List.length_filter_le (fun i => s.testBit i) (List.range k)
  simpa [lst] using this
def enc (i : Nat) : Value := .int .i64 (i : Int)
set_option maxRecDepth 100000 in
theorem Tryz.info3 : (Tryz.prog.info? 3).map (fun i => (i.zero, i.size, i.bytes)) = some (some (.int .i64 0), 1, 8) := by kernel_rfl

theorem has_nat {s k : Nat} (h : k < 64) : has s (k : Int) = s.testBit k := by
  unfold has; simp; omega

theorem below_append {w W w1 : World} {n₀ : Nat} {e : TypeId} {size k : Nat} {v : Value} {xs : List Value} {tmp : Obj} (hn : n₀ ≤ w.heap.size) (hB : Below n₀ w W) (hrow : W.ownsRow n₀ e size v k xs) (hgrow : (W.alloc tmp).grownBy w1 v.ownBlock) : Below n₀ w w1 := by
  have hsz := hB.size
  refine (hB.alloc (by omega) tmp).grown hgrow (by simp; omega) fun j ej => ?_
  rcases hrow.2 with ⟨rfl, _⟩ | ⟨g, cap, cur, rfl, hb, _, _⟩
  · simp [Value.ownBlock] at ej
  · obtain rfl : g = j := by simpa [Value.ownBlock] using ej
    exact hb

/-- What a call's own row holds, as numbers. -/
theorem intsAt_of_owns {W : World} {base : Nat} {v : Value} {l : List Nat} (h : W.ownsRow base 3 1 v l.length (l.map enc)) : IntsAt W.heap.size W v (l.map Int.ofNat) := by
  obtain ⟨_, ⟨rfl, h0⟩ | ⟨g, cap, cur, rfl, hb, hg, h1, h2, h3, h4⟩⟩ := h
  · have : l = [] := by simpa using h0
    subst this
    exact ⟨none, 0, rfl, .inl rfl⟩
  · refine ⟨some ⟨g, 0, none⟩, cap, by simp, .inr ⟨g, 0, rfl, (Array.getElem?_eq_some_iff.1 hg).1, fun j hj => ?_⟩⟩
    have hj' : j < l.length := by simpa using hj
    have e : cur.toList[j]? = some (enc l[j]) := by
      have := congrArg (fun t => t[j]?) h4
      simp [hj'] at this
      simpa using this
    simp [World.cell?, hg]
    rw [Array.getElem?_toList] at e
    rw [e]
    simp [enc, hj']

end Go.Proofs.YtcmfejgimnjbgaaGreat.Bits

/-
  The walks over the two iterators: slices.Values and members; and of Of and List, which range over them.
-/
namespace Go.Proofs.YtcmfejgimnjbgaaGreat.Bits
open Go.RowKit Go.Shelf
open Math

attribute [local go_sem] Oper.semAt_some

/-- What has come when k rounds are over. -/
def upto {α : Type} (f : Nat → α) (k : Nat) : List α := (List.range k).map f
theorem upto_succ {α : Type} (f : Nat → α) (k : Nat) : upto f (k + 1) = upto f k ++ [f k] := by simp [upto, List.range_succ]
theorem upto_length {α : Type} (f : Nat → α) (k : Nat) : (upto f k).length = k := by simp [upto]
theorem upto_all (zs : List Int) : upto (fun j => zs[j]?.getD 0) zs.length = zs := by
  apply List.ext_getElem
  · simp [upto]
  · intro i h1 h2
    simp [upto, h2]
theorem upto_take (zs : List Int) {k : Nat} (hk : k ≤ zs.length) : upto (fun j => zs[j]?.getD 0) k = zs.take k := by
  apply List.ext_getElem
  · simp [upto, hk]
  · intro i h1 h2
    have : i < zs.length := by simp [upto] at h1; omega
    simp [upto, this]

/-- What Below leaves is no turn of what lay. -/
theorem grown_of_below {W W' : World} (h : Below W.heap.size W W') : W.grownBy W' none := ⟨h.os, h.tape, h.output, h.size, fun k hk _ => h.block k hk⟩

end Go.Proofs.YtcmfejgimnjbgaaGreat.Bits

