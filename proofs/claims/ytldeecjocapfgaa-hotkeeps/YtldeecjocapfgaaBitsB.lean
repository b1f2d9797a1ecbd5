/-
  The walks of the document's List, Of and Ints: what each call answers, in the plain words of the Math text.
-/
import Derived.Test.YtldeecjocapfgaaBitsA
import Derived.Deep.QuietTactic
import Derived.BigQuiet
import Derived.WalkSmall
import Derived.RegionTactic
import Derived.Maps.AppendAt
namespace Go.Proofs.Ytldeecjocapfgaa.Bits
open Go.RowKit
open Math

/-- The slice value sv holds the ints zs, in a block below n₀ where there is one. -/
def IntsAt (n₀ : Nat) (W : World) (sv : Value) (zs : List Int) : Prop :=
  ∃ a cap, sv = .slice a zs.length cap ∧ (zs = [] ∨ ∃ b off, a = some ⟨b, off, none⟩ ∧ b < n₀ ∧ ∀ j, j < zs.length → W.cell? ⟨b, off + j, none⟩ = some (.int .i64 (zs[j]?.getD 0)))
theorem IntsAt.below {n₀ : Nat} {A B : World} (h : Below n₀ A B) {sv : Value} {zs : List Int} : IntsAt n₀ A sv zs → IntsAt n₀ B sv zs
  | ⟨a, cap, e, .inl r⟩ => ⟨a, cap, e, .inl r⟩
  | ⟨a, cap, e, .inr ⟨b, off, e2, hb, hc⟩⟩ => ⟨a, cap, e, .inr ⟨b, off, e2, hb, fun j hj => (h.cell (p := ⟨b, off + j, none⟩) hb).trans (hc j hj)⟩⟩
theorem IntsAt.mono {n m : Nat} {A : World} {sv : Value} {zs : List Int} (hn : n ≤ m) : IntsAt n A sv zs → IntsAt m A sv zs
  | ⟨a, cap, e, .inl r⟩ => ⟨a, cap, e, .inl r⟩
  | ⟨a, cap, e, .inr ⟨b, off, e2, hb, hc⟩⟩ => ⟨a, cap, e, .inr ⟨b, off, e2, by omega, hc⟩⟩

set_option maxRecDepth 100000 in
/-- twainref01.Of -/
theorem refOf_some (b off cap : Nat) (zs : List Int) (w : World) (hlen : zs.length ≤ 9223372036854775807) (hc : ∀ j, j < zs.length → w.cell? ⟨b, off + j, none⟩ = some (.int .i64 (zs[j]?.getD 0))) :
    Calls Try.prog 33 #[.slice (some ⟨b, off, none⟩) zs.length cap] w fun e w' => e = .returned (.int .u64 (ofL zs)) ∧ w' = w := by
  obtain ⟨len, hl⟩ : ∃ len, zs.length = len := ⟨_, rfl⟩
  rw [hl] at hlen hc ⊢
  go_enter Try.func33, Try.ntmps33
  go_wp2
  go_loop [3, 8] (fun x i => ∃ k : Nat, k ≤ len ∧ i = .int .i64 k ∧ x = .int .u64 (ofL (zs.take k))) (fun _ i => len - (intOf i).toNat)
  case atStart => exact ⟨0, Nat.zero_le _, rfl, rfl⟩
  case round =>
    obtain ⟨k, hk, rfl, rfl⟩ := hrel
    have hx := ofL_lt (zs.take k)
    by_cases hlt : k < len
    · have hcx := hc k hlt
      have HS : Hid (ofL (zs.take (k + 1)) = withN (ofL (zs.take k)) (zs[k]?.getD 0)) := by
        rw [List.take_succ_eq_append_getElem (by omega), ofL_snoc]
        congr 1
        simp [hl, hlt]
      clear hc
      go_wp2_with (go_at_call 42; refine (refWith_any _ _ _ hx).mono ?_; rintro e w' ⟨rfl, rfl⟩)
      go_round
      case rel => exact ⟨k + 1, by omega, by go_num, by rw [HS.out]; simp [hl, hlt]⟩
      case measure => simp [intOf]; omega
    · obtain rfl : k = len := by omega
      go_wp2
      go_ret
      exact ⟨ret_int (by rw [List.take_of_length_le (by omega)]), rfl⟩

set_option maxRecDepth 100000 in
theorem refOf_none (a : Option Addr) (cap : Nat) (w : World) :
    Calls Try.prog 33 #[.slice a 0 cap] w fun e w' => e = .returned (.int .u64 0) ∧ w' = w := by
  go_enter Try.func33, Try.ntmps33
  go_wp2
  go_loop [3, 8] (fun x i => i = .int .i64 0 ∧ x = .int .u64 0) (fun _ _ => 0)
  case atStart => exact ⟨rfl, rfl⟩
  case round =>
    obtain ⟨rfl, rfl⟩ := hrel
    go_wp2
    go_ret
    exact ⟨rfl, rfl⟩

set_option maxRecDepth 100000 in
theorem refOf_any (sv : Value) (zs : List Int) (w : World) (hlen : zs.length ≤ 9223372036854775807) (hI : IntsAt w.heap.size w sv zs) :
    Calls Try.prog 33 #[sv] w fun e w' => e = .returned (.int .u64 (ofL zs)) ∧ w' = w := by
  obtain ⟨a, cap, rfl, rfl | ⟨b, off, rfl, hb, hc⟩⟩ := hI
  · exact refOf_none a cap w
  · exact refOf_some b off cap zs w hlen hc

/-- twainref01.List -/
theorem lst_snoc (k s : Nat) : lst (k + 1) s = lst k s ++ (if s.testBit k then [k] else []) := by
  unfold lst
  rw [List.range_succ, List.filter_append]
  cases h : s.testBit k <;> simp [h]
theorem lst_len (k s : Nat) : (lst k s).length ≤ k := by
  have := List.length_filter_le (fun i => s.testBit i) (List.range k)
  simpa [lst] using this
def enc (i : Nat) : Value := .int .i64 (i : Int)
set_option maxRecDepth 100000 in
theorem Try.info3 : (Try.prog.info? 3).map (fun i => (i.zero, i.size, i.bytes)) = some (some (.int .i64 0), 1, 8) := by kernel_rfl

theorem has_nat {s k : Nat} (h : k < 64) : has s (k : Int) = s.testBit k := by
  unfold has; simp; omega

theorem below_append {w W w1 : World} {n₀ : Nat} {e : TypeId} {size k : Nat} {v : Value} {xs : List Value} {tmp : Obj} (hn : n₀ ≤ w.heap.size) (hB : Below n₀ w W) (hrow : W.ownsRow n₀ e size v k xs) (hgrow : (W.alloc tmp).grownBy w1 v.ownBlock) : Below n₀ w w1 := by
  have hsz := hB.size
  refine (hB.alloc (by omega) tmp).grown hgrow (by simp; omega) fun j ej => ?_
  rcases hrow.2 with ⟨rfl, _⟩ | ⟨g, cap, cur, rfl, hb, _, _⟩
  · simp [Value.ownBlock] at ej
  · obtain rfl : g = j := by simpa [Value.ownBlock] using ej
    exact hb

set_option maxRecDepth 100000 in
set_option maxHeartbeats 800000 in
theorem refList_any (s : Nat) (w : World) (hs : s < 18446744073709551616) :
    Calls Try.prog 19 #[.int .u64 s] w fun e w' => ∃ v, e = .returned v ∧ w'.ownsRow w.heap.size 3 1 v (elems s).length ((elems s).map enc) ∧ Below w.heap.size w w' := by
  obtain ⟨i0, hi, hz0, hz1, hz2⟩ := info_parts Try.info3
  go_enter Try.func19, Try.ntmps19
  go_wp2
  go_loopw [3, 4] (fun v i wr => ∃ k : Nat, k ≤ 64 ∧ i = .int .i64 k ∧ wr.ownsRow w.heap.size 3 1 v (lst k s).length ((lst k s).map enc) ∧ Below w.heap.size w wr) (fun _ i _ => 64 - (intOf i).toNat)
  case atStart => exact ⟨0, by omega, rfl, World.ownsRow_nil _ _ _ _, Below.refl _ _⟩
  case round =>
    obtain ⟨k, hk, rfl, hown, hB⟩ := hrel
    have hll := lst_len k s
    by_cases hlt : k < 64
    · have hhn := has_nat (s := s) hlt
      have hsn := lst_snoc k s
      cases hh : s.testBit k with
      | true =>
        rw [hh] at hhn hsn
        have hsn' : lst (k + 1) s = lst k s ++ [k] := by simpa using hsn
        have HS : Hid (lst (k + 1) s = lst k s ++ [k]) := hsn'
        clear hsn'
        clear hsn
        go_wp2_with (first
          | (go_at_call 22; refine (refHas_any _ _ _ hs).mono ?_; rw [hhn]; rintro e w' ⟨rfl, rfl⟩)
          | (at_builtin; refine wpList_append_own _ rfl _ _ 40 rfl w.heap.size 3 i0 (.int .i64 0) 1 8 Try.underlying40 hi hz0 hz1 hz2 rfl (by decide) _ _ _ rfl (hown.alloc _) ⟨World.heap _ |>.size, 0, none⟩ 1 1 [.int .i64 k] rfl rfl ?c1 ?c2 ?c3 ?c4 ?c5 ?_)
          | go_in)
        case c1 => exact cell_one_new _ _ _
        case c2 => intro u hu; simp at hu; subst hu; rfl
        case c3 => unfold maxLen; omega
        case c4 => omega
        case c5 => have := hB.size; simp; omega
        intro v' w1 hown' hgrow _
        have hB1 := below_append (Nat.le_refl _) hB hown hgrow
        have hr1 : w1.ownsRow w.heap.size 3 1 v' (lst (k + 1) s).length ((lst (k + 1) s).map enc) := by
          rw [HS.out, List.length_append, List.map_append]; exact hown'
        clear hown' hgrow hown HS
        go_wp2
        go_roundw
        case rel => exact ⟨k + 1, by omega, by go_num, hr1, hB1⟩
        case measure => simp [intOf]; omega
      | false =>
        rw [hh] at hhn hsn
        have hsn' : lst (k + 1) s = lst k s := by simpa using hsn
        have HS : Hid (lst (k + 1) s = lst k s) := hsn'
        clear hsn'
        clear hsn
        go_wp2_with (go_at_call 22; refine (refHas_any _ _ _ hs).mono ?_; rw [hhn]; rintro e w' ⟨rfl, rfl⟩)
        go_roundw
        case rel => exact ⟨k + 1, by omega, by go_num, by rw [HS.out]; exact hown, hB⟩
        case measure => simp [intOf]; omega
    · obtain rfl : k = 64 := by omega
      go_wp2
      go_ret
      exact ⟨_, rfl, hown, hB⟩

set_option maxRecDepth 100000 in
/-- twainref01.Ints, of the same numbers -/
theorem ints_some (b off cap b' off' cap' : Nat) (zs : List Int) (w : World) (hlen : zs.length ≤ 9223372036854775807)
    (hc : ∀ j, j < zs.length → w.cell? ⟨b, off + j, none⟩ = some (.int .i64 (zs[j]?.getD 0))) (hc' : ∀ j, j < zs.length → w.cell? ⟨b', off' + j, none⟩ = some (.int .i64 (zs[j]?.getD 0))) :
    Calls Try.prog 17 #[.slice (some ⟨b, off, none⟩) zs.length cap, .slice (some ⟨b', off', none⟩) zs.length cap'] w fun e w' => e = .returned (.bool true) ∧ ∃ n, w' = w.drewN n := by
  obtain ⟨len, hl⟩ : ∃ len, zs.length = len := ⟨_, rfl⟩
  rw [hl] at hlen hc hc' ⊢
  go_enter Try.func17, Try.ntmps17
  go_wp2
  go_loopw [13] (fun i wr => ∃ k n : Nat, k ≤ len ∧ i = .int .i64 k ∧ wr = w.drewN n) (fun i _ => len - (intOf i).toNat)
  case atStart => exact ⟨0, 0, Nat.zero_le _, rfl, rfl⟩
  case round =>
    obtain ⟨k, n, hk, rfl, rfl⟩ := hrel
    by_cases hlt : k < len
    · have hcx := hc k hlt
      have hcx' := hc' k hlt
      clear hc hc'
      go_wp2
      go_quiet (fail)
      go_wp2
      go_roundw
      case rel => exact ⟨k + 1, _, by omega, by go_num, rfl⟩
      case measure => simp [intOf]; omega
    · obtain rfl : k = len := by omega
      go_wp2
      go_ret
      exact ⟨rfl, n, rfl⟩

set_option maxRecDepth 100000 in
theorem ints_none (a a' : Option Addr) (cap cap' : Nat) (w : World) :
    Calls Try.prog 17 #[.slice a 0 cap, .slice a' 0 cap'] w fun e w' => e = .returned (.bool true) ∧ ∃ n, w' = w.drewN n := by
  go_enter Try.func17, Try.ntmps17
  go_wp2
  go_loopw [13] (fun i wr => i = .int .i64 0 ∧ wr = w.drewN 0) (fun _ _ => 0)
  case atStart => exact ⟨rfl, rfl⟩
  case round =>
    obtain ⟨rfl, rfl⟩ := hrel
    go_wp2
    go_ret
    exact ⟨rfl, 0, rfl⟩

set_option maxRecDepth 100000 in
theorem ints_any (va vb : Value) (zs : List Int) (w : World) (hlen : zs.length ≤ 9223372036854775807) (ha : IntsAt w.heap.size w va zs) (hb : IntsAt w.heap.size w vb zs) :
    Calls Try.prog 17 #[va, vb] w fun e w' => e = .returned (.bool true) ∧ ∃ n, w' = w.drewN n := by
  obtain ⟨a, cap, rfl, h⟩ := ha
  obtain ⟨a', cap', rfl, h'⟩ := hb
  rcases h with rfl | ⟨b, off, rfl, _, hc⟩
  · exact ints_none a a' cap cap' w
  · rcases h' with rfl | ⟨b', off', rfl, _, hc'⟩
    · exact ints_none _ a' cap cap' w
    · exact ints_some b off cap b' off' cap' zs w hlen hc hc'

/-- What a call's own row holds, as numbers. -/
theorem intsAt_of_owns {W : World} {base : Nat} {v : Value} {l : List Nat} (h : W.ownsRow base 3 1 v l.length (l.map enc)) : IntsAt W.heap.size W v (l.map Int.ofNat) := by
  obtain ⟨_, ⟨rfl, h0⟩ | ⟨g, cap, cur, rfl, hb, hg, h1, h2, h3, h4⟩⟩ := h
  · have : l = [] := by simpa using h0
    subst this
    exact ⟨none, 0, rfl, .inl rfl⟩
  · refine ⟨some ⟨g, 0, none⟩, cap, by simp, .inr ⟨g, 0, rfl, (Array.getElem?_eq_some_iff.1 hg).1, fun j hj => ?_⟩⟩
    have hj' : j < l.length := by simpa using hj
    have e : cur.toList[j]? = some (enc l[j]) := by
      have := congrArg (fun t => t[j]?) h4
      simp [hj'] at this
      simpa using this
    simp [World.cell?, hg]
    rw [Array.getElem?_toList] at e
    rw [e]
    simp [enc, hj']

end Go.Proofs.Ytldeecjocapfgaa.Bits
