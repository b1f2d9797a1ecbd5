/-
  The walks of layers 2 and 3's functions that read bytes (taken over from the rounds before).
-/
import Derived.Test.YtekjlmnnaaodjaaGreatSealA
import Derived.WalkSmall
import Derived.RegionTactic
import Derived.Deep.QuietTactic
import Derived.BigQuiet
namespace Go.Proofs.YtekjlmnnaaodjaaGreat.Seal
open Go.RowKit
open Math
open Crc

/-- The slice value sv holds the bytes bs, in a block below n₀ where there is one. -/
def BytesAt (n₀ : Nat) (W : World) (sv : Value) (bs : List Nat) : Prop :=
  (∀ b ∈ bs, b < 256) ∧ ∃ a cap, sv = .slice a bs.length cap ∧ (a = none → cap = 0) ∧ (bs = [] ∨ ∃ b off, a = some ⟨b, off, none⟩ ∧ bs.length ≤ cap ∧ b < n₀ ∧ ∀ j, j < bs.length → W.cell? ⟨b, off + j, none⟩ = some (.int .u8 ((bs[j]?.getD 0 : Nat) : Int)))

theorem BytesAt.below {n₀ : Nat} {A B : World} (h : Below n₀ A B) {sv : Value} {bs : List Nat} : BytesAt n₀ A sv bs → BytesAt n₀ B sv bs
  | ⟨hb, a, cap, e, hn, .inl r⟩ => ⟨hb, a, cap, e, hn, .inl r⟩
  | ⟨hb, a, cap, e, hn, .inr ⟨b, off, e2, hl, hb', hc⟩⟩ => ⟨hb, a, cap, e, hn, .inr ⟨b, off, e2, hl, hb', fun j hj => (h.cell (p := ⟨b, off + j, none⟩) hb').trans (hc j hj)⟩⟩

theorem BytesAt.mono {n m : Nat} {A : World} {sv : Value} {bs : List Nat} (hn : n ≤ m) : BytesAt n A sv bs → BytesAt m A sv bs
  | ⟨hb, a, cap, e, hz, .inl r⟩ => ⟨hb, a, cap, e, hz, .inl r⟩
  | ⟨hb, a, cap, e, hz, .inr ⟨b, off, e2, hl, hb', hc⟩⟩ => ⟨hb, a, cap, e, hz, .inr ⟨b, off, e2, hl, by omega, hc⟩⟩

set_option maxRecDepth 100000 in
/-- num.join, of 4 bytes -/
theorem join32_any (b off cap : Nat) (bs : List Nat) (w : World) (hlen : bs.length = 4) (hb : ∀ c ∈ bs, c < 256) (hc : ∀ j, j < 4 → w.cell? ⟨b, off + j, none⟩ = some (.int .u8 ((bs[j]?.getD 0 : Nat) : Int))) :
    Calls Tryz.prog 98 #[.slice (some ⟨b, off, none⟩) 4 cap] w fun e w' => e = .returned (.int .u32 (val bs)) ∧ w' = w := by
  go_enter Tryz.func98, Tryz.ntmps98
  go_wp2
  go_loop [3, 8] (fun x i => ∃ k : Nat, k ≤ 4 ∧ i = .int .i64 k ∧ x = .int .u32 (val (bs.take k))) (fun _ i => 4 - (intOf i).toNat)
  case atStart => exact ⟨0, Nat.zero_le _, rfl, rfl⟩
  case round =>
    obtain ⟨k, hk, rfl, rfl⟩ := hrel
    by_cases hlt : k < 4
    · have hcx := hc k hlt
      have hv := take_lt bs k hb (by omega)
      have hp := Nat.pow_le_pow_right (n := 256) (by omega) (show k ≤ 4 - 1 by omega)
      have HS : Hid (val (bs.take (k + 1)) = val (bs.take k) * 256 + bs[k]?.getD 0) := take_val bs k (by omega)
      have hg := getD_lt bs k hb
      clear hc
      generalize bs[k]?.getD 0 = c at *
      generalize val (bs.take k) = v at *
      have hv2 : v < 16777216 := by have : v < 256 ^ (4 - 1) := Nat.lt_of_lt_of_le hv hp; simpa using this
      clear hv hp
      have ho := u32_or_nat (v * 256) c (by omega) (by omega)
      rw [shift_or v c hg, Int.natCast_mul, Int.natCast_add, Int.natCast_mul] at ho
      go_wp2
      go_round
      case rel => exact ⟨k + 1, by omega, by go_num, by rw [HS.out]; first | rfl | go_num⟩
      case measure => simp [intOf]; omega
    · obtain rfl : k = 4 := by omega
      go_wp2
      go_ret
      exact ⟨ret_int (by rw [List.take_of_length_le (by omega)]), rfl⟩

set_option maxRecDepth 100000 in
/-- num.join, of 8 bytes -/
theorem join64_any (b off cap : Nat) (bs : List Nat) (w : World) (hlen : bs.length = 8) (hb : ∀ c ∈ bs, c < 256) (hc : ∀ j, j < 8 → w.cell? ⟨b, off + j, none⟩ = some (.int .u8 ((bs[j]?.getD 0 : Nat) : Int))) :
    Calls Tryz.prog 99 #[.slice (some ⟨b, off, none⟩) 8 cap] w fun e w' => e = .returned (.int .u64 (val bs)) ∧ w' = w := by
  go_enter Tryz.func99, Tryz.ntmps99
  go_wp2
  go_loop [3, 8] (fun x i => ∃ k : Nat, k ≤ 8 ∧ i = .int .i64 k ∧ x = .int .u64 (val (bs.take k))) (fun _ i => 8 - (intOf i).toNat)
  case atStart => exact ⟨0, Nat.zero_le _, rfl, rfl⟩
  case round =>
    obtain ⟨k, hk, rfl, rfl⟩ := hrel
    by_cases hlt : k < 8
    · have hcx := hc k hlt
      have hv := take_lt bs k hb (by omega)
      have hp := Nat.pow_le_pow_right (n := 256) (by omega) (show k ≤ 8 - 1 by omega)
      have HS : Hid (val (bs.take (k + 1)) = val (bs.take k) * 256 + bs[k]?.getD 0) := take_val bs k (by omega)
      have hg := getD_lt bs k hb
      clear hc
      generalize bs[k]?.getD 0 = c at *
      generalize val (bs.take k) = v at *
      have hv2 : v < 72057594037927936 := by have : v < 256 ^ (8 - 1) := Nat.lt_of_lt_of_le hv hp; simpa using this
      clear hv hp
      have ho := u64_or_nat (v * 256) c (by omega) (by omega)
      rw [shift_or v c hg, Int.natCast_mul, Int.natCast_add, Int.natCast_mul] at ho
      go_wp2
      go_round
      case rel => exact ⟨k + 1, by omega, by go_num, by rw [HS.out]; first | rfl | go_num⟩
      case measure => simp [intOf]; omega
    · obtain rfl : k = 8 := by omega
      go_wp2
      go_ret
      exact ⟨ret_int (by rw [List.take_of_length_le (by omega)]), rfl⟩

/-- The number of the first k bytes, and whether there are as many. -/
def getv (k : Nat) (bs : List Nat) : Nat := if bs.length < k then 0 else val (bs.take k)

def getB (k : Nat) (bs : List Nat) : Bool := decide (¬ bs.length < k)

theorem getv_out {k : Nat} {bs : List Nat} (h : bs.length < k) : getv k bs = 0 := if_pos h

theorem getv_in {k : Nat} {bs : List Nat} (h : ¬ bs.length < k) : getv k bs = val (bs.take k) := if_neg h

theorem getB_out {k : Nat} {bs : List Nat} (h : bs.length < k) : getB k bs = false := decide_eq_false (by omega)

theorem getB_in {k : Nat} {bs : List Nat} (h : ¬ bs.length < k) : getB k bs = true := decide_eq_true h

theorem getv_lt {k : Nat} {bs : List Nat} (h : ∀ b ∈ bs, b < 256) : getv k bs < 256 ^ k := by
  by_cases hl : bs.length < k
  · rw [getv_out hl]; exact Nat.pow_pos (by omega)
  · rw [getv_in hl]; exact take_lt bs k h (by omega)

set_option maxRecDepth 100000 in
/-- num.first, of 4 bytes -/
theorem first32_any (n₀ : Nat) (sv : Value) (bs : List Nat) (w : World) (hlen : bs.length ≤ 9223372036854775807) (hI : BytesAt n₀ w sv bs) :
    Calls Tryz.prog 83 #[sv] w fun e w' => e = .returned (.tuple #[.int .u32 (getv 4 bs), .bool (getB 4 bs)]) ∧ w' = w := by
  obtain ⟨hb, a, cap, rfl, hn, h⟩ := hI
  by_cases hl : bs.length < 4
  · rw [getv_out hl, getB_out hl]
    generalize bs.length = len at *
    go_enter Tryz.func83, Tryz.ntmps83
    go_wp2_with (go_at_call 78; refine (size32 _).mono ?_; rintro e w' ⟨rfl, rfl⟩)
    go_ret2
    exact ⟨rfl, rfl⟩
  · rw [getv_in hl, getB_in hl]
    rcases h with rfl | ⟨b, off, rfl, hcap, _, hc⟩
    · simp at hl
    · have hj := fun cap => join32_any b off cap (bs.take 4) w (by simp; omega) (fun c hm => hb c (List.mem_of_mem_take hm)) (fun j hj => by rw [hc j (by omega), List.getElem?_take, if_pos hj])
      generalize val (bs.take 4) = v at *
      clear hc
      generalize bs.length = len at *
      clear hb bs
      go_enter Tryz.func83, Tryz.ntmps83
      go_wp2_with (first
        | (go_at_call 78; refine (size32 _).mono ?_; rintro e w' ⟨rfl, rfl⟩)
        | (go_at_call 98; refine (hj _).mono ?_; rintro e w' ⟨rfl, rfl⟩))
      go_ret2
      exact ⟨rfl, rfl⟩

set_option maxRecDepth 100000 in
/-- num.first, of 8 bytes -/
theorem first64_any (n₀ : Nat) (sv : Value) (bs : List Nat) (w : World) (hlen : bs.length ≤ 9223372036854775807) (hI : BytesAt n₀ w sv bs) :
    Calls Tryz.prog 84 #[sv] w fun e w' => e = .returned (.tuple #[.int .u64 (getv 8 bs), .bool (getB 8 bs)]) ∧ w' = w := by
  obtain ⟨hb, a, cap, rfl, hn, h⟩ := hI
  by_cases hl : bs.length < 8
  · rw [getv_out hl, getB_out hl]
    generalize bs.length = len at *
    go_enter Tryz.func84, Tryz.ntmps84
    go_wp2_with (go_at_call 77; refine (size64 _).mono ?_; rintro e w' ⟨rfl, rfl⟩)
    go_ret2
    exact ⟨rfl, rfl⟩
  · rw [getv_in hl, getB_in hl]
    rcases h with rfl | ⟨b, off, rfl, hcap, _, hc⟩
    · simp at hl
    · have hj := fun cap => join64_any b off cap (bs.take 8) w (by simp; omega) (fun c hm => hb c (List.mem_of_mem_take hm)) (fun j hj => by rw [hc j (by omega), List.getElem?_take, if_pos hj])
      generalize val (bs.take 8) = v at *
      clear hc
      generalize bs.length = len at *
      clear hb bs
      go_enter Tryz.func84, Tryz.ntmps84
      go_wp2_with (first
        | (go_at_call 77; refine (size64 _).mono ?_; rintro e w' ⟨rfl, rfl⟩)
        | (go_at_call 99; refine (hj _).mono ?_; rintro e w' ⟨rfl, rfl⟩))
      go_ret2
      exact ⟨rfl, rfl⟩

set_option maxRecDepth 100000 in
/-- num.Get32 -/
theorem get32_any (n₀ : Nat) (sv : Value) (bs : List Nat) (w : World) (hlen : bs.length ≤ 9223372036854775807) (hI : BytesAt n₀ w sv bs) :
    Calls Tryz.prog 74 #[sv] w fun e w' => e = .returned (.tuple #[.int .u32 (getv 4 bs), .bool (getB 4 bs)]) ∧ w' = w := by
  have hf := first32_any n₀ sv bs w hlen hI
  generalize getv 4 bs = v at *
  generalize getB 4 bs = t at *
  clear hI hlen
  go_enter Tryz.func74, Tryz.ntmps74
  go_wp2_with (go_at_call 83; refine hf.mono ?_; rintro e w' ⟨rfl, rfl⟩)
  go_ret2
  exact ⟨rfl, rfl⟩

set_option maxRecDepth 100000 in
/-- num.Get64 -/
theorem get64_any (n₀ : Nat) (sv : Value) (bs : List Nat) (w : World) (hlen : bs.length ≤ 9223372036854775807) (hI : BytesAt n₀ w sv bs) :
    Calls Tryz.prog 75 #[sv] w fun e w' => e = .returned (.tuple #[.int .u64 (getv 8 bs), .bool (getB 8 bs)]) ∧ w' = w := by
  have hf := first64_any n₀ sv bs w hlen hI
  generalize getv 8 bs = v at *
  generalize getB 8 bs = t at *
  clear hI hlen
  go_enter Tryz.func75, Tryz.ntmps75
  go_wp2_with (go_at_call 84; refine hf.mono ?_; rintro e w' ⟨rfl, rfl⟩)
  go_ret2
  exact ⟨rfl, rfl⟩

set_option maxRecDepth 100000 in
/-- twainref02.Get -/
theorem refGet_any (n₀ : Nat) (sv : Value) (bs : List Nat) (s : Nat) (w : World) (hs : s ≤ 8) (hlen : bs.length ≤ 9223372036854775807) (hI : BytesAt n₀ w sv bs) :
    Calls Tryz.prog 62 #[sv, .int .i64 s] w fun e w' => e = .returned (.tuple #[.int .u64 (getv s bs), .bool (getB s bs)]) ∧ w' = w := by
  obtain ⟨hb, a, cap, rfl, hn, h⟩ := hI
  by_cases hl : bs.length < s
  · rw [getv_out hl, getB_out hl]
    generalize bs.length = len at *
    go_enter Tryz.func62, Tryz.ntmps62
    go_wp2
    go_ret2
    exact ⟨rfl, rfl⟩
  · rw [getv_in hl, getB_in hl]
    have hc : ∀ k, k < s → ∃ b off, a = some ⟨b, off, none⟩ ∧ w.cell? ⟨b, off + k, none⟩ = some (.int .u8 ((bs[k]?.getD 0 : Nat) : Int)) := by
      intro k hk
      rcases h with rfl | ⟨b, off, rfl, hcap, _, hc⟩
      · simp at hl; omega
      · exact ⟨b, off, rfl, hc k (by omega)⟩
    clear h
    obtain ⟨len, hle⟩ : ∃ len, bs.length = len := ⟨_, rfl⟩
    rw [hle] at hl hlen ⊢
    go_enter Tryz.func62, Tryz.ntmps62
    go_wp2
    go_loop [6, 7] (fun x i => ∃ k : Nat, k ≤ s ∧ i = .int .i64 k ∧ x = .int .u64 (val (bs.take k))) (fun _ i => s - (intOf i).toNat)
    case atStart => exact ⟨0, Nat.zero_le _, rfl, rfl⟩
    case round =>
      obtain ⟨k, hk, rfl, rfl⟩ := hrel
      by_cases hlt : k < s
      · obtain ⟨b, off, rfl, hcx⟩ := hc k hlt
        have hv := take_lt bs k hb (by omega)
        have hp := Nat.pow_le_pow_right (n := 256) (by omega) (show k ≤ 7 by omega)
        have HS : Hid (val (bs.take (k + 1)) = val (bs.take k) * 256 + bs[k]?.getD 0) := take_val bs k (by omega)
        have hg := getD_lt bs k hb
        clear hc
        generalize bs[k]?.getD 0 = c at *
        generalize val (bs.take k) = v at *
        have hv2 : v < 72057594037927936 := by have : v < 256 ^ 7 := Nat.lt_of_lt_of_le hv hp; simpa using this
        clear hv hp
        go_wp2
        go_round
        case rel => exact ⟨k + 1, by omega, by go_num, by rw [HS.out]; first | rfl | go_num⟩
        case measure => simp [intOf]; omega
      · obtain rfl : k = s := by omega
        go_wp2
        go_ret2
        exact ⟨rfl, rfl⟩

/-- Bytes that lie in a block of before are there behind a call. -/
theorem BytesAt.next {A B : World} {sv : Value} {bs : List Nat} (h : Below A.heap.size A B) (hI : BytesAt A.heap.size A sv bs) : BytesAt B.heap.size B sv bs := (hI.below h).mono h.size

/-- One byte of them. -/
theorem BytesAt.cell {n₀ : Nat} {W : World} {a : Option Addr} {n cap : Nat} {bs : List Nat} (hI : BytesAt n₀ W (.slice a n cap) bs) (k : Nat) (hk : k < bs.length) :
    ∃ b off, a = some ⟨b, off, none⟩ ∧ W.cell? ⟨b, off + k, none⟩ = some (.int .u8 ((bs[k]?.getD 0 : Nat) : Int)) := by
  obtain ⟨_, a', cap', e, _, h⟩ := hI
  injection e with e1 e2 e3
  subst e1
  rcases h with rfl | ⟨b, off, rfl, _, _, hc⟩
  · simp at hk
  · exact ⟨b, off, rfl, hc k hk⟩

theorem taken_take (x : Nat) (bs : List Nat) (k : Nat) (h : k < bs.length) : taken x (bs.take (k + 1)) = by8 (taken x (bs.take k)) (bs[k]?.getD 0) := by
  rw [List.take_add_one, List.getElem?_eq_getElem h]
  exact run_snoc _ _ _

/-- The sum of what has the sum s, and of bs behind it. -/
def more (s : Nat) (bs : List Nat) : Nat := 4294967295 ^^^ taken (4294967295 ^^^ s) bs

theorem inv_lt {s : Nat} (h : s < 4294967296) : 4294967295 ^^^ s < 4294967296 := Nat.xor_lt_two_pow (n := 32) (by decide) h

theorem more_lt {s : Nat} {bs : List Nat} (h : s < 4294967296) (hb : ∀ b ∈ bs, b < 256) : more s bs < 4294967296 := inv_lt (run_lt bs (inv_lt h) hb)

set_option maxRecDepth 100000 in
/-- crc.More -/
theorem more_any (s : Nat) (sv : Value) (bs : List Nat) (w : World) (hs : s < 4294967296) (hlen : bs.length ≤ 9223372036854775807) (hI : BytesAt w.heap.size w sv bs) :
    Calls Tryz.prog 85 #[.int .u32 s, sv] w fun e w' => e = .returned (.int .u32 (more s bs : Nat)) ∧ Below w.heap.size w w' := by
  have hb := hI.1
  obtain ⟨a, cap, rfl⟩ : ∃ a cap, sv = .slice a bs.length cap := by obtain ⟨_, a, cap, e, _⟩ := hI; exact ⟨a, cap, e⟩
  have h1 : bits .xor .u32 IntKind.u32.max (s : Int) = ((4294967295 ^^^ s : Nat) : Int) := u32_xor_nat 4294967295 s (by omega) hs
  have hy := inv_lt hs
  have HM : Hid (more s bs = 4294967295 ^^^ taken (4294967295 ^^^ s) bs) := rfl
  generalize 4294967295 ^^^ s = y at *
  obtain ⟨len, hle⟩ : ∃ len, bs.length = len := ⟨_, rfl⟩
  have HL : Hid (bs.length = len) := hle
  rw [hle] at hlen hI ⊢
  clear hle
  go_enter Tryz.func85, Tryz.ntmps85
  go_wp2
  go_loopw [5, 11] (fun x i wr => ∃ k : Nat, k ≤ len ∧ i = .int .i64 k ∧ x = .int .u32 (taken y (bs.take k) : Nat) ∧ Below w.heap.size w wr) (fun _ i _ => len - (intOf i).toNat)
  case atStart => exact ⟨0, Nat.zero_le _, rfl, rfl, Below.refl _ _⟩
  case round =>
    obtain ⟨k, hk, rfl, rfl, hB⟩ := hrel
    clear h1
    have ht := run_lt (bs.take k) hy (fun c hc => hb c (List.mem_of_mem_take hc))
    by_cases hlt : k < len
    · obtain ⟨b, off, rfl, hcx⟩ := (hI.below hB).cell k (by rw [HL.out]; exact hlt)
      have HS : Hid (taken y (bs.take (k + 1)) = by8 (taken y (bs.take k)) (bs[k]?.getD 0)) := taken_take y bs k (by rw [HL.out]; exact hlt)
      have hg := getD_lt bs k hb
      clear hI
      generalize bs[k]?.getD 0 = c at *
      generalize taken y (bs.take k) = v at *
      go_wp2_with (go_at_call 100; refine (step_any _ _ _ (by assumption) (by assumption)).mono ?_; rintro e w' ⟨rfl, hB'⟩; replace hB := hB.trans (hB'.mono hB.size))
      go_roundw
      case rel => exact ⟨k + 1, by omega, by go_num, by rw [HS.out], hB⟩
      case measure => simp [intOf]; omega
    · obtain rfl : k = len := by omega
      have h2 : bits .xor .u32 IntKind.u32.max ((taken y (bs.take k) : Nat) : Int) = ((4294967295 ^^^ taken y (bs.take k) : Nat) : Int) := u32_xor_nat 4294967295 _ (by omega) ht
      have HE : Hid (taken y (bs.take k) = taken y bs) := by
        show _ = _
        rw [List.take_of_length_le (by rw [HL.out]; exact Nat.le_refl _)]
      generalize taken y (bs.take k) = v at *
      clear hI
      go_wp2
      go_ret
      exact ⟨ret_int (by rw [HM.out, ← HE.out]), hB⟩

set_option maxRecDepth 100000 in
/-- twainref03.More -/
theorem refMore_any (s : Nat) (sv : Value) (bs : List Nat) (w : World) (hs : s < 4294967296) (hlen : bs.length ≤ 9223372036854775807) (hI : BytesAt w.heap.size w sv bs) :
    Calls Tryz.prog 79 #[.int .u32 s, sv] w fun e w' => e = .returned (.int .u32 (more s bs : Nat)) ∧ w' = w := by
  have hb := hI.1
  obtain ⟨a, cap, rfl⟩ : ∃ a cap, sv = .slice a bs.length cap := by obtain ⟨_, a, cap, e, _⟩ := hI; exact ⟨a, cap, e⟩
  have h1 : bits .xor .u32 (s : Int) 4294967295 = ((4294967295 ^^^ s : Nat) : Int) := by rw [Nat.xor_comm]; exact u32_xor_nat s 4294967295 hs (by omega)
  have hy := inv_lt hs
  have HM : Hid (more s bs = 4294967295 ^^^ taken (4294967295 ^^^ s) bs) := rfl
  generalize 4294967295 ^^^ s = y at *
  obtain ⟨len, hle⟩ : ∃ len, bs.length = len := ⟨_, rfl⟩
  have HL : Hid (bs.length = len) := hle
  rw [hle] at hlen hI ⊢
  clear hle
  go_enter Tryz.func79, Tryz.ntmps79
  go_wp2
  go_loop [5, 12] (fun x i => ∃ k : Nat, k ≤ len ∧ i = .int .i64 k ∧ x = .int .u32 (taken y (bs.take k) : Nat)) (fun _ i => len - (intOf i).toNat)
  case atStart => exact ⟨0, Nat.zero_le _, rfl, rfl⟩
  case round =>
    obtain ⟨k, hk, rfl, rfl⟩ := hrel
    clear h1
    have ht := run_lt (bs.take k) hy (fun c hc => hb c (List.mem_of_mem_take hc))
    by_cases hlt : k < len
    · obtain ⟨b, off, rfl, hcx⟩ := hI.cell k (by rw [HL.out]; exact hlt)
      have HS : Hid (taken y (bs.take (k + 1)) = by8 (taken y (bs.take k)) (bs[k]?.getD 0)) := taken_take y bs k (by rw [HL.out]; exact hlt)
      have hg := getD_lt bs k hb
      clear hI
      generalize bs[k]?.getD 0 = c at *
      generalize taken y (bs.take k) = v at *
      go_wp2_with (go_at_call 87; refine (refStep_any _ _ _ (by assumption) (by assumption)).mono ?_; rintro e w ⟨rfl, rfl⟩)
      go_round
      case rel => exact ⟨k + 1, by omega, by go_num, by rw [HS.out]⟩
      case measure => simp [intOf]; omega
    · obtain rfl : k = len := by omega
      have h2 : bits .xor .u32 ((taken y (bs.take k) : Nat) : Int) 4294967295 = ((4294967295 ^^^ taken y (bs.take k) : Nat) : Int) := by rw [Nat.xor_comm]; exact u32_xor_nat _ 4294967295 ht (by omega)
      have HE : Hid (taken y (bs.take k) = taken y bs) := by
        show _ = _
        rw [List.take_of_length_le (by rw [HL.out]; exact Nat.le_refl _)]
      generalize taken y (bs.take k) = v at *
      clear hI
      go_wp2
      go_ret
      exact ⟨ret_int (by rw [HM.out, ← HE.out]), rfl⟩

set_option maxRecDepth 100000 in
/-- crc.Sum -/
theorem sum_any (sv : Value) (bs : List Nat) (w : World) (hlen : bs.length ≤ 9223372036854775807) (hI : BytesAt w.heap.size w sv bs) :
    Calls Tryz.prog 76 #[sv] w fun e w' => e = .returned (.int .u32 (more 0 bs : Nat)) ∧ Below w.heap.size w w' := by
  have hm := more_any 0 sv bs w (by omega) hlen hI
  generalize more 0 bs = m at *
  clear hI hlen
  go_enter Tryz.func76, Tryz.ntmps76
  go_wp2_with (go_at_call 85; refine hm.mono ?_; rintro e w' ⟨rfl, hB⟩)
  go_ret
  exact ⟨rfl, hB⟩

set_option maxRecDepth 100000 in
/-- twainref03.Sum -/
theorem refSum_any (sv : Value) (bs : List Nat) (w : World) (hlen : bs.length ≤ 9223372036854775807) (hI : BytesAt w.heap.size w sv bs) :
    Calls Tryz.prog 69 #[sv] w fun e w' => e = .returned (.int .u32 (more 0 bs : Nat)) ∧ w' = w := by
  have hm := refMore_any 0 sv bs w (by omega) hlen hI
  generalize more 0 bs = m at *
  clear hI hlen
  go_enter Tryz.func69, Tryz.ntmps69
  go_wp2_with (go_at_call 79; refine hm.mono ?_; rintro e w ⟨rfl, rfl⟩)
  go_ret
  exact ⟨rfl, rfl⟩


end Go.Proofs.YtekjlmnnaaodjaaGreat.Seal
