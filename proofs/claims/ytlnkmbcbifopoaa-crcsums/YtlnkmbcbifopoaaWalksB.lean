/-
  The walks of layer 3's functions that read bytes: what each call answers, in the plain words of the Math text.
-/
import Derived.Test.YtlnkmbcbifopoaaWalksA
import Derived.WalkSmall
import Derived.RegionTactic
import Derived.Deep.QuietTactic
import Derived.BigQuiet
import Derived.Maps.AppendAt
import Derived.Laws.OwnMore
import Derived.Lib.SlBytesConst
namespace Go.Proofs.Ytlnkmbcbifopoaa
open Go.RowKit
open Crc

/-- The slice value sv holds the bytes bs, in a block below n₀ where there is one. -/
def BytesAt (n₀ : Nat) (W : World) (sv : Value) (bs : List Nat) : Prop :=
  (∀ b ∈ bs, b < 256) ∧ ∃ a cap, sv = .slice a bs.length cap ∧ (a = none → cap = 0) ∧ (bs = [] ∨ ∃ b off, a = some ⟨b, off, none⟩ ∧ bs.length ≤ cap ∧ b < n₀ ∧ ∀ j, j < bs.length → W.cell? ⟨b, off + j, none⟩ = some (.int .u8 ((bs[j]?.getD 0 : Nat) : Int)))
theorem BytesAt.below {n₀ : Nat} {A B : World} (h : Below n₀ A B) {sv : Value} {bs : List Nat} : BytesAt n₀ A sv bs → BytesAt n₀ B sv bs
  | ⟨hb, a, cap, e, hn, .inl r⟩ => ⟨hb, a, cap, e, hn, .inl r⟩
  | ⟨hb, a, cap, e, hn, .inr ⟨b, off, e2, hl, hb', hc⟩⟩ => ⟨hb, a, cap, e, hn, .inr ⟨b, off, e2, hl, hb', fun j hj => (h.cell (p := ⟨b, off + j, none⟩) hb').trans (hc j hj)⟩⟩
theorem BytesAt.mono {n m : Nat} {A : World} {sv : Value} {bs : List Nat} (hn : n ≤ m) : BytesAt n A sv bs → BytesAt m A sv bs
  | ⟨hb, a, cap, e, hz, .inl r⟩ => ⟨hb, a, cap, e, hz, .inl r⟩
  | ⟨hb, a, cap, e, hz, .inr ⟨b, off, e2, hl, hb', hc⟩⟩ => ⟨hb, a, cap, e, hz, .inr ⟨b, off, e2, hl, by omega, hc⟩⟩
/-- Bytes that lie in a block of before are there behind a call. -/
theorem BytesAt.next {A B : World} {sv : Value} {bs : List Nat} (h : Below A.heap.size A B) (hI : BytesAt A.heap.size A sv bs) : BytesAt B.heap.size B sv bs := (hI.below h).mono h.size
/-- One byte of them. -/
theorem BytesAt.cell {n₀ : Nat} {W : World} {a : Option Addr} {n cap : Nat} {bs : List Nat} (hI : BytesAt n₀ W (.slice a n cap) bs) (k : Nat) (hk : k < bs.length) :
    ∃ b off, a = some ⟨b, off, none⟩ ∧ W.cell? ⟨b, off + k, none⟩ = some (.int .u8 ((bs[k]?.getD 0 : Nat) : Int)) := by
  obtain ⟨_, a', cap', e, _, h⟩ := hI
  injection e with e1 e2 e3
  subst e1
  rcases h with rfl | ⟨b, off, rfl, _, _, hc⟩
  · simp at hk
  · exact ⟨b, off, rfl, hc k hk⟩
theorem getD_lt (bs : List Nat) (k : Nat) (h : ∀ b ∈ bs, b < 256) : bs[k]?.getD 0 < 256 := by
  by_cases hk : k < bs.length
  · rw [List.getElem?_eq_getElem hk]; exact h _ (List.getElem_mem hk)
  · rw [List.getElem?_eq_none (by omega)]; decide
theorem taken_take (x : Nat) (bs : List Nat) (k : Nat) (h : k < bs.length) : taken x (bs.take (k + 1)) = by8 (taken x (bs.take k)) (bs[k]?.getD 0) := by
  rw [List.take_add_one, List.getElem?_eq_getElem h]
  exact run_snoc _ _ _
/-- The sum of what has the sum s, and of bs behind it. -/
def more (s : Nat) (bs : List Nat) : Nat := 4294967295 ^^^ taken (4294967295 ^^^ s) bs
theorem inv_lt {s : Nat} (h : s < 4294967296) : 4294967295 ^^^ s < 4294967296 := Nat.xor_lt_two_pow (n := 32) (by decide) h
theorem more_lt {s : Nat} {bs : List Nat} (h : s < 4294967296) (hb : ∀ b ∈ bs, b < 256) : more s bs < 4294967296 := inv_lt (run_lt bs (inv_lt h) hb)

/-- crc.More -/
theorem more_any (s : Nat) (sv : Value) (bs : List Nat) (w : World) (hs : s < 4294967296) (hlen : bs.length ≤ 9223372036854775807) (hI : BytesAt w.heap.size w sv bs) :
    Calls Try.prog 10 #[.int .u32 s, sv] w fun e w' => e = .returned (.int .u32 (more s bs : Nat)) ∧ Below w.heap.size w w' := by
  have hb := hI.1
  obtain ⟨a, cap, rfl⟩ : ∃ a cap, sv = .slice a bs.length cap := by obtain ⟨_, a, cap, e, _⟩ := hI; exact ⟨a, cap, e⟩
  have h1 : bits .xor .u32 IntKind.u32.max (s : Int) = ((4294967295 ^^^ s : Nat) : Int) := u32_xor_nat 4294967295 s (by omega) hs
  have hy := inv_lt hs
  have HM : Hid (more s bs = 4294967295 ^^^ taken (4294967295 ^^^ s) bs) := rfl
  generalize 4294967295 ^^^ s = y at *
  obtain ⟨len, hle⟩ : ∃ len, bs.length = len := ⟨_, rfl⟩
  have HL : Hid (bs.length = len) := hle
  rw [hle] at hlen hI ⊢
  clear hle
  go_enter Try.func10, Try.ntmps10
  go_wp2
  go_loopw [5, 11] (fun x i wr => ∃ k : Nat, k ≤ len ∧ i = .int .i64 k ∧ x = .int .u32 (taken y (bs.take k) : Nat) ∧ Below w.heap.size w wr) (fun _ i _ => len - (intOf i).toNat)
  case atStart => exact ⟨0, Nat.zero_le _, rfl, rfl, Below.refl _ _⟩
  case round =>
    obtain ⟨k, hk, rfl, rfl, hB⟩ := hrel
    clear h1
    have ht := run_lt (bs.take k) hy (fun c hc => hb c (List.mem_of_mem_take hc))
    by_cases hlt : k < len
    · obtain ⟨b, off, rfl, hcx⟩ := (hI.below hB).cell k (by rw [HL.out]; exact hlt)
      have HS : Hid (taken y (bs.take (k + 1)) = by8 (taken y (bs.take k)) (bs[k]?.getD 0)) := taken_take y bs k (by rw [HL.out]; exact hlt)
      have hg := getD_lt bs k hb
      clear hI
      generalize bs[k]?.getD 0 = c at *
      generalize taken y (bs.take k) = v at *
      go_wp2_with (go_at_call 12; refine (step_any _ _ _ (by assumption) (by assumption)).mono ?_; rintro e w' ⟨rfl, hB'⟩; replace hB := hB.trans (hB'.mono hB.size))
      go_roundw
      case rel => exact ⟨k + 1, by omega, by go_num, by rw [HS.out], hB⟩
      case measure => simp [intOf]; omega
    · obtain rfl : k = len := by omega
      have h2 : bits .xor .u32 IntKind.u32.max ((taken y (bs.take k) : Nat) : Int) = ((4294967295 ^^^ taken y (bs.take k) : Nat) : Int) := u32_xor_nat 4294967295 _ (by omega) ht
      have HE : Hid (taken y (bs.take k) = taken y bs) := by
        show _ = _
        rw [List.take_of_length_le (by rw [HL.out]; exact Nat.le_refl _)]
      generalize taken y (bs.take k) = v at *
      clear hI
      go_wp2
      go_ret
      exact ⟨ret_int (by rw [HM.out, ← HE.out]), hB⟩

/-- twainref03.More -/
theorem refMore_any (s : Nat) (sv : Value) (bs : List Nat) (w : World) (hs : s < 4294967296) (hlen : bs.length ≤ 9223372036854775807) (hI : BytesAt w.heap.size w sv bs) :
    Calls Try.prog 11 #[.int .u32 s, sv] w fun e w' => e = .returned (.int .u32 (more s bs : Nat)) ∧ w' = w := by
  have hb := hI.1
  obtain ⟨a, cap, rfl⟩ : ∃ a cap, sv = .slice a bs.length cap := by obtain ⟨_, a, cap, e, _⟩ := hI; exact ⟨a, cap, e⟩
  have h1 : bits .xor .u32 (s : Int) 4294967295 = ((4294967295 ^^^ s : Nat) : Int) := by rw [Nat.xor_comm]; exact u32_xor_nat s 4294967295 hs (by omega)
  have hy := inv_lt hs
  have HM : Hid (more s bs = 4294967295 ^^^ taken (4294967295 ^^^ s) bs) := rfl
  generalize 4294967295 ^^^ s = y at *
  obtain ⟨len, hle⟩ : ∃ len, bs.length = len := ⟨_, rfl⟩
  have HL : Hid (bs.length = len) := hle
  rw [hle] at hlen hI ⊢
  clear hle
  go_enter Try.func11, Try.ntmps11
  go_wp2
  go_loop [5, 12] (fun x i => ∃ k : Nat, k ≤ len ∧ i = .int .i64 k ∧ x = .int .u32 (taken y (bs.take k) : Nat)) (fun _ i => len - (intOf i).toNat)
  case atStart => exact ⟨0, Nat.zero_le _, rfl, rfl⟩
  case round =>
    obtain ⟨k, hk, rfl, rfl⟩ := hrel
    clear h1
    have ht := run_lt (bs.take k) hy (fun c hc => hb c (List.mem_of_mem_take hc))
    by_cases hlt : k < len
    · obtain ⟨b, off, rfl, hcx⟩ := hI.cell k (by rw [HL.out]; exact hlt)
      have HS : Hid (taken y (bs.take (k + 1)) = by8 (taken y (bs.take k)) (bs[k]?.getD 0)) := taken_take y bs k (by rw [HL.out]; exact hlt)
      have hg := getD_lt bs k hb
      clear hI
      generalize bs[k]?.getD 0 = c at *
      generalize taken y (bs.take k) = v at *
      go_wp2_with (go_at_call 13; refine (refStep_any _ _ _ (by assumption) (by assumption)).mono ?_; rintro e w ⟨rfl, rfl⟩)
      go_round
      case rel => exact ⟨k + 1, by omega, by go_num, by rw [HS.out]⟩
      case measure => simp [intOf]; omega
    · obtain rfl : k = len := by omega
      have h2 : bits .xor .u32 ((taken y (bs.take k) : Nat) : Int) 4294967295 = ((4294967295 ^^^ taken y (bs.take k) : Nat) : Int) := by rw [Nat.xor_comm]; exact u32_xor_nat _ 4294967295 ht (by omega)
      have HE : Hid (taken y (bs.take k) = taken y bs) := by
        show _ = _
        rw [List.take_of_length_le (by rw [HL.out]; exact Nat.le_refl _)]
      generalize taken y (bs.take k) = v at *
      clear hI
      go_wp2
      go_ret
      exact ⟨ret_int (by rw [HM.out, ← HE.out]), rfl⟩

/-- crc.Sum -/
theorem sum_any (sv : Value) (bs : List Nat) (w : World) (hlen : bs.length ≤ 9223372036854775807) (hI : BytesAt w.heap.size w sv bs) :
    Calls Try.prog 8 #[sv] w fun e w' => e = .returned (.int .u32 (more 0 bs : Nat)) ∧ Below w.heap.size w w' := by
  have hm := more_any 0 sv bs w (by omega) hlen hI
  generalize more 0 bs = m at *
  clear hI hlen
  go_enter Try.func8, Try.ntmps8
  go_wp2_with (go_at_call 10; refine hm.mono ?_; rintro e w' ⟨rfl, hB⟩)
  go_ret
  exact ⟨rfl, hB⟩
/-- twainref03.Sum -/
theorem refSum_any (sv : Value) (bs : List Nat) (w : World) (hlen : bs.length ≤ 9223372036854775807) (hI : BytesAt w.heap.size w sv bs) :
    Calls Try.prog 9 #[sv] w fun e w' => e = .returned (.int .u32 (more 0 bs : Nat)) ∧ w' = w := by
  have hm := refMore_any 0 sv bs w (by omega) hlen hI
  generalize more 0 bs = m at *
  clear hI hlen
  go_enter Try.func9, Try.ntmps9
  go_wp2_with (go_at_call 11; refine hm.mono ?_; rintro e w ⟨rfl, rfl⟩)
  go_ret
  exact ⟨rfl, rfl⟩

/-- A byte in memory. -/
def enc (i : Nat) : Value := .int .u8 (i : Int)
theorem enc_get (l : List Nat) (j : Nat) (h : j < l.length) : (l.map enc)[j]? = some (.int .u8 ((l[j]?.getD 0 : Nat) : Int)) := by
  simp [h, enc]
theorem bytesAt_owns {W : World} {base n₀ : Nat} {v : Value} {l : List Nat} (hl : ∀ b ∈ l, b < 256) (hn : W.heap.size ≤ n₀) (h : W.ownsRow base 5 1 v l.length (l.map enc)) : BytesAt n₀ W v l := by
  obtain ⟨_, ⟨rfl, h0⟩ | ⟨g, cap, cur, rfl, hb, hg, h1, h2, h3, h4⟩⟩ := h
  · have : l = [] := by simpa using h0
    subst this
    exact ⟨hl, none, 0, rfl, fun _ => rfl, .inl rfl⟩
  · refine ⟨hl, some ⟨g, 0, none⟩, cap, rfl, fun h => by simp at h, .inr ⟨g, 0, rfl, h1, Nat.lt_of_lt_of_le (Array.getElem?_eq_some_iff.1 hg).1 hn, fun j hj => ?_⟩⟩
    have e : cur.toList[j]? = some (enc l[j]) := by
      have := congrArg (fun t => t[j]?) h4
      simp [hj] at this
      simpa using this
    simp [World.cell?, hg]
    rw [Array.getElem?_toList] at e
    rw [e]
    simp [enc, hj]

def nine : List Nat := [49, 50, 51, 52, 53, 54, 55, 56, 57]
theorem nine_sum : more 0 nine = 3421780262 := by kernel_rfl
theorem nine_at (w : World) : BytesAt (w.alloc (.cells #[.int .u8 49, .int .u8 50, .int .u8 51, .int .u8 52, .int .u8 53, .int .u8 54, .int .u8 55, .int .u8 56, .int .u8 57] 5 (9, 10))).heap.size (w.alloc (.cells #[.int .u8 49, .int .u8 50, .int .u8 51, .int .u8 52, .int .u8 53, .int .u8 54, .int .u8 55, .int .u8 56, .int .u8 57] 5 (9, 10))) (.slice (some ⟨w.heap.size, 0, none⟩) 9 9) nine := by
  refine ⟨by decide, _, _, rfl, by simp, .inr ⟨_, _, rfl, by decide, by simp, fun j hj => ?_⟩⟩
  have hh : (w.alloc (.cells #[.int .u8 49, .int .u8 50, .int .u8 51, .int .u8 52, .int .u8 53, .int .u8 54, .int .u8 55, .int .u8 56, .int .u8 57] 5 (9, 10))).heap[w.heap.size]? = some (.cells #[.int .u8 49, .int .u8 50, .int .u8 51, .int .u8 52, .int .u8 53, .int .u8 54, .int .u8 55, .int .u8 56, .int .u8 57] 5 (9, 10)) := by
    show (w.heap.push _)[w.heap.size]? = _
    simp
  have e : (#[.int .u8 49, .int .u8 50, .int .u8 51, .int .u8 52, .int .u8 53, .int .u8 54, .int .u8 55, .int .u8 56, .int .u8 57] : Array Value) = (nine.map enc).toArray := rfl
  simp only [World.cell?, hh, Nat.zero_add]
  rw [e, List.getElem?_toArray]
  exact enc_get nine j hj
/-- twainlaw03.lives -/
theorem lives_any (w : World) : Calls Try.prog 7 #[] w fun e w' => e = .returned (.bool true) ∧ Below w.heap.size w w' := by
  have hcv := Lib.run_convert_bytes_const (P := Try.prog) w 22 5 #[.int .u8 49, .int .u8 50, .int .u8 51, .int .u8 52, .int .u8 53, .int .u8 54, .int .u8 55, .int .u8 56, .int .u8 57] 9 9 Try.underlying22 Try.underlying5
  have hs := sum_any _ _ _ (by decide) (nine_at w)
  rw [nine_sum] at hs
  have hB0 : Below w.heap.size w (w.alloc (.cells #[.int .u8 49, .int .u8 50, .int .u8 51, .int .u8 52, .int .u8 53, .int .u8 54, .int .u8 55, .int .u8 56, .int .u8 57] 5 (9, 10))) := (Below.refl _ _).alloc (Nat.le_refl _) _
  go_enter Try.func7, Try.ntmps7
  go_wp2_with (go_at_call 8; refine hs.mono ?_; rintro e w' ⟨rfl, hB⟩)
  go_ret
  exact ⟨rfl, hB0.trans (hB.mono hB0.size)⟩

end Go.Proofs.Ytlnkmbcbifopoaa
