/-
  The walk of the law SealPuts, and of lives.
-/
import Derived.Test.YtkiaeeojgcmcaaaWalksK
import Derived.Deep.CutRange
namespace Go.Proofs.Ytkiaeeojgcmcaaa
open Go.RowKit
open Math
open Crc

theorem sealed_nil : sealed [] = [0, 0, 0, 0] := by kernel_rfl
theorem txt_nil : txt [0, 0, 0, 0] = { data := #[0, 0, 0, 0] } := by decide
theorem three_at (w : World) : BytesAt (w.alloc (.cells #[.int .u8 1, .int .u8 2, .int .u8 3] 5)).heap.size (w.alloc (.cells #[.int .u8 1, .int .u8 2, .int .u8 3] 5)) (.slice (some ⟨w.heap.size, 0, none⟩) 3 3) [1, 2, 3] :=
  (arr_new w 5 [1, 2, 3]).bytes (by simp) rfl
theorem put_bytes (sv : Value) (bs : List Nat) (w : World) (hlen : bs.length ≤ 2000) (hI : BytesAt w.heap.size w sv bs) :
    Calls Try.prog 7 #[sv] w fun e w' => ∃ v, e = .returned v ∧ BytesAt w'.heap.size w' v (sealed bs) ∧ Below w.heap.size w w' := by
  refine (put_any sv bs w hlen hI).mono ?_
  rintro e w' ⟨g, rfl, _, hA, hB⟩
  exact ⟨_, rfl, hA.bytes (sealed_byte bs hI.1) (sealed_length bs), hB⟩

/-- twainlaw05.lives -/
theorem lives_any (w : World) : Calls Try.prog 6 #[] w fun e w' => e = .returned (.bool true) ∧ Below w.heap.size w w' := by
  have hN : ∀ w : World, BytesAt w.heap.size w (.slice none 0 0) [] := fun w => ⟨by simp, none, 0, rfl, fun _ => rfl, .inl rfl⟩
  have q : ∀ w : World, Calls Try.prog 7 #[.slice none 0 0] w fun e w' => ∃ v, e = .returned v ∧ (convert 22 9 v).run Try.prog w' = .ok (.string { data := #[0, 0, 0, 0] }) w' ∧ Below w.heap.size w w' := fun w => by
    refine (put_bytes (.slice none 0 0) [] w (by simp) (hN w)).mono ?_
    rintro e w' ⟨v, rfl, hI, hB⟩
    have := conv_txt hI
    rw [sealed_nil, txt_nil] at this
    exact ⟨v, rfl, this, hB⟩
  have g := get_any _ _ _ (by simp) (three_at w)
  have e8 : gotE [1, 2, 3] = 8 := rfl
  rw [e8] at g
  have hB0 : Below w.heap.size w (w.alloc (.cells #[.int .u8 1, .int .u8 2, .int .u8 3] 5)) := below_alloc w _
  go_enter Try.func6, Try.ntmps6
  go_wp2_with (first
    | (go_at_call 11; refine g.mono ?_; rintro e w1 ⟨v, rfl, -, hB1⟩; replace hB0 := hB0.trans (hB1.mono hB0.size))
    | (go_at_call 7; refine (q _).mono ?_; rintro e w2 ⟨v2, rfl, hcv, hB2⟩; replace hB0 := hB0.trans (hB2.mono hB0.size)))
  go_ret
  exact ⟨rfl, hB0⟩

namespace sealPuts
theorem walkLong (a : Option Addr) (len cap : Nat) (n x : Int) (w : World) (h : 2000 < len) (hl : len ≤ 9223372036854775807) :
    Calls Try.prog 3 #[.slice a len cap, .int .u32 n, .int .u64 x] w fun e w' => e = .returned (.bool true) ∧ Below w.heap.size w w' := by
  go_enter Try.func3, Try.ntmps3
  go_wp2_with (go_at_call 6; refine (lives_any _).mono ?_; rintro e w1 ⟨rfl, hB⟩)
  go_ret
  exact ⟨rfl, hB⟩

set_option maxHeartbeats 4000000 in
theorem walkShort (sv : Value) (bs : List Nat) (n y : Nat) (w : World) (hlen : bs.length ≤ 2000) (hn : n < 4294967296) (hy : y < 18446744073709551616) (hI : BytesAt w.heap.size w sv bs) :
    Calls Try.prog 3 #[sv, .int .u32 n, .int .u64 y] w fun e w' => e = .returned (.bool true) ∧ Below w.heap.size w w' := by
  have q7 := fun w' (h : Below w.heap.size w w') => put_bytes sv bs w' hlen ((hI.below h).mono h.size)
  have q8 := fun w' (h : Below w.heap.size w w') => refPut5_bytes sv bs w' hlen ((hI.below h).mono h.size)
  have q9 := fun w' => record_any n y w' hn hy
  have q10 := fun w' => refRecord_any n y w' hn hy
  have hq : ∀ w : World, (binOp .eql 28 (arr (recd n y)) (arr (recd n y))).run Try.prog w = .ok (.bool true) w := fun w => by
    have := eqls_arr 28 16 Try.underlying28 (recd n y) (recd n y) (recd_length _ _) (recd_length _ _) (recd_byte _ _) (recd_byte _ _) w
    rwa [decide_eq_true rfl] at this
  have hgd : ∀ (x y' : Operand) (w : World), (eqGuard .eql 28 x y' (arr (recd n y)) (arr (recd n y))).run Try.prog w = .ok () w := fun x y' w => guard28 .eql x y' _ _ w
  obtain ⟨a, len, cap, rfl, hl2⟩ : ∃ a len cap, sv = .slice a len cap ∧ len ≤ 2000 := by obtain ⟨_, a, cap, e, _⟩ := hI; exact ⟨a, _, cap, e, hlen⟩
  have HC : Hid (∀ (W : World) v, BytesAt W.heap.size W v (sealed bs) → ∀ W', Below W.heap.size W W' → (convert 22 9 v).run Try.prog W' = .ok (.string (txt (sealed bs))) W') := fun W v h W' hB => conv_txt (h.below hB)
  generalize txt (sealed bs) = S at *
  generalize sealed bs = sb at *
  generalize recd n y = r at *
  have hB := (Below.refl w.heap.size w).drew
  clear hI hlen
  go_enter Try.func3, Try.ntmps3
  go_upto_region 3 with fail
  go_region_with (first
    | (go_at_call 7; refine (q7 _ hB).mono ?_; rintro e w1 ⟨v1, rfl, hI1, hB1⟩; have hc1 := HC.out _ _ hI1 _ (Below.refl _ _); replace hB := hB.trans (hB1.mono hB.size); try (have hc2' := HC.out _ _ hI2 _ hB1))
    | (go_at_call 8; refine (q8 _ hB).mono ?_; rintro e w2 ⟨v2, rfl, hI2, hB2⟩; have hc2 := HC.out _ _ hI2 _ (Below.refl _ _); replace hB := hB.trans (hB2.mono hB.size); try (have hc1' := HC.out _ _ hI1 _ hB2))
    | (go_at_call 9; refine (q9 _).mono ?_; rintro e w3 ⟨rfl, hB3⟩; replace hB := hB.trans (hB3.mono hB.size))
    | (go_at_call 10; refine (q10 _).mono ?_; rintro e w4 ⟨rfl, hB4⟩; replace hB := hB.trans (hB4.mono hB.size))
    | (go_at_call 6; refine (lives_any _).mono ?_; rintro e w5 ⟨rfl, hB5⟩; replace hB := hB.trans (hB5.mono hB.size)))
  all_goals
    go_wp2
    go_ret
    exact ⟨rfl, hB⟩
end sealPuts
end Go.Proofs.Ytkiaeeojgcmcaaa
