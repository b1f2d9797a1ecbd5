/-
  The walks of Plain, End and Good, of Row, and of the document's Of and what it stands on: what each call answers, in the plain words of the Math text.
-/
import Derived.Test.YtakljofmnpagpaaProg
import Derived.Test.YtakljofmnpagpaaMath
import Derived.WalkKit
import Derived.WalkSpells
import Derived.WalkLawsBesides
import Derived.Laws.BitsAllLaws
import Derived.Laws.ShiftsVarLaws
import Derived.Below
import Derived.LoopTactic
import Derived.WalkSmall
namespace Go.Proofs.Ytakljofmnpagpaa
open Go.RowKit
open Math

theorem below_new (w : World) (o : Obj) : Below w.heap.size w (w.alloc o) := (Below.refl _ _).alloc (Nat.le_refl _) _
/-- A struct of two fields lies at block n, below the fence. -/
def Box (W : World) (n : Nat) (a b : Value) : Prop := W.cell? ⟨n, 0, none⟩ = some a ∧ W.cell? ⟨n, 1, none⟩ = some b
theorem box_new (w : World) (a b : Value) (t : TypeId) : Box (w.alloc (.cells #[a, b] t)) w.heap.size a b := by
  exact ⟨cell_two_new w a b t 0 a rfl, cell_two_new w a b t 1 b rfl⟩
theorem Box.below {W W' : World} {n m : Nat} {a b : Value} (h : Box W n a b) (hB : Below m W W') (hn : n < m) : Box W' n a b :=
  ⟨(hB.cell (p := ⟨n, 0, none⟩) hn).trans h.1, (hB.cell (p := ⟨n, 1, none⟩) hn).trans h.2⟩

/-- span.Plain -/
theorem plain_any (o l : Int) (w : World) :
    Calls Try.prog 6 #[.agg #[.int .i64 o, .int .i64 l]] w fun e w' => e = .returned (.bool (plain o l)) ∧ Below w.heap.size w w' := by
  by_cases h1 : 0 ≤ o
  · by_cases h2 : o ≤ 1073741824
    · by_cases h3 : 0 ≤ l
      · by_cases h4 : l ≤ 1073741824
        · rw [plain_of ⟨h1, h2, h3, h4⟩]
          go_enter Try.func6, Try.ntmps6
          go_wp2
          go_ret
          exact ⟨rfl, below_new _ _⟩
        · rw [plain_not (by omega)]
          go_enter Try.func6, Try.ntmps6
          go_wp2
          go_ret
          exact ⟨rfl, below_new _ _⟩
      · rw [plain_not (by omega)]
        go_enter Try.func6, Try.ntmps6
        go_wp2
        go_ret
        exact ⟨rfl, below_new _ _⟩
    · rw [plain_not (by omega)]
      go_enter Try.func6, Try.ntmps6
      go_wp2
      go_ret
      exact ⟨rfl, below_new _ _⟩
  · rw [plain_not (by omega)]
    go_enter Try.func6, Try.ntmps6
    go_wp2
    go_ret
    exact ⟨rfl, below_new _ _⟩

/-- twainref04.Plain -/
theorem refPlain_any (o l : Int) (w : World) :
    Calls Try.prog 7 #[.agg #[.int .i64 o, .int .i64 l]] w fun e w' => e = .returned (.bool (plain o l)) ∧ Below w.heap.size w w' := by
  by_cases h1 : 0 ≤ o
  · by_cases h2 : o ≤ 1073741824
    · by_cases h3 : 0 ≤ l
      · by_cases h4 : l ≤ 1073741824
        · rw [plain_of ⟨h1, h2, h3, h4⟩]
          go_enter Try.func7, Try.ntmps7
          go_wp2
          go_ret
          exact ⟨rfl, below_new _ _⟩
        · rw [plain_not (by omega)]
          go_enter Try.func7, Try.ntmps7
          go_wp2
          go_ret
          exact ⟨rfl, below_new _ _⟩
      · rw [plain_not (by omega)]
        go_enter Try.func7, Try.ntmps7
        go_wp2
        go_ret
        exact ⟨rfl, below_new _ _⟩
    · rw [plain_not (by omega)]
      go_enter Try.func7, Try.ntmps7
      go_wp2
      go_ret
      exact ⟨rfl, below_new _ _⟩
  · rw [plain_not (by omega)]
    go_enter Try.func7, Try.ntmps7
    go_wp2
    go_ret
    exact ⟨rfl, below_new _ _⟩

/-- span.End -/
theorem end_any (o l : Int) (w : World) :
    Calls Try.prog 8 #[.agg #[.int .i64 o, .int .i64 l]] w fun e w' => e = .returned (.int .i64 (endN o l)) ∧ Below w.heap.size w w' := by
  have hb := below_new w (.cells #[.int .i64 o, .int .i64 l] 23)
  have hx := box_new w (.int .i64 o) (.int .i64 l) 23
  cases hp : plain o l with
  | false =>
    have he : endN o l = 0 := by unfold endN; rw [hp]; rfl
    rw [he]
    go_enter Try.func8, Try.ntmps8
    go_wp2_with (go_at_call 6; refine (plain_any _ _ _).mono ?_; rw [hp]; rintro e w1 ⟨rfl, hB⟩)
    go_ret
    exact ⟨rfl, hb.trans (hB.mono hb.size)⟩
  | true =>
    have he : endN o l = o + l := by unfold endN; rw [hp]; rfl
    rw [he]
    have hq := of_plain hp
    go_enter Try.func8, Try.ntmps8
    go_wp2_with (go_at_call 6; refine (plain_any _ _ _).mono ?_; rw [hp]; rintro e w1 ⟨rfl, hB⟩; obtain ⟨hx0, hx1⟩ := hx.below hB (by simp))
    go_ret
    exact ⟨rfl, hb.trans (hB.mono hb.size)⟩

/-- twainref04.End -/
theorem refEnd_any (o l : Int) (w : World) :
    Calls Try.prog 9 #[.agg #[.int .i64 o, .int .i64 l]] w fun e w' => e = .returned (.int .i64 (endN o l)) ∧ Below w.heap.size w w' := by
  have hb := below_new w (.cells #[.int .i64 o, .int .i64 l] 23)
  have hx := box_new w (.int .i64 o) (.int .i64 l) 23
  cases hp : plain o l with
  | false =>
    have he : endN o l = 0 := by unfold endN; rw [hp]; rfl
    rw [he]
    go_enter Try.func9, Try.ntmps9
    go_wp2_with (go_at_call 7; refine (refPlain_any _ _ _).mono ?_; rw [hp]; rintro e w1 ⟨rfl, hB⟩)
    go_ret
    exact ⟨rfl, hb.trans (hB.mono hb.size)⟩
  | true =>
    have he : endN o l = o + l := by unfold endN; rw [hp]; rfl
    rw [he]
    have hq := of_plain hp
    go_enter Try.func9, Try.ntmps9
    go_wp2_with (go_at_call 7; refine (refPlain_any _ _ _).mono ?_; rw [hp]; rintro e w1 ⟨rfl, hB⟩; obtain ⟨hx0, hx1⟩ := hx.below hB (by simp))
    go_ret
    exact ⟨rfl, hb.trans (hB.mono hb.size)⟩

/-- span.Good -/
theorem good_any (o l n : Int) (w : World) :
    Calls Try.prog 10 #[.agg #[.int .i64 o, .int .i64 l], .int .i64 n] w fun e w' => e = .returned (.bool (good o l n)) ∧ Below w.heap.size w w' := by
  have hb := below_new w (.cells #[.int .i64 o, .int .i64 l] 23)
  have hx := box_new w (.int .i64 o) (.int .i64 l) 23
  cases hp : plain o l with
  | false =>
    have hg : good o l n = false := by unfold good; rw [hp]; rfl
    rw [hg]
    go_enter Try.func10, Try.ntmps10
    go_wp2_with (go_at_call 6; refine (plain_any _ _ _).mono ?_; rw [hp]; rintro e w1 ⟨rfl, hB⟩; obtain ⟨hx0, hx1⟩ := hx.below hB (by simp); replace hb := hb.trans (hB.mono hb.size))
    go_ret
    exact ⟨rfl, hb⟩
  | true =>
    have hq := of_plain hp
    have he : endN o l = o + l := by unfold endN; rw [hp]; rfl
    by_cases h1 : 1 ≤ l
    · have hg : good o l n = decide (o + l ≤ n) := by unfold good; rw [hp]; simp [h1]
      rw [hg]
      go_enter Try.func10, Try.ntmps10
      go_wp2_with (first | (go_at_call 6; refine (plain_any _ _ _).mono ?_; rw [hp]; rintro e w1 ⟨rfl, hB⟩; obtain ⟨hx0, hx1⟩ := hx.below hB (by simp); replace hb := hb.trans (hB.mono hb.size)) | (go_at_call 8; refine (end_any _ _ _).mono ?_; rw [he]; rintro e w2 ⟨rfl, hB2⟩; replace hb := hb.trans (hB2.mono hb.size)))
      go_ret
      exact ⟨rfl, hb⟩
    · have hg : good o l n = false := by unfold good; rw [hp]; simp [h1]
      rw [hg]
      go_enter Try.func10, Try.ntmps10
      go_wp2_with (go_at_call 6; refine (plain_any _ _ _).mono ?_; rw [hp]; rintro e w1 ⟨rfl, hB⟩; obtain ⟨hx0, hx1⟩ := hx.below hB (by simp); replace hb := hb.trans (hB.mono hb.size))
      go_ret
      exact ⟨rfl, hb⟩

/-- twainref04.Good -/
theorem refGood_any (o l n : Int) (w : World) :
    Calls Try.prog 11 #[.agg #[.int .i64 o, .int .i64 l], .int .i64 n] w fun e w' => e = .returned (.bool (good o l n)) ∧ Below w.heap.size w w' := by
  have hb := below_new w (.cells #[.int .i64 o, .int .i64 l] 23)
  have hx := box_new w (.int .i64 o) (.int .i64 l) 23
  cases hp : plain o l with
  | false =>
    have hg : good o l n = false := by unfold good; rw [hp]; rfl
    rw [hg]
    go_enter Try.func11, Try.ntmps11
    go_wp2_with (go_at_call 7; refine (refPlain_any _ _ _).mono ?_; rw [hp]; rintro e w1 ⟨rfl, hB⟩; obtain ⟨hx0, hx1⟩ := hx.below hB (by simp); replace hb := hb.trans (hB.mono hb.size))
    go_ret
    exact ⟨rfl, hb⟩
  | true =>
    have hq := of_plain hp
    have he : endN o l = o + l := by unfold endN; rw [hp]; rfl
    by_cases h1 : 1 ≤ l
    · have hg : good o l n = decide (o + l ≤ n) := by unfold good; rw [hp]; simp [h1]
      rw [hg]
      go_enter Try.func11, Try.ntmps11
      go_wp2_with (go_at_call 7; refine (refPlain_any _ _ _).mono ?_; rw [hp]; rintro e w1 ⟨rfl, hB⟩; obtain ⟨hx0, hx1⟩ := hx.below hB (by simp); replace hb := hb.trans (hB.mono hb.size))
      go_ret
      exact ⟨rfl, hb⟩
    · have hg : good o l n = false := by unfold good; rw [hp]; simp [h1]
      rw [hg]
      go_enter Try.func11, Try.ntmps11
      go_wp2_with (go_at_call 7; refine (refPlain_any _ _ _).mono ?_; rw [hp]; rintro e w1 ⟨rfl, hB⟩; obtain ⟨hx0, hx1⟩ := hx.below hB (by simp); replace hb := hb.trans (hB.mono hb.size))
      go_ret
      exact ⟨rfl, hb⟩

theorem ret_int {k : IntKind} {a b : Int} (h : a = b) : Ending.returned (.int k a) = .returned (.int k b) := by rw [h]

theorem ret_bool {a b : Bool} (h : a = b) : Ending.returned (.bool a) = .returned (.bool b) := by rw [h]

theorem wrap_pow {k : Nat} (h : k < 64) : IntKind.u64.wrap ((2 : Int) ^ k) = ((2 ^ k : Nat) : Int) := by
  have a := Nat.pow_lt_pow_right (a := 2) (by omega) h
  have b : ((2 : Int) ^ k) = ((2 ^ k : Nat) : Int) := by simp
  rw [IntKind.wrap_u64, b]
  generalize 2 ^ k = P at *
  have : P < 18446744073709551616 := a
  omega

/-- twainref01.One -/
theorem refOne_any (n : Int) (w : World) :
    Calls Try.prog 31 #[.int .i64 n] w fun e w' => e = .returned (.int .u64 (one n)) ∧ w' = w := by
  by_cases ha : n < 0
  · rw [one_out (.inl ha)]
    go_enter Try.func31, Try.ntmps31
    go_wp2
    go_ret
    exact ⟨rfl, rfl⟩
  · by_cases hb : 63 < n
    · rw [one_out (.inr (by omega))]
      go_enter Try.func31, Try.ntmps31
      go_wp2
      go_ret
      exact ⟨rfl, rfl⟩
    · rw [one_in (by omega) (by omega)]
      obtain ⟨m, rfl⟩ : ∃ m : Nat, n = m := ⟨n.toNat, by omega⟩
      go_enter Try.func31, Try.ntmps31
      go_wp2
      go_loop [3, 4] (fun x i => ∃ k : Nat, k ≤ m ∧ i = .int .i64 k ∧ x = .int .u64 ((2 ^ k : Nat) : Int)) (fun _ i => m - (intOf i).toNat)
      case atStart => exact ⟨0, Nat.zero_le _, rfl, rfl⟩
      case round =>
        obtain ⟨k, hk, rfl, rfl⟩ := hrel
        by_cases hlt : k < m
        · have hp : 2 ^ (k + 1) = 2 ^ k * 2 := Nat.pow_succ 2 k
          have hq := Nat.pow_lt_pow_right (a := 2) (by omega) (show k + 1 < 64 by omega)
          obtain ⟨P, hP⟩ : ∃ P, 2 ^ k = P := ⟨_, rfl⟩
          have HP : Hid (2 ^ (k + 1) = P * 2) := by rw [← hP]; exact hp
          have hP2 : P < 9223372036854775808 := by rw [hp, hP] at hq; omega
          rw [hP]
          clear hp hq hP
          go_wp2
          go_round
          case rel => exact ⟨k + 1, by omega, by go_num, by rw [HP.out]; first | rfl | go_num⟩
          case measure => simp [intOf]; omega
        · obtain rfl : k = m := by omega
          go_wp2
          go_ret
          exact ⟨ret_int (by simp), rfl⟩

theorem quo_bit (s p : Nat) (hs : s < 18446744073709551616) (_hp : 0 < p) : ((IntKind.u64.wrap ((s : Int) / (p : Int))).tmod 2 == 1) = decide (s / p % 2 = 1) := by
  have a : s / p ≤ s := Nat.div_le_self s p
  have b : ((s : Int) / (p : Int)) = ((s / p : Nat) : Int) := by simp
  rw [IntKind.wrap_u64, b]
  generalize s / p = q at *
  have c : ((q : Int) % 18446744073709551616) = q := by omega
  rw [c]
  have d : ((q : Int).tmod 2) = ((q % 2 : Nat) : Int) := by rw [Int.tmod_eq_emod_of_nonneg (by omega)]; omega
  rw [d]
  rcases Nat.mod_two_eq_zero_or_one q with h | h <;> simp [h]

/-- twainref01.Has -/
theorem refHas_any (s : Nat) (n : Int) (w : World) (hs : s < 18446744073709551616) :
    Calls Try.prog 30 #[.int .u64 s, .int .i64 n] w fun e w' => e = .returned (.bool (has s n)) ∧ w' = w := by
  by_cases ha : n < 0
  · rw [has_out s (.inl ha)]
    go_enter Try.func30, Try.ntmps30
    go_wp2
    go_ret
    exact ⟨rfl, rfl⟩
  · by_cases hb : 63 < n
    · rw [has_out s (.inr hb)]
      go_enter Try.func30, Try.ntmps30
      go_wp2
      go_ret
      exact ⟨rfl, rfl⟩
    · have ho := one_lt n
      have hp : 0 < one n := by rw [one_in (by omega) (by omega)]; exact Nat.two_pow_pos _
      have hh := has_in s (n := n) (by omega) (by omega)
      rw [← one_in (by omega) (by omega)] at hh
      rw [hh]
      clear hh
      go_enter Try.func30, Try.ntmps30
      go_wp2_with (go_at_call 31; refine (refOne_any _ _).mono ?_; rintro e w' ⟨rfl, rfl⟩)
      go_ret
      exact ⟨ret_bool (quo_bit s (one n) hs hp), rfl⟩

/-- twainref01.With -/
theorem refWith_any (s : Nat) (n : Int) (w : World) (hs : s < 18446744073709551616) :
    Calls Try.prog 29 #[.int .u64 s, .int .i64 n] w fun e w' => e = .returned (.int .u64 (withN s n)) ∧ w' = w := by
  have ho := one_lt n
  have hw := withN_lt s n hs
  cases hh : has s n with
  | true =>
    rw [withN_true hs hh]
    go_enter Try.func29, Try.ntmps29
    go_wp2_with (first | (go_at_call 30; refine (refHas_any _ _ _ hs).mono ?_; rw [hh]; rintro e w' ⟨rfl, rfl⟩))
    go_ret
    exact ⟨rfl, rfl⟩
  | false =>
    rw [withN_false hs hh] at hw ⊢
    go_enter Try.func29, Try.ntmps29
    go_wp2_with (first | (go_at_call 30; refine (refHas_any _ _ _ hs).mono ?_; rw [hh]; rintro e w' ⟨rfl, rfl⟩) | (go_at_call 31; refine (refOne_any _ _).mono ?_; rintro e w' ⟨rfl, rfl⟩))
    go_ret
    exact ⟨ret_int (by omega), rfl⟩

/-- bits.Row -/
theorem rowOut_any (f n : Int) (w : World) (hf : n < 1 ∨ f < 0 ∨ 63 < f) :
    Calls Try.prog 22 #[.int .i64 f, .int .i64 n] w fun e w' => e = .returned (.int .u64 0) ∧ w' = w := by
  by_cases ha : n < 1
  · go_enter Try.func22, Try.ntmps22
    go_wp2
    go_ret
    exact ⟨rfl, rfl⟩
  · by_cases hb : f < 0
    · go_enter Try.func22, Try.ntmps22
      go_wp2
      go_ret
      exact ⟨rfl, rfl⟩
    · have hc : 64 ≤ f := by omega
      go_enter Try.func22, Try.ntmps22
      go_wp2
      go_ret
      exact ⟨rfl, rfl⟩

theorem row_u64 (f n : Nat) (hn : n ≤ 64) (h : f + n ≤ 64) : IntKind.u64.wrap ((18446744073709551615 : Int) / 2 ^ (64 - n) * 2 ^ f) = ((row f n : Nat) : Int) := by
  have a := full_div n (by omega)
  have b : ((18446744073709551615 : Int) / 2 ^ (64 - n) * 2 ^ f) = ((18446744073709551615 / 2 ^ (64 - n) * 2 ^ f : Nat) : Int) := by
    simp
  have c := row_lt64 h
  rw [b, a, IntKind.wrap_u64]
  show (((row f n : Nat) : Int) % 18446744073709551616) = _
  omega

theorem rowIn_any (f : Nat) (n : Int) (w : World) (hf : f < 64) (h3 : 1 ≤ n) :
    Calls Try.prog 22 #[.int .i64 f, .int .i64 n] w fun e w' => e = .returned (.int .u64 (row f (min n.toNat (64 - f)))) ∧ w' = w := by
  by_cases ha : n ≤ 64 - f
  · have e := row_u64 f n.toNat (by omega) (by omega)
    have e1 : min n.toNat (64 - f) = n.toNat := by omega
    have e2 : 64 - n.toNat = (64 - n).toNat := by omega
    rw [e2] at e
    rw [e1]
    clear e1 e2
    go_enter Try.func22, Try.ntmps22
    go_wp2
    go_ret
    exact ⟨rfl, rfl⟩
  · have e := row_u64 f (64 - f) (by omega) (by omega)
    have e1 : min n.toNat (64 - f) = 64 - f := by omega
    rw [e1]
    clear e1
    go_enter Try.func22, Try.ntmps22
    go_wp2
    go_ret
    exact ⟨rfl, rfl⟩


/-- The slice value sv holds the ints zs, in a block below n₀ where there is one. -/
def IntsAt (n₀ : Nat) (W : World) (sv : Value) (zs : List Int) : Prop :=
  ∃ a cap, sv = .slice a zs.length cap ∧ (zs = [] ∨ ∃ b off, a = some ⟨b, off, none⟩ ∧ b < n₀ ∧ ∀ j, j < zs.length → W.cell? ⟨b, off + j, none⟩ = some (.int .i64 (zs[j]?.getD 0)))

theorem IntsAt.below {n₀ : Nat} {A B : World} (h : Below n₀ A B) {sv : Value} {zs : List Int} : IntsAt n₀ A sv zs → IntsAt n₀ B sv zs
  | ⟨a, cap, e, .inl r⟩ => ⟨a, cap, e, .inl r⟩
  | ⟨a, cap, e, .inr ⟨b, off, e2, hb, hc⟩⟩ => ⟨a, cap, e, .inr ⟨b, off, e2, hb, fun j hj => (h.cell (p := ⟨b, off + j, none⟩) hb).trans (hc j hj)⟩⟩

theorem IntsAt.mono {n m : Nat} {A : World} {sv : Value} {zs : List Int} (hn : n ≤ m) : IntsAt n A sv zs → IntsAt m A sv zs
  | ⟨a, cap, e, .inl r⟩ => ⟨a, cap, e, .inl r⟩
  | ⟨a, cap, e, .inr ⟨b, off, e2, hb, hc⟩⟩ => ⟨a, cap, e, .inr ⟨b, off, e2, by omega, hc⟩⟩

/-- twainref01.Of -/
theorem refOf_some (b off cap : Nat) (zs : List Int) (w : World) (hlen : zs.length ≤ 9223372036854775807) (hc : ∀ j, j < zs.length → w.cell? ⟨b, off + j, none⟩ = some (.int .i64 (zs[j]?.getD 0))) :
    Calls Try.prog 24 #[.slice (some ⟨b, off, none⟩) zs.length cap] w fun e w' => e = .returned (.int .u64 (ofL zs)) ∧ w' = w := by
  obtain ⟨len, hl⟩ : ∃ len, zs.length = len := ⟨_, rfl⟩
  rw [hl] at hlen hc ⊢
  go_enter Try.func24, Try.ntmps24
  go_wp2
  go_loop [3, 8] (fun x i => ∃ k : Nat, k ≤ len ∧ i = .int .i64 k ∧ x = .int .u64 (ofL (zs.take k))) (fun _ i => len - (intOf i).toNat)
  case atStart => exact ⟨0, Nat.zero_le _, rfl, rfl⟩
  case round =>
    obtain ⟨k, hk, rfl, rfl⟩ := hrel
    have hx := ofL_lt (zs.take k)
    by_cases hlt : k < len
    · have hcx := hc k hlt
      have HS : Hid (ofL (zs.take (k + 1)) = withN (ofL (zs.take k)) (zs[k]?.getD 0)) := by
        rw [List.take_succ_eq_append_getElem (by omega), ofL_snoc]
        congr 1
        simp [hl, hlt]
      clear hc
      go_wp2_with (go_at_call 29; refine (refWith_any _ _ _ hx).mono ?_; rintro e w' ⟨rfl, rfl⟩)
      go_round
      case rel => exact ⟨k + 1, by omega, by go_num, by rw [HS.out]; simp [hl, hlt]⟩
      case measure => simp [intOf]; omega
    · obtain rfl : k = len := by omega
      go_wp2
      go_ret
      exact ⟨ret_int (by rw [List.take_of_length_le (by omega)]), rfl⟩

theorem refOf_none (a : Option Addr) (cap : Nat) (w : World) :
    Calls Try.prog 24 #[.slice a 0 cap] w fun e w' => e = .returned (.int .u64 0) ∧ w' = w := by
  go_enter Try.func24, Try.ntmps24
  go_wp2
  go_loop [3, 8] (fun x i => i = .int .i64 0 ∧ x = .int .u64 0) (fun _ _ => 0)
  case atStart => exact ⟨rfl, rfl⟩
  case round =>
    obtain ⟨rfl, rfl⟩ := hrel
    go_wp2
    go_ret
    exact ⟨rfl, rfl⟩

theorem refOf_any (sv : Value) (zs : List Int) (w : World) (hlen : zs.length ≤ 9223372036854775807) (hI : IntsAt w.heap.size w sv zs) :
    Calls Try.prog 24 #[sv] w fun e w' => e = .returned (.int .u64 (ofL zs)) ∧ w' = w := by
  obtain ⟨a, cap, rfl, rfl | ⟨b, off, rfl, hb, hc⟩⟩ := hI
  · exact refOf_none a cap w
  · exact refOf_some b off cap zs w hlen hc

end Go.Proofs.Ytakljofmnpagpaa
