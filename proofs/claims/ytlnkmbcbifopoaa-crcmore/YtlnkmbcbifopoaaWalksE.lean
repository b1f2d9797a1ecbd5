/-
  The walk of the law CrcMore, of bytes up to 4,000 each.
-/
import Derived.Test.YtlnkmbcbifopoaaWalksD
namespace Go.Proofs.Ytlnkmbcbifopoaa
open Go.RowKit
open Crc
namespace crcMore

set_option maxHeartbeats 1000000 in
theorem walkShort (a0 : Option Addr) (cap0 : Nat) (xs : List Nat) (a1 : Option Addr) (cap1 : Nat) (ys : List Nat) (w : World) (hx : xs.length ≤ 4000) (hy : ys.length ≤ 4000)
    (hI0 : BytesAt w.heap.size w (.slice a0 xs.length cap0) xs) (hI1 : BytesAt w.heap.size w (.slice a1 ys.length cap1) ys) (hn0 : a0 = none → xs.length = 0 ∧ cap0 = 0) (hn1 : a1 = none → ys.length = 0 ∧ cap1 = 0) :
    Calls Try.prog 5 #[.slice a0 xs.length cap0, .slice a1 ys.length cap1] w fun e w' => e = .returned (.bool true) ∧ Below w.heap.size w w' := by
  have q1 := fun w' (h : Below w.heap.size w w') => sum_any _ xs w' (by omega) ((hI0.below h).mono h.size)
  have hm0 := more_lt (s := 0) (by omega) hI0.1
  have q2 := fun w' (h : Below w.heap.size w w') => more_any (more 0 xs) _ ys w' hm0 (by omega) ((hI1.below h).mono h.size)
  have q3 := fun w' v (h : BytesAt w'.heap.size w' v (xs ++ ys)) => sum_any v (xs ++ ys) w' (by simp; omega) h
  rw [more_more] at q2
  have HV0 : Hid (∀ a, a0 = some a → ∀ j u, (xs.map enc)[j]? = some u → w.cell? (a.add j) = some u) := by rintro a rfl; exact hI0.values
  have HV1 : Hid (∀ a, a1 = some a → ∀ j u, (ys.map enc)[j]? = some u → w.cell? (a.add j) = some u) := by rintro a rfl; exact hI1.values
  have HB : Hid (∀ b ∈ xs ++ ys, b < 256) := by
    intro b hb
    rcases List.mem_append.1 hb with h | h
    · exact hI0.1 b h
    · exact hI1.1 b h
  clear hI0 hI1 hm0
  generalize more 0 xs = m0 at *
  generalize more 0 (xs ++ ys) = m at *
  have HN0 : Hid (a0 = none → xs.length = 0 ∧ cap0 = 0) := hn0
  have HN1 : Hid (a1 = none → ys.length = 0 ∧ cap1 = 0) := hn1
  clear hn0 hn1
  obtain ⟨len0, hl0⟩ : ∃ n, xs.length = n := ⟨_, rfl⟩
  obtain ⟨len1, hl1⟩ : ∃ n, ys.length = n := ⟨_, rfl⟩
  have HL0 : Hid (xs.length = len0) := hl0
  have HL1 : Hid (ys.length = len1) := hl1
  rw [hl0] at hx q1 HN0 ⊢
  rw [hl1] at hy q2 HN1 ⊢
  clear hl0 hl1
  have HQ3 : Hid (∀ (w' : World) (v : Value), BytesAt w'.heap.size w' v (xs ++ ys) → Calls Try.prog 8 #[v] w' fun e w'' => e = .returned (.int .u32 (m : Int)) ∧ Below w'.heap.size w' w'') := q3
  clear q3
  have hx' : ¬ ((4000 : Int) < (len0 : Int)) := by omega
  have hy' : ¬ ((4000 : Int) < (len1 : Int)) := by omega
  go_enter Try.func5, Try.ntmps5
  go_upto_region 3 with fail
  go_cut [5] from 15 to 19 (fun v W => BytesAt W.heap.size W v (xs ++ ys) ∧ Below w.heap.size w W)
  case first =>
    clear q1 q2 HQ3
    obtain ⟨i0, hi, hz0, hz1, hz2⟩ := info_parts Try.info5
    have hown0 : (w.alloc (.cells #[] 5)).ownsRow w.heap.size 5 1 (.slice (some ⟨w.heap.size, 0, none⟩) 0 0) 0 [] := World.ownsRow_made w _ 0 (Nat.le_refl _) (by decide) rfl
    have hB0 : Below w.heap.size w (w.alloc (.cells #[] 5)) := (Below.refl _ _).alloc (Nat.le_refl _) _
    have hone : ∀ l : List Nat, ∀ u ∈ l.map enc, u.oneCell' = true := fun l u hu => by simp at hu; obtain ⟨x, _, rfl⟩ := hu; rfl
    have S2 : Hid (∀ l : List Nat, ∀ u ∈ l.map enc, u.oneCell' = true) := hone
    have S0x : Hid ((xs.map enc).length = len0 * 1) := by show _ = _; rw [List.length_map, HL0.out, Nat.mul_one]
    have S0y : Hid ((ys.map enc).length = len1 * 1) := by show _ = _; rw [List.length_map, HL1.out, Nat.mul_one]
    have S3x : Hid (0 + len0 ≤ maxLen) := by show _ ≤ maxLen; unfold maxLen; omega
    have S3y : Hid (0 + len1 ≤ maxLen) := by show _ ≤ maxLen; unfold maxLen; omega
    have S3 : Hid (len0 + len1 ≤ maxLen) := by show _ ≤ maxLen; unfold maxLen; omega
    have S4x : Hid ((0 + len0) * 1 ≤ 140737488355328) := by show _ ≤ 140737488355328; omega
    have S4y : Hid ((0 + len1) * 1 ≤ 140737488355328) := by show _ ≤ 140737488355328; omega
    have S4 : Hid ((len0 + len1) * 1 ≤ 140737488355328) := by show _ ≤ 140737488355328; omega
    have S1 : ∀ {W : World}, Below w.heap.size w W → ∀ {a : Addr} {l : List Nat}, (∀ j u, (l.map enc)[j]? = some u → w.cell? (a.add j) = some u) → Hid (∀ j u, (l.map enc)[j]? = some u → W.cell? (a.add j) = some u) := fun hB a l h j u hj => by
      have := h j u hj
      rw [← this]
      exact hB.cell (World.block_lt_of_cell? w _ this)
    clear hone
    cases a0 with
    | none =>
      obtain ⟨h0, h0'⟩ := HN0.out rfl
      subst h0 h0'
      obtain rfl : xs = [] := List.eq_nil_of_length_eq_zero HL0.out
      cases a1 with
      | none =>
        obtain ⟨h1, h1'⟩ := HN1.out rfl
        subst h1 h1'
        obtain rfl : ys = [] := List.eq_nil_of_length_eq_zero HL1.out
        go_wp2
        go_meet
        case rel => exact ⟨⟨by simp, some ⟨w.heap.size, 0, none⟩, 0, rfl, fun h => by simp at h, .inl rfl⟩, hB0⟩
      | some a =>
        have S1y := S1 hB0 (HV1.out a rfl)
        clear S1
        go_wp2_with (first
          | (at_builtin; refine wpList_append_own _ rfl _ _ 22 rfl w.heap.size 5 i0 (.int .u8 0) 1 1 Try.underlying22 hi hz0 hz1 hz2 rfl (by decide) _ 0 [] rfl hown0 a len1 cap1 (ys.map enc) rfl S0y.out S1y.out (S2.out ys) S3y.out S4y.out hB0.size ?_)
          | go_in)
        intro v1 w1 hown1 hgrow1 _
        have hB1 := below_append (Nat.le_refl _) hB0 hown0 hgrow1
        have hS : BytesAt w1.heap.size w1 v1 ([] ++ ys) := bytesAt_owns HB.out (Nat.le_refl _) (by simpa [HL1.out] using hown1)
        clear hown0 hB0 hgrow1 hown1
        go_wp2
        go_meet
        case rel => exact ⟨hS, hB1⟩
    | some a =>
      have S1x := S1 hB0 (HV0.out a rfl)
      have S1' : Hid (∀ {W : World}, Below w.heap.size w W → ∀ {a : Addr} {l : List Nat}, (∀ j u, (l.map enc)[j]? = some u → w.cell? (a.add j) = some u) → Hid (∀ j u, (l.map enc)[j]? = some u → W.cell? (a.add j) = some u)) := S1
      clear S1
      go_wp2_with (first
        | (at_builtin; refine wpList_append_own _ rfl _ _ 22 rfl w.heap.size 5 i0 (.int .u8 0) 1 1 Try.underlying22 hi hz0 hz1 hz2 rfl (by decide) _ 0 [] rfl hown0 a len0 cap0 (xs.map enc) rfl S0x.out S1x.out (S2.out xs) S3x.out S4x.out hB0.size ?_)
        | go_in)
      intro v1 w1 hown1 hgrow1 hnn
      have hB1 := below_append (Nat.le_refl _) hB0 hown0 hgrow1
      try rw [Nat.zero_add, List.nil_append] at hown1
      clear hown0 hB0 hgrow1
      cases a1 with
      | none =>
        obtain ⟨h1, h1'⟩ := HN1.out rfl
        subst h1 h1'
        obtain rfl : ys = [] := List.eq_nil_of_length_eq_zero HL1.out
        have hS : BytesAt w1.heap.size w1 v1 (xs ++ []) := bytesAt_owns HB.out (Nat.le_refl _) (by simpa [HL0.out] using hown1)
        obtain ⟨_, ⟨rfl, _⟩ | ⟨g, cap, cur, rfl, hb, hg, hg1, hg2, hg3, hg4⟩⟩ := hown1
        · simp at hnn
        · go_wp2
          go_meet
          case rel => exact ⟨hS, hB1⟩
      | some a' =>
        have S1y := S1'.out hB1 (HV1.out a' rfl)
        go_wp2_with (first
          | (at_builtin; refine wpList_append_own _ rfl _ _ 22 rfl w.heap.size 5 i0 (.int .u8 0) 1 1 Try.underlying22 hi hz0 hz1 hz2 rfl (by decide) v1 len0 _ rfl hown1 a' len1 cap1 (ys.map enc) rfl S0y.out S1y.out (S2.out ys) S3.out S4.out hB1.size ?_)
          | go_in)
        intro v2 w2 hown2 hgrow2 _
        have hB2 := below_append (Nat.le_refl _) hB1 hown1 hgrow2
        rw [← List.map_append] at hown2
        have hS : BytesAt w2.heap.size w2 v2 (xs ++ ys) := bytesAt_owns HB.out (Nat.le_refl _) (by rw [List.length_append, HL0.out, HL1.out]; exact hown2)
        clear hgrow2 hown1 hown2 hB1
        go_wp2
        go_meet
        case rel => exact ⟨hS, hB2⟩
  case rest =>
    obtain ⟨hS, hB⟩ := hcut
    clear HV0 HV1 HB HN0 HN1 HL0 HL1
    have q3 : ∀ w' (h : Below wc.heap.size wc w'), Calls Try.prog 8 #[u5] w' fun e w'' => e = .returned (.int .u32 (m : Int)) ∧ Below w'.heap.size w' w'' := fun w' h => HQ3.out w' u5 (hS.next h)
    have hC := Below.refl wc.heap.size wc
    clear HQ3 hS
    go_wp2_with (first
      | (go_at_call 10; refine (q2 _ hB).mono ?_; rintro e w' ⟨rfl, hB'⟩; replace hB := hB.trans (hB'.mono hB.size); replace hC := hC.trans (hB'.mono hC.size); clear q2)
      | (go_at_call 8; refine (q1 _ hB).mono ?_; rintro e w' ⟨rfl, hB'⟩; replace hB := hB.trans (hB'.mono hB.size); replace hC := hC.trans (hB'.mono hC.size); clear q1)
      | (go_at_call 8; refine (q3 _ hC).mono ?_; rintro e w' ⟨rfl, hB'⟩; replace hB := hB.trans (hB'.mono hB.size); replace hC := hC.trans (hB'.mono hC.size); clear q3)
      | (go_at_call 7; refine (lives_any _).mono ?_; rintro e w' ⟨rfl, hB'⟩; replace hB := hB.trans (hB'.mono hB.size)))
    go_ret
    exact ⟨rfl, hB⟩

end crcMore
end Go.Proofs.Ytlnkmbcbifopoaa
