/-
  slices.Concat of two orders; cut.
-/
import Derived.Test.YtldeecjocapfgaaHotB
import Derived.Deep.AppendLies
namespace Go.Proofs.Ytldeecjocapfgaa.Hot
open Go.RowKit
open Bits Bits.Math

set_option maxRecDepth 100000 in
set_option maxHeartbeats 1000000 in
/-- slices.Concat, of two -/
theorem concat_any (g n₀ n₁ : Nat) (v1 v2 : Value) (l1 l2 : List Nat) (w : World) (hg : g < w.heap.size) (c0 : w.cell? ⟨g, 0, none⟩ = some v1) (c1 : w.cell? ⟨g, 1, none⟩ = some v2) (h1 : Nums n₀ w v1 l1) (h2 : Nums n₁ w v2 l2)
    (hl1 : l1.length ≤ 64) (hl2 : l2.length ≤ 64) :
    Calls Try.prog 29 #[.slice (some ⟨g, 0, none⟩) 2 2] w fun e w' => ∃ v', e = .returned v' ∧ Nums w.heap.size w' v' (l1 ++ l2) ∧ Below w.heap.size w w' := by
  obtain ⟨a1, k1, e1, -⟩ := id h1
  obtain ⟨a2, k2, e2, -⟩ := id h2
  subst e1 e2
  have hN1 : Hid (Nums n₀ w (.slice a1 l1.length k1) l1) := h1
  have hN2 : Hid (Nums n₁ w (.slice a2 l2.length k2) l2) := h2
  clear h1 h2
  obtain ⟨m1, hm1⟩ : ∃ m1, l1.length = m1 := ⟨_, rfl⟩
  obtain ⟨m2, hm2⟩ : ∃ m2, l2.length = m2 := ⟨_, rfl⟩
  rw [hm1] at hN1 c0 hl1
  rw [hm2] at hN2 c1 hl2
  replace hm1 : Hid (l1.length = m1) := hm1
  replace hm2 : Hid (l2.length = m2) := hm2
  go_enter Try.func29, Try.ntmps29
  go_wp2
  go_loop [3, 11] (fun x i => (i = .int .i64 0 ∧ x = .int .i64 0) ∨ (i = .int .i64 1 ∧ x = .int .i64 (m1 : Int)) ∨ (i = .int .i64 2 ∧ x = .int .i64 ((m1 + m2 : Nat) : Int))) (fun _ i => 2 - (intOf i).toNat)
  case atStart => exact .inl ⟨rfl, rfl⟩
  case round =>
    rcases hrel with ⟨rfl, rfl⟩ | ⟨rfl, rfl⟩ | ⟨rfl, rfl⟩
    · have z : ¬ ((m1 : Int) < 0) := by omega
      go_wp2
      go_round
      case rel => exact .inr (.inl ⟨rfl, rfl⟩)
      case measure => simp [intOf]
    · have z : ¬ ((m1 : Int) + (m2 : Int) < 0) := by omega
      go_wp2
      go_round
      case rel => exact .inr (.inr ⟨rfl, by simp⟩)
      case measure => simp [intOf]
    · have q := fun w => grow_any (m1 + m2) w (by omega)
      go_wp2_with (go_at_call 38; refine (q _).mono ?_; rintro e w1 ⟨v, rfl, hr, hB⟩)
      go_loopw [6, 27] (fun x i wr => ∃ (k : Nat) (l : List Nat), (k = 0 ∧ l = [] ∨ k = 1 ∧ l = l1 ∨ k = 2 ∧ l = l1 ++ l2) ∧ i = .int .i64 k ∧ wr.ownsRow w.heap.size 3 1 x l.length (l.map enc) ∧ Below w.heap.size w wr) (fun _ i _ => 2 - (intOf i).toNat)
      case atStart => exact ⟨0, [], .inl ⟨rfl, rfl⟩, rfl, by simpa using hr, hB⟩
      case round =>
        obtain ⟨k, l, hkl, rfl, hown, hB'⟩ := hrel
        have d0 := (hB'.cell (p := ⟨g, 0, none⟩) hg).trans c0
        have d1 := (hB'.cell (p := ⟨g, 1, none⟩) hg).trans c1
        have hsz := hB'.size
        have n1 : Hid (Nums n₀ wr (.slice a1 m1 k1) l1) := hN1.out.kept (Kept.of_below hB' []) (by simp)
        have n2 : Hid (Nums n₁ wr (.slice a2 m2 k2) l2) := hN2.out.kept (Kept.of_below hB' []) (by simp)
        rcases hkl with ⟨rfl, rfl⟩ | ⟨rfl, rfl⟩ | ⟨rfl, rfl⟩
        · have hl : Hid (([] : List Nat).length + l1.length ≤ 1000) := (show ([] : List Nat).length + l1.length ≤ 1000 by rw [hm1.out]; simp; omega)
          go_wp2_with (at_builtin; refine wpList_append_nums rfl _ _ rfl w.heap.size n₀ _ _ [] l1 rfl hown rfl n1.out hl.out hsz ?_; intro v2 w2 hr2 hg2)
          go_roundw
          case rel => exact ⟨1, l1, .inr (.inl ⟨rfl, rfl⟩), rfl, hr2, hB'.trans (below_grown hown hg2 (Nat.le_refl _) hsz)⟩
          case measure => simp [intOf]
        · have hl : Hid (l.length + l2.length ≤ 1000) := (show l.length + l2.length ≤ 1000 by rw [hm1.out, hm2.out]; omega)
          go_wp2_with (at_builtin; refine wpList_append_nums rfl _ _ rfl w.heap.size n₁ _ _ l l2 rfl hown rfl n2.out hl.out hsz ?_; intro v2 w2 hr2 hg2)
          go_roundw
          case rel => exact ⟨2, l ++ l2, .inr (.inr ⟨rfl, rfl⟩), rfl, hr2, hB'.trans (below_grown hown hg2 (Nat.le_refl _) hsz)⟩
          case measure => simp [intOf]
        · go_wp2
          go_ret
          exact ⟨_, rfl, nums_of_owns hown (Nat.le_refl _), hB'⟩

set_option maxRecDepth 100000 in
set_option maxHeartbeats 1000000 in
/-- cut -/
theorem cut_any (p n₀ most : Nat) (v : Value) (l : List Nat) (i : Nat) (hi : i < l.length) (w : World) (h : SetAt w p n₀ most v l) :
    Calls Try.prog 26 #[.pointer (some ⟨p, 0, none⟩), .int .i64 (i : Int)] w fun e w' => e = .returned (.tuple #[]) ∧ (∃ v', SetAt w' p n₀ most v' (l.eraseIdx i)) ∧ Kept [p] w w' := by
  have hl := h.good.len
  have c1 := h.cell.2
  obtain ⟨ao, cap, rfl, hc, ⟨rfl, rfl⟩ | ⟨b, off, rfl, hb0, hb, h2⟩⟩ := id h.nums
  · omega
  · obtain ⟨len, hlen⟩ : ∃ len, l.length = len := ⟨_, rfl⟩
    rw [hlen] at hi hl hc h2 c1 h
    replace hlen : Hid (l.length = len) := hlen
    have i0 : (0 : Int) ≤ (i : Int) := by omega
    have i1 : (i : Int) ≤ (cap : Int) := by omega
    have i2 : (0 : Int) ≤ (i : Int) + 1 := by omega
    have i3 : (i : Int) + 1 ≤ (len : Int) := by omega
    have i4 : IntKind.i64.wrap ((i : Int) + 1) = (i : Int) + 1 := by rw [IntKind.wrap_i64]; omega
    have i5 : ((i : Int) + 1).toNat = i + 1 := by omega
    obtain ⟨t0, hi0, hz0, hz1, hz2⟩ := info_parts Try.info3
    obtain ⟨A, eA, hA⟩ : ∃ A : Addr, (if cap = i + 1 then some (⟨b, off, none⟩ : Addr) else some ⟨b, off + (i + 1), none⟩) = some A ∧ ∀ j, j < len - (i + 1) → A.add j = ⟨b, off + (i + 1 + j), none⟩ := by
      refine ⟨if cap = i + 1 then ⟨b, off, none⟩ else ⟨b, off + (i + 1), none⟩, by split <;> rfl, fun j hj => ?_⟩
      rw [if_neg (by omega), addr_add]
      simp
    have hd := h.kept (kept_drew [] w) (by simp) (by simp)
    have e0 : ∀ (W : World) (x y : Nat), W.setCells x y [] = W := fun W x y => rfl
    have gd : Good (l.eraseIdx i) := h.good.sub (List.eraseIdx_sublist l i)
    by_cases hm : len = i + 1
    · have hm0 : len - (i + 1) = 0 := by omega
      have nn : Nums n₀ w.drew (.slice (some ⟨b, off, none⟩) i i) (l.eraseIdx i) := by
        have e : l.eraseIdx i = l.take i := by
          rw [erase_parts, List.drop_of_length_le (by rw [hlen.out]; omega), List.append_nil]
        have e2 : (l.take i).length = i := by rw [List.length_take, hlen.out]; omega
        rw [e]
        refine ⟨_, i, by rw [e2], by omega, .inr ⟨b, off, rfl, hb0, hb, fun j hj => ?_⟩⟩
        rw [e2] at hj
        rw [List.getElem?_take_of_lt hj]
        exact h2 j (by omega)
      clear h2 hA
      have f1 := hd.cells.frozen 1
      go_enter Try.func26, Try.ntmps26
      go_wp2
      go_region_law ((refine step_append_room rfl (.tmp 11) (.tmp 18) 40 rfl 3 t0 1 Try.underlying40 hi0 hz1 b off i i (by simp [Act.eval, Act.put]) A 0 (cap - (i + 1)) [] (by simp [Act.eval, Act.put]) rfl (by simp) (by simp) (by omega) (by simp) ?_; rw [e0]))
      all_goals go_end0
      all_goals exact ⟨rfl, ⟨_, hd.put nn gd⟩, (kept_drew [p] w).trans (kept_set (by simp) _ _ _)⟩
    · have hlo : Hid (((l.take i).map enc).length = i * 1) := (show ((l.take i).map enc).length = i * 1 by rw [List.length_map, List.length_take, hlen.out]; omega)
      have hls : Hid (((l.drop (i + 1)).map enc).length = (len - (i + 1)) * 1) := (show ((l.drop (i + 1)).map enc).length = (len - (i + 1)) * 1 by rw [List.length_map, List.length_drop, hlen.out]; omega)
      have hol : Hid (∀ b', some (⟨b, off, none⟩ : Addr) = some b' → ∀ j u, ((l.take i).map enc)[j]? = some u → w.drew.cell? (b'.add j) = some u) := (show ∀ b', some (⟨b, off, none⟩ : Addr) = some b' → ∀ j u, ((l.take i).map enc)[j]? = some u → w.drew.cell? (b'.add j) = some u from fun b' eb j u hu => by
        cases eb
        have hj := (List.getElem?_eq_some_iff.1 hu).1
        have hj2 : j < (l.take i).length := by simpa using hj
        have hj3 : j < i := by rw [List.length_take] at hj2; omega
        rw [addr_add, ← hu, enc_int _ _ hj2, List.getElem?_take_of_lt hj3]
        exact h2 j (by omega))
      have hne : Hid (∀ j u, ((l.drop (i + 1)).map enc)[j]? = some u → w.drew.cell? (A.add j) = some u) := (show ∀ j u, ((l.drop (i + 1)).map enc)[j]? = some u → w.drew.cell? (A.add j) = some u from fun j u hu => by
        have hj := (List.getElem?_eq_some_iff.1 hu).1
        have hj2 : j < (l.drop (i + 1)).length := by simpa using hj
        have hj3 : j < len - (i + 1) := by rw [List.length_drop, hlen.out] at hj2; exact hj2
        rw [hA j hj3, ← hu, enc_int _ _ hj2, List.getElem?_drop]
        exact h2 (i + 1 + j) (by omega))
      have hms : Hid (i + (len - (i + 1)) = (l.eraseIdx i).length) := (show i + (len - (i + 1)) = (l.eraseIdx i).length by rw [erase_parts, List.length_append, List.length_take, List.length_drop, hlen.out]; omega)
      have hmv : Hid ((l.take i).map enc ++ (l.drop (i + 1)).map enc = (l.eraseIdx i).map enc) := (show (l.take i).map enc ++ (l.drop (i + 1)).map enc = (l.eraseIdx i).map enc by rw [erase_parts, List.map_append])
      have hpos : Hid (0 < (l.eraseIdx i).length) := (show 0 < (l.eraseIdx i).length by rw [← hms.out]; omega)
      clear h2 hA
      go_enter Try.func26, Try.ntmps26
      go_wp2
      go_region_law ((refine step_append_grows rfl (.tmp 11) (.tmp 18) 40 rfl 3 t0 (.int .i64 0) 1 8 Try.underlying40 hi0 hz0 hz1 hz2 rfl (by decide) (some ⟨b, off, none⟩) i i ((l.take i).map enc) (by simp [Act.eval, Act.put]) (by simp) hlo.out hol.out A (len - (i + 1)) (cap - (i + 1)) ((l.drop (i + 1)).map enc) (by simp [Act.eval, Act.put]) hls.out hne.out (enc_one _) (by omega) (by unfold maxLen; omega) (by omega) ?_; intro v1 w1 hr hg; rw [hms.out, hmv.out] at hr; have n1 := nums_of_owns (n₀ := n₀) hr hd.high; obtain ⟨g1, cap1, e1, -, -⟩ := hr.form hpos.out; subst e1; have h1 := hd.kept (Kept.of_grown_none hg []) (by simp) (by simp); have f1 := h1.cells.frozen 1; have c1' := h1.cell.2; clear hr))
      all_goals go_end0
      all_goals exact ⟨rfl, ⟨_, h1.put n1 gd⟩, ((kept_drew [p] w).trans (Kept.of_grown_none hg [p])).trans (kept_set (by simp) _ _ _)⟩

end Go.Proofs.Ytldeecjocapfgaa.Hot
