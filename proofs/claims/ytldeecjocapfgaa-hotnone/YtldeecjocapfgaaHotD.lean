/-
  The walks of Fits and Use.
-/
import Derived.Test.YtldeecjocapfgaaHotC
namespace Go.Proofs.Ytldeecjocapfgaa.Hot
open Go.RowKit
open Bits Bits.Math

theorem and_lt (a b : Nat) (ha : a < 18446744073709551616) : a &&& b < 18446744073709551616 := Nat.lt_of_le_of_lt Nat.and_le_left ha
theorem or_lt (a b : Nat) (ha : a < 18446744073709551616) (hb : b < 18446744073709551616) : a ||| b < 18446744073709551616 := Nat.or_lt_two_pow (n := 64) ha hb
theorem SetAt.drew {W : World} {p n₀ most : Nat} {v : Value} {l : List Nat} (h : SetAt W p n₀ most v l) : SetAt W.drew p n₀ most v l := h.kept (kept_drew [] W) (by simp) (by simp)

set_option maxRecDepth 100000 in
set_option maxHeartbeats 2000000 in
/-- Fits -/
theorem fits_any (p n₀ most : Nat) (v : Value) (l : List Nat) (need busy : Nat) (hn : need < 18446744073709551616) (hb : busy < 18446744073709551616) (w : World) (h : SetAt w p n₀ most v l) :
    Calls Try.prog 9 #[.pointer (some ⟨p, 0, none⟩), .int .u64 (need : Int), .int .u64 (busy : Int)] w fun e w' => e = .returned (.bool (fits most need busy l)) ∧ Below w.heap.size w w' := by
  have hml := mask_lt l
  have e1 := u64_and_nat (mask l) busy hml hb
  have e2 := u64_or_nat need (mask l &&& busy) hn (and_lt _ _ hml)
  have hc := fun w => count_any (need ||| (mask l &&& busy)) w (or_lt _ _ hn (and_lt _ _ hml))
  have hS := h.drew
  have hB : Below w.heap.size w w.drew := (kept_drew [] w).below (Nat.le_refl _) (by simp)
  have hone := h.one
  clear h
  go_enter Try.func9, Try.ntmps9
  go_wp2
  go_region_held3 (fun W => W.cell? ⟨p, 0, none⟩ = some (.int .i64 (most : Int))) (exact hS.cell.1) (first
    | (go_at_call 20; refine (made_any p n₀ most v l _ hS).mono ?_; rintro e w' ⟨rfl, rfl⟩)
    | (go_at_call 15; refine (mask_any p n₀ most v l _ hS).mono ?_; rintro e w1 ⟨rfl, hB1⟩; replace hS := hS.below hB1; replace hB := hB.trans (hB1.mono hB.size))
    | (go_at_call 21; refine (hc _).mono ?_; rintro e w2 ⟨rfl, hB2⟩; replace hS := hS.below hB2; replace hB := hB.trans (hB2.mono hB.size)))
  go_wp2
  go_ret
  exact ⟨ret_bool (by simp [fits]), hB⟩

/-- Within a Use: the set, and the two boxes. -/
structure Mid (w W : World) (p n₀ most need busy : Nat) (v : Value) (l : List Nat) : Prop where
  set : SetAt W p n₀ most v l
  kept : Kept [p] w W
  start : p < w.heap.size
  need : Blk W w.heap.size 31 #[.int .u64 (need : Int)]
  busy : Blk W (w.heap.size + 1) 31 #[.int .u64 (busy : Int)]
theorem Mid.below {w W W' : World} {p n₀ most need busy : Nat} {v : Value} {l : List Nat} (h : Mid w W p n₀ most need busy v l) (hB : Below W.heap.size W W') : Mid w W' p n₀ most need busy v l :=
  ⟨h.set.below hB, h.kept.trans (Kept.of_below hB _), h.start, h.need.kept (Kept.of_below hB []) (by simp), h.busy.kept (Kept.of_below hB []) (by simp)⟩
theorem Mid.drew {w W : World} {p n₀ most need busy : Nat} {v : Value} {l : List Nat} (h : Mid w W p n₀ most need busy v l) : Mid w W.drew p n₀ most need busy v l :=
  h.below ((kept_drew [] W).below (Nat.le_refl _) (by simp))
theorem Mid.turn {w W W' : World} {p n₀ most need busy : Nat} {v v' : Value} {l l' : List Nat} (h : Mid w W p n₀ most need busy v l) (hK : Kept [p] W W') (hS : SetAt W' p n₀ most v' l') : Mid w W' p n₀ most need busy v' l' :=
  ⟨hS, h.kept.trans hK, h.start, h.need.kept hK (by have := h.start; simp; omega), h.busy.kept hK (by have := h.start; simp; omega)⟩
theorem Mid.cells {w W : World} {p n₀ most need busy : Nat} {v : Value} {l : List Nat} (h : Mid w W p n₀ most need busy v l) :
    W.cell? ⟨w.heap.size, 0, none⟩ = some (.int .u64 (need : Int)) ∧ W.cell? ⟨p, 0, none⟩ = some (.int .i64 (most : Int)) := ⟨h.need.cell 0, h.set.cell.1⟩
/-- How long a set's order is. -/
def long (p : Nat) (W : World) : Nat := match W.cell? ⟨p, 1, none⟩ with
  | some (.slice _ n _) => n
  | _ => 0
theorem SetAt.long {W : World} {p n₀ most : Nat} {v : Value} {l : List Nat} (h : SetAt W p n₀ most v l) : long p W = l.length := by
  obtain ⟨a, cap, rfl, -⟩ := id h.nums
  unfold Hot.long
  rw [h.cell.2]
theorem Nums.get {n₀ : Nat} {W : World} {a : Option Addr} {m cap : Nat} {l : List Nat} (h : Nums n₀ W (.slice a m cap) l) {k : Nat} (hk : k < l.length) : ∃ b off, a = some ⟨b, off, none⟩ ∧ W.cell? ⟨b, off + k, none⟩ = some (.int .i64 ((l[k]?.getD 0 : Nat) : Int)) := by
  obtain ⟨a', cap', e, hc, ⟨_, h⟩ | ⟨b, off, e2, _, _, h2⟩⟩ := h
  · omega
  · injection e with e3 _ _
    exact ⟨b, off, e3.trans e2, h2 k hk⟩

set_option maxRecDepth 100000 in
set_option maxHeartbeats 1000000 in
/-- Use, of what does not fit -/
theorem use_bad (p n₀ most : Nat) (v : Value) (l : List Nat) (need busy : Nat) (hn : need < 18446744073709551616) (hb : busy < 18446744073709551616) (w : World) (h : SetAt w p n₀ most v l) (hf : fits most need busy l = false) :
    Calls Try.prog 13 #[.pointer (some ⟨p, 0, none⟩), .int .u64 (need : Int), .int .u64 (busy : Int)] w fun e w' => e = .returned (.tuple #[.bool false, .bool false]) ∧ Below w.heap.size w w' := by
  have hB : Below w.heap.size w ((w.alloc (.cells #[.int .u64 (need : Int)] 31)).alloc (.cells #[.int .u64 (busy : Int)] 31)) := ((Below.refl _ w).alloc (Nat.le_refl _) _).alloc (by simp) _
  have q := fits_any p n₀ most v l need busy hn hb _ (h.below hB)
  rw [hf] at q
  clear h
  go_enter Try.func13, Try.ntmps13
  go_wp2_with (go_at_call 9; refine q.mono ?_; rintro e w1 ⟨rfl, hB1⟩)
  go_ret2
  exact ⟨rfl, hB.trans (hB1.mono (by simp; omega))⟩

set_option maxRecDepth 100000 in
set_option maxHeartbeats 4000000 in
/-- Use, of what fits -/
theorem use_ok (p n₀ most : Nat) (v : Value) (l : List Nat) (need busy : Nat) (hn : need < 18446744073709551616) (hb : busy < 18446744073709551616) (w : World) (h : SetAt w p n₀ most v l) (hf : fits most need busy l = true) :
    Calls Try.prog 13 #[.pointer (some ⟨p, 0, none⟩), .int .u64 (need : Int), .int .u64 (busy : Int)] w fun e w' =>
      e = .returned (.tuple #[.bool (((mask (used most need busy l) : Nat) : Int) != ((mask l : Nat) : Int)), .bool true]) ∧ (∃ v', SetAt w' p n₀ most v' (used most need busy l)) ∧ Kept [p] w w' := by
  have hB : Below w.heap.size w ((w.alloc (.cells #[.int .u64 (need : Int)] 31)).alloc (.cells #[.int .u64 (busy : Int)] 31)) := ((Below.refl _ w).alloc (Nat.le_refl _) _).alloc (by simp) _
  have hM : Mid w ((w.alloc (.cells #[.int .u64 (need : Int)] 31)).alloc (.cells #[.int .u64 (busy : Int)] 31)) p n₀ most need busy v l :=
    ⟨h.below hB, Kept.of_below hB _, h.cells.lt, (blk_new w 31 _).kept (kept_alloc [] _ _) (by simp), by have := blk_new (w.alloc (.cells #[.int .u64 (need : Int)] 31)) 31 #[.int .u64 (busy : Int)]; simpa using this⟩
  have hg := h.good
  have q := fits_any p n₀ most v l need busy hn hb _ hM.set
  have q2 := fun W hM => mask_any p n₀ most v l W hM
  rw [hf] at q
  have HF : Hid (fits most need busy l = true) := hf
  clear h hf hB
  go_enter Try.func13, Try.ntmps13
  go_wp2_with (first
    | (go_at_call 9; refine q.mono ?_; clear q; rintro e w1 ⟨rfl, hB1⟩; replace hM := hM.below hB1; clear hB1)
    | (go_at_call 15; refine (q2 _ hM.set).mono ?_; clear q2; rintro e w2 ⟨rfl, hB2⟩; replace hM := hM.below hB2; clear hB2))
  go_loopw [] (fun wr => ∃ (v1 : Value) (l1 : List Nat), Mid w wr p n₀ most need busy v1 l1 ∧ l1.Sublist l ∧ evict most need busy [] l1 = evict most need busy [] l) (fun wr => long p wr)
  case atStart => exact ⟨v, l, hM, List.Sublist.refl _, rfl⟩
  case round =>
    clear hM
    obtain ⟨v1, l1, hM, hsub, hev⟩ := hrel
    have HE : Hid (evict most need busy [] l1 = evict most need busy [] l) := hev
    have HL : Hid (long p wr = l1.length) := hM.set.long
    clear hev
    have hml := mask_lt l1
    have e1 := u64_or_nat (mask l1) need hml hn
    have hc := fun w => count_any (mask l1 ||| need) w (or_lt _ _ hml hn)
    replace hM := hM.drew
    cases ho : over most need l1 with
    | true =>
      have hgt : decide (most < pop (mask l1 ||| need)) = true := ho
      have hi := found HF.out hg (fun x hx => hsub.subset hx) ho
      have HS : Hid (evict most need busy [] (l1.eraseIdx (l1.findIdx (may need busy))) = evict most need busy [] l) := (evict_step ho hi).trans HE.out
      clear ho
      go_wp2
      go_region_held3 (fun W => W.cell? ⟨w.heap.size, 0, none⟩ = some (.int .u64 (need : Int)) ∧ W.cell? ⟨p, 0, none⟩ = some (.int .i64 (most : Int))) (exact hM.cells) (first
        | (go_at_call 15; refine (mask_any p n₀ most v1 l1 _ hM.set).mono ?_; rintro e w1 ⟨rfl, hB1⟩; replace hM := hM.below hB1)
        | (go_at_call 21; refine (hc _).mono ?_; rintro e w2 ⟨rfl, hB2⟩; replace hM := hM.below hB2))
      have c1 := hM.set.cell.2
      go_wp2_with (first
        | (go_at_call 27; refine (indexFunc_any w.heap.size (w.heap.size + 1) n₀ need busy v1 l1 _ hM.set.nums hM.set.good hn hb (hM.need.cell 0) (hM.busy.cell 0) hi).mono ?_; rintro e w' ⟨rfl, rfl⟩)
        | (go_at_call 26; refine (cut_any p n₀ most v1 l1 _ hi _ hM.set).mono ?_; rintro e w3 ⟨rfl, ⟨v3, hS3⟩, hK3⟩; replace hM := hM.turn hK3 hS3))
      go_roundw
      case rel => exact ⟨v3, _, hM, (List.eraseIdx_sublist l1 _).trans hsub, HS.out⟩
      case measure =>
        rw [hM.set.long, HL.out, List.length_eraseIdx_of_lt hi]
        omega
    | false =>
      have hgt : decide (most < pop (mask l1 ||| need)) = false := ho
      have H1 : Hid (l1 = evict most need busy [] l) := (show l1 = evict most need busy [] l by
        rw [← HE.out, evict_done (busy := busy) l1 [] (by simpa using ho)]
        rfl)
      have hg1 := hM.set.good
      obtain ⟨D, hD⟩ : ∃ D, elems (need &&& mask l1) = D := ⟨_, rfl⟩
      have HD : Hid (elems (need &&& mask l1) = D) := hD
      have gD : Good D := by rw [← hD]; exact Good.elems _
      have e2 := u64_and_nat need (mask l1) hn hml
      have qD := fun W => list_any (need &&& mask l1) W (and_lt _ _ hn)
      simp only [hD] at qD
      have hDl := gD.len
      clear ho hD HE HL hsub
      go_wp2
      go_region_held3 (fun W => W.cell? ⟨w.heap.size, 0, none⟩ = some (.int .u64 (need : Int)) ∧ W.cell? ⟨p, 0, none⟩ = some (.int .i64 (most : Int))) (exact hM.cells) (first
        | (go_at_call 15; refine (mask_any p n₀ most v1 l1 _ hM.set).mono ?_; rintro e w1 ⟨rfl, hB1⟩; replace hM := hM.below hB1)
        | (go_at_call 21; refine (hc _).mono ?_; rintro e w2 ⟨rfl, hB2⟩; replace hM := hM.below hB2))
      clear hc
      replace hM := hM.drew
      go_wp2_with fail
      go_region_held3 (fun W => W.cell? ⟨w.heap.size, 0, none⟩ = some (.int .u64 (need : Int))) (exact hM.cells.1) (first
        | (go_at_call 15; refine (mask_any p n₀ most v1 l1 _ hM.set).mono ?_; rintro e w3 ⟨rfl, hB3⟩; replace hM := hM.below hB3)
        | (go_at_call 23; refine (qD _).mono ?_; rintro e w4 ⟨vD, rfl, hr, hB4⟩; have nD := nums_of_owns hr hM.kept.size; obtain ⟨aD, capD, eD, -⟩ := id nD; subst eD; replace hM := hM.below hB4; clear hr))
      obtain ⟨m, hm⟩ : ∃ m, D.length = m := ⟨_, rfl⟩
      rw [hm] at nD hDl ⊢
      have HM : Hid (D.length = m) := hm
      clear hm
      go_wp2_with fail
      go_loopw [44] (fun i wr => ∃ (k : Nat) (v2 : Value), k ≤ m ∧ i = .int .i64 k ∧ Mid w wr p n₀ most need busy v2 (gone l1 (D.take k)) ∧ Nums w.heap.size wr (.slice aD m capD) D) (fun i _ => m - (intOf i).toNat)
      case atStart => exact ⟨0, v1, Nat.zero_le _, rfl, by simpa [gone_nil] using hM, nD⟩
      case round =>
        clear hM nD
        obtain ⟨k, v2, hk, rfl, hM, nD⟩ := hrel
        by_cases hlt : k < m
        · have hkD : k < D.length := by rw [HM.out]; exact hlt
          obtain ⟨bD, oD, rfl, hcD⟩ := nD.get hkD
          obtain ⟨x, hx⟩ : ∃ x, D[k]?.getD 0 = x := ⟨_, rfl⟩
          have hx2 : D[k] = x := by simpa [hkD] using hx
          have hin : x ∈ gone l1 (D.take k) := by
            refine gone_mem ?_ ?_
            · have h1 : x ∈ D := by rw [← hx2]; exact List.getElem_mem hkD
              rw [← HD.out, mem_elems, Nat.testBit_and, mask_bit l1 hg1.lt] at h1
              simp at h1
              exact h1.2.2
            · rw [← hx2]
              exact take_not_mem gD.nodup hkD
          have HS : Hid ((gone l1 (D.take k)).eraseIdx ((gone l1 (D.take k)).idxOf x) = gone l1 (D.take (k + 1))) := (show (gone l1 (D.take k)).eraseIdx ((gone l1 (D.take k)).idxOf x) = gone l1 (D.take (k + 1)) by
            rw [gone_snoc hg1.nodup, List.take_succ_eq_append_getElem hkD, hx2])
          rw [hx] at hcD
          generalize gone l1 (D.take k) = L at *
          have hi : L.idxOf x < L.length := List.idxOf_lt_length_of_mem hin
          have c1 := hM.set.cell.2
          clear hx hx2
          go_wp2_with (first
            | (go_at_call 28; refine (index_any n₀ v2 L x _ hM.set.nums hM.set.good.len hin).mono ?_; rintro e w' ⟨rfl, rfl⟩)
            | (go_at_call 26; refine (cut_any p n₀ most v2 L _ hi _ hM.set).mono ?_; rintro e w5 ⟨rfl, ⟨v5, hS5⟩, hK5⟩; replace nD := nD.kept hK5 (by have := hM.start; simpa using this); replace hM := hM.turn hK5 hS5))
          go_roundw
          case rel => exact ⟨k + 1, v5, by omega, by go_num, by rw [← HS.out]; exact hM, nD⟩
          case measure => simp [intOf]; omega
        · obtain rfl : k = m := by omega
          have er : gone l1 (D.take k) = rest need l1 := by
            rw [List.take_of_length_le (by rw [HM.out]; exact Nat.le_refl _), ← HD.out]
            exact gone_needed hg1.lt need
          rw [er] at hM
          clear er nD
          have HU : Hid (rest need l1 ++ elems need = used most need busy l) := (show rest need l1 ++ elems need = used most need busy l by
            unfold used
            rw [← H1.out])
          have gU : Good (rest need l1 ++ elems need) := by rw [HU.out]; exact used_good hg
          have hlr := hM.set.good.len
          have hle := elems_len need
          generalize rest need l1 = R at *
          have qL := fun W => list_any need W hn
          generalize elems need = E at *
          obtain ⟨a2, cap2, e2, -⟩ := id hM.set.nums
          subst e2
          replace hM := hM.drew
          have c1 := hM.set.cell.2
          have cn := hM.need.cell 0
          go_wp2_with fail
          go_region_with (first
            | (go_at_call 23; refine (qL _).mono ?_; rintro e w6 ⟨v3, rfl, hr, hB6⟩; have n3 := nums_of_owns hr (Nat.le_refl _); obtain ⟨a3, cap3, e3, -⟩ := id n3; subst e3; replace hM := hM.below hB6; have c1' := hM.set.cell.2; clear hr)
            | (go_at_call 29; refine (concat_any w6.heap.size n₀ _ _ _ R E _ (by simp) ((blk_new w6 40 _).cell 0) ((blk_new w6 40 _).cell 1) (hM.set.nums.kept (kept_alloc [] _ _) (by simp)) (n3.kept (kept_alloc [] _ _) (by simp)) hlr hle).mono ?_; rintro e w7 ⟨v7, rfl, n7, hB7⟩; have s6 : n₀ ≤ (w6.alloc (.cells #[] 40)).heap.size := (by have := hM.set.high; simp; omega); obtain ⟨a7, cap7, e7, -⟩ := id n7; subst e7; replace hM := (hM.below ((Below.refl _ w6).alloc (Nat.le_refl _) (.cells _ 40))).below hB7; have f7 := hM.set.cells.frozen 1; have c7 := hM.set.cell.2))
          all_goals have hS8 := hM.set.put (n7.mono (by simpa using s6)) gU
          all_goals rw [List.length_append] at hS8
          all_goals go_wp2_with (go_at_call 15; refine (mask_any p n₀ most _ _ _ hS8).mono ?_; rintro e w9 ⟨rfl, hB9⟩)
          all_goals go_ret2
          all_goals rw [← HU.out]
          all_goals exact ⟨rfl, ⟨_, hS8.below hB9⟩, (hM.kept.trans (kept_set (by simp) _ _ _)).trans (Kept.of_below hB9 _)⟩

end Go.Proofs.Ytldeecjocapfgaa.Hot
