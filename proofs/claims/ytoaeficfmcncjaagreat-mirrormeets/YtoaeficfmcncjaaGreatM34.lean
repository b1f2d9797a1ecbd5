/-
 Texts of ours, joined: HotD, HotE, HotI, HotJ.
-/
import Derived.Lib.Bytes
import Derived.ProofKit
import Derived.OpenShut
import Derived.Test.YtoaeficfmcncjaaGreatM33
import Derived.Test.YtoaeficfmcncjaaGreatM11
import Derived.Test.YtoaeficfmcncjaaGreatM14
/-
 The walks of Fits and Use.
-/
namespace Go.Proofs.YtoaeficfmcncjaaGreat.Hot
open Go.RowKit
open Bits Bits.Math
theorem and_lt (a b : Nat) (ha : a < 18446744073709551616) : a &&& b < 18446744073709551616 := Nat.lt_of_le_of_lt Nat.and_le_left ha
theorem or_lt (a b : Nat) (ha : a < 18446744073709551616) (hb : b < 18446744073709551616) : a ||| b < 18446744073709551616 := Nat.or_lt_two_pow (n := 64) ha hb
theorem SetAt.drew {W : World} {p n₀ most : Nat} {v : Value} {l : List Nat} (h : SetAt W p n₀ most v l) : SetAt W.drew p n₀ most v l := h.kept (kept_drew [] W) (by simp) (by simp)
set_option maxRecDepth 100000 in
set_option maxHeartbeats 2000000 in
theorem fits_any (p n₀ most : Nat) (v : Value) (l : List Nat) (need busy : Nat) (hn : need < 18446744073709551616) (hb : busy < 18446744073709551616) (w : World) (h : SetAt w p n₀ most v l) :
  Calls Tryz.prog 127 #[.pointer (some ⟨p, 0, none⟩), .int .u64 (need : Int), .int .u64 (busy : Int)] w fun e w' => e = .returned (.bool (fits most need busy l)) ∧ Below w.heap.size w w' := by
 have hml := mask_lt l
 have e1 := u64_and_nat (mask l) busy hml hb
 have e2 := u64_or_nat need (mask l &&& busy) hn (and_lt _ _ hml)
 have hc := fun w => count_any (need ||| (mask l &&& busy)) w (or_lt _ _ hn (and_lt _ _ hml))
 have hS := h.drew
 have hB : Below w.heap.size w w.drew := (kept_drew [] w).below (Nat.le_refl _) (by simp)
 have hone := h.one
 clear h
 go_enter Tryz.func127, Tryz.ntmps127
 go_wp2
 go_region_held3 (fun W => W.cell? ⟨p, 0, none⟩ = some (.int .i64 (most : Int))) (exact hS.cell.1) (first
  | (go_at_call 112; refine (made_any p n₀ most v l _ hS).mono ?_; rintro e w' ⟨rfl, rfl⟩)
  | (go_at_call 57; refine (mask_any p n₀ most v l _ hS).mono ?_; rintro e w1 ⟨rfl, hB1⟩; replace hS := hS.below hB1; replace hB := hB.trans (hB1.mono hB.size))
  | (go_at_call 183; refine (hc _).mono ?_; rintro e w2 ⟨rfl, hB2⟩; replace hS := hS.below hB2; replace hB := hB.trans (hB2.mono hB.size)))
 go_wp2
 go_ret
 exact ⟨ret_bool (by simp [fits]), hB⟩
structure Mid (w W : World) (p n₀ most need busy : Nat) (v : Value) (l : List Nat) : Prop where
 set : SetAt W p n₀ most v l
 kept : Kept [p] w W
 start : p < w.heap.size
 need : Blk W w.heap.size 23 #[.int .u64 (need : Int)]
 busy : Blk W (w.heap.size + 1) 23 #[.int .u64 (busy : Int)]
theorem Mid.below {w W W' : World} {p n₀ most need busy : Nat} {v : Value} {l : List Nat} (h : Mid w W p n₀ most need busy v l) (hB : Below W.heap.size W W') : Mid w W' p n₀ most need busy v l :=
 ⟨h.set.below hB, h.kept.trans (Kept.of_below hB _), h.start, h.need.kept (Kept.of_below hB []) (by simp), h.busy.kept (Kept.of_below hB []) (by simp)⟩
theorem Mid.drew {w W : World} {p n₀ most need busy : Nat} {v : Value} {l : List Nat} (h : Mid w W p n₀ most need busy v l) : Mid w W.drew p n₀ most need busy v l :=
 h.below ((kept_drew [] W).below (Nat.le_refl _) (by simp))
theorem Mid.turn {w W W' : World} {p n₀ most need busy : Nat} {v v' : Value} {l l' : List Nat} (h : Mid w W p n₀ most need busy v l) (hK : Kept [p] W W') (hS : SetAt W' p n₀ most v' l') : Mid w W' p n₀ most need busy v' l' :=
 ⟨hS, h.kept.trans hK, h.start, h.need.kept hK (by have := h.start; simp; omega), h.busy.kept hK (by have := h.start; simp; omega)⟩
theorem Mid.cells {w W : World} {p n₀ most need busy : Nat} {v : Value} {l : List Nat} (h : Mid w W p n₀ most need busy v l) :
  W.cell? ⟨w.heap.size, 0, none⟩ = some (.int .u64 (need : Int)) ∧ W.cell? ⟨p, 0, none⟩ = some (.int .i64 (most : Int)) := ⟨h.need.cell 0, h.set.cell.1⟩
def long (p : Nat) (W : World) : Nat := match W.cell? ⟨p, 1, none⟩ with
 | some (.slice _ n _) => n
 | _ => 0
theorem SetAt.long {W : World} {p n₀ most : Nat} {v : Value} {l : List Nat} (h : SetAt W p n₀ most v l) : long p W = l.length := by
 obtain ⟨a, cap, rfl, -⟩ := id h.nums
 unfold Hot.long
 rw [h.cell.2]
theorem Nums.get {n₀ : Nat} {W : World} {a : Option Addr} {m cap : Nat} {l : List Nat} (h : Nums n₀ W (.slice a m cap) l) {k : Nat} (hk : k < l.length) : ∃ b off, a = some ⟨b, off, none⟩ ∧ W.cell? ⟨b, off + k, none⟩ = some (.int .i64 ((l[k]?.getD 0 : Nat) : Int)) := by
 obtain ⟨a', cap', e, hc, ⟨_, h⟩ | ⟨b, off, e2, _, _, h2⟩⟩ := h
 ·omega
 ·injection e with e3 _ _
  exact ⟨b, off, e3.trans e2, h2 k hk⟩
set_option maxRecDepth 100000 in
set_option maxHeartbeats 4000000 in
theorem use_ok (p n₀ most : Nat) (v : Value) (l : List Nat) (need busy : Nat) (hn : need < 18446744073709551616) (hb : busy < 18446744073709551616) (w : World) (h : SetAt w p n₀ most v l) (hf : fits most need busy l = true) :
  Calls Tryz.prog 130 #[.pointer (some ⟨p, 0, none⟩), .int .u64 (need : Int), .int .u64 (busy : Int)] w fun e w' =>
   e = .returned (.tuple #[.bool (((mask (used most need busy l) : Nat) : Int) != ((mask l : Nat) : Int)), .bool true]) ∧ (∃ v', SetAt w' p n₀ most v' (used most need busy l)) ∧ Kept [p] w w' := by
 have hB : Below w.heap.size w ((w.alloc (.cells #[.int .u64 (need : Int)] 23)).alloc (.cells #[.int .u64 (busy : Int)] 23)) := ((Below.refl _ w).alloc (Nat.le_refl _) _).alloc (by simp) _
 have hM : Mid w ((w.alloc (.cells #[.int .u64 (need : Int)] 23)).alloc (.cells #[.int .u64 (busy : Int)] 23)) p n₀ most need busy v l :=
  ⟨h.below hB, Kept.of_below hB _, h.cells.lt, (blk_new w 23 _).kept (kept_alloc [] _ _) (by simp), by have := blk_new (w.alloc (.cells #[.int .u64 (need : Int)] 23)) 23 #[.int .u64 (busy : Int)]; simpa using this⟩
 have hg := h.good
 have q := fits_any p n₀ most v l need busy hn hb _ hM.set
 have q2 := fun W hM => mask_any p n₀ most v l W hM
 rw [hf] at q
 have HF : Hid (fits most need busy l = true) := hf
 clear h hf hB
 go_enter Tryz.func130, Tryz.ntmps130
 go_wp2_with (first
  | (go_at_call 127; refine q.mono ?_; clear q; rintro e w1 ⟨rfl, hB1⟩; replace hM := hM.below hB1; clear hB1)
  | (go_at_call 57; refine (q2 _ hM.set).mono ?_; clear q2; rintro e w2 ⟨rfl, hB2⟩; replace hM := hM.below hB2; clear hB2))
 go_loopw [] (fun wr => ∃ (v1 : Value) (l1 : List Nat), Mid w wr p n₀ most need busy v1 l1 ∧ l1.Sublist l ∧ evict most need busy [] l1 = evict most need busy [] l) (fun wr => long p wr)
 case atStart => exact ⟨v, l, hM, List.Sublist.refl _, rfl⟩
 case round =>
  clear hM
  obtain ⟨v1, l1, hM, hsub, hev⟩ := hrel
  have HE : Hid (evict most need busy [] l1 = evict most need busy [] l) := hev
  have HL : Hid (long p wr = l1.length) := hM.set.long
  clear hev
  have hml := mask_lt l1
  have e1 := u64_or_nat (mask l1) need hml hn
  have hc := fun w => count_any (mask l1 ||| need) w (or_lt _ _ hml hn)
  replace hM := hM.drew
  cases ho : over most need l1 with
  | true =>
   have hgt : decide (most < pop (mask l1 ||| need)) = true := ho
   have hi := found HF.out hg (fun x hx => hsub.subset hx) ho
   have HS : Hid (evict most need busy [] (l1.eraseIdx (l1.findIdx (may need busy))) = evict most need busy [] l) := (evict_step ho hi).trans HE.out
   clear ho
   go_wp2
   go_region_held3 (fun W => W.cell? ⟨w.heap.size, 0, none⟩ = some (.int .u64 (need : Int)) ∧ W.cell? ⟨p, 0, none⟩ = some (.int .i64 (most : Int))) (exact hM.cells) (first
    | (go_at_call 57; refine (mask_any p n₀ most v1 l1 _ hM.set).mono ?_; rintro e w1 ⟨rfl, hB1⟩; replace hM := hM.below hB1)
    | (go_at_call 183; refine (hc _).mono ?_; rintro e w2 ⟨rfl, hB2⟩; replace hM := hM.below hB2))
   have c1 := hM.set.cell.2
   go_wp2_with (first
    | (go_at_call 188; refine (indexFunc_any w.heap.size (w.heap.size + 1) n₀ need busy v1 l1 _ hM.set.nums hM.set.good hn hb (hM.need.cell 0) (hM.busy.cell 0) hi).mono ?_; rintro e w' ⟨rfl, rfl⟩)
    | (go_at_call 187; refine (cut_any p n₀ most v1 l1 _ hi _ hM.set).mono ?_; rintro e w3 ⟨rfl, ⟨v3, hS3⟩, hK3⟩; replace hM := hM.turn hK3 hS3))
   go_roundw
   case rel => exact ⟨v3, _, hM, (List.eraseIdx_sublist l1 _).trans hsub, HS.out⟩
   case measure =>
    rw [hM.set.long, HL.out, List.length_eraseIdx_of_lt hi]
    omega
  | false =>
   have hgt : decide (most < pop (mask l1 ||| need)) = false := ho
   have H1 : Hid (l1 = evict most need busy [] l) := (show l1 = evict most need busy [] l by
    rw [← HE.out, evict_done (busy := busy) l1 [] (by simpa using ho)]
    rfl)
   have hg1 := hM.set.good
   obtain ⟨D, hD⟩ : ∃ D, elems (need &&& mask l1) = D := ⟨_, rfl⟩
   have HD : Hid (elems (need &&& mask l1) = D) := hD
   have gD : Good D := by rw [← hD]; exact Good.elems _
   have e2 := u64_and_nat need (mask l1) hn hml
   have qD := fun W => list_any (need &&& mask l1) W (and_lt _ _ hn)
   simp only [hD] at qD
   have hDl := gD.len
   clear ho hD HE HL hsub
   go_wp2
   go_region_held3 (fun W => W.cell? ⟨w.heap.size, 0, none⟩ = some (.int .u64 (need : Int)) ∧ W.cell? ⟨p, 0, none⟩ = some (.int .i64 (most : Int))) (exact hM.cells) (first
    | (go_at_call 57; refine (mask_any p n₀ most v1 l1 _ hM.set).mono ?_; rintro e w1 ⟨rfl, hB1⟩; replace hM := hM.below hB1)
    | (go_at_call 183; refine (hc _).mono ?_; rintro e w2 ⟨rfl, hB2⟩; replace hM := hM.below hB2))
   clear hc
   replace hM := hM.drew
   go_wp2_with fail
   go_region_held3 (fun W => W.cell? ⟨w.heap.size, 0, none⟩ = some (.int .u64 (need : Int))) (exact hM.cells.1) (first
    | (go_at_call 57; refine (mask_any p n₀ most v1 l1 _ hM.set).mono ?_; rintro e w3 ⟨rfl, hB3⟩; replace hM := hM.below hB3)
    | (go_at_call 152; refine (qD _).mono ?_; rintro e w4 ⟨vD, rfl, hr, hB4⟩; have nD := nums_of_owns hr hM.kept.size; obtain ⟨aD, capD, eD, -⟩ := id nD; subst eD; replace hM := hM.below hB4; clear hr))
   obtain ⟨m, hm⟩ : ∃ m, D.length = m := ⟨_, rfl⟩
   rw [hm] at nD hDl ⊢
   have HM : Hid (D.length = m) := hm
   clear hm
   go_wp2_with fail
   go_loopw [44] (fun i wr => ∃ (k : Nat) (v2 : Value), k ≤ m ∧ i = .int .i64 k ∧ Mid w wr p n₀ most need busy v2 (gone l1 (D.take k)) ∧ Nums w.heap.size wr (.slice aD m capD) D) (fun i _ => m - (intOf i).toNat)
   case atStart => exact ⟨0, v1, Nat.zero_le _, rfl, by simpa [gone_nil] using hM, nD⟩
   case round =>
    clear hM nD
    obtain ⟨k, v2, hk, rfl, hM, nD⟩ := hrel
    by_cases hlt : k < m
    ·have hkD : k < D.length := by rw [HM.out]; exact hlt
     obtain ⟨bD, oD, rfl, hcD⟩ := nD.get hkD
     obtain ⟨x, hx⟩ : ∃ x, D[k]?.getD 0 = x := ⟨_, rfl⟩
     have hx2 : D[k] = x := by simpa [hkD] using hx
     have hin : x ∈ gone l1 (D.take k) := by
      refine gone_mem ?_ ?_
      ·have h1 : x ∈ D := by rw [← hx2]; exact List.getElem_mem hkD
       rw [← HD.out, mem_elems, Nat.testBit_and, mask_bit l1 hg1.lt] at h1
       simp at h1
       exact h1.2.2
      ·rw [← hx2]
       exact take_not_mem gD.nodup hkD
     have HS : Hid ((gone l1 (D.take k)).eraseIdx ((gone l1 (D.take k)).idxOf x) = gone l1 (D.take (k + 1))) := (show (gone l1 (D.take k)).eraseIdx ((gone l1 (D.take k)).idxOf x) = gone l1 (D.take (k + 1)) by
      rw [gone_snoc hg1.nodup, List.take_succ_eq_append_getElem hkD, hx2])
     rw [hx] at hcD
     generalize gone l1 (D.take k) = L at *
     have hi : L.idxOf x < L.length := List.idxOf_lt_length_of_mem hin
     have c1 := hM.set.cell.2
     clear hx hx2
     go_wp2_with (first
      | (go_at_call 189; refine (index_any n₀ v2 L x _ hM.set.nums hM.set.good.len hin).mono ?_; rintro e w' ⟨rfl, rfl⟩)
      | (go_at_call 187; refine (cut_any p n₀ most v2 L _ hi _ hM.set).mono ?_; rintro e w5 ⟨rfl, ⟨v5, hS5⟩, hK5⟩; replace nD := nD.kept hK5 (by have := hM.start; simpa using this); replace hM := hM.turn hK5 hS5))
     go_roundw
     case rel => exact ⟨k + 1, v5, by omega, by go_num, by rw [← HS.out]; exact hM, nD⟩
     case measure => simp [intOf]; omega
    ·obtain rfl : k = m := by omega
     have er : gone l1 (D.take k) = rest need l1 := by
      rw [List.take_of_length_le (by rw [HM.out]; exact Nat.le_refl _), ← HD.out]
      exact gone_needed hg1.lt need
     rw [er] at hM
     clear er nD
     have HU : Hid (rest need l1 ++ elems need = used most need busy l) := (show rest need l1 ++ elems need = used most need busy l by
      unfold used
      rw [← H1.out])
     have gU : Good (rest need l1 ++ elems need) := by rw [HU.out]; exact used_good hg
     have hlr := hM.set.good.len
     have hle := elems_len need
     generalize rest need l1 = R at *
     have qL := fun W => list_any need W hn
     generalize elems need = E at *
     obtain ⟨a2, cap2, e2, -⟩ := id hM.set.nums
     subst e2
     replace hM := hM.drew
     have c1 := hM.set.cell.2
     have cn := hM.need.cell 0
     go_wp2_with fail
     go_region_with (first
      | (go_at_call 152; refine (qL _).mono ?_; rintro e w6 ⟨v3, rfl, hr, hB6⟩; have n3 := nums_of_owns hr (Nat.le_refl _); obtain ⟨a3, cap3, e3, -⟩ := id n3; subst e3; replace hM := hM.below hB6; have c1' := hM.set.cell.2; clear hr)
      | (go_at_call 190; refine (concat_any w6.heap.size n₀ _ _ _ R E _ (by simp) ((blk_new w6 85 _).cell 0) ((blk_new w6 85 _).cell 1) (hM.set.nums.kept (kept_alloc [] _ _) (by simp)) (n3.kept (kept_alloc [] _ _) (by simp)) hlr hle).mono ?_; rintro e w7 ⟨v7, rfl, n7, hB7⟩; have s6 : n₀ ≤ (w6.alloc (.cells #[] 85)).heap.size := (by have := hM.set.high; simp; omega); obtain ⟨a7, cap7, e7, -⟩ := id n7; subst e7; replace hM := (hM.below ((Below.refl _ w6).alloc (Nat.le_refl _) (.cells _ 85))).below hB7; have f7 := hM.set.cells.frozen 1; have c7 := hM.set.cell.2))
     all_goals have hS8 := hM.set.put (n7.mono (by simpa using s6)) gU
     all_goals rw [List.length_append] at hS8
     all_goals go_wp2_with (go_at_call 57; refine (mask_any p n₀ most _ _ _ hS8).mono ?_; rintro e w9 ⟨rfl, hB9⟩)
     all_goals go_ret2
     all_goals rw [← HU.out]
     all_goals exact ⟨rfl, ⟨_, hS8.below hB9⟩, (hM.kept.trans (kept_set (by simp) _ _ _)).trans (Kept.of_below hB9 _)⟩
end Go.Proofs.YtoaeficfmcncjaaGreat.Hot
namespace Go.Proofs.YtoaeficfmcncjaaGreat
open Go.RowKit Go.Maps Go.Shelf
open Math
attribute [local go_sem] Oper.semAt_some
def ByteRow (lo hi : Nat) (W : World) (v : Value) (bs : List Nat) : Prop :=
 (∀ b ∈ bs, b < 256) ∧ ∃ a cap, v = .slice a bs.length cap ∧ (a = none → cap = 0) ∧ (bs = [] ∨ ∃ g off, a = some ⟨g, off, none⟩ ∧ bs.length ≤ cap ∧ lo ≤ g ∧ g < hi ∧ ∀ j, j < bs.length → W.cell? ⟨g, off + j, none⟩ = some (.int .u8 ((bs[j]?.getD 0 : Nat) : Int)))
theorem ByteRow.kept {L : List Nat} {A B : World} {lo hi : Nat} {v : Value} {bs : List Nat} (h : ByteRow lo hi A v bs) (hh : hi ≤ A.heap.size) (hK : Kept L A B) (hL : ∀ k ∈ L, k < lo ∨ hi ≤ k) : ByteRow lo hi B v bs := by
 obtain ⟨hb, a, cap, e, hn, h | ⟨g, off, e2, hl, h1, h2, hc⟩⟩ := h
 ·exact ⟨hb, a, cap, e, hn, .inl h⟩
 ·refine ⟨hb, a, cap, e, hn, .inr ⟨g, off, e2, hl, h1, h2, fun j hj => ?_⟩⟩
  rw [World.cell?_of_block (w := A) (w' := B) (hK.block g (by omega) (fun hm => by have := hL g hm; omega))]
  exact hc j hj
theorem byteRow_nil (lo hi : Nat) (W : World) : ByteRow lo hi W (.slice none 0 0) [] := ⟨by simp, none, 0, rfl, fun _ => rfl, .inl rfl⟩
theorem byteRow_arr {W : World} {g lo cap : Nat} {t : TypeId} {l : List Nat} (h : Arr W g t l) (hb : ∀ b ∈ l, b < 256) (h1 : lo ≤ g) (h2 : l.length ≤ cap) : ByteRow lo W.heap.size W (.slice (some ⟨g, 0, none⟩) l.length cap) l :=
 ⟨hb, _, cap, rfl, fun e => (by cases e), .inr ⟨g, 0, rfl, h2, h1, h.lt, fun j hj => by rw [Nat.zero_add]; exact h.cell j hj⟩⟩
def txt (l : List Nat) : ByteArray := strOfNums (l.map Int.ofNat)
set_option maxRecDepth 100000 in
theorem conv_txt {lo hi : Nat} {W : World} {v : Value} {l : List Nat} (h : ByteRow lo hi W v l) : (convert 45 9 v).run Tryz.prog W = .ok (.string (txt l)) W := by
 obtain ⟨hb, a, cap, rfl, hn, h⟩ := h
 cases a with
 | none =>
  rcases h with rfl | ⟨b, off, e, _⟩
  ·exact run_convert_bytes_nil W 45 5 Tryz.underlying45 Tryz.underlying5 _ cap 9 Tryz.underlying9
  ·simp at e
 | some a =>
  rcases h with rfl | ⟨b, off, e, _, _, _, hc⟩
  ·refine (run_convert_bytes_string W 45 9 5 _ _ cap Tryz.underlying45 Tryz.underlying5 Tryz.underlying9).trans ?_
   exact run_bytesToString (P := Tryz.prog) W a 0 cap [] (run_loadCells_list (P := Tryz.prog) W a [] (fun j v hj => by simp at hj))
  ·obtain rfl : a = ⟨b, off, none⟩ := by simpa using e
   refine run_convert_bytes_arg W 45 5 Tryz.underlying45 Tryz.underlying5 b off _ cap _ (by simp) (fun j hj => ?_) 9 Tryz.underlying9
   rw [hc j hj]
   simp [hj]
def zeros (n : Nat) : List Nat := List.replicate n 0
theorem madeBytes (n : Nat) : madeCells #[.int .u8 0] n = ((zeros n).map enc).toArray := by
 apply Array.ext
 ·simp [madeCells, zeros]
 ·intro i h1 h2
  simp [madeCells, enc, zeros, Nat.mod_one]
set_option maxRecDepth 100000 in
theorem Tryz.info5 : (Tryz.prog.info? 5).map (fun i => (i.zero, i.size, i.bytes)) = some (some (.int .u8 0), 1, 1) := by kernel_rfl
set_option maxRecDepth 100000 in
theorem make_bytes (n : Nat) (hn : n ≤ 100000) (w : World) : (Instr.makeSlice 45 (.int .i64 (n : Int)) (.int .i64 (n : Int))).run Tryz.prog w = .ok (.slice (some ⟨w.heap.size, 0, none⟩) n n) (w.alloc (.cells ((zeros n).map enc).toArray 5)) := by
 obtain ⟨i0, hi, hz0, hz1, hz2⟩ := info_parts Tryz.info5
 have := run_make (P := Tryz.prog) w 45 5 i0 (.int .u8 0) Tryz.underlying45 hi hz0 .i64 .i64 (n : Int) (n : Int) (by omega) (by omega) (by rw [hz2]; omega) (by omega)
 rw [hz1, show ((n : Int)).toNat = n by omega, Nat.mul_one] at this
 rw [← madeBytes]
 exact this
theorem splice_over (L : List Nat) (p : Nat) (l : List Nat) : splice L p l = over L p l := by simp [splice, over]
theorem splice_map (L l : List Nat) (off : Nat) : splice (L.map enc) off (l.map enc) = (splice L off l).map enc := by
 simp [splice, List.map_take, List.map_drop]
section
set_option maxRecDepth 100000
theorem run_copy_arr {W : World} {g off : Nat} {t : TypeId} {L l : List Nat} (hg : Arr W g t L) (b boff dLen dCap sLen sCap : Nat) (ty : TypeId) (hn : l.length = Nat.min sLen dLen) (hfit : off + l.length ≤ L.length)
  (hsrc : ∀ j, j < l.length → W.cell? ⟨b, boff + j, none⟩ = some (.int .u8 ((l[j]?.getD 0 : Nat) : Int))) :
  ∃ w', (Builtin.copy_ #[45, 45] ty #[.slice (some ⟨g, off, none⟩) dLen dCap, .slice (some ⟨b, boff, none⟩) sLen sCap]).run Tryz.prog W = .ok (goInt l.length) w' ∧ Arr w' g t (over L off l) ∧ Kept [g] W w' ∧ w'.heap.size = W.heap.size := by
 have hrun := run_copy_row (P := Tryz.prog) W 45 45 ty 5 g off dLen dCap ⟨b, boff, none⟩ sLen sCap (L.map enc).toArray t (l.map enc) Tryz.underlying45 Tryz.size5 hg (by simpa using hn) (fun j v hj => by
  have hjl : j < l.length := by have := (List.getElem?_eq_some_iff.1 hj).1; simpa using this
  rw [Addr.add_mid, hsrc j hjl, ← hj, enc_get l j hjl]) (by simpa using hfit) (enc_one l)
 refine ⟨W.setRow g (splice (L.map enc) off (l.map enc)).toArray, by simpa [splice] using hrun, ?_, ?_, ?_⟩
 ·have : (W.setRow g (splice (L.map enc) off (l.map enc)).toArray).heap[g]? = some (.cells (splice (L.map enc) off (l.map enc)).toArray t (0, 0)) := setRow_heap W g _ _ t _ hg
  unfold Arr
  rw [← splice_over, ← splice_map]
  exact this
 ·exact ⟨rfl, rfl, rfl, by simp [World.setRow], fun k _ hk => setRow_other W g k _ (by simpa using hk)⟩
 ·simp [World.setRow]
theorem dSectors_any (d b1 b2 : Nat) (s : Dk) (w : World) (h : DiskAt w d b1 b2 s) :
  Calls Tryz.prog 65 #[.pointer (some ⟨d, 0, none⟩)] w fun e w' => e = .returned (.int .i64 (dataN s : Nat)) ∧ w' = w := by
 have q := size_any d b1 b2 s w h
 have htop := h.valid.top
 have hd : (dataN s : Int) = max ((s.size : Int) - 8) 0 := by unfold dataN; omega
 go_enter Tryz.func65, Tryz.ntmps65
 go_wp2_with (go_at_call 122; refine q.mono ?_; rintro e w ⟨rfl, rfl⟩)
 all_goals
  go_ret
  exact ⟨by rw [hd]; first | (simp; done) | (simp; omega), rfl⟩
theorem dsize_any (o l : Int) (h0 : 0 ≤ l) (h1 : l ≤ 1073741824) (w : World) :
  Calls Tryz.prog 86 #[.agg #[.int .i64 o, .int .i64 l]] w fun e w' => e = .returned (.int .i64 (l * 16)) ∧ Kept [] w w' := by
 go_enter Tryz.func86, Tryz.ntmps86
 go_wp2
 go_ret
 exact ⟨rfl, kept_alloc [] _ _⟩
theorem dsectors_any (o l : Int) (w : World) :
  Calls Tryz.prog 87 #[.agg #[.int .i64 o, .int .i64 l]] w fun e w' => e = .returned (.func (.func 150) #[] #[.pointer (some ⟨w.heap.size, 0, none⟩)]) ∧ w' = w.alloc (.cells #[.int .i64 o, .int .i64 l] 44) := by
 go_enter Tryz.func87, Tryz.ntmps87
 go_wp2
 go_ret
 exact ⟨rfl, rfl⟩
set_option maxHeartbeats 1000000 in
theorem dfind_any (d b1 b2 : Nat) (s : Dk) (o l : Int) (w : World) (h : DiskAt w d b1 b2 s) :
  Calls Tryz.prog 85 #[.pointer (some ⟨d, 0, none⟩), .agg #[.int .i64 o, .int .i64 l]] w fun e w' => e = .returned (.int .i64 (if Span.Math.good o l (dataN s : Nat) then 0 else 13)) ∧ Kept [] w w' := by
 have h1 := h.alloc (.cells #[.int .i64 o, .int .i64 l] 44)
 have q1 := made_any d b1 b2 s _ h1
 have q2 := dSectors_any d b1 b2 s _ h1.drew
 have q3 := fun W => Span.good_any o l (dataN s : Nat) W
 have hk := kept_alloc [] w (.cells #[.int .i64 o, .int .i64 l] 44)
 generalize dataN s = N at *
 cases hg : Span.Math.good o l (N : Nat) with
 | true =>
  rw [hg] at q3
  go_enter Tryz.func85, Tryz.ntmps85
  go_wp2_with (go_at_call 42; refine q1.mono ?_; rintro e w' ⟨rfl, rfl⟩)
  go_region_with (first | (go_at_call 65; refine q2.mono ?_; rintro e w' ⟨rfl, rfl⟩) | (go_at_call 124; refine (q3 _).mono ?_; rintro e w2 ⟨rfl, hB⟩))
  all_goals
   go_wp2
   go_ret
   exact ⟨rfl, (hk.trans (kept_drew [] _)).trans (Kept.of_below hB [])⟩
 | false =>
  rw [hg] at q3
  go_enter Tryz.func85, Tryz.ntmps85
  go_wp2_with (go_at_call 42; refine q1.mono ?_; rintro e w' ⟨rfl, rfl⟩)
  go_region_with (first | (go_at_call 65; refine q2.mono ?_; rintro e w' ⟨rfl, rfl⟩) | (go_at_call 124; refine (q3 _).mono ?_; rintro e w2 ⟨rfl, hB⟩))
  all_goals
   go_wp2
   go_ret
   exact ⟨rfl, (hk.trans (kept_drew [] _)).trans (Kept.of_below hB [])⟩
end
def SameAt (b : Nat) (W W' : World) : Prop := W'.heap[b]? = W.heap[b]?
theorem sameAt_t {b : Nat} {A B C : World} (h : SameAt b A B) (k : SameAt b B C) : SameAt b A C := k.trans h
theorem sameAt_b {b n : Nat} (hb : b < n) (W : World) (l : Nat) (o o' : Obj) (hl : n ≤ l) (_ : W.heap[l]? = some o) (_ : o.isCells = false) (_ : o.isWalk = false) : SameAt b W (W.putObj l o') :=
 World.putObj_heap_other (by omega)
theorem Kept.sameAt {L : List Nat} {A B : World} {b : Nat} (h : Kept L A B) (hb : b < A.heap.size) (hL : b ∉ L) : SameAt b A B := h.block b hb hL
def encS (o n : Nat) (x : Nat) : Array Value := #[.int .i64 (8 + (o : Int) + ((x % n : Nat) : Int)), .int .i64 (((x % n : Nat) : Int) * 16)]
set_option maxRecDepth 100000 in
set_option maxHeartbeats 2000000 in
theorem sectors1_in (F : Fence) (m : Nat) (h45 : F.fn 150) (hro : F.round = none) (hm : 1 ≤ m) (l Bs o n : Nat) (ho : o ≤ 1073741824) (hn : n ≤ 1073741824) (J Jx : List Nat → World → Prop)
  (hY : ∀ pre x W, J pre W → pre.length < n → YieldAt F (m - 1) Tryz.prog l (encS o n x) W fun e W' =>
   (e = .returned (.bool true) ∧ J (pre ++ [x]) W' ∧ SameAt Bs W W') ∨ (e = .returned (.bool false) ∧ Jx (pre ++ [x]) W'))
  (W : World) (hBs : Blk W Bs 44 #[.int .i64 (o : Int), .int .i64 (n : Int)]) (h0 : J [] W) :
  CallsIn F m Tryz.prog 150 #[.func (.yield l) #[] #[], .pointer (some ⟨Bs, 0, none⟩)] W fun e W' => (∃ v, e = .returned v) ∧
   ((∃ ys, ys = List.range n ∧ J ys W') ∨ (∃ pre, (∃ k, k ≤ n ∧ pre = List.range k) ∧ Jx pre W')) := by
 have c1 : W.cell? ⟨Bs, 1, none⟩ = some (.int .i64 (n : Int)) := hBs.cell 1
 refine callsIn_of_wp Tryz.func150 rfl h45 ?_ hro
 simp only [Tryz.ntmps150, List.size_toArray, List.length_cons, List.length_nil, Nat.reduceAdd, Nat.reduceSub, Array.replicate_succ, Array.replicate_zero, List.push_toArray, List.append_toArray, List.nil_append, List.cons_append]
 gi_wp2
 gi_loopw [6] (fun i wr => ∃ k : Nat, k ≤ n ∧ i = .int .i64 k ∧ J (List.range k) wr ∧ Blk wr Bs 44 #[.int .i64 (o : Int), .int .i64 (n : Int)]) (fun i _ => n - (RowKit.intOf i).toNat)
 case atStart => exact ⟨0, Nat.zero_le _, rfl, h0, hBs⟩
 case round =>
  obtain ⟨k, hk, rfl, hJ, hb⟩ := hrel
  have c0 : wr.cell? ⟨Bs, 0, none⟩ = some (.int .i64 (o : Int)) := hb.cell 0
  by_cases hlt : k < n
  ·obtain ⟨fn, tmps, assign, body, hy, hR⟩ := hY _ k wr hJ (by simpa using hlt)
   have kk : (k : Int) < (n : Int) := by omega
   have hm1 : Hid (n - (k + 1) < n - k) := by show _ < _; omega
   simp only [encS, Nat.mod_eq_of_lt hlt] at hy
   clear hY c1 hBs h0
   gi_wp2
   refine hR.mono ?_
   rintro e W3 (⟨rfl, hJ3, hs3⟩ | ⟨rfl, hJx3⟩)
   ·gi_wp2
    go_roundw
    case rel => exact ⟨k + 1, by omega, by simp, by rw [List.range_succ]; exact hJ3, Eq.trans hs3 hb⟩
    case measure => simpa [RowKit.intOf] using hm1.out
   ·gi_wp2
    refine bodyPost_ret (results_none rfl _ _ _) rfl ?_
    exact ⟨⟨_, rfl⟩, .inr ⟨_, ⟨k + 1, by omega, List.range_succ.symm⟩, hJx3⟩⟩
  ·obtain rfl : k = n := by omega
   gi_wp2
   go_end0
   exact ⟨⟨_, rfl⟩, .inl ⟨_, rfl, hJ⟩⟩
set_option maxRecDepth 100000 in
theorem sectors_stops (F : Fence) (m : Nat) (h45 : F.fn 150) (hro : F.round = none) (hm : 1 ≤ m) (Bs o n : Nat) (ho : o ≤ 1073741824) (hn : n ≤ 1073741824) (w : World) (hBs : Blk w Bs 44 #[.int .i64 (o : Int), .int .i64 (n : Int)]) :
  SeqStopsK F m Tryz.prog 150 #[.pointer (some ⟨Bs, 0, none⟩)] (encS o n) (SameAt Bs) (fun ys => ys = List.range n) (fun pre => ∃ k, k ≤ n ∧ pre = List.range k) n w := fun l J Jx W hW _ _ hY h0 =>
 sectors1_in F m h45 hro hm l Bs o n ho hn J Jx hY W ((hW.block Bs hBs.lt).trans hBs) h0
end Go.Proofs.YtoaeficfmcncjaaGreat
namespace Go.Proofs.YtoaeficfmcncjaaGreat
open Go.RowKit Go.Maps Go.Shelf
open Math
attribute [local go_sem] Oper.semAt_some
theorem Blk.alloc {W : World} {g : Nat} {t : TypeId} {cs : Array Value} (h : Blk W g t cs) (o : Obj) : Blk (W.alloc o) g t cs := h.kept (kept_alloc [] W o) (by simp)
structure WBox (W : World) (n d : Nat) (o l : Int) (v r : Value) : Prop where
 b0 : Blk W n 27 #[.pointer (some ⟨d, 0, none⟩)]
 b1 : Blk W (n + 1) 44 #[.int .i64 o, .int .i64 l]
 b2 : Blk W (n + 2) 45 #[v]
 b3 : Blk W (n + 3) 28 #[r]
theorem WBox.kept {L : List Nat} {A B : World} {n d : Nat} {o l : Int} {v r : Value} (h : WBox A n d o l v r) (hk : Kept L A B) (hL : ∀ k ∈ L, k < n ∨ n + 4 ≤ k) : WBox B n d o l v r :=
 ⟨h.b0.kept hk (fun hm => by have := hL _ hm; omega), h.b1.kept hk (fun hm => by have := hL _ hm; omega), h.b2.kept hk (fun hm => by have := hL _ hm; omega), h.b3.kept hk (fun hm => by have := hL _ hm; omega)⟩
theorem wbox_new (w : World) (d : Nat) (o l : Int) (v r : Value) :
  WBox ((((w.alloc (.cells #[.pointer (some ⟨d, 0, none⟩)] 27)).alloc (.cells #[.int .i64 o, .int .i64 l] 44)).alloc (.cells #[v] 45)).alloc (.cells #[r] 28)) w.heap.size d o l v r := by
 have a0 := blk_new w 27 #[.pointer (some ⟨d, 0, none⟩)]
 have a1 := blk_new (w.alloc (.cells #[.pointer (some ⟨d, 0, none⟩)] 27)) 44 #[.int .i64 o, .int .i64 l]
 have a2 := blk_new ((w.alloc (.cells #[.pointer (some ⟨d, 0, none⟩)] 27)).alloc (.cells #[.int .i64 o, .int .i64 l] 44)) 45 #[v]
 have a3 := blk_new (((w.alloc (.cells #[.pointer (some ⟨d, 0, none⟩)] 27)).alloc (.cells #[.int .i64 o, .int .i64 l] 44)).alloc (.cells #[v] 45)) 28 #[r]
 simp only [World.size_alloc] at a1 a2 a3
 exact ⟨((a0.alloc _).alloc _).alloc _, (a1.alloc _).alloc _, a2.alloc _, a3⟩
theorem WBox.cells {W : World} {n d : Nat} {o l : Int} {v r : Value} (h : WBox W n d o l v r) :
  W.cell? ⟨n, 0, none⟩ = some (.pointer (some ⟨d, 0, none⟩)) ∧ W.cell? ⟨n + 1, 0, none⟩ = some (.int .i64 o) ∧ W.cell? ⟨n + 1, 1, none⟩ = some (.int .i64 l) ∧ W.cell? ⟨n + 1 + 1, 0, none⟩ = some v ∧ W.cell? ⟨n + 1 + 1 + 1, 0, none⟩ = some r ∧ W.frozen? ⟨n + 1 + 1 + 1, 0, none⟩ = false :=
 ⟨h.b0.cell 0, h.b1.cell 0, h.b1.cell 1, h.b2.cell 0, h.b3.cell 0, h.b3.frozen 0⟩
theorem WBox.lt {W : World} {n d : Nat} {o l : Int} {v r : Value} (h : WBox W n d o l v r) : n + 4 ≤ W.heap.size := by
 have := h.b3.lt
 omega
section
set_option maxRecDepth 100000
theorem results_errno {fn : Func} {p : Tmp} (h : fn.results = #[.cell p 28]) (tmps : Array Value) (w : World) (g : Nat) (v : Value) (hp : tmps[p]? = some (.pointer (some ⟨g, 0, none⟩))) (hv : w.cell? ⟨g, 0, none⟩ = some v) :
  (results fn tmps).run Tryz.prog w = .ok v w := by
 simp [results, h, go_sem, hp, hv]
set_option maxHeartbeats 1000000 in
theorem dWrite_range (d b1 b2 : Nat) (s : Dk) (o l : Int) (a : Option Addr) (len cap : Nat) (w : World) (h : DiskAt w d b1 b2 s) (hg : Span.Math.good o l (dataN s : Nat) = false) :
  Calls Tryz.prog 133 #[.pointer (some ⟨d, 0, none⟩), .agg #[.int .i64 o, .int .i64 l], .slice a len cap] w fun e w' => e = .returned (.int .i64 13) ∧ Kept [] w w' := by
 have hb := wbox_new w d o l (.slice a len cap) (.int .i64 0)
 have hk : Kept [] w ((((w.alloc (.cells #[.pointer (some ⟨d, 0, none⟩)] 27)).alloc (.cells #[.int .i64 o, .int .i64 l] 44)).alloc (.cells #[.slice a len cap] 45)).alloc (.cells #[.int .i64 0] 28)) :=
  (((kept_alloc [] _ _).trans (kept_alloc [] _ _)).trans (kept_alloc [] _ _)).trans (kept_alloc [] _ _)
 have h1 := h.kept hk (by simp) (by simp) (by simp)
 have q := dfind_any d b1 b2 s o l _ h1
 rw [hg, if_neg (by simp)] at q
 go_enter Tryz.func133, Tryz.ntmps133
 go_wp2_with (go_at_call 85; refine q.mono ?_; rintro e w1 ⟨rfl, hk1⟩; have hb1 := hb.kept hk1 (by simp); obtain ⟨-, -, -, -, c4, f4⟩ := hb1.cells)
 refine bodyPost_ret (results_errno rfl _ _ (w.heap.size + 3) (.int .i64 13) rfl ((hb1.b3.set 0 _).cell 0)) rfl ⟨rfl, ?_⟩
 exact (hk.trans hk1).young (g := w.heap.size + 3) (kept_set (by simp) _ _ _) (by omega)
set_option maxHeartbeats 1000000 in
theorem dWrite_arg (d b1 b2 : Nat) (s : Dk) (o l : Int) (a : Option Addr) (len cap : Nat) (w : World) (h : DiskAt w d b1 b2 s) (hg : Span.Math.good o l (dataN s : Nat) = true) (hn : (len : Int) ≠ 16 * l) :
  Calls Tryz.prog 133 #[.pointer (some ⟨d, 0, none⟩), .agg #[.int .i64 o, .int .i64 l], .slice a len cap] w fun e w' => e = .returned (.int .i64 2) ∧ Kept [] w w' := by
 have hb := wbox_new w d o l (.slice a len cap) (.int .i64 0)
 have hk : Kept [] w ((((w.alloc (.cells #[.pointer (some ⟨d, 0, none⟩)] 27)).alloc (.cells #[.int .i64 o, .int .i64 l] 44)).alloc (.cells #[.slice a len cap] 45)).alloc (.cells #[.int .i64 0] 28)) :=
  (((kept_alloc [] _ _).trans (kept_alloc [] _ _)).trans (kept_alloc [] _ _)).trans (kept_alloc [] _ _)
 have h1 := h.kept hk (by simp) (by simp) (by simp)
 have q := dfind_any d b1 b2 s o l _ h1
 rw [hg, if_pos rfl] at q
 have hgo := good_of hg
 have hne : ((len : Int) != l * 16) = true := by simp; omega
 have q2 := fun W => dsize_any o l (by omega) (by omega) W
 go_enter Tryz.func133, Tryz.ntmps133
 go_wp2_with (go_at_call 85; refine q.mono ?_; rintro e w1 ⟨rfl, hk1⟩; have hb1 := hb.kept hk1 (by simp); obtain ⟨c0, c1, c2, c3, c4, f4⟩ := hb1.cells)
 go_region_with (first | (go_at_call 86; refine (q2 _).mono ?_; rintro e w2 ⟨rfl, hk2⟩; have hb2 := (hb1.kept (kept_drew [] w1) (by simp)).kept hk2 (by simp); obtain ⟨g0, g1, g2, g3, g4, e4⟩ := hb2.cells))
 all_goals
  go_wp2
  refine bodyPost_ret (results_errno rfl _ _ (w.heap.size + 3) (.int .i64 2) rfl ((hb2.b3.set 0 _).cell 0)) rfl ⟨rfl, ?_⟩
  exact (((hk.trans hk1).trans (kept_drew [] _)).trans hk2).young (g := w.heap.size + 3) (kept_set (by simp) _ _ _) (by omega)
end
theorem Kept.keepsFrom {L : List Nat} {A B : World} {n : Nat} (h : Kept L A B) (hL : ∀ k ∈ L, k < n) : KeepsFrom n A B :=
 ⟨h.size, fun k o hn hk _ => (h.block k (Array.getElem?_eq_some_iff.1 hk).1 (fun hm => by have := hL k hm; omega)).trans hk⟩
theorem kept_grown {W W' : World} {row : Option Nat} {B : Nat} (hg : W.grownBy W' row) (hr : ∀ r, row = some r → B ≤ r) : ∃ L, Kept L W W' ∧ ∀ k ∈ L, B ≤ k := by
 refine ⟨row.toList, ⟨hg.os, hg.tape, hg.output, hg.size, fun k hk hn => hg.block k hk (fun e => hn (by simp [← e]))⟩, fun k hk => hr k (by simpa using hk)⟩
theorem kept_put {W : World} {D : Nat} (o : Obj) : Kept [D] W (W.putObj D o) := by
 obtain ⟨L, h1, h2⟩ := kept_grown (B := D) (grownBy_putObj' W D o) (fun r e => by cases e; exact Nat.le_refl _)
 refine ⟨h1.os, h1.tape, h1.output, h1.size, fun k hk hn => World.putObj_heap_other (by simpa using hn)⟩
theorem mods_range (n : Nat) : ∀ k, k ≤ n → (List.range k).map (· % n) = List.range k := fun k hk => by
 conv => rhs; rw [← List.map_id (List.range k)]
 refine List.map_congr_left fun i hi => ?_
 have : i < k := by simpa using hi
 exact Nat.mod_eq_of_lt (by omega)
theorem mods_lt {n : Nat} (hn : 1 ≤ n) (pre : List Nat) : ∀ i ∈ pre.map (· % n), i < n := fun i hi => by
 obtain ⟨x, _, rfl⟩ := List.mem_map.1 hi
 exact Nat.mod_lt _ (by omega)
structure WMid (W0 W : World) (n d b1 b2 : Nat) (o l : Int) (v r : Value) (s : Dk) : Prop where
 box : WBox W n d o l v r
 disk : DiskAt W d b1 b2 s
 kept : Kept [d, b1, b2, n + 3] W0 W
theorem WMid.grown {W0 A B : World} {row : Option Nat} {n d b1 b2 : Nat} {o l : Int} {v r : Value} {s : Dk} (h : WMid W0 A n d b1 b2 o l v r s) (hn : n + 4 ≤ W0.heap.size) (hd : d < W0.heap.size ∧ b1 < W0.heap.size ∧ b2 < W0.heap.size) (hg : A.grownBy B row) (hr : ∀ r, row = some r → W0.heap.size ≤ r) : WMid W0 B n d b1 b2 o l v r s := by
 obtain ⟨L, hk, hL⟩ := kept_grown hg hr
 refine ⟨h.box.kept hk (fun k hm => by have := hL k hm; omega), h.disk.kept hk (fun hm => by have := hL _ hm; omega) (fun hm => by have := hL _ hm; omega) (fun hm => by have := hL _ hm; omega), ?_⟩
 exact ⟨hk.os.trans h.kept.os, hk.tape.trans h.kept.tape, hk.output.trans h.kept.output, Nat.le_trans h.kept.size hk.size, fun i hi hn => (hk.block i (Nat.lt_of_lt_of_le hi h.kept.size) (fun hm => by have := hL i hm; omega)).trans (h.kept.block i hi hn)⟩
section
variable {F : Fence} {n : Nat} {ops : Array Oper} {rest : List Oper} {o : Oper} {a : Act} {w : World} {Q : Exit → Act → World → Prop}
set_option maxRecDepth 100000 in
theorem wpListIn_load_arr (hgd : o.guard = none) (x : Operand) (ho : o.op = .load 113 x) (g : Nat) (t : TypeId) (l : List Nat) (hx : a.eval x = .pointer (some ⟨g, 0, none⟩)) (h0 : Arr w g t l) (hl : l.length = 16)
  (h : wpListIn F n Tryz.prog ops Q rest (a.put o.dst (.agg (l.map enc).toArray)) w) : wpListIn F n Tryz.prog ops Q (o :: rest) a w := by
 refine wpListIn_plain hgd fun K hK => ?_
 have hrun := load_arr h0 hl
 unfold Oper.wpIn
 refine ⟨?_, ?_⟩
 ·simp [Oper.about, ho]
 ·rw [Oper.semAt_plain F _ _ (by rw [ho]; intro c hc'; cases hc')]
  simp [execOp, ho, hx, hrun, Result.andThen]
  exact hK _ _ h
set_option maxRecDepth 100000 in
theorem wpListIn_store_arr (hgd : o.guard = none) (x y : Operand) (ho : o.op = .store 113 x y) (g : Nat) (t : TypeId) (l0 l : List Nat) (hx : a.eval x = .pointer (some ⟨g, 0, none⟩)) (hy : a.eval y = .agg (l.map enc).toArray) (h0 : Arr w g t l0) (hl0 : l0.length = 16) (hl : l.length = 16)
  (h : ∀ w', Arr w' g t l → Kept [g] w w' → Hid (w'.heap.size = w.heap.size) → wpListIn F n Tryz.prog ops Q rest (a.put o.dst undef) w') : wpListIn F n Tryz.prog ops Q (o :: rest) a w := by
 refine wpListIn_plain hgd fun K hK => ?_
 have hrun := run_storeAt_mid (P := Tryz.prog) w g 0 113 (l.map enc).toArray (by have := h0.there; simpa [hl, hl0] using this) (by simpa [hl] using Tryz.size113) (all_oneCell_toArray (enc_one _))
 unfold Oper.wpIn
 refine ⟨?_, ?_⟩
 ·simp [Oper.about, ho]
 ·rw [Oper.semAt_plain F _ _ (by rw [ho]; intro c hc'; cases hc')]
  simp [execOp, ho, hx, hy, hrun, Result.andThen]
  have e : w.setCells g 0 (l.map enc) = w.setRow g (l.map enc).toArray := setCells_row h0 (by simp [hl, hl0]) (enc_one l)
  refine hK _ _ (h _ (h0.setAll l (by omega)) ?_ ?_)
  ·rw [e]
   exact ⟨rfl, rfl, rfl, by simp [World.setRow], fun k _ hk => setRow_other w g k _ (by simpa using hk)⟩
  ·rw [e]
   show _ = _
   simp [World.setRow]
end
end Go.Proofs.YtoaeficfmcncjaaGreat
