/-
  The acts of HotActs, as plain data; its walk.
-/
import Derived.Test.YtldeecjocapfgaaHotF
import Derived.Test.YtldeecjocapfgaaHotJ
import Derived.Deep.MidRow
namespace Go.Proofs.Ytldeecjocapfgaa.Hot
open Go.RowKit
open Bits Bits.Math

theorem Blk.range {W : World} {g : Nat} {t : TypeId} {cs : List Value} (h : Blk W g t cs.toArray) (o : Nat) (l : List Value) (hl : ∀ j v, l[j]? = some v → cs[o + j]? = some v) : W.rangeAt g o l := fun j v hv => by
  rw [h.cell, List.getElem?_toArray]
  exact hl j v hv
/-- An act. -/
structure Sa where
  kind : Int
  need : Nat
  busy : Nat
structure Sa.Ok (a : Sa) : Prop where
  kind0 : -9223372036854775808 ≤ a.kind
  kind1 : a.kind ≤ 9223372036854775807
  need_ : a.need < 18446744073709551616
  busy_ : a.busy < 18446744073709551616
  known : True
def Sa.cells (a : Sa) : List Value := .int .i64 a.kind :: .int .u64 (a.need : Int) :: .int .u64 (a.busy : Int) :: []
/-- The acts of a slice, in a block below n₀ where there is one. -/
def ActsAt (n₀ : Nat) (W : World) (a : Option Addr) (len cap : Nat) (acts : List Sa) : Prop :=
  acts.length = len ∧ (∀ x ∈ acts, x.Ok) ∧ (acts = [] ∨ ∃ b off, a = some ⟨b, off, none⟩ ∧ len ≤ cap ∧ b < n₀ ∧ ∀ j x, acts[j]? = some x → W.rangeAt b (off + j * 3) x.cells)
theorem ActsAt.below {n₀ : Nat} {A B : World} (h : Below n₀ A B) {a : Option Addr} {len cap : Nat} {acts : List Sa} : ActsAt n₀ A a len cap acts → ActsAt n₀ B a len cap acts
  | ⟨h1, h2, .inl r⟩ => ⟨h1, h2, .inl r⟩
  | ⟨h1, h2, .inr ⟨b, off, e, hl, hb, hc⟩⟩ => ⟨h1, h2, .inr ⟨b, off, e, hl, hb, fun j x hx i v hv => (h.cell (p := ⟨b, off + j * 3 + i, none⟩) hb).trans (hc j x hx i v hv)⟩⟩
theorem Try.size33 : (Try.prog.info? 33).map (·.size) = some 3 := by kernel_rfl
theorem Sa.cells_length (a : Sa) (_ : a.Ok) : a.cells.length = 3 := by simp [Sa.cells]
theorem Sa.range {W : World} {g : Nat} {a : Sa} (h : Blk W g 33 a.cells.toArray) :
    W.cell? ⟨g, 0, none⟩ = some (.int .i64 a.kind) ∧ W.cell? ⟨g, 1, none⟩ = some (.int .u64 (a.need : Int)) ∧ W.cell? ⟨g, 2, none⟩ = some (.int .u64 (a.busy : Int)) := by
  refine ⟨by rw [h.cell]; rfl, by rw [h.cell]; rfl, by rw [h.cell]; rfl⟩
theorem Sa.one (a : Sa) : ∀ v ∈ a.cells, v.oneCell' = true := by
  intro v hv
  simp only [Sa.cells, List.mem_cons, List.not_mem_nil, or_false] at hv
  rcases hv with rfl | rfl | rfl <;> rfl

/-- The set and the document's, side by side. -/
structure Two (w W : World) (p q n₀ most : Nat) (v1 v2 : Value) (l1 l2 : List Nat) : Prop where
  set : SetAt W p n₀ most v1 l1
  ref : RefAt W q n₀ most v2 l2
  below : Below w.heap.size w W
  pw : w.heap.size ≤ p
  qw : w.heap.size ≤ q
  ne : p ≠ q
theorem Two.after {w W W' : World} {p q n₀ most : Nat} {v1 v2 : Value} {l1 l2 : List Nat} (h : Two w W p q n₀ most v1 v2 l1 l2) (hB : Below W.heap.size W W') : Two w W' p q n₀ most v1 v2 l1 l2 :=
  ⟨h.set.below hB, h.ref.below hB, h.below.trans (hB.mono h.below.size), h.pw, h.qw, h.ne⟩
theorem Two.left {w W W' : World} {p q n₀ most : Nat} {v1 v2 v : Value} {l1 l2 l : List Nat} (h : Two w W p q n₀ most v1 v2 l1 l2) (hS : SetAt W' p n₀ most v l) (hK : Kept [p] W W') : Two w W' p q n₀ most v v2 l l2 :=
  ⟨hS, h.ref.kept hK (by have := h.ne; simp; omega) (by simpa using h.set.low), h.below.trans (hK.below h.below.size (by simpa using h.pw)), h.pw, h.qw, h.ne⟩
theorem Two.right {w W W' : World} {p q n₀ most : Nat} {v1 v2 v : Value} {l1 l2 l : List Nat} (h : Two w W p q n₀ most v1 v2 l1 l2) (hS : RefAt W' q n₀ most v l) (hK : Kept [q] W W') : Two w W' p q n₀ most v1 v l1 l :=
  ⟨h.set.kept hK (by have := h.ne; simp; omega) (by simpa using h.ref.low), hS, h.below.trans (hK.below h.below.size (by simpa using h.qw)), h.pw, h.qw, h.ne⟩
theorem Two.drew {w W : World} {p q n₀ most : Nat} {v1 v2 : Value} {l1 l2 : List Nat} (h : Two w W p q n₀ most v1 v2 l1 l2) : Two w W.drew p q n₀ most v1 v2 l1 l2 := h.after ((kept_drew [] W).below (Nat.le_refl _) (by simp))

set_option maxRecDepth 100000 in
theorem acts_long (most : Int) (a : Option Addr) (len cap : Nat) (hlen : len ≤ 9223372036854775807) (h : 60 < len) (w : World) :
    Calls Try.prog 3 #[.int .i64 most, .slice a len cap] w fun e w' => e = .returned (.bool true) ∧ Below w.heap.size w w' := by
  go_enter Try.func3, Try.ntmps3
  go_wp2_with (go_at_call 6; refine (lives_any _).mono ?_; rintro e w1 ⟨rfl, hB⟩)
  go_ret
  exact ⟨rfl, hB⟩

set_option maxRecDepth 100000 in
set_option maxHeartbeats 1000000 in
theorem acts_bad (most : Int) (a : Option Addr) (len cap : Nat) (hlen : len ≤ 60) (h : most < 1 ∨ 16 < most) (w : World) :
    Calls Try.prog 3 #[.int .i64 most, .slice a len cap] w fun e w' => e = .returned (.bool true) ∧ Below w.heap.size w w' := by
  have q1 := fun W => new_bad most W h
  have q2 := fun W => rnew_bad most W h
  go_enter Try.func3, Try.ntmps3
  go_wp2_with (first
    | (go_at_call 7; refine (q1 _).mono ?_; rintro e w' ⟨rfl, rfl⟩)
    | (go_at_call 8; refine (q2 _).mono ?_; rintro e w' ⟨rfl, rfl⟩))
  go_loop [9] (fun i => i = .int .i64 0) (fun _ => 0)
  case atStart => rfl
  case round =>
    obtain rfl := hrel
    by_cases h0 : len = 0
    · subst h0
      go_wp2_with (go_at_call 6; refine (lives_any _).mono ?_; rintro e w1 ⟨rfl, hB⟩)
      go_ret
      exact ⟨rfl, hB⟩
    · have h1 : (0 : Int) < (len : Int) := by omega
      go_wp2_with (go_at_call 6; refine (lives_any _).mono ?_; rintro e w1 ⟨rfl, hB⟩)
      go_ret
      exact ⟨rfl, hB⟩

set_option maxRecDepth 100000 in
set_option maxHeartbeats 4000000 in
theorem acts_play (most : Nat) (h1 : 1 ≤ most) (h2 : most ≤ 16) (a0 : Option Addr) (len cap0 : Nat) (acts : List Sa) (hlen : len ≤ 60) (w : World) (hacts : ActsAt w.heap.size w a0 len cap0 acts) :
    Calls Try.prog 3 #[.int .i64 (most : Int), .slice a0 len cap0] w fun e w' => e = .returned (.bool true) ∧ Below w.heap.size w w' := by
  have q1 := fun W => new_ok most W h1 h2
  have q2 := fun W => rnew_ok most W h1 h2
  have hT : Two w ((w.alloc (.cells #[.int .i64 (most : Int), .slice none 0 0] 50)).alloc (.cells #[.slice none 0 0, .int .i64 (most : Int)] 43)) w.heap.size (w.heap.size + 1) (w.heap.size + 2) most (.slice none 0 0) (.slice none 0 0) [] [] :=
    ⟨⟨(blk_new w 50 _).kept (kept_alloc [] _ _) (by simp), by omega, by simp, Nums.nil _ _, Good.nil, h1, h2⟩,
     ⟨(show Blk _ _ _ _ by have := blk_new (w.alloc (.cells #[.int .i64 (most : Int), .slice none 0 0] 50)) 43 #[.slice none 0 0, .int .i64 (most : Int)]; simpa using this), by omega, by simp, Nums.nil _ _, Good.nil, h1, h2⟩,
     ((Below.refl _ w).alloc (Nat.le_refl _) _).alloc (by simp) _, Nat.le_refl _, by omega, by omega⟩
  go_enter Try.func3, Try.ntmps3
  go_wp2_with (first
    | (go_at_call 7; refine (q1 _).mono ?_; clear q1; rintro e w' ⟨rfl, rfl⟩)
    | (go_at_call 8; refine (q2 _).mono ?_; clear q2; rintro e w' ⟨rfl, rfl⟩))
  generalize ((w.alloc (.cells #[.int .i64 (most : Int), .slice none 0 0] 50)).alloc (.cells #[.slice none 0 0, .int .i64 (most : Int)] 43)) = W0 at *
  go_loopw [9] (fun i wr => ∃ (j : Nat) (v1 v2 : Value) (l : List Nat), j ≤ len ∧ i = .int .i64 j ∧ Two w wr w.heap.size (w.heap.size + 1) (w.heap.size + 2) most v1 v2 l l) (fun i _ => len - (intOf i).toNat)
  case atStart => exact ⟨0, _, _, [], Nat.zero_le _, rfl, hT⟩
  case round =>
    clear hT
    obtain ⟨j, v1, v2, l, hj, rfl, hT⟩ := hrel
    by_cases hlt : j < len
    · obtain ⟨hal, haok, hnil | ⟨blk, off, rfl, hcap, hblk, hcs⟩⟩ := hacts.below hT.below
      · rw [hnil] at hal
        simp at hal
        omega
      obtain ⟨a, ha⟩ : ∃ a, acts[j]? = some a := ⟨_, List.getElem?_eq_getElem (by rw [hal]; exact hlt)⟩
      have hok := haok a (List.mem_of_getElem? ha)
      have r0 : wr.cell? ⟨blk, off + j * 3, none⟩ = some (.int .i64 a.kind) := hcs j a ha 0 _ rfl
      have r1 : wr.cell? ⟨blk, off + j * 3 + 1, none⟩ = some (.int .u64 (a.need : Int)) := hcs j a ha 1 _ rfl
      have r2 : wr.cell? ⟨blk, off + j * 3 + 2, none⟩ = some (.int .u64 (a.busy : Int)) := hcs j a ha 2 _ rfl
      have kk4 : (j : Int) < (len : Int) := by omega
      have hn := hok.need_
      have hb := hok.busy_
      obtain ⟨kind, need, busy⟩ := a
      simp only [] at r0 r1 r2 hn hb
      clear hcs hal haok hacts ha hok
      have hlw := hT.set.cells.lt
      have hlq := hT.ref.cells.lt
      have ne1 : wr.heap.size ∉ [w.heap.size] := by simp; omega
      have ne2 : wr.heap.size ∉ [w.heap.size + 1] := by simp; omega
      replace hT := hT.after ((Below.refl _ wr).alloc (Nat.le_refl _) (.cells #[.int .i64 kind, .int .u64 (need : Int), .int .u64 (busy : Int)] 33))
      have hG := blk_new wr 33 #[.int .i64 kind, .int .u64 (need : Int), .int .u64 (busy : Int)]
      replace hT := hT.drew
      replace hG : Blk _ wr.heap.size 33 #[.int .i64 kind, .int .u64 (need : Int), .int .u64 (busy : Int)] := hG.kept (kept_drew [] _) (by simp)
      by_cases hk : kind = 1
      · subst hk
        obtain ⟨f, hf⟩ : ∃ f, fits most need busy l = f := ⟨_, rfl⟩
        go_wp2_with fail
        go_region_held3 (fun W => W.cell? ⟨wr.heap.size, 1, none⟩ = some (.int .u64 (need : Int)) ∧ W.cell? ⟨wr.heap.size, 2, none⟩ = some (.int .u64 (busy : Int))) (exact ⟨hG.cell 1, hG.cell 2⟩) (first
          | (go_at_call 9; refine (fits_any _ _ _ _ _ need busy hn hb _ hT.set).mono ?_; rw [hf]; rintro e w3 ⟨rfl, hB3⟩; replace hT := hT.after hB3; replace hG := hG.kept (Kept.of_below hB3 []) (by simp))
          | (go_at_call 10; refine (rfits_any _ _ _ _ _ need busy hn hb _ hT.ref).mono ?_; rw [hf]; rintro e w4 ⟨rfl, hB4⟩; replace hT := hT.after hB4; replace hG := hG.kept (Kept.of_below hB4 []) (by simp)))
        have c0 := hG.cell 0
        have c1 := hG.cell 1
        have c2 := hG.cell 2
        go_wp2_with (first
          | (go_at_call 11; refine (load_any _ _ _ _ _ need hn _ hT.set).mono ?_; rintro e w8 ⟨rfl, ⟨v8, hS8⟩, hK8⟩; replace hT := hT.left hS8 hK8; replace hG := hG.kept hK8 ne1; have c3 := hG.cell 1)
          | (go_at_call 12; refine (rload_any _ _ _ _ _ need hn _ hT.ref).mono ?_; rintro e w9 ⟨rfl, ⟨v9, hS9⟩, hK9⟩; replace hT := hT.right hS9 hK9))
        have hl := hT.set.good.len
        have hll : ((elems need).map Int.ofNat).length ≤ 9223372036854775807 := by rw [List.length_map]; omega
        replace hT := hT.drew
        go_region_held3 (fun W => W.cell? ⟨w.heap.size + 1, 0, none⟩ = some v9) (exact hT.ref.cell.1) (first
          | (go_at_call 15; refine (mask_any _ _ _ _ _ _ hT.set).mono ?_; rintro e w5 ⟨rfl, hB5⟩; replace hT := hT.after hB5)
          | (go_at_call 16; refine (rmask_any _ _ _ _ _ _ hT.ref).mono ?_; rintro e w' ⟨rfl, rfl⟩)
          | (go_at_call 18; refine (order_any _ _ _ _ _ _ hT.set).mono ?_; rintro e w6 ⟨v6, rfl, n6, hB6⟩; replace hT := hT.after hB6)
          | (go_at_call 17; refine (ints_any _ _ _ _ hll n6.ints hT.ref.nums.ints).mono ?_; rintro e w7 ⟨rfl, n, rfl⟩; replace hT := hT.after ((kept_drewN [] _ n).below (Nat.le_refl _) (by simp))))
        go_wp2_with fail
        go_roundw
        case rel => exact ⟨j + 1, _, _, _, by omega, by go_num, hT⟩
        case measure => simp [intOf]; omega
      · have hk1 : (kind == 1) = false := by simpa using hk
        cases hf : fits most need busy l with
        | false =>
          go_wp2_with fail
          go_region_held3 (fun W => W.cell? ⟨wr.heap.size, 1, none⟩ = some (.int .u64 (need : Int)) ∧ W.cell? ⟨wr.heap.size, 2, none⟩ = some (.int .u64 (busy : Int))) (exact ⟨hG.cell 1, hG.cell 2⟩) (first
            | (go_at_call 9; refine (fits_any _ _ _ _ _ need busy hn hb _ hT.set).mono ?_; rw [hf]; rintro e w3 ⟨rfl, hB3⟩; replace hT := hT.after hB3; replace hG := hG.kept (Kept.of_below hB3 []) (by simp))
            | (go_at_call 10; refine (rfits_any _ _ _ _ _ need busy hn hb _ hT.ref).mono ?_; rw [hf]; rintro e w4 ⟨rfl, hB4⟩; replace hT := hT.after hB4; replace hG := hG.kept (Kept.of_below hB4 []) (by simp)))
          have c0 := hG.cell 0
          have c1 := hG.cell 1
          have c2 := hG.cell 2
          go_wp2_with (first
            | (go_at_call 13; refine (use_bad _ _ _ _ _ need busy hn hb _ hT.set hf).mono ?_; rintro e w8 ⟨rfl, hB8⟩; replace hT := hT.after hB8; replace hG := hG.kept (Kept.of_below hB8 []) (by simp); have c3 := hG.cell 1; have c4 := hG.cell 2)
            | (go_at_call 14; refine (ruse_bad _ _ _ _ _ need busy hn hb _ hT.ref hf).mono ?_; rintro e w9 ⟨rfl, hB9⟩; replace hT := hT.after hB9))
          have hl := hT.set.good.len
          have hll : (l.map Int.ofNat).length ≤ 9223372036854775807 := by rw [List.length_map]; omega
          replace hT := hT.drew
          go_region_held3 (fun W => W.cell? ⟨w.heap.size + 1, 0, none⟩ = some v2) (exact hT.ref.cell.1) (first
            | (go_at_call 15; refine (mask_any _ _ _ _ _ _ hT.set).mono ?_; rintro e w5 ⟨rfl, hB5⟩; replace hT := hT.after hB5)
            | (go_at_call 16; refine (rmask_any _ _ _ _ _ _ hT.ref).mono ?_; rintro e w' ⟨rfl, rfl⟩)
            | (go_at_call 18; refine (order_any _ _ _ _ _ _ hT.set).mono ?_; rintro e w6 ⟨v6, rfl, n6, hB6⟩; replace hT := hT.after hB6)
            | (go_at_call 17; refine (ints_any _ _ _ _ hll n6.ints hT.ref.nums.ints).mono ?_; rintro e w7 ⟨rfl, n, rfl⟩; replace hT := hT.after ((kept_drewN [] _ n).below (Nat.le_refl _) (by simp))))
          go_wp2_with fail
          go_roundw
          case rel => exact ⟨j + 1, _, _, _, by omega, by go_num, hT⟩
          case measure => simp [intOf]; omega
        | true =>
          obtain ⟨tt, htt⟩ : ∃ tt, (((mask (used most need busy l) : Nat) : Int) != ((mask l : Nat) : Int)) = tt := ⟨_, rfl⟩
          go_wp2_with fail
          go_region_held3 (fun W => W.cell? ⟨wr.heap.size, 1, none⟩ = some (.int .u64 (need : Int)) ∧ W.cell? ⟨wr.heap.size, 2, none⟩ = some (.int .u64 (busy : Int))) (exact ⟨hG.cell 1, hG.cell 2⟩) (first
            | (go_at_call 9; refine (fits_any _ _ _ _ _ need busy hn hb _ hT.set).mono ?_; rw [hf]; rintro e w3 ⟨rfl, hB3⟩; replace hT := hT.after hB3; replace hG := hG.kept (Kept.of_below hB3 []) (by simp))
            | (go_at_call 10; refine (rfits_any _ _ _ _ _ need busy hn hb _ hT.ref).mono ?_; rw [hf]; rintro e w4 ⟨rfl, hB4⟩; replace hT := hT.after hB4; replace hG := hG.kept (Kept.of_below hB4 []) (by simp)))
          have c0 := hG.cell 0
          have c1 := hG.cell 1
          have c2 := hG.cell 2
          go_wp2_with (first
            | (go_at_call 13; refine (use_ok _ _ _ _ _ need busy hn hb _ hT.set hf).mono ?_; rw [htt]; rintro e w8 ⟨rfl, ⟨v8, hS8⟩, hK8⟩; replace hT := hT.left hS8 hK8; replace hG := hG.kept hK8 ne1; have c3 := hG.cell 1; have c4 := hG.cell 2)
            | (go_at_call 14; refine (ruse_ok _ _ _ _ _ need busy hn hb _ hT.ref hf).mono ?_; rw [htt]; rintro e w9 ⟨rfl, ⟨v9, hS9⟩, hK9⟩; replace hT := hT.right hS9 hK9))
          have hl := hT.set.good.len
          have hll : ((used most need busy l).map Int.ofNat).length ≤ 9223372036854775807 := by rw [List.length_map]; omega
          replace hT := hT.drew
          go_region_held3 (fun W => W.cell? ⟨w.heap.size + 1, 0, none⟩ = some v9) (exact hT.ref.cell.1) (first
            | (go_at_call 15; refine (mask_any _ _ _ _ _ _ hT.set).mono ?_; rintro e w5 ⟨rfl, hB5⟩; replace hT := hT.after hB5)
            | (go_at_call 16; refine (rmask_any _ _ _ _ _ _ hT.ref).mono ?_; rintro e w' ⟨rfl, rfl⟩)
            | (go_at_call 18; refine (order_any _ _ _ _ _ _ hT.set).mono ?_; rintro e w6 ⟨v6, rfl, n6, hB6⟩; replace hT := hT.after hB6)
            | (go_at_call 17; refine (ints_any _ _ _ _ hll n6.ints hT.ref.nums.ints).mono ?_; rintro e w7 ⟨rfl, n, rfl⟩; replace hT := hT.after ((kept_drewN [] _ n).below (Nat.le_refl _) (by simp))))
          go_wp2_with fail
          go_roundw
          case rel => exact ⟨j + 1, _, _, _, by omega, by go_num, hT⟩
          case measure => simp [intOf]; omega
    · obtain rfl : j = len := by omega
      go_wp2_with (go_at_call 6; refine (lives_any _).mono ?_; rintro e w1 ⟨rfl, hB⟩; replace hT := hT.after hB)
      go_ret
      exact ⟨rfl, hT.below⟩

end Go.Proofs.Ytldeecjocapfgaa.Hot
