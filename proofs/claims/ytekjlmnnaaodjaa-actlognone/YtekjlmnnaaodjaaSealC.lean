/-
  The walks of layer 2's functions that make bytes (taken over from the rounds before).
-/
import Derived.Test.YtekjlmnnaaodjaaSealB
import Derived.Maps.AppendAt
import Derived.Laws.OwnMore
namespace Go.Proofs.Ytekjlmnnaaodjaa.Seal
open Go.RowKit
open Math
open Crc

/-- A byte in memory. -/
def enc (i : Nat) : Value := .int .u8 (i : Int)

theorem enc_get (l : List Nat) (j : Nat) (h : j < l.length) : (l.map enc)[j]? = some (.int .u8 ((l[j]?.getD 0 : Nat) : Int)) := by
  simp [h, enc]

set_option maxRecDepth 100000 in
theorem Try.info5 : (Try.prog.info? 5).map (fun i => (i.zero, i.size, i.bytes)) = some (some (.int .u8 0), 1, 1) := by kernel_rfl

theorem fill_at {k i x : Nat} : (fill k (i + 1) x)[i]? = some 0 := by
  unfold fill
  rw [List.getElem?_append_left (by simp)]
  simp

set_option maxRecDepth 100000 in
/-- num.split, of 4 bytes -/
theorem split32_any (x : Nat) (w : World) (hx : x < 4294967296) :
    Calls Try.prog 46 #[.int .u32 x] w fun e w' => e = .returned (.slice (some ⟨w.heap.size, 0, none⟩) 4 4) ∧ w'.ownsRow w.heap.size 5 1 (.slice (some ⟨w.heap.size, 0, none⟩) 4 4) 4 ((be 4 x).map enc) ∧ Below w.heap.size w w' := by
  have hmk : ∀ w : World, (Instr.makeSlice 68 (.int .i64 4) (.int .i64 4)).run Try.prog w = .ok (.slice (some ⟨w.heap.size, 0, none⟩) 4 4) (w.alloc (.cells #[.int .u8 0, .int .u8 0, .int .u8 0, .int .u8 0] 5)) := fun _ => by kernel_rfl
  have h0 : (w.alloc (.cells #[.int .u8 0, .int .u8 0, .int .u8 0, .int .u8 0] 5)).ownsRow w.heap.size 5 1 (.slice (some ⟨w.heap.size, 0, none⟩) 4 4) 4 ((fill 4 4 x).map enc) := by
    rw [fill_start]
    exact World.ownsRow_lit w _ 4 (Nat.le_refl _) (by decide) rfl
  go_enter Try.func46, Try.ntmps46
  go_wp2_with (go_at_call 54; refine (size32 _).mono ?_; rintro e w ⟨rfl, rfl⟩)
  go_loopw [0, 4] (fun n i wr => ∃ k : Nat, k ≤ 4 ∧ i = .int .i64 ((k : Int) - 1) ∧ n = .int .u32 ((x / 256 ^ (4 - k) : Nat) : Int) ∧ wr.ownsRow w.heap.size 5 1 (.slice (some ⟨w.heap.size, 0, none⟩) 4 4) 4 ((fill 4 k x).map enc) ∧ Below w.heap.size w wr) (fun _ i _ => (intOf i + 1).toNat)
  case atStart => exact ⟨4, Nat.le_refl _, rfl, by simp, h0, (Below.refl _ _).alloc (Nat.le_refl _) _⟩
  case round =>
    obtain ⟨k, hk, rfl, rfl, hown, hB⟩ := hrel
    clear h0 hmk
    cases k with
    | zero =>
      go_wp2
      go_ret
      exact ⟨rfl, by rw [← fill_end]; exact hown, hB⟩
    | succ j =>
      have hcx := hown.cellAt j (by omega)
      rw [List.getElem?_map, fill_at] at hcx
      have hfx := hown.frozenAt j
      have hst := (hown.stored j (enc (x / 256 ^ (4 - (j + 1)) % 256))).1
      rw [fill_step_map enc hk] at hst
      have hBs := hB.setCell (p := ⟨w.heap.size, j, none⟩) (Nat.le_refl _) (enc (x / 256 ^ (4 - (j + 1)) % 256))
      have hy : x / 256 ^ (4 - (j + 1)) < 4294967296 := Nat.lt_of_le_of_lt (Nat.div_le_self _ _) hx
      have HD : Hid (x / 256 ^ (4 - (j + 1)) / 256 = x / 256 ^ (4 - j)) := (div_pow_succ _ _).trans (by rw [show 4 - (j + 1) + 1 = 4 - j by omega])
      have ej : (((j + 1 : Nat) : Int) - 1) = (j : Int) := by omega
      rw [ej]
      generalize x / 256 ^ (4 - (j + 1)) = y at *
      simp only [Option.map_some, enc] at hcx hst hBs
      clear ej hown hB
      go_wp2
      go_roundw
      case rel => exact ⟨j, by omega, by go_num, by rw [← HD.out]; first | rfl | go_num, by first | exact hst | simpa using hst, by first | exact hBs | simpa using hBs⟩
      case measure => simp [intOf]

set_option maxRecDepth 100000 in
/-- num.split, of 8 bytes -/
theorem split64_any (x : Nat) (w : World) (hx : x < 18446744073709551616) :
    Calls Try.prog 45 #[.int .u64 x] w fun e w' => e = .returned (.slice (some ⟨w.heap.size, 0, none⟩) 8 8) ∧ w'.ownsRow w.heap.size 5 1 (.slice (some ⟨w.heap.size, 0, none⟩) 8 8) 8 ((be 8 x).map enc) ∧ Below w.heap.size w w' := by
  have hmk : ∀ w : World, (Instr.makeSlice 68 (.int .i64 8) (.int .i64 8)).run Try.prog w = .ok (.slice (some ⟨w.heap.size, 0, none⟩) 8 8) (w.alloc (.cells #[.int .u8 0, .int .u8 0, .int .u8 0, .int .u8 0, .int .u8 0, .int .u8 0, .int .u8 0, .int .u8 0] 5)) := fun _ => by kernel_rfl
  have h0 : (w.alloc (.cells #[.int .u8 0, .int .u8 0, .int .u8 0, .int .u8 0, .int .u8 0, .int .u8 0, .int .u8 0, .int .u8 0] 5)).ownsRow w.heap.size 5 1 (.slice (some ⟨w.heap.size, 0, none⟩) 8 8) 8 ((fill 8 8 x).map enc) := by
    rw [fill_start]
    exact World.ownsRow_lit w _ 8 (Nat.le_refl _) (by decide) rfl
  go_enter Try.func45, Try.ntmps45
  go_wp2_with (go_at_call 53; refine (size64 _).mono ?_; rintro e w ⟨rfl, rfl⟩)
  go_loopw [0, 4] (fun n i wr => ∃ k : Nat, k ≤ 8 ∧ i = .int .i64 ((k : Int) - 1) ∧ n = .int .u64 ((x / 256 ^ (8 - k) : Nat) : Int) ∧ wr.ownsRow w.heap.size 5 1 (.slice (some ⟨w.heap.size, 0, none⟩) 8 8) 8 ((fill 8 k x).map enc) ∧ Below w.heap.size w wr) (fun _ i _ => (intOf i + 1).toNat)
  case atStart => exact ⟨8, Nat.le_refl _, rfl, by simp, h0, (Below.refl _ _).alloc (Nat.le_refl _) _⟩
  case round =>
    obtain ⟨k, hk, rfl, rfl, hown, hB⟩ := hrel
    clear h0 hmk
    cases k with
    | zero =>
      go_wp2
      go_ret
      exact ⟨rfl, by rw [← fill_end]; exact hown, hB⟩
    | succ j =>
      have hcx := hown.cellAt j (by omega)
      rw [List.getElem?_map, fill_at] at hcx
      have hfx := hown.frozenAt j
      have hst := (hown.stored j (enc (x / 256 ^ (8 - (j + 1)) % 256))).1
      rw [fill_step_map enc hk] at hst
      have hBs := hB.setCell (p := ⟨w.heap.size, j, none⟩) (Nat.le_refl _) (enc (x / 256 ^ (8 - (j + 1)) % 256))
      have hy : x / 256 ^ (8 - (j + 1)) < 18446744073709551616 := Nat.lt_of_le_of_lt (Nat.div_le_self _ _) hx
      have HD : Hid (x / 256 ^ (8 - (j + 1)) / 256 = x / 256 ^ (8 - j)) := (div_pow_succ _ _).trans (by rw [show 8 - (j + 1) + 1 = 8 - j by omega])
      have ej : (((j + 1 : Nat) : Int) - 1) = (j : Int) := by omega
      rw [ej]
      generalize x / 256 ^ (8 - (j + 1)) = y at *
      simp only [Option.map_some, enc] at hcx hst hBs
      clear ej hown hB
      go_wp2
      go_roundw
      case rel => exact ⟨j, by omega, by go_num, by rw [← HD.out]; first | rfl | go_num, by first | exact hst | simpa using hst, by first | exact hBs | simpa using hBs⟩
      case measure => simp [intOf]

theorem bytesAt_owns {W : World} {base n₀ : Nat} {v : Value} {l : List Nat} (hl : ∀ b ∈ l, b < 256) (hn : W.heap.size ≤ n₀) (h : W.ownsRow base 5 1 v l.length (l.map enc)) : BytesAt n₀ W v l := by
  obtain ⟨_, ⟨rfl, h0⟩ | ⟨g, cap, cur, rfl, hb, hg, h1, h2, h3, h4⟩⟩ := h
  · have : l = [] := by simpa using h0
    subst this
    exact ⟨hl, none, 0, rfl, fun _ => rfl, .inl rfl⟩
  · refine ⟨hl, some ⟨g, 0, none⟩, cap, rfl, fun h => by simp at h, .inr ⟨g, 0, rfl, h1, Nat.lt_of_lt_of_le (Array.getElem?_eq_some_iff.1 hg).1 hn, fun j hj => ?_⟩⟩
    have e : cur.toList[j]? = some (enc l[j]) := by
      have := congrArg (fun t => t[j]?) h4
      simp [hj] at this
      simpa using this
    simp [World.cell?, hg]
    rw [Array.getElem?_toList] at e
    rw [e]
    simp [enc, hj]

theorem owns_le {w : World} {base base' : Nat} {e : TypeId} {size : Nat} {v : Value} {n : Nat} {xs : List Value} (h : w.ownsRow base e size v n xs) (hb : base' ≤ base) : w.ownsRow base' e size v n xs :=
  ⟨h.1, h.2.imp id fun ⟨g, cap, cur, e, hg, r⟩ => ⟨g, cap, cur, e, Nat.le_trans hb hg, r⟩⟩

theorem below_append {w W w1 : World} {n₀ : Nat} {e : TypeId} {size k : Nat} {v : Value} {xs : List Value} (hn : n₀ ≤ w.heap.size) (hB : Below n₀ w W) (hrow : W.ownsRow n₀ e size v k xs) (hgrow : W.grownBy w1 v.ownBlock) : Below n₀ w w1 := by
  have hsz := hB.size
  refine hB.grown hgrow (by omega) fun j ej => ?_
  rcases hrow.2 with ⟨rfl, _⟩ | ⟨g, cap, cur, rfl, hb, _, _⟩
  · simp [Value.ownBlock] at ej
  · obtain rfl : g = j := by simpa [Value.ownBlock] using ej
    exact hb

set_option maxRecDepth 100000 in
/-- num.behind, of some bytes and others behind them -/
theorem behind_some (a : Addr) (len cap : Nat) (bs ms : List Nat) (g m : Nat) (w : World) (hlen : len = bs.length) (hm : ms.length = m) (hb : len ≤ 1000) (hm8 : m ≤ 8)
    (hc : ∀ j u, (bs.map enc)[j]? = some u → w.cell? (a.add j) = some u) (hcm : ∀ j u, (ms.map enc)[j]? = some u → w.cell? ((⟨g, 0, none⟩ : Addr).add j) = some u) :
    Calls Try.prog 44 #[.slice (some a) len cap, .slice (some ⟨g, 0, none⟩) m m] w fun e w' => ∃ v, e = .returned v ∧ w'.ownsRow w.heap.size 5 1 v (len + m) ((bs ++ ms).map enc) ∧ Below w.heap.size w w' := by
  obtain ⟨i0, hi, hz0, hz1, hz2⟩ := info_parts Try.info5
  have hmk : ∀ w : World, (Instr.makeSlice 68 (.int .i64 0) (.int .i64 ((len : Int) + (m : Int)))).run Try.prog w = .ok (.slice (some ⟨w.heap.size, 0, none⟩) 0 (len + m)) (w.alloc (.cells (madeCells #[.int .u8 0] (len + m)) 5)) := fun w => by
    have := run_make (P := Try.prog) w 68 5 i0 (.int .u8 0) Try.underlying68 hi hz0 .i64 .i64 0 ((len : Int) + (m : Int)) (Int.le_refl _) (by omega) (by rw [hz2]; omega) (by omega)
    rw [hz1, show ((len : Int) + (m : Int)).toNat = len + m by omega, Nat.mul_one] at this
    exact this
  have hown : (w.alloc (.cells (madeCells #[.int .u8 0] (len + m)) 5)).ownsRow w.heap.size 5 1 (.slice (some ⟨w.heap.size, 0, none⟩) 0 (len + m)) 0 [] :=
    World.ownsRow_made w _ _ (Nat.le_refl _) (by unfold maxLen; omega) (by rw [size_madeCells, Nat.mul_one])
  have hB0 : Below w.heap.size w (w.alloc (.cells (madeCells #[.int .u8 0] (len + m)) 5)) := (Below.refl _ _).alloc (Nat.le_refl _) _
  have HL : Hid (len = bs.length) := hlen
  have HM : Hid (ms.length = m) := hm
  clear hlen hm
  go_enter Try.func44, Try.ntmps44
  go_wp2_with (first
    | (at_builtin; refine wpList_append_own _ rfl _ _ 68 rfl w.heap.size 5 i0 (.int .u8 0) 1 1 Try.underlying68 hi hz0 hz1 hz2 rfl (by decide) _ 0 [] rfl hown a len cap (bs.map enc) rfl ?c0 ?c1 ?c2 ?c3 ?c4 ?c5 ?_)
    | go_in)
  case c0 => simp [HL.out]
  case c1 =>
    intro j u hj
    have := hc j u hj
    rw [← this]
    exact hB0.cell (World.block_lt_of_cell? w _ this)
  case c2 => intro u hu; simp at hu; obtain ⟨x, _, rfl⟩ := hu; rfl
  case c3 => unfold maxLen; omega
  case c4 => omega
  case c5 => simp
  intro v1 w1 hown1 hgrow1 _
  have hB1 := below_append (Nat.le_refl _) hB0 hown hgrow1
  try rw [Nat.zero_add, List.nil_append] at hown1
  go_wp2_with (first
    | (at_builtin; refine wpList_append_own _ rfl _ _ 68 rfl w.heap.size 5 i0 (.int .u8 0) 1 1 Try.underlying68 hi hz0 hz1 hz2 rfl (by decide) v1 len _ rfl hown1 ⟨g, 0, none⟩ m m (ms.map enc) rfl ?c0 ?c1 ?c2 ?c3 ?c4 ?c5 ?_)
    | go_in)
  case c0 => simp [HM.out]
  case c1 =>
    intro j u hj
    have := hcm j u hj
    rw [← this]
    exact hB1.cell (World.block_lt_of_cell? w _ this)
  case c2 => intro u hu; simp at hu; obtain ⟨x, _, rfl⟩ := hu; rfl
  case c3 => unfold maxLen; omega
  case c4 => omega
  case c5 => exact hB1.size
  intro v2 w2 hown2 hgrow2 _
  have hB2 := below_append (Nat.le_refl _) hB1 hown1 hgrow2
  rw [← List.map_append] at hown2
  go_wp2
  go_ret
  exact ⟨_, rfl, hown2, hB2⟩

set_option maxRecDepth 100000 in
/-- num.behind, of nothing and others behind it -/
theorem behind_none (ms : List Nat) (g m : Nat) (w : World) (hm : ms.length = m) (hm8 : m ≤ 8)
    (hcm : ∀ j u, (ms.map enc)[j]? = some u → w.cell? ((⟨g, 0, none⟩ : Addr).add j) = some u) :
    Calls Try.prog 44 #[.slice none 0 0, .slice (some ⟨g, 0, none⟩) m m] w fun e w' => ∃ v, e = .returned v ∧ w'.ownsRow w.heap.size 5 1 v m (ms.map enc) ∧ Below w.heap.size w w' := by
  obtain ⟨i0, hi, hz0, hz1, hz2⟩ := info_parts Try.info5
  have hmk : ∀ w : World, (Instr.makeSlice 68 (.int .i64 0) (.int .i64 (m : Int))).run Try.prog w = .ok (.slice (some ⟨w.heap.size, 0, none⟩) 0 m) (w.alloc (.cells (madeCells #[.int .u8 0] m) 5)) := fun w => by
    have := run_make (P := Try.prog) w 68 5 i0 (.int .u8 0) Try.underlying68 hi hz0 .i64 .i64 0 (m : Int) (Int.le_refl _) (by omega) (by rw [hz2]; omega) (by omega)
    rw [hz1, show ((m : Int)).toNat = m by omega, Nat.mul_one] at this
    exact this
  have hown : (w.alloc (.cells (madeCells #[.int .u8 0] m) 5)).ownsRow w.heap.size 5 1 (.slice (some ⟨w.heap.size, 0, none⟩) 0 m) 0 [] :=
    World.ownsRow_made w _ _ (Nat.le_refl _) (by unfold maxLen; omega) (by rw [size_madeCells, Nat.mul_one])
  have hB0 : Below w.heap.size w (w.alloc (.cells (madeCells #[.int .u8 0] m) 5)) := (Below.refl _ _).alloc (Nat.le_refl _) _
  have HM : Hid (ms.length = m) := hm
  clear hm
  go_enter Try.func44, Try.ntmps44
  go_wp2_with (first
    | (at_builtin; refine wpList_append_own _ rfl _ _ 68 rfl w.heap.size 5 i0 (.int .u8 0) 1 1 Try.underlying68 hi hz0 hz1 hz2 rfl (by decide) _ 0 [] rfl hown ⟨g, 0, none⟩ m m (ms.map enc) rfl ?c0 ?c1 ?c2 ?c3 ?c4 ?c5 ?_)
    | go_in)
  case c0 => simp [HM.out]
  case c1 =>
    intro j u hj
    have := hcm j u hj
    rw [← this]
    exact hB0.cell (World.block_lt_of_cell? w _ this)
  case c2 => intro u hu; simp at hu; obtain ⟨x, _, rfl⟩ := hu; rfl
  case c3 => unfold maxLen; omega
  case c4 => omega
  case c5 => simp
  intro v2 w2 hown2 hgrow2 _
  have hB2 := below_append (Nat.le_refl _) hB0 hown hgrow2
  try rw [Nat.zero_add, List.nil_append] at hown2
  go_wp2
  go_ret
  exact ⟨_, rfl, hown2, hB2⟩

/-- Cells of a slice of bytes, as a row of values. -/
theorem cells_of {w : World} {b off : Nat} {bs : List Nat} (hc : ∀ j, j < bs.length → w.cell? ⟨b, off + j, none⟩ = some (.int .u8 ((bs[j]?.getD 0 : Nat) : Int))) :
    ∀ j u, (bs.map enc)[j]? = some u → w.cell? ((⟨b, off, none⟩ : Addr).add j) = some u := by
  intro j u hj
  have hl : j < bs.length := by
    rcases Nat.lt_or_ge j bs.length with h | h
    · exact h
    · simp [List.getElem?_eq_none h] at hj
  have hplain : (⟨b, off, none⟩ : Addr).add j = ⟨b, off + j, none⟩ := by unfold Addr.add; split <;> simp_all
  rw [hplain, hc j hl]
  rw [enc_get bs j hl] at hj
  exact hj

set_option maxRecDepth 100000 in
/-- num.behind -/
theorem behind_any (sv : Value) (bs ms : List Nat) (g m : Nat) (w : World) (hm : ms.length = m) (hb : bs.length ≤ 1000) (hm8 : m ≤ 8) (hI : BytesAt w.heap.size w sv bs)
    (hcm : ∀ j u, (ms.map enc)[j]? = some u → w.cell? ((⟨g, 0, none⟩ : Addr).add j) = some u) :
    Calls Try.prog 44 #[sv, .slice (some ⟨g, 0, none⟩) m m] w fun e w' => ∃ v, e = .returned v ∧ w'.ownsRow w.heap.size 5 1 v (bs.length + m) ((bs ++ ms).map enc) ∧ Below w.heap.size w w' := by
  obtain ⟨_, a, cap, rfl, hn, h⟩ := hI
  cases a with
  | none =>
    obtain rfl := hn rfl
    rcases h with rfl | ⟨b, off, e, _⟩
    · have := behind_none ms g m w hm hm8 hcm
      simpa using this
    · simp at e
  | some a =>
    refine behind_some a _ cap bs ms g m w rfl hm hb hm8 ?_ hcm
    rcases h with rfl | ⟨b, off, e, _, _, hc⟩
    · intro j u hj; simp at hj
    · obtain rfl : a = ⟨b, off, none⟩ := by simpa using e
      exact cells_of hc

set_option maxRecDepth 100000 in
/-- num.Put32 -/
theorem put32_any (sv : Value) (bs : List Nat) (y : Nat) (w : World) (hb : bs.length ≤ 1000) (hy : y < 4294967296) (hI : BytesAt w.heap.size w sv bs) :
    Calls Try.prog 38 #[sv, .int .u32 y] w fun e w' => ∃ v, e = .returned v ∧ w'.ownsRow w.heap.size 5 1 v (bs.length + 4) ((bs ++ be 4 y).map enc) ∧ Below w.heap.size w w' := by
  have q : ∀ w1 : World, w1.ownsRow w.heap.size 5 1 (.slice (some ⟨w.heap.size, 0, none⟩) 4 4) 4 ((be 4 y).map enc) → Below w.heap.size w w1 →
      Calls Try.prog 44 #[sv, .slice (some ⟨w.heap.size, 0, none⟩) 4 4] w1 fun e w' => ∃ v, e = .returned v ∧ w'.ownsRow w.heap.size 5 1 v (bs.length + 4) ((bs ++ be 4 y).map enc) ∧ Below w.heap.size w w' := by
    intro w1 ho hB
    refine (behind_any sv bs (be 4 y) w.heap.size 4 w1 (be_length _ _) hb (by omega) ((hI.below hB).mono hB.size) (ho.cells rfl)).mono ?_
    rintro e w' ⟨v, rfl, ho', hB'⟩
    exact ⟨v, rfl, owns_le ho' hB.size, hB.trans (hB'.mono hB.size)⟩
  obtain ⟨_, a, cap, rfl, _, _⟩ := hI
  generalize bs.length = len at *
  go_enter Try.func38, Try.ntmps38
  go_wp2_with (first
    | (go_at_call 46; refine (split32_any y _ hy).mono ?_; rintro e w1 ⟨rfl, ho, hB⟩)
    | (go_at_call 44; refine (q _ ho hB).mono ?_; rintro e w2 ⟨v, rfl, ho', hB'⟩))
  go_ret
  exact ⟨v, rfl, ho', hB'⟩

set_option maxRecDepth 100000 in
/-- num.Put64 -/
theorem put64_any (sv : Value) (bs : List Nat) (y : Nat) (w : World) (hb : bs.length ≤ 1000) (hy : y < 18446744073709551616) (hI : BytesAt w.heap.size w sv bs) :
    Calls Try.prog 37 #[sv, .int .u64 y] w fun e w' => ∃ v, e = .returned v ∧ w'.ownsRow w.heap.size 5 1 v (bs.length + 8) ((bs ++ be 8 y).map enc) ∧ Below w.heap.size w w' := by
  have q : ∀ w1 : World, w1.ownsRow w.heap.size 5 1 (.slice (some ⟨w.heap.size, 0, none⟩) 8 8) 8 ((be 8 y).map enc) → Below w.heap.size w w1 →
      Calls Try.prog 44 #[sv, .slice (some ⟨w.heap.size, 0, none⟩) 8 8] w1 fun e w' => ∃ v, e = .returned v ∧ w'.ownsRow w.heap.size 5 1 v (bs.length + 8) ((bs ++ be 8 y).map enc) ∧ Below w.heap.size w w' := by
    intro w1 ho hB
    refine (behind_any sv bs (be 8 y) w.heap.size 8 w1 (be_length _ _) hb (by omega) ((hI.below hB).mono hB.size) (ho.cells rfl)).mono ?_
    rintro e w' ⟨v, rfl, ho', hB'⟩
    exact ⟨v, rfl, owns_le ho' hB.size, hB.trans (hB'.mono hB.size)⟩
  obtain ⟨_, a, cap, rfl, _, _⟩ := hI
  generalize bs.length = len at *
  go_enter Try.func37, Try.ntmps37
  go_wp2_with (first
    | (go_at_call 45; refine (split64_any y _ hy).mono ?_; rintro e w1 ⟨rfl, ho, hB⟩)
    | (go_at_call 44; refine (q _ ho hB).mono ?_; rintro e w2 ⟨v, rfl, ho', hB'⟩))
  go_ret
  exact ⟨v, rfl, ho', hB'⟩


end Go.Proofs.Ytekjlmnnaaodjaa.Seal
