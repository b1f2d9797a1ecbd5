/-
  Texts of ours, joined: SealF, SealG, SealH, SealI, SealJ, SealK, SealN.
-/
import Derived.Test.YtnbkbakbjllmcaaSeal1
import Derived.Deep.RegionHeld3
import Derived.Stop.BytesEq
import Derived.Lib.Bytes
/-
  Laws on arrays of bytes in a block: stored whole, loaded whole, copied into; and the walk of seal.Put.
-/
namespace Go.Proofs.Ytnbkbakbjllmcaa.Seal
open Go.RowKit
open Math
open Crc

section
variable {ops : Array Oper} {rest : List Oper} {o : Oper} {a : Act} {w : World} {Q : Exit → Act → World → Prop}

set_option maxRecDepth 100000 in
/-- A whole array stored. -/
theorem wpList_store_arr (hgd : o.guard = none) (ty : TypeId) (x y : Operand) (ho : o.op = .store ty x y) (g : Nat) (t : TypeId) (l0 l : List Nat)
    (hx : a.eval x = .pointer (some ⟨g, 0, none⟩)) (hy : a.eval y = arr l) (h0 : Arr w g t l0) (hl : l.length = l0.length) (hi : (Try.prog.info? ty).map (·.size) = some l.length)
    (n : Nat) (w0 : World) (hB : Below n w0 w) (hn : n ≤ g)
    (h : ∀ w', Arr w' g t l → (∀ g' t' l', g' ≠ g → Arr w g' t' l' → Arr w' g' t' l') → w'.heap.size = w.heap.size → Below n w0 w' → wpList Try.prog ops Q rest (a.put o.dst undef) w') : wpList Try.prog ops Q (o :: rest) a w := by
  refine wpList_store_mid hgd ty x y ho g 0 (l.map enc).toArray hx hy ?_ (by simpa using hi) (all_oneCell_toArray (enc_one _)) ?_
  · have := h0.there
    simpa [hl] using this
  · refine h _ (h0.setAll l hl) (fun g' t' l' hne hA => hA.setAll_other h0 l hl hne) ?_ (h0.below_setAll l hl hB hn)
    rw [setCells_row h0 (by simp [hl]) (enc_one l)]
    simp [World.setRow]

theorem splice_map (L l : List Nat) (off : Nat) : splice (L.map enc) off (l.map enc) = (splice L off l).map enc := by
  simp [splice, List.map_take, List.map_drop]
set_option maxRecDepth 100000 in
/-- Bytes copied into an array's block. -/
theorem wpList_copy_arr (hgd : o.guard = none) (d s : Operand) (ho : o.op = .call { callee := .builtin .copy, args := #[d, s], argTypes := #[34, 34] })
    (dp sp : Option Addr) (dLen dCap sLen sCap : Nat) (hd : a.eval d = .slice dp dLen dCap) (hs : a.eval s = .slice sp sLen sCap)
    (g off : Nat) (t : TypeId) (L l : List Nat) (hg : Arr w g t L) (hn : l.length = Nat.min sLen dLen)
    (hpos : 0 < l.length → dp = some ⟨g, off, none⟩ ∧ ∃ ad, sp = some ad ∧ ∀ j v, (l.map enc)[j]? = some v → w.cell? (ad.add j) = some v)
    (hfit : off + l.length ≤ L.length) (B : Nat) (w0 : World) (hb : Below B w0 w) (hBg : B ≤ g)
    (h : ∀ w', Arr w' g t (splice L off l) → Below B w0 w' → wpList Try.prog ops Q rest (a.put o.dst (goInt l.length)) w') : wpList Try.prog ops Q (o :: rest) a w := by
  refine wpList_copy_splice hgd d s 34 34 ho 5 Try.underlying34 Try.size5 dp sp dLen dCap sLen sCap hd hs g off (L.map enc) t hg (l.map enc) (by simpa using hn) (by simpa using hpos) (by simpa using hfit) (enc_one l) B w0 hb hBg ?_
  intro w' hg' hb'
  have hh := hg'.out
  rw [splice_map] at hh
  have := h w' hh hb'
  simpa using this
end
set_option maxRecDepth 100000 in
theorem step_copy_arr {ops : Array Oper} {o : Oper} {a : Act} {w : World} {K : Act → World → Prop} {Q : Exit → Act → World → Prop} {E : Prop} (hgd : o.guard = none) (d s : Operand)
    (ho : o.op = .call { callee := .builtin .copy, args := #[d, s], argTypes := #[34, 34] })
    (dp sp : Option Addr) (dLen dCap sLen sCap : Nat) (hd : a.eval d = .slice dp dLen dCap) (hs : a.eval s = .slice sp sLen sCap)
    (g off : Nat) (t : TypeId) (L l : List Nat) (hg : Arr w g t L) (hn : l.length = Nat.min sLen dLen)
    (hpos : 0 < l.length → dp = some ⟨g, off, none⟩ ∧ ∃ ad, sp = some ad ∧ ∀ j v, (l.map enc)[j]? = some v → w.cell? (ad.add j) = some v)
    (hfit : off + l.length ≤ L.length) (B : Nat) (w0 : World) (hb : Below B w0 w) (hBg : B ≤ g)
    (h : ∀ w', Arr w' g t (splice L off l) → Below B w0 w' → K (a.put o.dst (goInt l.length)) w') :
    if Region.wanted o (yielded ops a.tmps) = true then Oper.wp Try.prog o a w K Q else E := by
  refine step_copy_splice hgd d s 34 34 ho 5 Try.underlying34 Try.size5 dp sp dLen dCap sLen sCap hd hs g off (L.map enc) t hg (l.map enc) (by simpa using hn) (by simpa using hpos) (by simpa using hfit) (enc_one l) B w0 hb hBg ?_
  intro w' hg' hb'
  have hh := hg'.out
  rw [splice_map] at hh
  have := h w' hh hb'
  simpa using this

/-- n noughts -/
def zeros (n : Nat) : List Nat := List.replicate n 0
theorem zeros_length (n : Nat) : (zeros n).length = n := List.length_replicate
theorem madeBytes (n : Nat) : madeCells #[.int .u8 0] n = ((zeros n).map enc).toArray := by
  apply Array.ext
  · simp [madeCells, zeros]
  · intro i h1 h2
    simp [madeCells, enc, zeros, Nat.mod_one]
theorem splice_two (l k : List Nat) (n : Nat) (h : n = l.length + k.length) : splice (splice (zeros n) 0 l) l.length k = l ++ k := by
  subst h
  simp [splice, zeros]

set_option maxRecDepth 100000 in
/-- make([]byte, n) -/
theorem make_bytes (n : Nat) (hn : n ≤ 100000) (w : World) : (Instr.makeSlice 34 (.int .i64 (n : Int)) (.int .i64 (n : Int))).run Try.prog w = .ok (.slice (some ⟨w.heap.size, 0, none⟩) n n) (w.alloc (.cells ((zeros n).map enc).toArray 5)) := by
  obtain ⟨i0, hi, hz0, hz1, hz2⟩ := info_parts Try.info5
  have := run_make (P := Try.prog) w 34 5 i0 (.int .u8 0) Try.underlying34 hi hz0 .i64 .i64 (n : Int) (n : Int) (by omega) (by omega) (by rw [hz2]; omega) (by omega)
  rw [hz1, show ((n : Int)).toNat = n by omega, Nat.mul_one] at this
  rw [← madeBytes]
  exact this
theorem Arr.drew {W : World} {g : Nat} {t : TypeId} {l : List Nat} (h : Arr W g t l) : Arr W.drew g t l := h
/-- An array's bytes, as a slice of it has them. -/
theorem Arr.values {W : World} {g : Nat} {t : TypeId} {l : List Nat} (h : Arr W g t l) : ∀ j u, (l.map enc)[j]? = some u → W.cell? ((⟨g, 0, none⟩ : Addr).add j) = some u := fun j u hj => by
  have := h.range j u hj
  rwa [Addr.add_mid]

/-- Where bytes that came in lie, if there is one. -/
theorem BytesAt.source {n₀ : Nat} {w : World} {sv : Value} {bs : List Nat} (hI : BytesAt n₀ w sv bs) (w' : World) (h : Below n₀ w w') (aa : Option Addr) (n cap : Nat) (e : sv = .slice aa n cap) (hp : 0 < bs.length) :
    ∃ ad, aa = some ad ∧ ∀ j v, (bs.map enc)[j]? = some v → w'.cell? (ad.add j) = some v := by
  subst e
  have hI' := hI.below h
  obtain ⟨_, a', cap', e, _, rfl | ⟨b, off, rfl, _⟩⟩ := hI
  · simp at hp
  · injection e with e1 e2 e3
    subst e1
    exact ⟨_, rfl, hI'.values⟩

set_option maxRecDepth 100000 in
set_option maxHeartbeats 400000 in
/-- seal.Put -/
theorem put_any (sv : Value) (bs : List Nat) (w : World) (hlen : bs.length ≤ 2000) (hI : BytesAt w.heap.size w sv bs) :
    Calls Try.prog 58 #[sv] w fun e w' => ∃ g, e = .returned (.slice (some ⟨g, 0, none⟩) (bs.length + 4) (bs.length + 4)) ∧ w.heap.size ≤ g ∧ Arr w' g 5 (sealed bs) ∧ Below w.heap.size w w' := by
  have q := fun w' (h : Below w.heap.size w w') => sumOf_any sv bs w' (by omega) ((hI.below h).mono h.size)
  have HV0 := hI.source
  obtain ⟨aa, cap, rfl⟩ : ∃ aa cap, sv = .slice aa bs.length cap := by obtain ⟨_, aa, cap, e, _⟩ := hI; exact ⟨aa, cap, e⟩
  have HV : Hid (∀ w', Below w.heap.size w w' → 0 < bs.length → ∃ ad, aa = some ad ∧ ∀ j v, (bs.map enc)[j]? = some v → w'.cell? (ad.add j) = some v) := fun w' h hp => HV0 w' h _ _ _ rfl hp
  clear HV0
  have HS : Hid (sealed bs = bs ++ le4 (more 0 bs)) := rfl
  generalize more 0 bs = m at *
  obtain ⟨len, hl⟩ : ∃ len, bs.length = len := ⟨_, rfl⟩
  have HL : Hid (bs.length = len) := hl
  clear hI
  rw [hl] at hlen q HV ⊢
  clear hl
  have hmk : ∀ w : World, (Instr.makeSlice 34 (.int .i64 ((len : Int) + 4)) (.int .i64 ((len : Int) + 4))).run Try.prog w = .ok (.slice (some ⟨w.heap.size, 0, none⟩) (len + 4) (len + 4)) (w.alloc (.cells ((zeros (len + 4)).map enc).toArray 5)) := fun w => make_bytes (len + 4) (by omega) w
  have hB := Below.refl w.heap.size w
  go_enter Try.func58, Try.ntmps58
  go_wp2_with (first
    | (go_at_call 62; refine (q _ hB).mono ?_; rintro e w1 ⟨rfl, hB1⟩; replace hB := hB.trans hB1)
    | (refine wpList_store_arr rfl 102 _ _ rfl _ 102 [0, 0, 0, 0] (le4 m) rfl rfl (arr_new w1 102 [0, 0, 0, 0]) rfl Try.size102 w.heap.size w (hB.alloc hB.size _) hB.size ?_; intro w2 hA2 _ hz2 hB2; replace hz2 : Hid (w2.heap.size = w1.heap.size + 1) := hz2.trans (by simp); clear hB1 q; replace hB := hB.size)
    | (refine wpList_copy_arr rfl _ _ rfl _ _ _ _ _ _ rfl rfl w2.heap.size 0 5 (zeros (len + 4)) bs (arr_new w2 5 _) (by rw [HL.out]; exact (Nat.min_eq_left (by omega)).symm) (fun hp => ⟨rfl, HV.out _ (hB2.alloc hB2.size _) (by rw [← HL.out]; exact hp)⟩) (by rw [HL.out, zeros_length]; omega) w2.heap.size w2 (below_alloc w2 _) (Nat.le_refl _) ?_; intro w3 hA3 hB3))
  have hA2' := hA2.below hB3 (hA2.lt)
  have hg2 := hB2.size
  replace hB2 := hB2.trans (hB3.mono hB2.size)
  clear hmk hB3 hA2
  have k1 : ¬ (len + 4 = len) := by omega
  have k2 : (len : Int) ≤ (len : Int) + 4 := by omega
  have SF : Hid (len + (le4 m).length ≤ (splice (zeros (len + 4)) 0 bs).length) := by
    show _ ≤ _
    rw [length_splice _ _ _ (by rw [HL.out, zeros_length]; omega), zeros_length, le4_length]
    omega
  go_region_law (refine step_copy_arr rfl (.tmp 17) (.tmp 18) rfl (some ⟨w2.heap.size, len, none⟩) (some ⟨w1.heap.size, 0, none⟩) 4 4 4 4 (by simp [Act.eval, Act.put]) (by simp [Act.eval, Act.put]) w2.heap.size len 5 _ (le4 m) (Arr.drew hA3) rfl (fun _ => ⟨rfl, _, rfl, (Arr.drew hA2').values⟩) SF.out w.heap.size w (hB2.drew) hg2 ?_; intro w4 hA4 hB4)
  go_wp2
  go_ret
  refine ⟨_, rfl, hg2, ?_, hB4⟩
  have e : splice (splice (zeros (len + 4)) 0 bs) len (le4 m) = sealed bs := by
    rw [HS.out, ← splice_two bs (le4 m) (len + 4) (by rw [HL.out, le4_length]), HL.out]
  rwa [e] at hA4

end Go.Proofs.Ytnbkbakbjllmcaa.Seal

/-
  The walk of the document's Put of layer 5.
-/
namespace Go.Proofs.Ytnbkbakbjllmcaa.Seal
open Go.RowKit
open Math
open Crc

theorem lay4_take (k m : Nat) (h : k < 4) : (le4 m).take (k + 1) = (le4 m).take k ++ [m / 256 ^ k % 256] := by
  match k, h with
  | 0, _ => simp [le4]
  | 1, _ => simp [le4]
  | 2, _ => simp [le4]
  | 3, _ => simp [le4]

set_option maxRecDepth 100000 in
set_option maxHeartbeats 800000 in
/-- twainref05.Put, of some bytes -/
theorem refPut5_some (a : Addr) (len cap : Nat) (bs : List Nat) (w : World) (hlen : bs.length = len) (hb : len ≤ 2000) (hI : BytesAt w.heap.size w (.slice (some a) len cap) bs) :
    Calls Try.prog 36 #[.slice (some a) len cap] w fun e w' => ∃ v, e = .returned v ∧ w'.ownsRow w.heap.size 5 1 v (len + 4) ((sealed bs).map enc) ∧ Below w.heap.size w w' := by
  have hm := more_lt (s := 0) (bs := bs) (by omega) hI.1
  have q := fun w' (h : Below w.heap.size w w') => refSum_any (.slice (some a) len cap) bs w' (by omega) ((hI.below h).mono h.size)
  have HC : Hid (∀ j u, (bs.map enc)[j]? = some u → (w.alloc (.cells #[] 5)).cell? (a.add j) = some u) := (hI.below (below_alloc w _)).values
  have HS : Hid (sealed bs = bs ++ le4 (more 0 bs)) := rfl
  generalize more 0 bs = m at *
  obtain ⟨i0, hi, hz0, hz1, hz2⟩ := info_parts Try.info5
  have HL : Hid (bs.length = len) := hlen
  clear hlen hI
  have hown0 : (w.alloc (.cells #[] 5)).ownsRow w.heap.size 5 1 (.slice (some ⟨w.heap.size, 0, none⟩) 0 0) 0 [] := World.ownsRow_made w _ 0 (Nat.le_refl _) (by decide) rfl
  have hB0 : Below w.heap.size w (w.alloc (.cells #[] 5)) := below_alloc w _
  go_enter Try.func36, Try.ntmps36
  go_wp2_with (first
    | (at_builtin; refine wpList_append_own _ rfl _ _ 34 rfl w.heap.size 5 i0 (.int .u8 0) 1 1 Try.underlying34 hi hz0 hz1 hz2 rfl (by decide) _ 0 [] rfl hown0 a len cap (bs.map enc) rfl ?c0 ?c1 ?c2 ?c3 ?c4 ?c5 ?_)
    | go_in)
  case c0 => simp [HL.out]
  case c1 => exact HC.out
  case c2 => exact enc_one bs
  case c3 => unfold maxLen; omega
  case c4 => omega
  case c5 => simp
  intro v1 w1 hown1 hgrow1 _
  have hB1 := below_append (Nat.le_refl _) hB0 hown0 hgrow1
  try rw [Nat.zero_add, List.nil_append] at hown1
  clear hown0 hB0 hgrow1 HC
  go_wp2_with (go_at_call 57; refine (q _ hB1).mono ?_; rintro e w1 ⟨rfl, rfl⟩)
  clear q
  go_loopw [3, 4, 5] (fun v s i wr => ∃ k : Nat, k ≤ 4 ∧ i = .int .i64 k ∧ s = .int .u32 ((m / 256 ^ k : Nat) : Int) ∧ wr.ownsRow w.heap.size 5 1 v (len + k) ((bs ++ (le4 m).take k).map enc) ∧ Below w.heap.size w wr) (fun _ _ i _ => 4 - (intOf i).toNat)
  case atStart => exact ⟨0, by omega, rfl, by simp, by simpa using hown1, hB1⟩
  case round =>
    obtain ⟨k, hk, rfl, rfl, hown, hB⟩ := hrel
    clear hown1 hB1
    by_cases hlt : k < 4
    · have hy : m / 256 ^ k < 4294967296 := Nat.lt_of_le_of_lt (Nat.div_le_self _ _) hm
      have HD : Hid (m / 256 ^ k / 256 = m / 256 ^ (k + 1)) := div_pow_succ _ _
      have HT : Hid ((le4 m).take (k + 1) = (le4 m).take k ++ [m / 256 ^ k % 256]) := lay4_take k m hlt
      generalize m / 256 ^ k = y at *
      go_wp2_with (first
        | (at_builtin; refine wpList_append_own _ rfl _ _ 34 rfl w.heap.size 5 i0 (.int .u8 0) 1 1 Try.underlying34 hi hz0 hz1 hz2 rfl (by decide) _ _ _ rfl (hown.alloc _) ⟨World.heap _ |>.size, 0, none⟩ 1 1 [.int .u8 ((y : Int) % 256)] rfl rfl ?c1 ?c2 ?c3 ?c4 ?c5 ?_)
        | go_in)
      case c1 => exact cell_one_new _ _ _
      case c2 => intro u hu; simp at hu; subst hu; rfl
      case c3 => unfold maxLen; omega
      case c4 => omega
      case c5 => have := hB.size; simp; omega
      intro v' w1 hown' hgrow _
      have hB' := below_append (Nat.le_refl _) (hB.alloc hB.size _) (hown.alloc _) hgrow
      have hr1 : w1.ownsRow w.heap.size 5 1 v' (len + (k + 1)) ((bs ++ (le4 m).take (k + 1)).map enc) := by
        rw [HT.out, List.map_append, List.map_append, List.map_take]; exact hown'
      clear hown' hgrow hown hB
      go_wp2
      go_roundw
      case rel => exact ⟨k + 1, by omega, by go_num, by rw [← HD.out]; first | rfl | go_num, hr1, hB'⟩
      case measure => simp [intOf] <;> omega
    · obtain rfl : k = 4 := by omega
      go_wp2
      go_ret
      exact ⟨_, rfl, by rw [HS.out]; exact hown, hB⟩

set_option maxRecDepth 100000 in
set_option maxHeartbeats 800000 in
/-- twainref05.Put, of nothing -/
theorem refPut5_none (w : World) :
    Calls Try.prog 36 #[.slice none 0 0] w fun e w' => ∃ v, e = .returned v ∧ w'.ownsRow w.heap.size 5 1 v 4 ((sealed []).map enc) ∧ Below w.heap.size w w' := by
  have hI : BytesAt w.heap.size w (.slice none 0 0) [] := ⟨by simp, none, 0, rfl, fun _ => rfl, .inl rfl⟩
  have hm := more_lt (s := 0) (bs := []) (by omega) hI.1
  have q := fun w' (h : Below w.heap.size w w') => refSum_any (.slice none 0 0) [] w' (by simp) ((hI.below h).mono h.size)
  have HS : Hid (sealed [] = le4 (more 0 [])) := rfl
  generalize more 0 [] = m at *
  obtain ⟨i0, hi, hz0, hz1, hz2⟩ := info_parts Try.info5
  clear hI
  have hown1 : (w.alloc (.cells #[] 5)).ownsRow w.heap.size 5 1 (.slice (some ⟨w.heap.size, 0, none⟩) 0 0) 0 [] := World.ownsRow_made w _ 0 (Nat.le_refl _) (by decide) rfl
  have hB1 : Below w.heap.size w (w.alloc (.cells #[] 5)) := below_alloc w _
  go_enter Try.func36, Try.ntmps36
  go_wp2_with (go_at_call 57; refine (q _ hB1).mono ?_; rintro e w1 ⟨rfl, rfl⟩)
  clear q
  go_loopw [3, 4, 5] (fun v s i wr => ∃ k : Nat, k ≤ 4 ∧ i = .int .i64 k ∧ s = .int .u32 ((m / 256 ^ k : Nat) : Int) ∧ wr.ownsRow w.heap.size 5 1 v k (((le4 m).take k).map enc) ∧ Below w.heap.size w wr) (fun _ _ i _ => 4 - (intOf i).toNat)
  case atStart => exact ⟨0, by omega, rfl, by simp, by simpa using hown1, hB1⟩
  case round =>
    obtain ⟨k, hk, rfl, rfl, hown, hB⟩ := hrel
    clear hown1 hB1
    by_cases hlt : k < 4
    · have hy : m / 256 ^ k < 4294967296 := Nat.lt_of_le_of_lt (Nat.div_le_self _ _) hm
      have HD : Hid (m / 256 ^ k / 256 = m / 256 ^ (k + 1)) := div_pow_succ _ _
      have HT : Hid ((le4 m).take (k + 1) = (le4 m).take k ++ [m / 256 ^ k % 256]) := lay4_take k m hlt
      generalize m / 256 ^ k = y at *
      go_wp2_with (first
        | (at_builtin; refine wpList_append_own _ rfl _ _ 34 rfl w.heap.size 5 i0 (.int .u8 0) 1 1 Try.underlying34 hi hz0 hz1 hz2 rfl (by decide) _ _ _ rfl (hown.alloc _) ⟨World.heap _ |>.size, 0, none⟩ 1 1 [.int .u8 ((y : Int) % 256)] rfl rfl ?c1 ?c2 ?c3 ?c4 ?c5 ?_)
        | go_in)
      case c1 => exact cell_one_new _ _ _
      case c2 => intro u hu; simp at hu; subst hu; rfl
      case c3 => unfold maxLen; omega
      case c4 => omega
      case c5 => have := hB.size; simp; omega
      intro v' w1 hown' hgrow _
      have hB' := below_append (Nat.le_refl _) (hB.alloc hB.size _) (hown.alloc _) hgrow
      have hr1 : w1.ownsRow w.heap.size 5 1 v' (k + 1) (((le4 m).take (k + 1)).map enc) := by
        rw [HT.out, List.map_append, List.map_take]; exact hown'
      clear hown' hgrow hown hB
      go_wp2
      go_roundw
      case rel => exact ⟨k + 1, by omega, by go_num, by rw [← HD.out]; first | rfl | go_num, hr1, hB'⟩
      case measure => simp [intOf] <;> omega
    · obtain rfl : k = 4 := by omega
      go_wp2
      go_ret
      exact ⟨_, rfl, by rw [HS.out]; exact hown, hB⟩

set_option maxRecDepth 100000 in
/-- twainref05.Put -/
theorem refPut5_any (sv : Value) (bs : List Nat) (w : World) (hb : bs.length ≤ 2000) (hI : BytesAt w.heap.size w sv bs) :
    Calls Try.prog 36 #[sv] w fun e w' => ∃ v, e = .returned v ∧ w'.ownsRow w.heap.size 5 1 v (bs.length + 4) ((sealed bs).map enc) ∧ Below w.heap.size w w' := by
  obtain ⟨_, a, cap, rfl, hn, h⟩ := id hI
  cases a with
  | none =>
    obtain rfl := hn rfl
    rcases h with rfl | ⟨b, off, e, _⟩
    · exact refPut5_none w
    · simp at e
  | some a => exact refPut5_some a _ cap bs w rfl hb hI

end Go.Proofs.Ytnbkbakbjllmcaa.Seal

/-
  The walks of seal.Record and of the document's Record.
-/
namespace Go.Proofs.Ytnbkbakbjllmcaa.Seal
open Go.RowKit
open Math
open Crc


theorem splice_all (L l : List Nat) (h : l.length = L.length) : splice L 0 l = l := by
  simp [splice, h]


/-- The first k bytes laid over noughts. -/
def over (l : List Nat) (k : Nat) : List Nat := l.take k ++ zeros (l.length - k)

end Go.Proofs.Ytnbkbakbjllmcaa.Seal

/-
  Arrays of bytes compared; the walk of seal.Get.
-/
namespace Go.Proofs.Ytnbkbakbjllmcaa.Seal
open Go.RowKit
open Math
open Crc

/-- Bytes of ours are those of the library's law on arrays compared. -/
theorem enc_cells (l : List Nat) (h : ∀ b ∈ l, b < 256) : l.map enc = (l.map UInt8.ofNat).map Extern.Stop.cell := by
  rw [List.map_map]
  refine List.map_congr_left fun b hb => ?_
  have := h b hb
  simp [enc, Extern.Stop.cell]
  omega
theorem ofNat_inj : ∀ (l k : List Nat), (∀ b ∈ l, b < 256) → (∀ b ∈ k, b < 256) → l.map UInt8.ofNat = k.map UInt8.ofNat → l = k
  | [], [], _, _, _ => rfl
  | x :: l, y :: k, hl, hk, e => by
    rw [List.map_cons, List.map_cons] at e
    injection e with e1 e2
    have hx := hl x (by simp)
    have hy := hk y (by simp)
    have e3 := congrArg UInt8.toNat e1
    simp at e3
    rw [Nat.mod_eq_of_lt hx, Nat.mod_eq_of_lt hy] at e3
    rw [e3, ofNat_inj l k (fun b hb => hl b (by simp [hb])) (fun b hb => hk b (by simp [hb])) e2]
  | [], _ :: _, _, _, e => by simp at e
  | _ :: _, [], _, _, e => by simp at e
set_option maxRecDepth 100000 in
theorem eql_arr (t : TypeId) (n : Nat) (ht : Try.prog.underlying t = some (.array n 5)) (l k : List Nat) (hl : l.length = n) (hk : k.length = n) (bl : ∀ b ∈ l, b < 256) (bk : ∀ b ∈ k, b < 256) (w : World) :
    (Op.equalIn 10000 t (arr l) (arr k)).run Try.prog w = .ok (decide (l = k)) w := by
  have := run_equalIn_bytes (P := Try.prog) w 9998 t 5 n ht Try.underlying5 Try.sizeOf5 (l.map UInt8.ofNat) (k.map UInt8.ofNat) (by simpa using hl) (by simpa using hk)
  unfold arr
  rw [enc_cells l bl, enc_cells k bk, this]
  congr 1
  rw [Bool.eq_iff_iff]
  simp only [beq_iff_eq, decide_eq_true_eq]
  exact ⟨ofNat_inj l k bl bk, fun e => by rw [e]⟩
set_option maxRecDepth 100000 in
theorem neq_arr (t : TypeId) (n : Nat) (ht : Try.prog.underlying t = some (.array n 5)) (l k : List Nat) (hl : l.length = n) (hk : k.length = n) (bl : ∀ b ∈ l, b < 256) (bk : ∀ b ∈ k, b < 256) (w : World) :
    (binOp .neq t (arr l) (arr k)).run Try.prog w = .ok (.bool (!decide (l = k))) w := by
  have := eql_arr t n ht l k hl hk bl bk w
  unfold arr at *
  rw [run_neq_struct, this]
  rfl
set_option maxRecDepth 100000 in
theorem guard102 (op : BinOp) (x y : Operand) (l k : List Nat) (w : World) : (eqGuard op 102 x y (arr l) (arr k)).run Try.prog w = .ok () w := run_eqGuard_agg w op 102 x y _ _ Try.eqGuardType102
/-- The last four of some bytes, in memory. -/
def Tail (W : World) (b q : Nat) (c0 c1 c2 c3 : Nat) : Prop :=
  W.cell? ⟨b, q, none⟩ = some (.int .u8 (c0 : Int)) ∧ W.cell? ⟨b, q + 1, none⟩ = some (.int .u8 (c1 : Int)) ∧ W.cell? ⟨b, q + 2, none⟩ = some (.int .u8 (c2 : Int)) ∧ W.cell? ⟨b, q + 3, none⟩ = some (.int .u8 (c3 : Int))

/-- Bytes of which four stand behind others. -/
theorem BytesAt.tail {n₀ : Nat} {W : World} {b off cap p : Nat} {ps : List Nat} {c0 c1 c2 c3 : Nat} (hp : ps.length = p) (hI : BytesAt n₀ W (.slice (some ⟨b, off, none⟩) (p + 4) cap) (ps ++ [c0, c1, c2, c3])) :
    Tail W b (off + p) c0 c1 c2 c3 ∧ BytesAt n₀ W (.slice (some ⟨b, off, none⟩) p cap) ps ∧ p + 4 ≤ cap ∧ (c0 < 256 ∧ c1 < 256 ∧ c2 < 256 ∧ c3 < 256) := by
  subst hp
  obtain ⟨hb, a, cap', e, hn, h | ⟨b', off', e2, hl, hb', hc⟩⟩ := hI
  · simp at h
  · injection e with e1 e3 e4
    subst e1
    subst e4
    injection e2 with e2
    injection e2 with e5 e6
    subst e5
    subst e6
    simp only [List.length_append, List.length_cons, List.length_nil] at hl hc
    refine ⟨⟨?_, ?_, ?_, ?_⟩, ⟨fun c hm => hb c (by simp [hm]), _, _, rfl, fun h => by simp at h, .inr ⟨b, off, rfl, by omega, hb', fun j hj => ?_⟩⟩, by omega, hb c0 (by simp), hb c1 (by simp), hb c2 (by simp), hb c3 (by simp)⟩
    · have := hc ps.length (by omega)
      simpa using this
    · have := hc (ps.length + 1) (by omega)
      simpa [Nat.add_assoc] using this
    · have := hc (ps.length + 2) (by omega)
      simpa [Nat.add_assoc] using this
    · have := hc (ps.length + 3) (by omega)
      simpa [Nat.add_assoc] using this
    · have := hc j (by omega)
      rw [List.getElem?_append_left hj] at this
      exact this

set_option maxRecDepth 100000 in
theorem arrayAt102 (b o cap : Nat) (w : World) : (Instr.arrayAt 102 (.slice (some ⟨b, o, none⟩) 4 cap)).run Try.prog w = .ok (.pointer (some ⟨b, o, none⟩)) w := by
  simp [Instr.arrayAt]

/-- An array's bytes, as bytes. -/
theorem Arr.bytes {W : World} {g t n : Nat} {l : List Nat} (h : Arr W g t l) (hl : ∀ c ∈ l, c < 256) (hn : l.length = n) (cap : Nat := n) (hc : n ≤ cap := by exact Nat.le_refl _) : BytesAt W.heap.size W (.slice (some ⟨g, 0, none⟩) n cap) l := by
  subst hn
  refine ⟨hl, _, _, rfl, fun h => by simp at h, .inr ⟨g, 0, rfl, hc, h.lt, fun j hj => ?_⟩⟩
  rw [Nat.zero_add]
  exact h.cell j hj

set_option maxRecDepth 100000 in
set_option maxHeartbeats 400000 in
/-- seal.Get, of bytes whose last four are the sum of those ahead -/
theorem get_sealed (b off cap p : Nat) (ps : List Nat) (c0 c1 c2 c3 : Nat) (w : World) (hp : ps.length = p) (hp2 : p ≤ 2000) (hI : BytesAt w.heap.size w (.slice (some ⟨b, off, none⟩) (p + 4) cap) (ps ++ [c0, c1, c2, c3]))
    (he : [c0, c1, c2, c3] = le4 (more 0 ps)) :
    Calls Try.prog 51 #[.slice (some ⟨b, off, none⟩) (p + 4) cap] w fun e w' => ∃ v, e = .returned (.tuple #[v, .int .i64 0]) ∧ BytesAt w'.heap.size w' v ps ∧ Below w.heap.size w w' := by
  obtain ⟨-, hJ, hcap, hc0, hc1, hc2, hc3⟩ := hI.tail hp
  have HT : Hid (∀ W, Below w.heap.size w W → Tail W b (off + p) c0 c1 c2 c3) := fun W h => ((hI.below h).tail hp).1
  have q := fun w' (h : Below w.heap.size w w') => sumOf_any (.slice (some ⟨b, off, none⟩) p cap) ps w' (by omega) ((hJ.below h).mono h.size)
  have hbm := le4_byte (more 0 ps)
  have hq : ∀ w : World, (binOp .neq 102 (.agg #[.int .u8 (c0 : Int), .int .u8 (c1 : Int), .int .u8 (c2 : Int), .int .u8 (c3 : Int)]) (arr (le4 (more 0 ps)))).run Try.prog w = .ok (.bool false) w := fun w => by
    have := neq_arr 102 4 Try.underlying102 [c0, c1, c2, c3] (le4 (more 0 ps)) rfl rfl (by rw [he]; exact hbm) hbm w
    rw [decide_eq_true he] at this
    exact this
  have hgd : ∀ (x y : Operand) (w : World), (eqGuard .neq 102 x y (.agg #[.int .u8 (c0 : Int), .int .u8 (c1 : Int), .int .u8 (c2 : Int), .int .u8 (c3 : Int)]) (arr (le4 (more 0 ps)))).run Try.prog w = .ok () w := fun x y w => guard102 .neq x y [c0, c1, c2, c3] _ w
  generalize more 0 ps = m at *
  have HV : Hid (∀ W, Below w.heap.size w W → ∀ j u, (ps.map enc)[j]? = some u → W.cell? ((⟨b, off, none⟩ : Addr).add j) = some u) := fun W h => (hJ.below h).values
  have HP : Hid (ps.length = p) := hp
  have HB : Hid (∀ c ∈ ps, c < 256) := hJ.1
  clear hI hJ hp he hbm
  have k1 : ¬ (cap = p) := by omega
  have k2 : (p : Int) ≤ (cap : Int) := by omega
  have k3 : (p : Int) ≤ (p : Int) + 4 := by omega
  have hB := (Below.refl w.heap.size w).drew
  have hmk := fun w => make_bytes p (by omega) w
  have hat := fun w => arrayAt102 b (off + p) (cap - p) w
  go_enter Try.func51, Try.ntmps51
  go_wp2_with fail
  go_region_held3 (fun W => W.cell? ⟨b, off + p, none⟩ = some (.int .u8 (c0 : Int)) ∧ W.cell? ⟨b, off + p + 1, none⟩ = some (.int .u8 (c1 : Int)) ∧ W.cell? ⟨b, off + p + 2, none⟩ = some (.int .u8 (c2 : Int)) ∧ W.cell? ⟨b, off + p + 3, none⟩ = some (.int .u8 (c3 : Int))) (exact HT.out _ hB) (first
    | (go_at_call 62; refine (q _ hB).mono ?_; rintro e w1 ⟨rfl, hB1⟩; replace hB := hB.trans (hB1.mono hB.size)))
  all_goals
    go_wp2_with (first
      | (refine wpList_copy_arr rfl _ _ rfl _ _ _ _ _ _ rfl rfl w1.heap.size 0 5 (zeros p) ps (arr_new w1 5 _) (by rw [HP.out]; exact (Nat.min_eq_right (by omega)).symm) (fun _ => ⟨rfl, _, rfl, HV.out _ (hB.alloc hB.size _)⟩) (by rw [HP.out, zeros_length]; omega) w1.heap.size w1 (below_alloc w1 _) (Nat.le_refl _) ?_; intro w3 hA3 hB3))
    go_ret2
    rw [splice_all _ _ (by rw [HP.out, zeros_length])] at hA3
    refine ⟨_, rfl, ?_, hB.trans (hB3.mono hB.size)⟩
    exact hA3.bytes HB.out HP.out

set_option maxRecDepth 100000 in
set_option maxHeartbeats 400000 in
/-- seal.Get, of bytes whose last four are not the sum of those ahead -/
theorem get_torn (b off cap p : Nat) (ps : List Nat) (c0 c1 c2 c3 : Nat) (w : World) (hp : ps.length = p) (hp2 : p ≤ 2000) (hI : BytesAt w.heap.size w (.slice (some ⟨b, off, none⟩) (p + 4) cap) (ps ++ [c0, c1, c2, c3]))
    (he : [c0, c1, c2, c3] ≠ le4 (more 0 ps)) :
    Calls Try.prog 51 #[.slice (some ⟨b, off, none⟩) (p + 4) cap] w fun e w' => e = .returned (.tuple #[.slice none 0 0, .int .i64 10]) ∧ Below w.heap.size w w' := by
  obtain ⟨-, hJ, hcap, hc0, hc1, hc2, hc3⟩ := hI.tail hp
  have HT : Hid (∀ W, Below w.heap.size w W → Tail W b (off + p) c0 c1 c2 c3) := fun W h => ((hI.below h).tail hp).1
  have q := fun w' (h : Below w.heap.size w w') => sumOf_any (.slice (some ⟨b, off, none⟩) p cap) ps w' (by omega) ((hJ.below h).mono h.size)
  have hbm := le4_byte (more 0 ps)
  have hq : ∀ w : World, (binOp .neq 102 (.agg #[.int .u8 (c0 : Int), .int .u8 (c1 : Int), .int .u8 (c2 : Int), .int .u8 (c3 : Int)]) (arr (le4 (more 0 ps)))).run Try.prog w = .ok (.bool true) w := fun w => by
    have := neq_arr 102 4 Try.underlying102 [c0, c1, c2, c3] (le4 (more 0 ps)) rfl rfl (by intro b hb; simp only [List.mem_cons, List.not_mem_nil, or_false] at hb; omega) hbm w
    rw [decide_eq_false he] at this
    exact this
  have hgd : ∀ (x y : Operand) (w : World), (eqGuard .neq 102 x y (.agg #[.int .u8 (c0 : Int), .int .u8 (c1 : Int), .int .u8 (c2 : Int), .int .u8 (c3 : Int)]) (arr (le4 (more 0 ps)))).run Try.prog w = .ok () w := fun x y w => guard102 .neq x y [c0, c1, c2, c3] _ w
  generalize more 0 ps = m at *
  clear hI hJ hp he hbm
  have k1 : ¬ (cap = p) := by omega
  have k2 : (p : Int) ≤ (cap : Int) := by omega
  have k3 : (p : Int) ≤ (p : Int) + 4 := by omega
  have hB := (Below.refl w.heap.size w).drew
  have hat := fun w => arrayAt102 b (off + p) (cap - p) w
  go_enter Try.func51, Try.ntmps51
  go_wp2_with fail
  go_region_held3 (fun W => W.cell? ⟨b, off + p, none⟩ = some (.int .u8 (c0 : Int)) ∧ W.cell? ⟨b, off + p + 1, none⟩ = some (.int .u8 (c1 : Int)) ∧ W.cell? ⟨b, off + p + 2, none⟩ = some (.int .u8 (c2 : Int)) ∧ W.cell? ⟨b, off + p + 3, none⟩ = some (.int .u8 (c3 : Int))) (exact HT.out _ hB) (first
    | (go_at_call 62; refine (q _ hB).mono ?_; rintro e w1 ⟨rfl, hB1⟩; replace hB := hB.trans (hB1.mono hB.size)))
  all_goals
    go_wp2
    go_ret2
    exact ⟨rfl, hB⟩

/-- What Get tells of some bytes. -/
def gotE (bs : List Nat) : Nat := if bs.length < 4 then 8 else if sealed (bs.take (bs.length - 4)) = bs then 0 else 10
def gotL (bs : List Nat) : List Nat := if bs.length < 4 then [] else if sealed (bs.take (bs.length - 4)) = bs then bs.take (bs.length - 4) else []

theorem four_of (l : List Nat) (h : l.length = 4) : ∃ c0 c1 c2 c3, l = [c0, c1, c2, c3] := by
  match l, h with
  | [c0, c1, c2, c3], _ => exact ⟨c0, c1, c2, c3, rfl⟩

set_option maxRecDepth 100000 in
/-- seal.Get -/
theorem get_any (sv : Value) (bs : List Nat) (w : World) (hlen : bs.length ≤ 2004) (hI : BytesAt w.heap.size w sv bs) :
    Calls Try.prog 51 #[sv] w fun e w' => ∃ v, e = .returned (.tuple #[v, .int .i64 (gotE bs : Nat)]) ∧ BytesAt w'.heap.size w' v (gotL bs) ∧ Below w.heap.size w w' := by
  by_cases hs : bs.length < 4
  · have e1 : gotE bs = 8 := if_pos hs
    have e2 : gotL bs = [] := if_pos hs
    rw [e1, e2]
    have hN : BytesAt w.heap.size w (.slice none 0 0) [] := ⟨by simp, none, 0, rfl, fun _ => rfl, .inl rfl⟩
    obtain ⟨_, a, cap, rfl, _⟩ := hI
    generalize bs.length = len at *
    have k1 : (len : Int) < 4 := by omega
    go_enter Try.func51, Try.ntmps51
    go_wp2
    go_ret2
    exact ⟨_, rfl, hN, Below.refl _ _⟩
  · obtain ⟨c0, c1, c2, c3, hc⟩ := four_of (bs.drop (bs.length - 4)) (by simp; omega)
    obtain ⟨p, hp⟩ : ∃ p, bs.length = p + 4 := ⟨bs.length - 4, by omega⟩
    have hbs : bs = bs.take p ++ [c0, c1, c2, c3] := by
      have := List.take_append_drop (bs.length - 4) bs
      rw [hc, show bs.length - 4 = p by omega] at this
      exact this.symm
    have hpl : (bs.take p).length = p := by simp; omega
    have e1 : gotE bs = if sealed (bs.take p) = bs then 0 else 10 := by unfold gotE; rw [if_neg hs, show bs.length - 4 = p by omega]
    have e2 : gotL bs = if sealed (bs.take p) = bs then bs.take p else [] := by unfold gotL; rw [if_neg hs, show bs.length - 4 = p by omega]
    obtain ⟨b, off, cap, rfl⟩ : ∃ b off cap, sv = .slice (some ⟨b, off, none⟩) (p + 4) cap := by
      obtain ⟨_, a, cap, e, _, rfl | ⟨b, off, e2, _⟩⟩ := hI
      · simp at hs
      · exact ⟨b, off, cap, by rw [e, e2, hp]⟩
    have hiff : sealed (bs.take p) = bs ↔ [c0, c1, c2, c3] = le4 (more 0 (bs.take p)) := by
      constructor
      · intro h
        rw [sealed] at h
        conv at h => rhs; rw [hbs]
        exact (List.append_cancel_left h).symm
      · intro h
        rw [sealed, ← h]
        exact hbs.symm
    rw [e1, e2]
    have hI2 := hI
    rw [hbs] at hI2
    by_cases hq : sealed (bs.take p) = bs
    · rw [if_pos hq, if_pos hq]
      exact get_sealed b off cap p (bs.take p) c0 c1 c2 c3 w hpl (by omega) hI2 (hiff.1 hq)
    · rw [if_neg hq, if_neg hq]
      refine (get_torn b off cap p (bs.take p) c0 c1 c2 c3 w hpl (by omega) hI2 (fun h => hq (hiff.2 h))).mono ?_
      rintro e w' ⟨rfl, hB⟩
      exact ⟨_, rfl, ⟨by simp, none, 0, rfl, fun _ => rfl, .inl rfl⟩, hB⟩

end Go.Proofs.Ytnbkbakbjllmcaa.Seal

/-
  The walk of the document's Get of layer 5.
-/
namespace Go.Proofs.Ytnbkbakbjllmcaa.Seal
open Go.RowKit
open Math
open Crc

/-- Some bytes' text. -/
def txt (l : List Nat) : ByteArray := strOfNums (l.map Int.ofNat)
set_option maxRecDepth 100000 in
theorem conv_txt {W : World} {v : Value} {l : List Nat} {n₀ : Nat} (h : BytesAt n₀ W v l) : (convert 34 9 v).run Try.prog W = .ok (.string (txt l)) W := conv_bytes h

end Go.Proofs.Ytnbkbakbjllmcaa.Seal

/-
  The walks of seal.Open and of the document's Open.
-/
namespace Go.Proofs.Ytnbkbakbjllmcaa.Seal
open Go.RowKit
open Math
open Crc





end Go.Proofs.Ytnbkbakbjllmcaa.Seal

/-
  Plain facts of the law SealBack: what is sealed is got, and with some bytes within four side by side turned it is not.
-/
namespace Go.Proofs.Ytnbkbakbjllmcaa.Seal
open Go.RowKit
open Math
open Crc
namespace sealBack

/-- The first k bytes of e, lowest first, xored to those from place p on. -/
def turn (e p : Nat) : Nat → List Nat → List Nat
  | 0, l => l
  | k + 1, l => (turn e p k l).set (p + k) ((turn e p k l)[p + k]?.getD 0 ^^^ (e / 256 ^ k % 256))








/-- What Get tells of sealed bytes, and of turned ones. -/
theorem got_len (bs : List Nat) : (sealed bs).take ((sealed bs).length - 4) = bs := by
  rw [sealed_length, Nat.add_sub_cancel, sealed]
  simp
theorem gotE_sealed (bs : List Nat) : gotE (sealed bs) = 0 := by
  unfold gotE
  rw [got_len, if_pos rfl, if_neg (by rw [sealed_length]; omega)]
theorem gotL_sealed (bs : List Nat) : gotL (sealed bs) = bs := by
  unfold gotL
  rw [got_len, if_pos rfl, if_neg (by rw [sealed_length]; omega)]


end sealBack
end Go.Proofs.Ytnbkbakbjllmcaa.Seal

