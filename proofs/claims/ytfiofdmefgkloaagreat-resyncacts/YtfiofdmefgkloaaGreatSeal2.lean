/-
  Texts of ours, joined: SealF, SealG, SealH, SealI, SealJ, SealK, SealN.
-/
import Derived.Test.YtfiofdmefgkloaaGreatSeal1
import Derived.Deep.RegionHeld3
import Derived.Stop.BytesEq
import Derived.Lib.Bytes
/-
  Laws on arrays of bytes in a block: stored whole, loaded whole, copied into; and the walk of seal.Put.
-/
namespace Go.Proofs.YtfiofdmefgkloaaGreat.Seal
open Go.RowKit
open Math
open Crc

section
variable {ops : Array Oper} {rest : List Oper} {o : Oper} {a : Act} {w : World} {Q : Exit → Act → World → Prop}

set_option maxRecDepth 100000 in
/-- A whole array stored. -/
theorem wpList_store_arr (hgd : o.guard = none) (ty : TypeId) (x y : Operand) (ho : o.op = .store ty x y) (g : Nat) (t : TypeId) (l0 l : List Nat)
    (hx : a.eval x = .pointer (some ⟨g, 0, none⟩)) (hy : a.eval y = arr l) (h0 : Arr w g t l0) (hl : l.length = l0.length) (hi : (Tryz.prog.info? ty).map (·.size) = some l.length)
    (n : Nat) (w0 : World) (hB : Below n w0 w) (hn : n ≤ g)
    (h : ∀ w', Arr w' g t l → (∀ g' t' l', g' ≠ g → Arr w g' t' l' → Arr w' g' t' l') → w'.heap.size = w.heap.size → Below n w0 w' → wpList Tryz.prog ops Q rest (a.put o.dst undef) w') : wpList Tryz.prog ops Q (o :: rest) a w := by
  refine wpList_store_mid hgd ty x y ho g 0 (l.map enc).toArray hx hy ?_ (by simpa using hi) (all_oneCell_toArray (enc_one _)) ?_
  · have := h0.there
    simpa [hl] using this
  · refine h _ (h0.setAll l hl) (fun g' t' l' hne hA => hA.setAll_other h0 l hl hne) ?_ (h0.below_setAll l hl hB hn)
    rw [setCells_row h0 (by simp [hl]) (enc_one l)]
    simp [World.setRow]
set_option maxRecDepth 100000 in
/-- A whole array loaded. -/
theorem wpList_load_arr (hgd : o.guard = none) (ty : TypeId) (x : Operand) (ho : o.op = .load ty x) (g : Nat) (t : TypeId) (l : List Nat)
    (hx : a.eval x = .pointer (some ⟨g, 0, none⟩)) (h0 : Arr w g t l) (m : Nat) (e : TypeId) (hu : Tryz.prog.underlying ty = some (.array m e)) (hi : (Tryz.prog.info? ty).map (·.size) = some l.length)
    (h : wpList Tryz.prog ops Q rest (a.put o.dst (arr l)) w) : wpList Tryz.prog ops Q (o :: rest) a w :=
  wpList_load_mid hgd ty x ho g 0 hx (l.map enc) _ h0.range hu rfl (by simpa using hi) h

theorem splice_map (L l : List Nat) (off : Nat) : splice (L.map enc) off (l.map enc) = (splice L off l).map enc := by
  simp [splice, List.map_take, List.map_drop]
set_option maxRecDepth 100000 in
/-- Bytes copied into an array's block. -/
theorem wpList_copy_arr (hgd : o.guard = none) (d s : Operand) (ho : o.op = .call { callee := .builtin .copy, args := #[d, s], argTypes := #[24, 24] })
    (dp sp : Option Addr) (dLen dCap sLen sCap : Nat) (hd : a.eval d = .slice dp dLen dCap) (hs : a.eval s = .slice sp sLen sCap)
    (g off : Nat) (t : TypeId) (L l : List Nat) (hg : Arr w g t L) (hn : l.length = Nat.min sLen dLen)
    (hpos : 0 < l.length → dp = some ⟨g, off, none⟩ ∧ ∃ ad, sp = some ad ∧ ∀ j v, (l.map enc)[j]? = some v → w.cell? (ad.add j) = some v)
    (hfit : off + l.length ≤ L.length) (B : Nat) (w0 : World) (hb : Below B w0 w) (hBg : B ≤ g)
    (h : ∀ w', Arr w' g t (splice L off l) → Below B w0 w' → wpList Tryz.prog ops Q rest (a.put o.dst (goInt l.length)) w') : wpList Tryz.prog ops Q (o :: rest) a w := by
  refine wpList_copy_splice hgd d s 24 24 ho 5 Tryz.underlying24 Tryz.size5 dp sp dLen dCap sLen sCap hd hs g off (L.map enc) t hg (l.map enc) (by simpa using hn) (by simpa using hpos) (by simpa using hfit) (enc_one l) B w0 hb hBg ?_
  intro w' hg' hb'
  have hh := hg'.out
  rw [splice_map] at hh
  have := h w' hh hb'
  simpa using this
end
set_option maxRecDepth 100000 in
theorem step_copy_arr {ops : Array Oper} {o : Oper} {a : Act} {w : World} {K : Act → World → Prop} {Q : Exit → Act → World → Prop} {E : Prop} (hgd : o.guard = none) (d s : Operand)
    (ho : o.op = .call { callee := .builtin .copy, args := #[d, s], argTypes := #[24, 24] })
    (dp sp : Option Addr) (dLen dCap sLen sCap : Nat) (hd : a.eval d = .slice dp dLen dCap) (hs : a.eval s = .slice sp sLen sCap)
    (g off : Nat) (t : TypeId) (L l : List Nat) (hg : Arr w g t L) (hn : l.length = Nat.min sLen dLen)
    (hpos : 0 < l.length → dp = some ⟨g, off, none⟩ ∧ ∃ ad, sp = some ad ∧ ∀ j v, (l.map enc)[j]? = some v → w.cell? (ad.add j) = some v)
    (hfit : off + l.length ≤ L.length) (B : Nat) (w0 : World) (hb : Below B w0 w) (hBg : B ≤ g)
    (h : ∀ w', Arr w' g t (splice L off l) → Below B w0 w' → K (a.put o.dst (goInt l.length)) w') :
    if Region.wanted o (yielded ops a.tmps) = true then Oper.wp Tryz.prog o a w K Q else E := by
  refine step_copy_splice hgd d s 24 24 ho 5 Tryz.underlying24 Tryz.size5 dp sp dLen dCap sLen sCap hd hs g off (L.map enc) t hg (l.map enc) (by simpa using hn) (by simpa using hpos) (by simpa using hfit) (enc_one l) B w0 hb hBg ?_
  intro w' hg' hb'
  have hh := hg'.out
  rw [splice_map] at hh
  have := h w' hh hb'
  simpa using this

/-- n noughts -/
def zeros (n : Nat) : List Nat := List.replicate n 0
theorem zeros_length (n : Nat) : (zeros n).length = n := List.length_replicate
theorem madeBytes (n : Nat) : madeCells #[.int .u8 0] n = ((zeros n).map enc).toArray := by
  apply Array.ext
  · simp [madeCells, zeros]
  · intro i h1 h2
    simp [madeCells, enc, zeros, Nat.mod_one]
theorem splice_two (l k : List Nat) (n : Nat) (h : n = l.length + k.length) : splice (splice (zeros n) 0 l) l.length k = l ++ k := by
  subst h
  simp [splice, zeros]

set_option maxRecDepth 100000 in
/-- make([]byte, n) -/
theorem make_bytes (n : Nat) (hn : n ≤ 100000) (w : World) : (Instr.makeSlice 24 (.int .i64 (n : Int)) (.int .i64 (n : Int))).run Tryz.prog w = .ok (.slice (some ⟨w.heap.size, 0, none⟩) n n) (w.alloc (.cells ((zeros n).map enc).toArray 5)) := by
  obtain ⟨i0, hi, hz0, hz1, hz2⟩ := info_parts Tryz.info5
  have := run_make (P := Tryz.prog) w 24 5 i0 (.int .u8 0) Tryz.underlying24 hi hz0 .i64 .i64 (n : Int) (n : Int) (by omega) (by omega) (by rw [hz2]; omega) (by omega)
  rw [hz1, show ((n : Int)).toNat = n by omega, Nat.mul_one] at this
  rw [← madeBytes]
  exact this
theorem Arr.drew {W : World} {g : Nat} {t : TypeId} {l : List Nat} (h : Arr W g t l) : Arr W.drew g t l := h
/-- An array's bytes, as a slice of it has them. -/
theorem Arr.values {W : World} {g : Nat} {t : TypeId} {l : List Nat} (h : Arr W g t l) : ∀ j u, (l.map enc)[j]? = some u → W.cell? ((⟨g, 0, none⟩ : Addr).add j) = some u := fun j u hj => by
  have := h.range j u hj
  rwa [Addr.add_mid]

/-- Where bytes that came in lie, if there is one. -/
theorem BytesAt.source {n₀ : Nat} {w : World} {sv : Value} {bs : List Nat} (hI : BytesAt n₀ w sv bs) (w' : World) (h : Below n₀ w w') (aa : Option Addr) (n cap : Nat) (e : sv = .slice aa n cap) (hp : 0 < bs.length) :
    ∃ ad, aa = some ad ∧ ∀ j v, (bs.map enc)[j]? = some v → w'.cell? (ad.add j) = some v := by
  subst e
  have hI' := hI.below h
  obtain ⟨_, a', cap', e, _, rfl | ⟨b, off, rfl, _⟩⟩ := hI
  · simp at hp
  · injection e with e1 e2 e3
    subst e1
    exact ⟨_, rfl, hI'.values⟩

set_option maxRecDepth 100000 in
set_option maxHeartbeats 400000 in
/-- seal.Put -/
theorem put_any (sv : Value) (bs : List Nat) (w : World) (hlen : bs.length ≤ 2000) (hI : BytesAt w.heap.size w sv bs) :
    Calls Tryz.prog 175 #[sv] w fun e w' => ∃ g, e = .returned (.slice (some ⟨g, 0, none⟩) (bs.length + 4) (bs.length + 4)) ∧ w.heap.size ≤ g ∧ Arr w' g 5 (sealed bs) ∧ Below w.heap.size w w' := by
  have q := fun w' (h : Below w.heap.size w w') => sumOf_any sv bs w' (by omega) ((hI.below h).mono h.size)
  have HV0 := hI.source
  obtain ⟨aa, cap, rfl⟩ : ∃ aa cap, sv = .slice aa bs.length cap := by obtain ⟨_, aa, cap, e, _⟩ := hI; exact ⟨aa, cap, e⟩
  have HV : Hid (∀ w', Below w.heap.size w w' → 0 < bs.length → ∃ ad, aa = some ad ∧ ∀ j v, (bs.map enc)[j]? = some v → w'.cell? (ad.add j) = some v) := fun w' h hp => HV0 w' h _ _ _ rfl hp
  clear HV0
  have HS : Hid (sealed bs = bs ++ le4 (more 0 bs)) := rfl
  generalize more 0 bs = m at *
  obtain ⟨len, hl⟩ : ∃ len, bs.length = len := ⟨_, rfl⟩
  have HL : Hid (bs.length = len) := hl
  clear hI
  rw [hl] at hlen q HV ⊢
  clear hl
  have hmk : ∀ w : World, (Instr.makeSlice 24 (.int .i64 ((len : Int) + 4)) (.int .i64 ((len : Int) + 4))).run Tryz.prog w = .ok (.slice (some ⟨w.heap.size, 0, none⟩) (len + 4) (len + 4)) (w.alloc (.cells ((zeros (len + 4)).map enc).toArray 5)) := fun w => make_bytes (len + 4) (by omega) w
  have hB := Below.refl w.heap.size w
  go_enter Tryz.func175, Tryz.ntmps175
  go_wp2_with (first
    | (go_at_call 189; refine (q _ hB).mono ?_; rintro e w1 ⟨rfl, hB1⟩; replace hB := hB.trans hB1)
    | (refine wpList_store_arr rfl 234 _ _ rfl _ 234 [0, 0, 0, 0] (le4 m) rfl rfl (arr_new w1 234 [0, 0, 0, 0]) rfl Tryz.size234 w.heap.size w (hB.alloc hB.size _) hB.size ?_; intro w2 hA2 _ hz2 hB2; replace hz2 : Hid (w2.heap.size = w1.heap.size + 1) := hz2.trans (by simp); clear hB1 q; replace hB := hB.size)
    | (refine wpList_copy_arr rfl _ _ rfl _ _ _ _ _ _ rfl rfl w2.heap.size 0 5 (zeros (len + 4)) bs (arr_new w2 5 _) (by rw [HL.out]; exact (Nat.min_eq_left (by omega)).symm) (fun hp => ⟨rfl, HV.out _ (hB2.alloc hB2.size _) (by rw [← HL.out]; exact hp)⟩) (by rw [HL.out, zeros_length]; omega) w2.heap.size w2 (below_alloc w2 _) (Nat.le_refl _) ?_; intro w3 hA3 hB3))
  have hA2' := hA2.below hB3 (hA2.lt)
  have hg2 := hB2.size
  replace hB2 := hB2.trans (hB3.mono hB2.size)
  clear hmk hB3 hA2
  have k1 : ¬ (len + 4 = len) := by omega
  have k2 : (len : Int) ≤ (len : Int) + 4 := by omega
  have SF : Hid (len + (le4 m).length ≤ (splice (zeros (len + 4)) 0 bs).length) := by
    show _ ≤ _
    rw [length_splice _ _ _ (by rw [HL.out, zeros_length]; omega), zeros_length, le4_length]
    omega
  go_region_law (refine step_copy_arr rfl (.tmp 17) (.tmp 18) rfl (some ⟨w2.heap.size, len, none⟩) (some ⟨w1.heap.size, 0, none⟩) 4 4 4 4 (by simp [Act.eval, Act.put]) (by simp [Act.eval, Act.put]) w2.heap.size len 5 _ (le4 m) (Arr.drew hA3) rfl (fun _ => ⟨rfl, _, rfl, (Arr.drew hA2').values⟩) SF.out w.heap.size w (hB2.drew) hg2 ?_; intro w4 hA4 hB4)
  go_wp2
  go_ret
  refine ⟨_, rfl, hg2, ?_, hB4⟩
  have e : splice (splice (zeros (len + 4)) 0 bs) len (le4 m) = sealed bs := by
    rw [HS.out, ← splice_two bs (le4 m) (len + 4) (by rw [HL.out, le4_length]), HL.out]
  rwa [e] at hA4

end Go.Proofs.YtfiofdmefgkloaaGreat.Seal

/-
  The walk of the document's Put of layer 5.
-/
namespace Go.Proofs.YtfiofdmefgkloaaGreat.Seal
open Go.RowKit
open Math
open Crc

theorem lay4_take (k m : Nat) (h : k < 4) : (le4 m).take (k + 1) = (le4 m).take k ++ [m / 256 ^ k % 256] := by
  match k, h with
  | 0, _ => simp [le4]
  | 1, _ => simp [le4]
  | 2, _ => simp [le4]
  | 3, _ => simp [le4]

set_option maxRecDepth 100000 in
set_option maxHeartbeats 800000 in
/-- twainref05.Put, of some bytes -/
theorem refPut5_some (a : Addr) (len cap : Nat) (bs : List Nat) (w : World) (hlen : bs.length = len) (hb : len ≤ 2000) (hI : BytesAt w.heap.size w (.slice (some a) len cap) bs) :
    Calls Tryz.prog 170 #[.slice (some a) len cap] w fun e w' => ∃ v, e = .returned v ∧ w'.ownsRow w.heap.size 5 1 v (len + 4) ((sealed bs).map enc) ∧ Below w.heap.size w w' := by
  have hm := more_lt (s := 0) (bs := bs) (by omega) hI.1
  have q := fun w' (h : Below w.heap.size w w') => refSum_any (.slice (some a) len cap) bs w' (by omega) ((hI.below h).mono h.size)
  have HC : Hid (∀ j u, (bs.map enc)[j]? = some u → (w.alloc (.cells #[] 5)).cell? (a.add j) = some u) := (hI.below (below_alloc w _)).values
  have HS : Hid (sealed bs = bs ++ le4 (more 0 bs)) := rfl
  generalize more 0 bs = m at *
  obtain ⟨i0, hi, hz0, hz1, hz2⟩ := info_parts Tryz.info5
  have HL : Hid (bs.length = len) := hlen
  clear hlen hI
  have hown0 : (w.alloc (.cells #[] 5)).ownsRow w.heap.size 5 1 (.slice (some ⟨w.heap.size, 0, none⟩) 0 0) 0 [] := World.ownsRow_made w _ 0 (Nat.le_refl _) (by decide) rfl
  have hB0 : Below w.heap.size w (w.alloc (.cells #[] 5)) := below_alloc w _
  go_enter Tryz.func170, Tryz.ntmps170
  go_wp2_with (first
    | (at_builtin; refine wpList_append_own _ rfl _ _ 24 rfl w.heap.size 5 i0 (.int .u8 0) 1 1 Tryz.underlying24 hi hz0 hz1 hz2 rfl (by decide) _ 0 [] rfl hown0 a len cap (bs.map enc) rfl ?c0 ?c1 ?c2 ?c3 ?c4 ?c5 ?_)
    | go_in)
  case c0 => simp [HL.out]
  case c1 => exact HC.out
  case c2 => exact enc_one bs
  case c3 => unfold maxLen; omega
  case c4 => omega
  case c5 => simp
  intro v1 w1 hown1 hgrow1 _
  have hB1 := below_append (Nat.le_refl _) hB0 hown0 hgrow1
  try rw [Nat.zero_add, List.nil_append] at hown1
  clear hown0 hB0 hgrow1 HC
  go_wp2_with (go_at_call 187; refine (q _ hB1).mono ?_; rintro e w1 ⟨rfl, rfl⟩)
  clear q
  go_loopw [3, 4, 5] (fun v s i wr => ∃ k : Nat, k ≤ 4 ∧ i = .int .i64 k ∧ s = .int .u32 ((m / 256 ^ k : Nat) : Int) ∧ wr.ownsRow w.heap.size 5 1 v (len + k) ((bs ++ (le4 m).take k).map enc) ∧ Below w.heap.size w wr) (fun _ _ i _ => 4 - (intOf i).toNat)
  case atStart => exact ⟨0, by omega, rfl, by simp, by simpa using hown1, hB1⟩
  case round =>
    obtain ⟨k, hk, rfl, rfl, hown, hB⟩ := hrel
    clear hown1 hB1
    by_cases hlt : k < 4
    · have hy : m / 256 ^ k < 4294967296 := Nat.lt_of_le_of_lt (Nat.div_le_self _ _) hm
      have HD : Hid (m / 256 ^ k / 256 = m / 256 ^ (k + 1)) := div_pow_succ _ _
      have HT : Hid ((le4 m).take (k + 1) = (le4 m).take k ++ [m / 256 ^ k % 256]) := lay4_take k m hlt
      generalize m / 256 ^ k = y at *
      go_wp2_with (first
        | (at_builtin; refine wpList_append_own _ rfl _ _ 24 rfl w.heap.size 5 i0 (.int .u8 0) 1 1 Tryz.underlying24 hi hz0 hz1 hz2 rfl (by decide) _ _ _ rfl (hown.alloc _) ⟨World.heap _ |>.size, 0, none⟩ 1 1 [.int .u8 ((y : Int) % 256)] rfl rfl ?c1 ?c2 ?c3 ?c4 ?c5 ?_)
        | go_in)
      case c1 => exact cell_one_new _ _ _
      case c2 => intro u hu; simp at hu; subst hu; rfl
      case c3 => unfold maxLen; omega
      case c4 => omega
      case c5 => have := hB.size; simp; omega
      intro v' w1 hown' hgrow _
      have hB' := below_append (Nat.le_refl _) (hB.alloc hB.size _) (hown.alloc _) hgrow
      have hr1 : w1.ownsRow w.heap.size 5 1 v' (len + (k + 1)) ((bs ++ (le4 m).take (k + 1)).map enc) := by
        rw [HT.out, List.map_append, List.map_append, List.map_take]; exact hown'
      clear hown' hgrow hown hB
      go_wp2
      go_roundw
      case rel => exact ⟨k + 1, by omega, by go_num, by rw [← HD.out]; first | rfl | go_num, hr1, hB'⟩
      case measure => simp [intOf] <;> omega
    · obtain rfl : k = 4 := by omega
      go_wp2
      go_ret
      exact ⟨_, rfl, by rw [HS.out]; exact hown, hB⟩

set_option maxRecDepth 100000 in
set_option maxHeartbeats 800000 in
/-- twainref05.Put, of nothing -/
theorem refPut5_none (w : World) :
    Calls Tryz.prog 170 #[.slice none 0 0] w fun e w' => ∃ v, e = .returned v ∧ w'.ownsRow w.heap.size 5 1 v 4 ((sealed []).map enc) ∧ Below w.heap.size w w' := by
  have hI : BytesAt w.heap.size w (.slice none 0 0) [] := ⟨by simp, none, 0, rfl, fun _ => rfl, .inl rfl⟩
  have hm := more_lt (s := 0) (bs := []) (by omega) hI.1
  have q := fun w' (h : Below w.heap.size w w') => refSum_any (.slice none 0 0) [] w' (by simp) ((hI.below h).mono h.size)
  have HS : Hid (sealed [] = le4 (more 0 [])) := rfl
  generalize more 0 [] = m at *
  obtain ⟨i0, hi, hz0, hz1, hz2⟩ := info_parts Tryz.info5
  clear hI
  have hown1 : (w.alloc (.cells #[] 5)).ownsRow w.heap.size 5 1 (.slice (some ⟨w.heap.size, 0, none⟩) 0 0) 0 [] := World.ownsRow_made w _ 0 (Nat.le_refl _) (by decide) rfl
  have hB1 : Below w.heap.size w (w.alloc (.cells #[] 5)) := below_alloc w _
  go_enter Tryz.func170, Tryz.ntmps170
  go_wp2_with (go_at_call 187; refine (q _ hB1).mono ?_; rintro e w1 ⟨rfl, rfl⟩)
  clear q
  go_loopw [3, 4, 5] (fun v s i wr => ∃ k : Nat, k ≤ 4 ∧ i = .int .i64 k ∧ s = .int .u32 ((m / 256 ^ k : Nat) : Int) ∧ wr.ownsRow w.heap.size 5 1 v k (((le4 m).take k).map enc) ∧ Below w.heap.size w wr) (fun _ _ i _ => 4 - (intOf i).toNat)
  case atStart => exact ⟨0, by omega, rfl, by simp, by simpa using hown1, hB1⟩
  case round =>
    obtain ⟨k, hk, rfl, rfl, hown, hB⟩ := hrel
    clear hown1 hB1
    by_cases hlt : k < 4
    · have hy : m / 256 ^ k < 4294967296 := Nat.lt_of_le_of_lt (Nat.div_le_self _ _) hm
      have HD : Hid (m / 256 ^ k / 256 = m / 256 ^ (k + 1)) := div_pow_succ _ _
      have HT : Hid ((le4 m).take (k + 1) = (le4 m).take k ++ [m / 256 ^ k % 256]) := lay4_take k m hlt
      generalize m / 256 ^ k = y at *
      go_wp2_with (first
        | (at_builtin; refine wpList_append_own _ rfl _ _ 24 rfl w.heap.size 5 i0 (.int .u8 0) 1 1 Tryz.underlying24 hi hz0 hz1 hz2 rfl (by decide) _ _ _ rfl (hown.alloc _) ⟨World.heap _ |>.size, 0, none⟩ 1 1 [.int .u8 ((y : Int) % 256)] rfl rfl ?c1 ?c2 ?c3 ?c4 ?c5 ?_)
        | go_in)
      case c1 => exact cell_one_new _ _ _
      case c2 => intro u hu; simp at hu; subst hu; rfl
      case c3 => unfold maxLen; omega
      case c4 => omega
      case c5 => have := hB.size; simp; omega
      intro v' w1 hown' hgrow _
      have hB' := below_append (Nat.le_refl _) (hB.alloc hB.size _) (hown.alloc _) hgrow
      have hr1 : w1.ownsRow w.heap.size 5 1 v' (k + 1) (((le4 m).take (k + 1)).map enc) := by
        rw [HT.out, List.map_append, List.map_take]; exact hown'
      clear hown' hgrow hown hB
      go_wp2
      go_roundw
      case rel => exact ⟨k + 1, by omega, by go_num, by rw [← HD.out]; first | rfl | go_num, hr1, hB'⟩
      case measure => simp [intOf] <;> omega
    · obtain rfl : k = 4 := by omega
      go_wp2
      go_ret
      exact ⟨_, rfl, by rw [HS.out]; exact hown, hB⟩

set_option maxRecDepth 100000 in
/-- twainref05.Put -/
theorem refPut5_any (sv : Value) (bs : List Nat) (w : World) (hb : bs.length ≤ 2000) (hI : BytesAt w.heap.size w sv bs) :
    Calls Tryz.prog 170 #[sv] w fun e w' => ∃ v, e = .returned v ∧ w'.ownsRow w.heap.size 5 1 v (bs.length + 4) ((sealed bs).map enc) ∧ Below w.heap.size w w' := by
  obtain ⟨_, a, cap, rfl, hn, h⟩ := id hI
  cases a with
  | none =>
    obtain rfl := hn rfl
    rcases h with rfl | ⟨b, off, e, _⟩
    · exact refPut5_none w
    · simp at e
  | some a => exact refPut5_some a _ cap bs w rfl hb hI

end Go.Proofs.YtfiofdmefgkloaaGreat.Seal

/-
  The walks of seal.Record and of the document's Record.
-/
namespace Go.Proofs.YtfiofdmefgkloaaGreat.Seal
open Go.RowKit
open Math
open Crc

/-- What stands ahead of a record's sum, and the record. -/
def twelve (n y : Nat) : List Nat := be 4 n ++ be 8 y
def recd (n y : Nat) : List Nat := sealed (twelve n y)
theorem twelve_length (n y : Nat) : (twelve n y).length = 12 := by simp [twelve, be_length]
theorem recd_length (n y : Nat) : (recd n y).length = 16 := by rw [recd, sealed_length, twelve_length]
theorem twelve_byte (n y : Nat) : ∀ b ∈ twelve n y, b < 256 := by
  intro b hb
  rcases List.mem_append.1 hb with h | h
  · exact be_byte 4 n b h
  · exact be_byte 8 y b h
theorem recd_byte (n y : Nat) : ∀ b ∈ recd n y, b < 256 := sealed_byte _ (twelve_byte n y)

/-- A sector of noughts, in a new block. -/
def sec0 : Obj := .cells #[.int .u8 0, .int .u8 0, .int .u8 0, .int .u8 0, .int .u8 0, .int .u8 0, .int .u8 0, .int .u8 0, .int .u8 0, .int .u8 0, .int .u8 0, .int .u8 0, .int .u8 0, .int .u8 0, .int .u8 0, .int .u8 0] 95
theorem sec0_is : sec0 = .cells ((zeros 16).map enc).toArray 95 := rfl
theorem arr_sec0 (w : World) : Arr (w.alloc sec0) w.heap.size 95 (zeros 16) := by rw [sec0_is]; exact arr_new w 95 _

/-- What a record's maker carries: two sectors of its own, and nothing of before is turned. -/
def Two (w W : World) (l : List Nat) : Prop := Below w.heap.size w W ∧ Arr W w.heap.size 95 (zeros 16) ∧ Arr W (w.heap.size + 1) 95 l
theorem two_new (w : World) : Two w ((w.alloc sec0).alloc sec0) (zeros 16) := by
  refine ⟨(below_alloc w _).alloc (by simp) _, (arr_sec0 w).alloc _, ?_⟩
  have := arr_sec0 (w.alloc sec0)
  rwa [World.size_alloc] at this
theorem Two.drew {w W : World} {l : List Nat} (h : Two w W l) : Two w W.drew l := ⟨h.1.drew, h.2.1.drew, h.2.2.drew⟩
theorem Two.after {w W W' : World} {l : List Nat} (h : Two w W l) (hB : Below W.heap.size W W') : Two w W' l :=
  ⟨h.1.trans (hB.mono h.1.size), h.2.1.below hB h.2.1.lt, h.2.2.below hB h.2.2.lt⟩

theorem splice_all (L l : List Nat) (h : l.length = L.length) : splice L 0 l = l := by
  simp [splice, h]

set_option maxRecDepth 100000 in
/-- num.Put32 of nothing, num.Put64 behind four bytes, seal.Put of twelve. -/
theorem put32_first (n : Nat) (w : World) (hn : n < 4294967296) :
    Calls Tryz.prog 177 #[.slice none 0 0, .int .u32 n] w fun e w' => ∃ v, e = .returned v ∧ BytesAt w'.heap.size w' v (be 4 n) ∧ Below w.heap.size w w' := by
  refine (put32_any (.slice none 0 0) [] n w (by simp) hn ⟨by simp, none, 0, rfl, fun _ => rfl, .inl rfl⟩).mono ?_
  rintro e w' ⟨v, rfl, ho, hB⟩
  exact ⟨v, rfl, bytesAt_owns (be_byte 4 n) (Nat.le_refl _) (by simpa [be_length] using ho), hB⟩
set_option maxRecDepth 100000 in
theorem put64_then (n y : Nat) (v : Value) (w : World) (hy : y < 18446744073709551616) (hI : BytesAt w.heap.size w v (be 4 n)) :
    Calls Tryz.prog 176 #[v, .int .u64 y] w fun e w' => ∃ v', e = .returned v' ∧ BytesAt w'.heap.size w' v' (twelve n y) ∧ Below w.heap.size w w' := by
  refine (put64_any v (be 4 n) y w (by simp [be_length]) hy hI).mono ?_
  rintro e w' ⟨v', rfl, ho, hB⟩
  exact ⟨v', rfl, bytesAt_owns (twelve_byte n y) (Nat.le_refl _) (by rw [twelve_length]; simpa [be_length, twelve] using ho), hB⟩
set_option maxRecDepth 100000 in
theorem put_twelve (n y : Nat) (v : Value) (w : World) (hI : BytesAt w.heap.size w v (twelve n y)) :
    Calls Tryz.prog 175 #[v] w fun e w' => ∃ g, e = .returned (.slice (some ⟨g, 0, none⟩) 16 16) ∧ w.heap.size ≤ g ∧ Arr w' g 5 (recd n y) ∧ Below w.heap.size w w' := by
  refine (put_any v (twelve n y) w (by rw [twelve_length]; omega) hI).mono ?_
  rintro e w' ⟨g, rfl, hg, hA, hB⟩
  rw [twelve_length]
  exact ⟨g, rfl, hg, hA, hB⟩
set_option maxRecDepth 100000 in
theorem refPut32_first (n : Nat) (w : World) (hn : n < 4294967296) :
    Calls Tryz.prog 172 #[.slice none 0 0, .int .u32 n] w fun e w' => ∃ v, e = .returned v ∧ BytesAt w'.heap.size w' v (be 4 n) ∧ Below w.heap.size w w' := by
  refine (refPut32_any (.slice none 0 0) [] n w (by simp) hn ⟨by simp, none, 0, rfl, fun _ => rfl, .inl rfl⟩).mono ?_
  rintro e w' ⟨v, rfl, ho, hB⟩
  exact ⟨v, rfl, bytesAt_owns (be_byte 4 n) (Nat.le_refl _) (by simpa [be_length] using ho), hB⟩
set_option maxRecDepth 100000 in
theorem refPut64_then (n y : Nat) (v : Value) (w : World) (hy : y < 18446744073709551616) (hI : BytesAt w.heap.size w v (be 4 n)) :
    Calls Tryz.prog 171 #[v, .int .u64 y] w fun e w' => ∃ v', e = .returned v' ∧ BytesAt w'.heap.size w' v' (twelve n y) ∧ Below w.heap.size w w' := by
  refine (refPut64_any v (be 4 n) y w (by simp [be_length]) hy hI).mono ?_
  rintro e w' ⟨v', rfl, ho, hB⟩
  exact ⟨v', rfl, bytesAt_owns (twelve_byte n y) (Nat.le_refl _) (by rw [twelve_length]; simpa [be_length, twelve] using ho), hB⟩
/-- Where a call's own bytes lie. -/
theorem owns_cells {W : World} {base n : Nat} {v : Value} {l : List Nat} (h : W.ownsRow base 5 1 v n (l.map enc)) (hl : l.length = n) (hn : 0 < n) :
    ∃ g cap, v = .slice (some ⟨g, 0, none⟩) n cap ∧ base ≤ g ∧ ∀ j, j < n → W.cell? ⟨g, j, none⟩ = some (.int .u8 ((l[j]?.getD 0 : Nat) : Int)) := by
  obtain ⟨_, ⟨rfl, h0⟩ | ⟨g, cap, cur, rfl, hb, hg, h1, h2, h3, h4⟩⟩ := id h
  · omega
  · refine ⟨g, cap, rfl, hb, fun j hj => ?_⟩
    rw [h.cellAt j (by omega)]
    exact enc_get l j (by omega)
set_option maxRecDepth 100000 in
theorem refPut_twelve (n y : Nat) (v : Value) (w : World) (hI : BytesAt w.heap.size w v (twelve n y)) :
    Calls Tryz.prog 170 #[v] w fun e w' => ∃ g cap, e = .returned (.slice (some ⟨g, 0, none⟩) 16 cap) ∧ w.heap.size ≤ g ∧ (∀ j, j < 16 → w'.cell? ⟨g, j, none⟩ = some (.int .u8 (((recd n y)[j]?.getD 0 : Nat) : Int))) ∧ Below w.heap.size w w' := by
  refine (refPut5_any v (twelve n y) w (by rw [twelve_length]; omega) hI).mono ?_
  rintro e w' ⟨v', rfl, ho, hB⟩
  rw [twelve_length] at ho
  obtain ⟨g, cap, rfl, hg, hc⟩ := owns_cells (l := recd n y) ho (recd_length n y) (by omega)
  exact ⟨g, cap, rfl, hg, hc, hB⟩

/-- The first k bytes laid over noughts. -/
def over (l : List Nat) (k : Nat) : List Nat := l.take k ++ zeros (l.length - k)
theorem over_start (l : List Nat) : over l 0 = zeros l.length := by simp [over]
theorem over_end (l : List Nat) : over l l.length = l := by simp [over, zeros]
theorem over_length (l : List Nat) (k : Nat) (h : k ≤ l.length) : (over l k).length = l.length := by simp [over, zeros]; omega
theorem over_step (l : List Nat) (k : Nat) (h : k < l.length) : (over l k).set k (l[k]?.getD 0) = over l (k + 1) := by
  unfold over
  rw [List.set_append, if_neg (by simp; omega)]
  rw [show l.length - k = (l.length - (k + 1)) + 1 by omega]
  simp only [zeros, List.replicate_succ, List.length_take]
  rw [show k - min k l.length = 0 by omega, List.set_cons_zero, List.take_succ_eq_append_getElem h, List.append_assoc]
  simp only [h, getElem?_pos, Option.getD_some, List.cons_append, List.nil_append]

set_option maxRecDepth 100000 in
set_option maxHeartbeats 400000 in
/-- seal.Record -/
theorem record_any (n y : Nat) (w : World) (hn : n < 4294967296) (hy : y < 18446744073709551616) :
    Calls Tryz.prog 151 #[.int .u32 n, .int .u64 y] w fun e w' => e = .returned (arr (recd n y)) ∧ Below w.heap.size w w' := by
  have hT := (two_new w).drew
  go_enter Tryz.func151, Tryz.ntmps151
  go_wp2_with fail
  go_region_held3 (fun _ => True) (trivial) (first
    | (refine step_copy_arr rfl (.tmp 6) (.tmp 11) rfl (some ⟨w.heap.size + 1, 0, none⟩) (some ⟨g, 0, none⟩) 16 16 16 16 (by simp [Act.eval]) (by simp [Act.eval]) (w.heap.size + 1) 0 95 (zeros 16) (recd n y) hT.2.2 (recd_length n y) (fun _ => ⟨rfl, _, rfl, hG.values⟩) (by rw [recd_length, zeros_length]; omega) (w.heap.size + 1) _ (Below.refl _ _) (Nat.le_refl _) ?_; intro w4 hA4 hB4)
    | (go_at_call 177; refine (put32_first n _ hn).mono ?_; rintro e w1 ⟨v, rfl, hI, hB⟩; replace hT := hT.after hB)
    | (go_at_call 176; refine (put64_then n y _ _ hy hI).mono ?_; rintro e w1 ⟨v, rfl, hI', hB⟩; replace hT := hT.after hB)
    | (go_at_call 175; refine (put_twelve n y _ _ hI').mono ?_; rintro e w1 ⟨g, rfl, -, hG, hB⟩; replace hT := hT.after hB))
  rw [splice_all _ _ (by rw [recd_length, zeros_length])] at hA4
  have hA0 := hT.2.1.below hB4 (Nat.lt_succ_self _)
  have hB0 := hT.1.trans (hB4.mono (Nat.le_succ _))
  have HR : Hid ((Tryz.prog.info? 95).map (·.size) = some (recd n y).length) := by
    show _ = _
    rw [recd_length]
    exact Tryz.size95
  have HL : Hid ((recd n y).length = (zeros 16).length) := recd_length n y
  clear hT hI hI' hG hB4
  go_wp2_with (first
    | (refine wpList_load_arr rfl 95 _ rfl (w.heap.size + 1) 95 (recd n y) rfl hA4 _ _ Tryz.underlying95 HR.out ?_)
    | (refine wpList_store_arr rfl 95 _ _ rfl w.heap.size 95 (zeros 16) (recd n y) rfl rfl hA0 HL.out HR.out w.heap.size w hB0 (Nat.le_refl _) ?_; intro w5 hA5 _ _ hB5))
  refine bodyPost_ret (v := arr (recd n y)) (results_cell_row rfl _ _ w.heap.size 95 ((recd n y).map enc).toArray (0, 0) _ rfl hA5 Tryz.underlying95 rfl (by simpa using HR.out)) rfl ⟨rfl, hB5⟩

set_option maxRecDepth 100000 in
set_option maxHeartbeats 400000 in
/-- twainref05.Record -/
theorem refRecord_any (n y : Nat) (w : World) (hn : n < 4294967296) (hy : y < 18446744073709551616) :
    Calls Tryz.prog 145 #[.int .u32 n, .int .u64 y] w fun e w' => e = .returned (arr (recd n y)) ∧ Below w.heap.size w w' := by
  have hT := two_new w
  go_enter Tryz.func145, Tryz.ntmps145
  go_wp2_with (first
    | (go_at_call 172; refine (refPut32_first n _ hn).mono ?_; rintro e w1 ⟨v, rfl, hI, hB⟩; replace hT := hT.after hB)
    | (go_at_call 171; refine (refPut64_then n y _ _ hy hI).mono ?_; rintro e w1 ⟨v, rfl, hI', hB⟩; replace hT := hT.after hB)
    | (go_at_call 170; refine (refPut_twelve n y _ _ hI').mono ?_; rintro e w2 ⟨g, cap, rfl, hg, hG, hB⟩; have hne : g ≠ w.heap.size + 1 := (by have := hT.2.2.lt; omega); replace hT := hT.after hB))
  clear hI hI' hB hg
  have HR : Hid ((Tryz.prog.info? 95).map (·.size) = some (recd n y).length) := by
    show _ = _
    rw [recd_length]
    exact Tryz.size95
  have HL : Hid ((recd n y).length = 16) := recd_length n y
  go_loopw [13] (fun i wr => ∃ k : Nat, k ≤ 16 ∧ i = .int .i64 k ∧ Two w wr (over (recd n y) k) ∧ ∀ j, j < 16 → wr.cell? ⟨g, j, none⟩ = some (.int .u8 (((recd n y)[j]?.getD 0 : Nat) : Int))) (fun i _ => 16 - (intOf i).toNat)
  case atStart => exact ⟨0, by omega, rfl, by rw [over_start, HL.out]; exact hT, hG⟩
  case round =>
    obtain ⟨k, hk, rfl, hT', hG'⟩ := hrel
    clear hT hG
    by_cases hlt : k < 16
    · have hcx := hG' k hlt
      have hcy := hT'.2.2.cell k (by rw [over_length _ _ (by rw [HL.out]; omega), HL.out]; exact hlt)
      have hfy := hT'.2.2.frozen k
      have H : Hid (Two w (wr.setCell ⟨w.heap.size + 1, k, none⟩ (.int .u8 (((recd n y)[k]?.getD 0 : Nat) : Int))) (over (recd n y) (k + 1)) ∧ ∀ j, j < 16 → (wr.setCell ⟨w.heap.size + 1, k, none⟩ (.int .u8 (((recd n y)[k]?.getD 0 : Nat) : Int))).cell? ⟨g, j, none⟩ = some (.int .u8 (((recd n y)[j]?.getD 0 : Nat) : Int))) := by
        refine ⟨⟨hT'.1.setCell (p := ⟨w.heap.size + 1, k, none⟩) (Nat.le_succ _) _, hT'.2.1.set_other k _ (by omega), ?_⟩, fun j hj => ?_⟩
        · have := hT'.2.2.set k ((recd n y)[k]?.getD 0)
          rwa [over_step _ _ (by rw [HL.out]; exact hlt)] at this
        · rw [World.cell?_setCell_other _ _ _ _ (fun e => hne (by injection e with e1 _ _; exact e1.symm))]
          exact hG' j hj
      clear hT' hG'
      generalize (recd n y)[k]?.getD 0 = c at *
      generalize (over (recd n y) k)[k]?.getD 0 = d at *
      go_wp2
      go_roundw
      case rel => exact ⟨k + 1, by omega, by go_num, H.out⟩
      case measure => simp [intOf]; omega
    · obtain rfl : k = 16 := by omega
      have hA4 := hT'.2.2
      rw [← HL.out, over_end] at hA4
      have hA0 := hT'.2.1
      have hB0 := hT'.1
      have HZ : Hid ((recd n y).length = (zeros 16).length) := recd_length n y
      clear hT' hG'
      go_wp2_with (first
        | (refine wpList_load_arr rfl 95 _ rfl (w.heap.size + 1) 95 (recd n y) rfl hA4 _ _ Tryz.underlying95 HR.out ?_)
        | (refine wpList_store_arr rfl 95 _ _ rfl w.heap.size 95 (zeros 16) (recd n y) rfl rfl hA0 HZ.out HR.out w.heap.size w hB0 (Nat.le_refl _) ?_; intro w5 hA5 _ _ hB5))
      refine bodyPost_ret (v := arr (recd n y)) (results_cell_row rfl _ _ w.heap.size 95 ((recd n y).map enc).toArray (0, 0) _ rfl hA5 Tryz.underlying95 rfl (by simpa using HR.out)) rfl ⟨rfl, hB5⟩

end Go.Proofs.YtfiofdmefgkloaaGreat.Seal

/-
  Arrays of bytes compared; the walk of seal.Get.
-/
namespace Go.Proofs.YtfiofdmefgkloaaGreat.Seal
open Go.RowKit
open Math
open Crc

/-- Bytes of ours are those of the library's law on arrays compared. -/
theorem enc_cells (l : List Nat) (h : ∀ b ∈ l, b < 256) : l.map enc = (l.map UInt8.ofNat).map Extern.Stop.cell := by
  rw [List.map_map]
  refine List.map_congr_left fun b hb => ?_
  have := h b hb
  simp [enc, Extern.Stop.cell]
  omega
theorem ofNat_inj : ∀ (l k : List Nat), (∀ b ∈ l, b < 256) → (∀ b ∈ k, b < 256) → l.map UInt8.ofNat = k.map UInt8.ofNat → l = k
  | [], [], _, _, _ => rfl
  | x :: l, y :: k, hl, hk, e => by
    rw [List.map_cons, List.map_cons] at e
    injection e with e1 e2
    have hx := hl x (by simp)
    have hy := hk y (by simp)
    have e3 := congrArg UInt8.toNat e1
    simp at e3
    rw [Nat.mod_eq_of_lt hx, Nat.mod_eq_of_lt hy] at e3
    rw [e3, ofNat_inj l k (fun b hb => hl b (by simp [hb])) (fun b hb => hk b (by simp [hb])) e2]
  | [], _ :: _, _, _, e => by simp at e
  | _ :: _, [], _, _, e => by simp at e
set_option maxRecDepth 100000 in
theorem eql_arr (t : TypeId) (n : Nat) (ht : Tryz.prog.underlying t = some (.array n 5)) (l k : List Nat) (hl : l.length = n) (hk : k.length = n) (bl : ∀ b ∈ l, b < 256) (bk : ∀ b ∈ k, b < 256) (w : World) :
    (Op.equalIn 10000 t (arr l) (arr k)).run Tryz.prog w = .ok (decide (l = k)) w := by
  have := run_equalIn_bytes (P := Tryz.prog) w 9998 t 5 n ht Tryz.underlying5 Tryz.sizeOf5 (l.map UInt8.ofNat) (k.map UInt8.ofNat) (by simpa using hl) (by simpa using hk)
  unfold arr
  rw [enc_cells l bl, enc_cells k bk, this]
  congr 1
  rw [Bool.eq_iff_iff]
  simp only [beq_iff_eq, decide_eq_true_eq]
  exact ⟨ofNat_inj l k bl bk, fun e => by rw [e]⟩
set_option maxRecDepth 100000 in
theorem neq_arr (t : TypeId) (n : Nat) (ht : Tryz.prog.underlying t = some (.array n 5)) (l k : List Nat) (hl : l.length = n) (hk : k.length = n) (bl : ∀ b ∈ l, b < 256) (bk : ∀ b ∈ k, b < 256) (w : World) :
    (binOp .neq t (arr l) (arr k)).run Tryz.prog w = .ok (.bool (!decide (l = k))) w := by
  have := eql_arr t n ht l k hl hk bl bk w
  unfold arr at *
  rw [run_neq_struct, this]
  rfl
set_option maxRecDepth 100000 in
theorem eqls_arr (t : TypeId) (n : Nat) (ht : Tryz.prog.underlying t = some (.array n 5)) (l k : List Nat) (hl : l.length = n) (hk : k.length = n) (bl : ∀ b ∈ l, b < 256) (bk : ∀ b ∈ k, b < 256) (w : World) :
    (binOp .eql t (arr l) (arr k)).run Tryz.prog w = .ok (.bool (decide (l = k))) w := by
  have := eql_arr t n ht l k hl hk bl bk w
  unfold arr at *
  rw [run_eql_struct, this]
  rfl
set_option maxRecDepth 100000 in
theorem guard234 (op : BinOp) (x y : Operand) (l k : List Nat) (w : World) : (eqGuard op 234 x y (arr l) (arr k)).run Tryz.prog w = .ok () w := run_eqGuard_agg w op 234 x y _ _ Tryz.eqGuardType234
set_option maxRecDepth 100000 in
theorem guard95 (op : BinOp) (x y : Operand) (l k : List Nat) (w : World) : (eqGuard op 95 x y (arr l) (arr k)).run Tryz.prog w = .ok () w := run_eqGuard_agg w op 95 x y _ _ Tryz.eqGuardType95

/-- The last four of some bytes, in memory. -/
def Tail (W : World) (b q : Nat) (c0 c1 c2 c3 : Nat) : Prop :=
  W.cell? ⟨b, q, none⟩ = some (.int .u8 (c0 : Int)) ∧ W.cell? ⟨b, q + 1, none⟩ = some (.int .u8 (c1 : Int)) ∧ W.cell? ⟨b, q + 2, none⟩ = some (.int .u8 (c2 : Int)) ∧ W.cell? ⟨b, q + 3, none⟩ = some (.int .u8 (c3 : Int))

/-- Bytes of which four stand behind others. -/
theorem BytesAt.tail {n₀ : Nat} {W : World} {b off cap p : Nat} {ps : List Nat} {c0 c1 c2 c3 : Nat} (hp : ps.length = p) (hI : BytesAt n₀ W (.slice (some ⟨b, off, none⟩) (p + 4) cap) (ps ++ [c0, c1, c2, c3])) :
    Tail W b (off + p) c0 c1 c2 c3 ∧ BytesAt n₀ W (.slice (some ⟨b, off, none⟩) p cap) ps ∧ p + 4 ≤ cap ∧ (c0 < 256 ∧ c1 < 256 ∧ c2 < 256 ∧ c3 < 256) := by
  subst hp
  obtain ⟨hb, a, cap', e, hn, h | ⟨b', off', e2, hl, hb', hc⟩⟩ := hI
  · simp at h
  · injection e with e1 e3 e4
    subst e1
    subst e4
    injection e2 with e2
    injection e2 with e5 e6
    subst e5
    subst e6
    simp only [List.length_append, List.length_cons, List.length_nil] at hl hc
    refine ⟨⟨?_, ?_, ?_, ?_⟩, ⟨fun c hm => hb c (by simp [hm]), _, _, rfl, fun h => by simp at h, .inr ⟨b, off, rfl, by omega, hb', fun j hj => ?_⟩⟩, by omega, hb c0 (by simp), hb c1 (by simp), hb c2 (by simp), hb c3 (by simp)⟩
    · have := hc ps.length (by omega)
      simpa using this
    · have := hc (ps.length + 1) (by omega)
      simpa [Nat.add_assoc] using this
    · have := hc (ps.length + 2) (by omega)
      simpa [Nat.add_assoc] using this
    · have := hc (ps.length + 3) (by omega)
      simpa [Nat.add_assoc] using this
    · have := hc j (by omega)
      rw [List.getElem?_append_left hj] at this
      exact this

set_option maxRecDepth 100000 in
theorem arrayAt234 (b o cap : Nat) (w : World) : (Instr.arrayAt 234 (.slice (some ⟨b, o, none⟩) 4 cap)).run Tryz.prog w = .ok (.pointer (some ⟨b, o, none⟩)) w := by
  simp [Instr.arrayAt]

/-- An array's bytes, as bytes. -/
theorem Arr.bytes {W : World} {g t n : Nat} {l : List Nat} (h : Arr W g t l) (hl : ∀ c ∈ l, c < 256) (hn : l.length = n) (cap : Nat := n) (hc : n ≤ cap := by exact Nat.le_refl _) : BytesAt W.heap.size W (.slice (some ⟨g, 0, none⟩) n cap) l := by
  subst hn
  refine ⟨hl, _, _, rfl, fun h => by simp at h, .inr ⟨g, 0, rfl, hc, h.lt, fun j hj => ?_⟩⟩
  rw [Nat.zero_add]
  exact h.cell j hj

/-- What Get tells of some bytes. -/
def gotE (bs : List Nat) : Nat := if bs.length < 4 then 8 else if sealed (bs.take (bs.length - 4)) = bs then 0 else 10
def gotL (bs : List Nat) : List Nat := if bs.length < 4 then [] else if sealed (bs.take (bs.length - 4)) = bs then bs.take (bs.length - 4) else []

theorem four_of (l : List Nat) (h : l.length = 4) : ∃ c0 c1 c2 c3, l = [c0, c1, c2, c3] := by
  match l, h with
  | [c0, c1, c2, c3], _ => exact ⟨c0, c1, c2, c3, rfl⟩

end Go.Proofs.YtfiofdmefgkloaaGreat.Seal

/-
  The walk of the document's Get of layer 5.
-/
namespace Go.Proofs.YtfiofdmefgkloaaGreat.Seal
open Go.RowKit
open Math
open Crc

/-- Some bytes' text. -/
def txt (l : List Nat) : ByteArray := strOfNums (l.map Int.ofNat)
theorem txt_ne (l k : List Nat) (hl : ∀ b ∈ l, b < 256) (hk : ∀ b ∈ k, b < 256) (h : l ≠ k) : ((txt l).toList == (txt k).toList) = false := by
  rw [beq_eq_false_iff_ne]
  intro e
  apply h
  apply ofNat_inj l k hl hk
  have e2 : (txt l).data.toList = (txt k).data.toList := by
    rw [ByteArray.toList_eq, ByteArray.toList_eq] at e
    exact e
  unfold txt at e2
  rw [strOfNums_data, strOfNums_data, List.map_map, List.map_map] at e2
  exact e2
set_option maxRecDepth 100000 in
theorem conv_txt {W : World} {v : Value} {l : List Nat} {n₀ : Nat} (h : BytesAt n₀ W v l) : (convert 24 9 v).run Tryz.prog W = .ok (.string (txt l)) W := conv_bytes h
set_option maxRecDepth 100000 in
theorem refPut5_bytes (sv : Value) (bs : List Nat) (w : World) (hb : bs.length ≤ 2000) (hI : BytesAt w.heap.size w sv bs) :
    Calls Tryz.prog 170 #[sv] w fun e w' => ∃ v, e = .returned v ∧ BytesAt w'.heap.size w' v (sealed bs) ∧ Below w.heap.size w w' := by
  refine (refPut5_any sv bs w hb hI).mono ?_
  rintro e w' ⟨v', rfl, ho, hB⟩
  exact ⟨v', rfl, bytesAt_owns (sealed_byte bs hI.1) (Nat.le_refl _) (by rw [sealed_length]; exact ho), hB⟩

end Go.Proofs.YtfiofdmefgkloaaGreat.Seal

/-
  The walks of seal.Open and of the document's Open.
-/
namespace Go.Proofs.YtfiofdmefgkloaaGreat.Seal
open Go.RowKit
open Math
open Crc

/-- What a sector holds ahead of its sum. -/
def opN (s : List Nat) : Nat := getv 4 s
def opY (s : List Nat) : Nat := getv 8 (s.drop 4)
theorem opN_lt {s : List Nat} (h : ∀ b ∈ s, b < 256) : opN s < 4294967296 := getv_lt (k := 4) h
theorem opY_lt {s : List Nat} (h : ∀ b ∈ s, b < 256) : opY s < 18446744073709551616 := getv_lt (k := 8) (fun b hb => h b (List.mem_of_mem_drop hb))

theorem Arr.bytes4 {W : World} {g t : Nat} {l : List Nat} (h : Arr W g t l) (hl : ∀ c ∈ l, c < 256) (hn : l.length = 16) : BytesAt W.heap.size W (.slice (some ⟨g, 4, none⟩) 12 12) (l.drop 4) := by
  have e : (l.drop 4).length = 12 := by simp [hn]
  refine ⟨fun c hc => hl c (List.mem_of_mem_drop hc), some ⟨g, 4, none⟩, 12, by rw [e], fun h => by simp at h, .inr ⟨g, 4, rfl, by omega, h.lt, fun j hj => ?_⟩⟩
  rw [h.cell (4 + j) (by omega)]
  simp

set_option maxRecDepth 100000 in
set_option maxHeartbeats 400000 in
/-- seal.Open, of a record -/
theorem open_is (s : List Nat) (w : World) (hs : s.length = 16) (hb : ∀ c ∈ s, c < 256) (he : s = recd (opN s) (opY s)) :
    Calls Tryz.prog 169 #[arr s] w fun e w' => e = .returned (.tuple #[.int .u32 (opN s), .int .u64 (opY s), .bool true]) ∧ Below w.heap.size w w' := by
  have hn := opN_lt hb
  have hy := opY_lt hb
  have hA := arr_new w 95 s
  have g1 := get32_any _ _ _ _ (by rw [hs]; omega) (hA.bytes hb hs)
  have g2 := get64_any _ _ _ _ (by simp [hs]) (hA.bytes4 hb hs)
  have eN : getv 4 s = opN s := rfl
  have eY : getv 8 (s.drop 4) = opY s := rfl
  rw [eN] at g1
  rw [eY] at g2
  clear eN eY
  have q := fun w' => record_any (opN s) (opY s) w' hn hy
  have hq : ∀ w : World, (binOp .neq 95 (.agg (s.map enc).toArray) (arr (recd (opN s) (opY s)))).run Tryz.prog w = .ok (.bool false) w := fun w => by
    have := neq_arr 95 16 Tryz.underlying95 s (recd (opN s) (opY s)) hs (recd_length _ _) hb (recd_byte _ _) w
    rw [decide_eq_true he] at this
    exact this
  have hgd : ∀ (x y : Operand) (w : World), (eqGuard .neq 95 x y (.agg (s.map enc).toArray) (arr (recd (opN s) (opY s)))).run Tryz.prog w = .ok () w := fun x y w => guard95 .neq x y s _ w
  have HR : Hid (∀ W, Below (w.alloc (.cells (s.map enc).toArray 95)).heap.size (w.alloc (.cells (s.map enc).toArray 95)) W → W.rangeAt w.heap.size 0 (s.map enc)) := fun W h => (hA.below h hA.lt).range
  have h28 : Tryz.prog.underlying 95 = some (.array 16 5) := Tryz.underlying95
  have hz : (Tryz.prog.info? 95).map (·.size) = some (s.map enc).length := by rw [List.length_map, hs]; exact Tryz.size95
  have hB0 : Below w.heap.size w (w.alloc (.cells (s.map enc).toArray 95)) := below_alloc w _
  have hB := (Below.refl (w.alloc (.cells (s.map enc).toArray 95)).heap.size (w.alloc (.cells (s.map enc).toArray 95))).drew
  clear hA he hs hb
  generalize recd (opN s) (opY s) = r at *
  generalize opN s = n at *
  generalize opY s = y at *
  generalize getB 4 s = t1 at *
  generalize getB 8 (s.drop 4) = t2 at *
  unfold arr at *
  generalize s.map enc = cs at *
  clear s
  go_enter Tryz.func169, Tryz.ntmps169
  go_wp2_with (first
    | (go_at_call 185; refine g1.mono ?_; rintro e w1 ⟨rfl, rfl⟩)
    | (go_at_call 186; refine g2.mono ?_; rintro e w1 ⟨rfl, rfl⟩))
  go_region_held3 (fun W => W.rangeAt w.heap.size 0 cs) (exact HR.out _ hB) (first
    | (go_at_call 151; refine (q _).mono ?_; rintro e w1 ⟨rfl, hB1⟩; replace hB := hB.trans (hB1.mono hB.size)))
  go_wp2
  go_ret3
  exact ⟨rfl, hB0.trans (hB.mono hB0.size)⟩

set_option maxRecDepth 100000 in
set_option maxHeartbeats 400000 in
/-- seal.Open, of what is none -/
theorem open_not (s : List Nat) (w : World) (hs : s.length = 16) (hb : ∀ c ∈ s, c < 256) (he : s ≠ recd (opN s) (opY s)) :
    Calls Tryz.prog 169 #[arr s] w fun e w' => e = .returned (.tuple #[.int .u32 0, .int .u64 0, .bool false]) ∧ Below w.heap.size w w' := by
  have hn := opN_lt hb
  have hy := opY_lt hb
  have hA := arr_new w 95 s
  have g1 := get32_any _ _ _ _ (by rw [hs]; omega) (hA.bytes hb hs)
  have g2 := get64_any _ _ _ _ (by simp [hs]) (hA.bytes4 hb hs)
  have eN : getv 4 s = opN s := rfl
  have eY : getv 8 (s.drop 4) = opY s := rfl
  rw [eN] at g1
  rw [eY] at g2
  clear eN eY
  have q := fun w' => record_any (opN s) (opY s) w' hn hy
  have hq : ∀ w : World, (binOp .neq 95 (.agg (s.map enc).toArray) (arr (recd (opN s) (opY s)))).run Tryz.prog w = .ok (.bool true) w := fun w => by
    have := neq_arr 95 16 Tryz.underlying95 s (recd (opN s) (opY s)) hs (recd_length _ _) hb (recd_byte _ _) w
    rw [decide_eq_false he] at this
    exact this
  have hgd : ∀ (x y : Operand) (w : World), (eqGuard .neq 95 x y (.agg (s.map enc).toArray) (arr (recd (opN s) (opY s)))).run Tryz.prog w = .ok () w := fun x y w => guard95 .neq x y s _ w
  have HR : Hid (∀ W, Below (w.alloc (.cells (s.map enc).toArray 95)).heap.size (w.alloc (.cells (s.map enc).toArray 95)) W → W.rangeAt w.heap.size 0 (s.map enc)) := fun W h => (hA.below h hA.lt).range
  have h28 : Tryz.prog.underlying 95 = some (.array 16 5) := Tryz.underlying95
  have hz : (Tryz.prog.info? 95).map (·.size) = some (s.map enc).length := by rw [List.length_map, hs]; exact Tryz.size95
  have hB0 : Below w.heap.size w (w.alloc (.cells (s.map enc).toArray 95)) := below_alloc w _
  have hB := (Below.refl (w.alloc (.cells (s.map enc).toArray 95)).heap.size (w.alloc (.cells (s.map enc).toArray 95))).drew
  clear hA he hs hb
  generalize recd (opN s) (opY s) = r at *
  generalize opN s = n at *
  generalize opY s = y at *
  generalize getB 4 s = t1 at *
  generalize getB 8 (s.drop 4) = t2 at *
  unfold arr at *
  generalize s.map enc = cs at *
  clear s
  go_enter Tryz.func169, Tryz.ntmps169
  go_wp2_with (first
    | (go_at_call 185; refine g1.mono ?_; rintro e w1 ⟨rfl, rfl⟩)
    | (go_at_call 186; refine g2.mono ?_; rintro e w1 ⟨rfl, rfl⟩))
  go_region_held3 (fun W => W.rangeAt w.heap.size 0 cs) (exact HR.out _ hB) (first
    | (go_at_call 151; refine (q _).mono ?_; rintro e w1 ⟨rfl, hB1⟩; replace hB := hB.trans (hB1.mono hB.size)))
  go_wp2
  go_ret3
  exact ⟨rfl, hB0.trans (hB.mono hB0.size)⟩

/-- What Open tells of a sector. -/
def isRec (s : List Nat) : Bool := decide (s = recd (opN s) (opY s))
def toldN (s : List Nat) : Nat := if isRec s then opN s else 0
def toldY (s : List Nat) : Nat := if isRec s then opY s else 0

set_option maxRecDepth 100000 in
/-- seal.Open -/
theorem open_any (s : List Nat) (w : World) (hs : s.length = 16) (hb : ∀ c ∈ s, c < 256) :
    Calls Tryz.prog 169 #[arr s] w fun e w' => e = .returned (.tuple #[.int .u32 (toldN s : Nat), .int .u64 (toldY s : Nat), .bool (isRec s)]) ∧ Below w.heap.size w w' := by
  by_cases he : s = recd (opN s) (opY s)
  · have h1 : isRec s = true := decide_eq_true he
    have h2 : toldN s = opN s := by unfold toldN; rw [h1]; rfl
    have h3 : toldY s = opY s := by unfold toldY; rw [h1]; rfl
    rw [h1, h2, h3]
    exact open_is s w hs hb he
  · have h1 : isRec s = false := decide_eq_false he
    have h2 : toldN s = 0 := by unfold toldN; rw [h1]; rfl
    have h3 : toldY s = 0 := by unfold toldY; rw [h1]; rfl
    rw [h1, h2, h3]
    exact open_not s w hs hb he

set_option maxRecDepth 100000 in
/-- twainref02.Get32 -/
theorem refGet32_any (n₀ : Nat) (sv : Value) (bs : List Nat) (w : World) (hlen : bs.length ≤ 9223372036854775807) (hI : BytesAt n₀ w sv bs) :
    Calls Tryz.prog 143 #[sv] w fun e w' => e = .returned (.tuple #[.int .u32 (getv 4 bs), .bool (getB 4 bs)]) ∧ w' = w := by
  have hv : getv 4 bs < 4294967296 := getv_lt hI.1
  have hf := refGet_any n₀ sv bs 4 w (by omega) hlen hI
  generalize getv 4 bs = v at *
  generalize getB 4 bs = t at *
  clear hI hlen
  go_enter Tryz.func143, Tryz.ntmps143
  go_wp2_with (go_at_call 144; refine hf.mono ?_; rintro e w' ⟨rfl, rfl⟩)
  go_ret2
  exact ⟨rfl, rfl⟩

/-- A call's own sixteen bytes, and those from the fifth on. -/
theorem own_parts {W : World} {base : Nat} {v : Value} {l : List Nat} (h : W.ownsRow base 5 1 v 16 (l.map enc)) (hl : l.length = 16) (hb : ∀ c ∈ l, c < 256) :
    ∃ g cap, v = .slice (some ⟨g, 0, none⟩) 16 cap ∧ 16 ≤ cap ∧ BytesAt W.heap.size W (.slice (some ⟨g, 0, none⟩) 16 cap) l ∧ BytesAt W.heap.size W (.slice (some ⟨g, 4, none⟩) 12 (cap - 4)) (l.drop 4) := by
  have hB := bytesAt_owns (n₀ := W.heap.size) hb (Nat.le_refl _) (by rw [hl]; exact h)
  obtain ⟨g, cap, rfl, _, hc⟩ := owns_cells h hl (by omega)
  obtain ⟨_, a, cap', e, _, rfl | ⟨b, off, rfl, hcap, hlt, _⟩⟩ := id hB
  · simp at hl
  · injection e with e1 e2 e3
    injection e1 with e1
    injection e1 with e4 e5
    subst e4
    subst e3
    have e : (l.drop 4).length = 12 := by simp [hl]
    refine ⟨g, cap, rfl, by omega, hB, fun c hc => hb c (List.mem_of_mem_drop hc), some ⟨g, 4, none⟩, cap - 4, by rw [e], fun h => by simp at h, .inr ⟨g, 4, rfl, by omega, hlt, fun j hj => ?_⟩⟩
    rw [hc (4 + j) (by omega)]
    simp

set_option maxRecDepth 100000 in
set_option maxHeartbeats 400000 in
/-- twainref05.Open, of a record -/
theorem refOpen_is (s : List Nat) (w : World) (hs : s.length = 16) (hb : ∀ c ∈ s, c < 256) (he : s = recd (opN s) (opY s)) :
    Calls Tryz.prog 102 #[arr s] w fun e w' => e = .returned (.tuple #[.int .u32 (opN s), .int .u64 (opY s), .bool true]) ∧ Below w.heap.size w w' := by
  have hn := opN_lt hb
  have hy := opY_lt hb
  have hA := arr_new w 95 s
  have q := fun w' => refRecord_any (opN s) (opY s) w' hn hy
  have hq : ∀ w : World, (binOp .neq 95 (arr (recd (opN s) (opY s))) (.agg (s.map enc).toArray)).run Tryz.prog w = .ok (.bool false) w := fun w => by
    have := neq_arr 95 16 Tryz.underlying95 (recd (opN s) (opY s)) s (recd_length _ _) hs (recd_byte _ _) hb w
    rw [decide_eq_true he.symm] at this
    exact this
  have hgd : ∀ (x y : Operand) (w : World), (eqGuard .neq 95 x y (arr (recd (opN s) (opY s))) (.agg (s.map enc).toArray)).run Tryz.prog w = .ok () w := fun x y w => guard95 .neq x y _ s w
  have HG : Hid (∀ W v, W.ownsRow ((w.alloc (.cells (s.map enc).toArray 95)).heap.size) 5 1 v 16 (s.map enc) → ∃ g cap, v = .slice (some ⟨g, 0, none⟩) 16 cap ∧ 16 ≤ cap ∧ BytesAt W.heap.size W (.slice (some ⟨g, 0, none⟩) 16 cap) s ∧ BytesAt W.heap.size W (.slice (some ⟨g, 4, none⟩) 12 (cap - 4)) (s.drop 4)) := fun W v h => own_parts h hs hb
  have g1 := fun (W : World) v (h : BytesAt W.heap.size W v s) => refGet32_any W.heap.size v s W (by rw [hs]; omega) h
  have g2 := fun (W : World) v (h : BytesAt W.heap.size W v (s.drop 4)) => refGet_any W.heap.size v (s.drop 4) 8 W (by omega) (by simp [hs]) h
  have eN : getv 4 s = opN s := rfl
  have eY : getv 8 (s.drop 4) = opY s := rfl
  rw [eN] at g1
  rw [eY] at g2
  clear eN eY
  have HR : Hid (∀ W, Below (w.alloc (.cells (s.map enc).toArray 95)).heap.size (w.alloc (.cells (s.map enc).toArray 95)) W → W.rangeAt w.heap.size 0 (s.map enc)) := fun W h => (hA.below h hA.lt).range
  have HV : Hid (∀ j u, (s.map enc)[j]? = some u → ((w.alloc (.cells (s.map enc).toArray 95)).alloc (.cells #[] 5)).cell? ((⟨w.heap.size, 0, none⟩ : Addr).add j) = some u) := (hA.alloc _).values
  have H1 : Hid (∀ v ∈ s.map enc, v.oneCell' = true) := enc_one s
  have h28 : Tryz.prog.underlying 95 = some (.array 16 5) := Tryz.underlying95
  have hz : (Tryz.prog.info? 95).map (·.size) = some (s.map enc).length := by rw [List.length_map, hs]; exact Tryz.size95
  have HZ : Hid ((s.map enc).length = 16 * 1) := by show _ = _; rw [List.length_map, hs]
  have hB0 : Below w.heap.size w (w.alloc (.cells (s.map enc).toArray 95)) := below_alloc w _
  have esz : (w.alloc (.cells (s.map enc).toArray 95)).heap.size = w.heap.size + 1 := World.size_alloc _ _
  have hown0 : ((w.alloc (.cells (s.map enc).toArray 95)).alloc (.cells #[] 5)).ownsRow (w.alloc (.cells (s.map enc).toArray 95)).heap.size 5 1 (.slice (some ⟨(w.alloc (.cells (s.map enc).toArray 95)).heap.size, 0, none⟩) 0 0) 0 [] := World.ownsRow_made _ _ 0 (Nat.le_refl _) (by decide) rfl
  have hB1 : Below (w.alloc (.cells (s.map enc).toArray 95)).heap.size (w.alloc (.cells (s.map enc).toArray 95)) ((w.alloc (.cells (s.map enc).toArray 95)).alloc (.cells #[] 5)) := below_alloc _ _
  rw [esz] at hown0 hB1 HR HG
  obtain ⟨i0, hi, hz0, hz1, hz2⟩ := info_parts Tryz.info5
  clear hA he hs hb esz
  generalize recd (opN s) (opY s) = r at *
  generalize opN s = n at *
  generalize opY s = y at *
  generalize getB 4 s = t1 at *
  generalize getB 8 (s.drop 4) = t2 at *
  unfold arr at *
  generalize s.map enc = cs at *
  go_enter Tryz.func102, Tryz.ntmps102
  go_wp2_with (first
    | (at_builtin; refine wpList_append_own _ rfl _ _ 24 rfl (w.heap.size + 1) 5 i0 (.int .u8 0) 1 1 Tryz.underlying24 hi hz0 hz1 hz2 rfl (by decide) _ 0 [] rfl hown0 ⟨w.heap.size, 0, none⟩ 16 16 cs rfl HZ.out HV.out H1.out (by decide) (by decide) (by simp) ?_; intro v1 w2 hown1 hgrow1 _))
  have hB2 := below_append (by simp) hB1 hown0 hgrow1
  try rw [Nat.zero_add, List.nil_append] at hown1
  obtain ⟨g, cap, rfl, hcap, hI1, hI2⟩ := HG.out _ _ hown1
  replace g1 := g1 _ _ hI1
  replace g2 := g2 _ _ hI2
  have k1 : ¬ (cap = 4) := by omega
  have k2 : (4 : Int) ≤ (cap : Int) := by omega
  have hB := hB2.drew
  clear hown1 hgrow1 hown0 hB1 HG hI1 hI2 HV H1 HZ
  go_wp2_with (first
    | (go_at_call 143; refine g1.mono ?_; rintro e w1 ⟨rfl, rfl⟩)
    | (go_at_call 144; refine g2.mono ?_; rintro e w1 ⟨rfl, rfl⟩))
  go_region_held3 (fun W => W.rangeAt w.heap.size 0 cs) (exact HR.out _ hB) (first
    | (go_at_call 145; refine (q _).mono ?_; rintro e w1 ⟨rfl, hB1⟩; replace hB := hB.trans (hB1.mono (Nat.le_trans (by simp) hB.size))))
  go_wp2
  go_ret3
  exact ⟨rfl, hB0.trans (hB.mono (Nat.le_succ _))⟩

set_option maxRecDepth 100000 in
set_option maxHeartbeats 400000 in
/-- twainref05.Open, of what is none -/
theorem refOpen_not (s : List Nat) (w : World) (hs : s.length = 16) (hb : ∀ c ∈ s, c < 256) (he : s ≠ recd (opN s) (opY s)) :
    Calls Tryz.prog 102 #[arr s] w fun e w' => e = .returned (.tuple #[.int .u32 0, .int .u64 0, .bool false]) ∧ Below w.heap.size w w' := by
  have hn := opN_lt hb
  have hy := opY_lt hb
  have hA := arr_new w 95 s
  have q := fun w' => refRecord_any (opN s) (opY s) w' hn hy
  have hq : ∀ w : World, (binOp .neq 95 (arr (recd (opN s) (opY s))) (.agg (s.map enc).toArray)).run Tryz.prog w = .ok (.bool true) w := fun w => by
    have := neq_arr 95 16 Tryz.underlying95 (recd (opN s) (opY s)) s (recd_length _ _) hs (recd_byte _ _) hb w
    rw [decide_eq_false (Ne.symm he)] at this
    exact this
  have hgd : ∀ (x y : Operand) (w : World), (eqGuard .neq 95 x y (arr (recd (opN s) (opY s))) (.agg (s.map enc).toArray)).run Tryz.prog w = .ok () w := fun x y w => guard95 .neq x y _ s w
  have HG : Hid (∀ W v, W.ownsRow ((w.alloc (.cells (s.map enc).toArray 95)).heap.size) 5 1 v 16 (s.map enc) → ∃ g cap, v = .slice (some ⟨g, 0, none⟩) 16 cap ∧ 16 ≤ cap ∧ BytesAt W.heap.size W (.slice (some ⟨g, 0, none⟩) 16 cap) s ∧ BytesAt W.heap.size W (.slice (some ⟨g, 4, none⟩) 12 (cap - 4)) (s.drop 4)) := fun W v h => own_parts h hs hb
  have g1 := fun (W : World) v (h : BytesAt W.heap.size W v s) => refGet32_any W.heap.size v s W (by rw [hs]; omega) h
  have g2 := fun (W : World) v (h : BytesAt W.heap.size W v (s.drop 4)) => refGet_any W.heap.size v (s.drop 4) 8 W (by omega) (by simp [hs]) h
  have eN : getv 4 s = opN s := rfl
  have eY : getv 8 (s.drop 4) = opY s := rfl
  rw [eN] at g1
  rw [eY] at g2
  clear eN eY
  have HR : Hid (∀ W, Below (w.alloc (.cells (s.map enc).toArray 95)).heap.size (w.alloc (.cells (s.map enc).toArray 95)) W → W.rangeAt w.heap.size 0 (s.map enc)) := fun W h => (hA.below h hA.lt).range
  have HV : Hid (∀ j u, (s.map enc)[j]? = some u → ((w.alloc (.cells (s.map enc).toArray 95)).alloc (.cells #[] 5)).cell? ((⟨w.heap.size, 0, none⟩ : Addr).add j) = some u) := (hA.alloc _).values
  have H1 : Hid (∀ v ∈ s.map enc, v.oneCell' = true) := enc_one s
  have h28 : Tryz.prog.underlying 95 = some (.array 16 5) := Tryz.underlying95
  have hz : (Tryz.prog.info? 95).map (·.size) = some (s.map enc).length := by rw [List.length_map, hs]; exact Tryz.size95
  have HZ : Hid ((s.map enc).length = 16 * 1) := by show _ = _; rw [List.length_map, hs]
  have hB0 : Below w.heap.size w (w.alloc (.cells (s.map enc).toArray 95)) := below_alloc w _
  have esz : (w.alloc (.cells (s.map enc).toArray 95)).heap.size = w.heap.size + 1 := World.size_alloc _ _
  have hown0 : ((w.alloc (.cells (s.map enc).toArray 95)).alloc (.cells #[] 5)).ownsRow (w.alloc (.cells (s.map enc).toArray 95)).heap.size 5 1 (.slice (some ⟨(w.alloc (.cells (s.map enc).toArray 95)).heap.size, 0, none⟩) 0 0) 0 [] := World.ownsRow_made _ _ 0 (Nat.le_refl _) (by decide) rfl
  have hB1 : Below (w.alloc (.cells (s.map enc).toArray 95)).heap.size (w.alloc (.cells (s.map enc).toArray 95)) ((w.alloc (.cells (s.map enc).toArray 95)).alloc (.cells #[] 5)) := below_alloc _ _
  rw [esz] at hown0 hB1 HR HG
  obtain ⟨i0, hi, hz0, hz1, hz2⟩ := info_parts Tryz.info5
  clear hA he hs hb esz
  generalize recd (opN s) (opY s) = r at *
  generalize opN s = n at *
  generalize opY s = y at *
  generalize getB 4 s = t1 at *
  generalize getB 8 (s.drop 4) = t2 at *
  unfold arr at *
  generalize s.map enc = cs at *
  go_enter Tryz.func102, Tryz.ntmps102
  go_wp2_with (first
    | (at_builtin; refine wpList_append_own _ rfl _ _ 24 rfl (w.heap.size + 1) 5 i0 (.int .u8 0) 1 1 Tryz.underlying24 hi hz0 hz1 hz2 rfl (by decide) _ 0 [] rfl hown0 ⟨w.heap.size, 0, none⟩ 16 16 cs rfl HZ.out HV.out H1.out (by decide) (by decide) (by simp) ?_; intro v1 w2 hown1 hgrow1 _))
  have hB2 := below_append (by simp) hB1 hown0 hgrow1
  try rw [Nat.zero_add, List.nil_append] at hown1
  obtain ⟨g, cap, rfl, hcap, hI1, hI2⟩ := HG.out _ _ hown1
  replace g1 := g1 _ _ hI1
  replace g2 := g2 _ _ hI2
  have k1 : ¬ (cap = 4) := by omega
  have k2 : (4 : Int) ≤ (cap : Int) := by omega
  have hB := hB2.drew
  clear hown1 hgrow1 hown0 hB1 HG hI1 hI2 HV H1 HZ
  go_wp2_with (first
    | (go_at_call 143; refine g1.mono ?_; rintro e w1 ⟨rfl, rfl⟩)
    | (go_at_call 144; refine g2.mono ?_; rintro e w1 ⟨rfl, rfl⟩))
  go_region_held3 (fun W => W.rangeAt w.heap.size 0 cs) (exact HR.out _ hB) (first
    | (go_at_call 145; refine (q _).mono ?_; rintro e w1 ⟨rfl, hB1⟩; replace hB := hB.trans (hB1.mono (Nat.le_trans (by simp) hB.size))))
  go_wp2
  go_ret3
  exact ⟨rfl, hB0.trans (hB.mono (Nat.le_succ _))⟩

set_option maxRecDepth 100000 in
/-- twainref05.Open -/
theorem refOpen_any (s : List Nat) (w : World) (hs : s.length = 16) (hb : ∀ c ∈ s, c < 256) :
    Calls Tryz.prog 102 #[arr s] w fun e w' => e = .returned (.tuple #[.int .u32 (toldN s : Nat), .int .u64 (toldY s : Nat), .bool (isRec s)]) ∧ Below w.heap.size w w' := by
  by_cases he : s = recd (opN s) (opY s)
  · have h1 : isRec s = true := decide_eq_true he
    have h2 : toldN s = opN s := by unfold toldN; rw [h1]; rfl
    have h3 : toldY s = opY s := by unfold toldY; rw [h1]; rfl
    rw [h1, h2, h3]
    exact refOpen_is s w hs hb he
  · have h1 : isRec s = false := decide_eq_false he
    have h2 : toldN s = 0 := by unfold toldN; rw [h1]; rfl
    have h3 : toldY s = 0 := by unfold toldY; rw [h1]; rfl
    rw [h1, h2, h3]
    exact refOpen_not s w hs hb he

end Go.Proofs.YtfiofdmefgkloaaGreat.Seal

/-
  Plain facts of the law SealBack: what is sealed is got, and with some bytes within four side by side turned it is not.
-/
namespace Go.Proofs.YtfiofdmefgkloaaGreat.Seal
open Go.RowKit
open Math
open Crc
namespace sealBack

/-- The first k bytes of e, lowest first, xored to those from place p on. -/
def turn (e p : Nat) : Nat → List Nat → List Nat
  | 0, l => l
  | k + 1, l => (turn e p k l).set (p + k) ((turn e p k l)[p + k]?.getD 0 ^^^ (e / 256 ^ k % 256))

theorem turn_length (e p k : Nat) (l : List Nat) : (turn e p k l).length = l.length := by
  induction k with
  | zero => rfl
  | succ k ih => simp only [turn]; rw [List.length_set, ih]

theorem xor_byte {a b : Nat} (ha : a < 256) (hb : b < 256) : a ^^^ b < 256 := Nat.xor_lt_two_pow (n := 8) ha hb

theorem turn_byte (e p k : Nat) (l : List Nat) (h : ∀ b ∈ l, b < 256) : ∀ b ∈ turn e p k l, b < 256 := by
  induction k with
  | zero => exact h
  | succ k ih =>
    intro b hb
    rcases List.mem_or_eq_of_mem_set hb with h1 | rfl
    · exact ih b h1
    · exact xor_byte (getD_lt _ _ ih) (Nat.mod_lt _ (by omega))

theorem turn_four (e : Nat) (ps cs : List Nat) (b0 b1 b2 b3 : Nat) :
    turn e ps.length 4 (ps ++ [b0, b1, b2, b3] ++ cs) = ps ++ [b0 ^^^ e % 256, b1 ^^^ e / 256 % 256, b2 ^^^ e / 65536 % 256, b3 ^^^ e / 16777216 % 256] ++ cs := by
  simp [turn]

/-- Bytes within which a burst stands. -/
theorem around (l : List Nat) (p : Nat) (h : p + 4 ≤ l.length) : ∃ ps b0 b1 b2 b3 cs, ps.length = p ∧ l = ps ++ [b0, b1, b2, b3] ++ cs := by
  obtain ⟨q, hq⟩ : ∃ q, l.drop p = q := ⟨_, rfl⟩
  have hl : q.length = l.length - p := by rw [← hq, List.length_drop]
  match q, hq, hl with
  | b0 :: b1 :: b2 :: b3 :: cs, hq, _ =>
    refine ⟨l.take p, b0, b1, b2, b3, cs, by simp; omega, ?_⟩
    rw [List.append_assoc]
    have := List.take_append_drop p l
    rw [hq] at this
    simpa using this.symm
  | [], _, hl => simp at hl; omega
  | [_], _, hl => simp at hl; omega
  | [_, _], _, hl => simp at hl; omega
  | [_, _, _], _, hl => simp at hl; omega

/-- What is turned within four bytes is taken otherwise. -/
theorem turned_taken (x e p : Nat) (l : List Nat) (h : p + 4 ≤ l.length) (he : e < 4294967296) (h0 : 0 < e) : taken x (turn e p 4 l) ≠ taken x l := by
  obtain ⟨ps, b0, b1, b2, b3, cs, rfl, rfl⟩ := around l p h
  rw [turn_four]
  exact burst x b0 b1 b2 b3 e ps cs he h0

/-- Four bytes taken at once. -/
theorem taken_zeros (x : Nat) : taken x [0, 0, 0, 0] = halves 32 x := by
  have a : ∀ y, by8 y 0 = halves 8 y := fun y => by unfold by8; rw [Nat.xor_zero]
  simp only [run_cons, run_nil, a]
  rw [show (32 : Nat) = 8 + (8 + (8 + 8)) from rfl, halves_add, halves_add, halves_add]
theorem taken_le4 (x e : Nat) (he : e < 4294967296) : taken x (le4 e) = halves 32 (x ^^^ e) := by
  have h := run_burst x 0 0 0 0 e he
  rw [Nat.zero_xor, Nat.zero_xor, Nat.zero_xor, Nat.zero_xor, taken_zeros] at h
  rw [halves_xor, ← h]
  rfl
/-- What stands behind bytes and their sum is always the same. -/
theorem taken_sealed (bs : List Nat) (hb : ∀ b ∈ bs, b < 256) : taken 4294967295 (sealed bs) = halves 32 4294967295 := by
  rw [sealed, run_append, taken_le4 _ _ (more_lt (by omega) hb)]
  congr 1
  unfold more
  rw [Nat.xor_zero, Nat.xor_comm 4294967295, ← Nat.xor_assoc, Nat.xor_self, Nat.zero_xor]
/-- With some bytes within four turned nothing is sealed. -/
theorem turned_sealed (e p : Nat) (bs ps : List Nat) (hb : ∀ b ∈ bs, b < 256) (hp : ∀ b ∈ ps, b < 256) (h : p + 4 ≤ bs.length + 4) (he : e < 4294967296) (h0 : 0 < e) : sealed ps ≠ turn e p 4 (sealed bs) := by
  intro hh
  refine turned_taken 4294967295 e p (sealed bs) (by rw [sealed_length]; exact h) he h0 ?_
  rw [← hh, taken_sealed ps hp, taken_sealed bs hb]

/-- What Get tells of sealed bytes, and of turned ones. -/
theorem got_len (bs : List Nat) : (sealed bs).take ((sealed bs).length - 4) = bs := by
  rw [sealed_length, Nat.add_sub_cancel, sealed]
  simp
theorem gotE_sealed (bs : List Nat) : gotE (sealed bs) = 0 := by
  unfold gotE
  rw [got_len, if_pos rfl, if_neg (by rw [sealed_length]; omega)]
theorem gotL_sealed (bs : List Nat) : gotL (sealed bs) = bs := by
  unfold gotL
  rw [got_len, if_pos rfl, if_neg (by rw [sealed_length]; omega)]
theorem gotE_turned (e p : Nat) (bs : List Nat) (hb : ∀ b ∈ bs, b < 256) (h : p + 4 ≤ bs.length + 4) (he : e < 4294967296) (h0 : 0 < e) : gotE (turn e p 4 (sealed bs)) = 10 := by
  have hl : (turn e p 4 (sealed bs)).length = bs.length + 4 := by rw [turn_length, sealed_length]
  have ht := turn_byte e p 4 (sealed bs) (sealed_byte bs hb)
  unfold gotE
  rw [if_neg (by rw [hl]; omega), if_neg]
  exact turned_sealed e p bs _ hb (fun b hm => ht b (List.mem_of_mem_take hm)) h he h0

/-- What Open tells of a record, of a turned one, and of noughts. -/
theorem opN_recd (n y : Nat) (hn : n < 4294967296) : opN (recd n y) = n := by
  unfold opN
  rw [getv_in (by rw [recd_length]; omega)]
  have : (recd n y).take 4 = be 4 n := by
    unfold recd sealed twelve
    rw [List.append_assoc, List.take_append_of_le_length (by rw [be_length]; omega), List.take_of_length_le (by rw [be_length]; omega)]
  rw [this, val_be]
  omega
theorem opY_recd (n y : Nat) (hy : y < 18446744073709551616) : opY (recd n y) = y := by
  unfold opY
  have hd : (recd n y).drop 4 = be 8 y ++ le4 (more 0 (twelve n y)) := by
    unfold recd sealed
    conv => lhs; rw [twelve, List.append_assoc, List.drop_append_of_le_length (by rw [be_length]; omega), List.drop_of_length_le (by rw [be_length]; omega), List.nil_append]
    rfl
  rw [getv_in (by rw [hd, List.length_append, be_length]; omega), hd, List.take_append_of_le_length (by rw [be_length]; omega), List.take_of_length_le (by rw [be_length]; omega), val_be]
  omega
theorem isRec_recd (n y : Nat) (hn : n < 4294967296) (hy : y < 18446744073709551616) : isRec (recd n y) = true := by
  unfold isRec
  rw [opN_recd n y hn, opY_recd n y hy]
  exact decide_eq_true rfl
theorem isRec_turned (e p n y : Nat) (h : p + 4 ≤ 16) (he : e < 4294967296) (h0 : 0 < e) : isRec (turn e p 4 (recd n y)) = false := by
  refine decide_eq_false fun hh => ?_
  exact turned_sealed e p (twelve n y) (twelve _ _) (twelve_byte _ _) (twelve_byte _ _) (by rw [twelve_length]; exact h) he h0 hh.symm
theorem isRec_zeros : isRec (zeros 16) = false := by kernel_rfl

end sealBack
end Go.Proofs.YtfiofdmefgkloaaGreat.Seal

