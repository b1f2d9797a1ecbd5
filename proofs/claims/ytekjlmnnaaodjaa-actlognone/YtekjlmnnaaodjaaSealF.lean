/-
  Laws on arrays of bytes in a block: stored whole, loaded whole, copied into; and the walk of seal.Put.
-/
import Derived.Test.YtekjlmnnaaodjaaSealE
namespace Go.Proofs.Ytekjlmnnaaodjaa.Seal
open Go.RowKit
open Math
open Crc

section
variable {ops : Array Oper} {rest : List Oper} {o : Oper} {a : Act} {w : World} {Q : Exit → Act → World → Prop}

set_option maxRecDepth 100000 in
/-- A whole array stored. -/
theorem wpList_store_arr (hgd : o.guard = none) (ty : TypeId) (x y : Operand) (ho : o.op = .store ty x y) (g : Nat) (t : TypeId) (l0 l : List Nat)
    (hx : a.eval x = .pointer (some ⟨g, 0, none⟩)) (hy : a.eval y = arr l) (h0 : Arr w g t l0) (hl : l.length = l0.length) (hi : (Try.prog.info? ty).map (·.size) = some l.length)
    (n : Nat) (w0 : World) (hB : Below n w0 w) (hn : n ≤ g)
    (h : ∀ w', Arr w' g t l → (∀ g' t' l', g' ≠ g → Arr w g' t' l' → Arr w' g' t' l') → w'.heap.size = w.heap.size → Below n w0 w' → wpList Try.prog ops Q rest (a.put o.dst undef) w') : wpList Try.prog ops Q (o :: rest) a w := by
  refine wpList_store_mid hgd ty x y ho g 0 (l.map enc).toArray hx hy ?_ (by simpa using hi) (all_oneCell_toArray (enc_one _)) ?_
  · have := h0.there
    simpa [hl] using this
  · refine h _ (h0.setAll l hl) (fun g' t' l' hne hA => hA.setAll_other h0 l hl hne) ?_ (h0.below_setAll l hl hB hn)
    rw [setCells_row h0 (by simp [hl]) (enc_one l)]
    simp [World.setRow]
set_option maxRecDepth 100000 in
/-- A whole array loaded. -/
theorem wpList_load_arr (hgd : o.guard = none) (ty : TypeId) (x : Operand) (ho : o.op = .load ty x) (g : Nat) (t : TypeId) (l : List Nat)
    (hx : a.eval x = .pointer (some ⟨g, 0, none⟩)) (h0 : Arr w g t l) (m : Nat) (e : TypeId) (hu : Try.prog.underlying ty = some (.array m e)) (hi : (Try.prog.info? ty).map (·.size) = some l.length)
    (h : wpList Try.prog ops Q rest (a.put o.dst (arr l)) w) : wpList Try.prog ops Q (o :: rest) a w :=
  wpList_load_mid hgd ty x ho g 0 hx (l.map enc) _ h0.range hu rfl (by simpa using hi) h

theorem splice_map (L l : List Nat) (off : Nat) : splice (L.map enc) off (l.map enc) = (splice L off l).map enc := by
  simp [splice, List.map_take, List.map_drop]
set_option maxRecDepth 100000 in
/-- Bytes copied into an array's block. -/
theorem wpList_copy_arr (hgd : o.guard = none) (d s : Operand) (ho : o.op = .call { callee := .builtin .copy, args := #[d, s], argTypes := #[68, 68] })
    (dp sp : Option Addr) (dLen dCap sLen sCap : Nat) (hd : a.eval d = .slice dp dLen dCap) (hs : a.eval s = .slice sp sLen sCap)
    (g off : Nat) (t : TypeId) (L l : List Nat) (hg : Arr w g t L) (hn : l.length = Nat.min sLen dLen)
    (hpos : 0 < l.length → dp = some ⟨g, off, none⟩ ∧ ∃ ad, sp = some ad ∧ ∀ j v, (l.map enc)[j]? = some v → w.cell? (ad.add j) = some v)
    (hfit : off + l.length ≤ L.length) (B : Nat) (w0 : World) (hb : Below B w0 w) (hBg : B ≤ g)
    (h : ∀ w', Arr w' g t (splice L off l) → Below B w0 w' → wpList Try.prog ops Q rest (a.put o.dst (goInt l.length)) w') : wpList Try.prog ops Q (o :: rest) a w := by
  refine wpList_copy_splice hgd d s 68 68 ho 5 Try.underlying68 Try.size5 dp sp dLen dCap sLen sCap hd hs g off (L.map enc) t hg (l.map enc) (by simpa using hn) (by simpa using hpos) (by simpa using hfit) (enc_one l) B w0 hb hBg ?_
  intro w' hg' hb'
  have hh := hg'.out
  rw [splice_map] at hh
  have := h w' hh hb'
  simpa using this
end
set_option maxRecDepth 100000 in
theorem step_copy_arr {ops : Array Oper} {o : Oper} {a : Act} {w : World} {K : Act → World → Prop} {Q : Exit → Act → World → Prop} {E : Prop} (hgd : o.guard = none) (d s : Operand)
    (ho : o.op = .call { callee := .builtin .copy, args := #[d, s], argTypes := #[68, 68] })
    (dp sp : Option Addr) (dLen dCap sLen sCap : Nat) (hd : a.eval d = .slice dp dLen dCap) (hs : a.eval s = .slice sp sLen sCap)
    (g off : Nat) (t : TypeId) (L l : List Nat) (hg : Arr w g t L) (hn : l.length = Nat.min sLen dLen)
    (hpos : 0 < l.length → dp = some ⟨g, off, none⟩ ∧ ∃ ad, sp = some ad ∧ ∀ j v, (l.map enc)[j]? = some v → w.cell? (ad.add j) = some v)
    (hfit : off + l.length ≤ L.length) (B : Nat) (w0 : World) (hb : Below B w0 w) (hBg : B ≤ g)
    (h : ∀ w', Arr w' g t (splice L off l) → Below B w0 w' → K (a.put o.dst (goInt l.length)) w') :
    if Region.wanted o (yielded ops a.tmps) = true then Oper.wp Try.prog o a w K Q else E := by
  refine step_copy_splice hgd d s 68 68 ho 5 Try.underlying68 Try.size5 dp sp dLen dCap sLen sCap hd hs g off (L.map enc) t hg (l.map enc) (by simpa using hn) (by simpa using hpos) (by simpa using hfit) (enc_one l) B w0 hb hBg ?_
  intro w' hg' hb'
  have hh := hg'.out
  rw [splice_map] at hh
  have := h w' hh hb'
  simpa using this

/-- n noughts -/
def zeros (n : Nat) : List Nat := List.replicate n 0
theorem zeros_length (n : Nat) : (zeros n).length = n := List.length_replicate
theorem madeBytes (n : Nat) : madeCells #[.int .u8 0] n = ((zeros n).map enc).toArray := by
  apply Array.ext
  · simp [madeCells, zeros]
  · intro i h1 h2
    simp [madeCells, enc, zeros, Nat.mod_one]
theorem splice_two (l k : List Nat) (n : Nat) (h : n = l.length + k.length) : splice (splice (zeros n) 0 l) l.length k = l ++ k := by
  subst h
  simp [splice, zeros]

set_option maxRecDepth 100000 in
/-- make([]byte, n) -/
theorem make_bytes (n : Nat) (hn : n ≤ 100000) (w : World) : (Instr.makeSlice 68 (.int .i64 (n : Int)) (.int .i64 (n : Int))).run Try.prog w = .ok (.slice (some ⟨w.heap.size, 0, none⟩) n n) (w.alloc (.cells ((zeros n).map enc).toArray 5)) := by
  obtain ⟨i0, hi, hz0, hz1, hz2⟩ := info_parts Try.info5
  have := run_make (P := Try.prog) w 68 5 i0 (.int .u8 0) Try.underlying68 hi hz0 .i64 .i64 (n : Int) (n : Int) (by omega) (by omega) (by rw [hz2]; omega) (by omega)
  rw [hz1, show ((n : Int)).toNat = n by omega, Nat.mul_one] at this
  rw [← madeBytes]
  exact this
theorem Arr.drew {W : World} {g : Nat} {t : TypeId} {l : List Nat} (h : Arr W g t l) : Arr W.drew g t l := h
/-- An array's bytes, as a slice of it has them. -/
theorem Arr.values {W : World} {g : Nat} {t : TypeId} {l : List Nat} (h : Arr W g t l) : ∀ j u, (l.map enc)[j]? = some u → W.cell? ((⟨g, 0, none⟩ : Addr).add j) = some u := fun j u hj => by
  have := h.range j u hj
  rwa [Addr.add_mid]

/-- Where bytes that came in lie, if there is one. -/
theorem BytesAt.source {n₀ : Nat} {w : World} {sv : Value} {bs : List Nat} (hI : BytesAt n₀ w sv bs) (w' : World) (h : Below n₀ w w') (aa : Option Addr) (n cap : Nat) (e : sv = .slice aa n cap) (hp : 0 < bs.length) :
    ∃ ad, aa = some ad ∧ ∀ j v, (bs.map enc)[j]? = some v → w'.cell? (ad.add j) = some v := by
  subst e
  have hI' := hI.below h
  obtain ⟨_, a', cap', e, _, rfl | ⟨b, off, rfl, _⟩⟩ := hI
  · simp at hp
  · injection e with e1 e2 e3
    subst e1
    exact ⟨_, rfl, hI'.values⟩

set_option maxRecDepth 100000 in
set_option maxHeartbeats 400000 in
/-- seal.Put -/
theorem put_any (sv : Value) (bs : List Nat) (w : World) (hlen : bs.length ≤ 2000) (hI : BytesAt w.heap.size w sv bs) :
    Calls Try.prog 36 #[sv] w fun e w' => ∃ g, e = .returned (.slice (some ⟨g, 0, none⟩) (bs.length + 4) (bs.length + 4)) ∧ w.heap.size ≤ g ∧ Arr w' g 5 (sealed bs) ∧ Below w.heap.size w w' := by
  have q := fun w' (h : Below w.heap.size w w') => sumOf_any sv bs w' (by omega) ((hI.below h).mono h.size)
  have HV0 := hI.source
  obtain ⟨aa, cap, rfl⟩ : ∃ aa cap, sv = .slice aa bs.length cap := by obtain ⟨_, aa, cap, e, _⟩ := hI; exact ⟨aa, cap, e⟩
  have HV : Hid (∀ w', Below w.heap.size w w' → 0 < bs.length → ∃ ad, aa = some ad ∧ ∀ j v, (bs.map enc)[j]? = some v → w'.cell? (ad.add j) = some v) := fun w' h hp => HV0 w' h _ _ _ rfl hp
  clear HV0
  have HS : Hid (sealed bs = bs ++ le4 (more 0 bs)) := rfl
  generalize more 0 bs = m at *
  obtain ⟨len, hl⟩ : ∃ len, bs.length = len := ⟨_, rfl⟩
  have HL : Hid (bs.length = len) := hl
  clear hI
  rw [hl] at hlen q HV ⊢
  clear hl
  have hmk : ∀ w : World, (Instr.makeSlice 68 (.int .i64 ((len : Int) + 4)) (.int .i64 ((len : Int) + 4))).run Try.prog w = .ok (.slice (some ⟨w.heap.size, 0, none⟩) (len + 4) (len + 4)) (w.alloc (.cells ((zeros (len + 4)).map enc).toArray 5)) := fun w => make_bytes (len + 4) (by omega) w
  have hB := Below.refl w.heap.size w
  go_enter Try.func36, Try.ntmps36
  go_wp2_with (first
    | (go_at_call 43; refine (q _ hB).mono ?_; rintro e w1 ⟨rfl, hB1⟩; replace hB := hB.trans hB1)
    | (refine wpList_store_arr rfl 80 _ _ rfl _ 80 [0, 0, 0, 0] (le4 m) rfl rfl (arr_new w1 80 [0, 0, 0, 0]) rfl Try.size80 w.heap.size w (hB.alloc hB.size _) hB.size ?_; intro w2 hA2 _ hz2 hB2; replace hz2 : Hid (w2.heap.size = w1.heap.size + 1) := hz2.trans (by simp); clear hB1 q; replace hB := hB.size)
    | (refine wpList_copy_arr rfl _ _ rfl _ _ _ _ _ _ rfl rfl w2.heap.size 0 5 (zeros (len + 4)) bs (arr_new w2 5 _) (by rw [HL.out]; exact (Nat.min_eq_left (by omega)).symm) (fun hp => ⟨rfl, HV.out _ (hB2.alloc hB2.size _) (by rw [← HL.out]; exact hp)⟩) (by rw [HL.out, zeros_length]; omega) w2.heap.size w2 (below_alloc w2 _) (Nat.le_refl _) ?_; intro w3 hA3 hB3))
  have hA2' := hA2.below hB3 (hA2.lt)
  have hg2 := hB2.size
  replace hB2 := hB2.trans (hB3.mono hB2.size)
  clear hmk hB3 hA2
  have k1 : ¬ (len + 4 = len) := by omega
  have k2 : (len : Int) ≤ (len : Int) + 4 := by omega
  have SF : Hid (len + (le4 m).length ≤ (splice (zeros (len + 4)) 0 bs).length) := by
    show _ ≤ _
    rw [length_splice _ _ _ (by rw [HL.out, zeros_length]; omega), zeros_length, le4_length]
    omega
  go_region_law (refine step_copy_arr rfl (.tmp 17) (.tmp 18) rfl (some ⟨w2.heap.size, len, none⟩) (some ⟨w1.heap.size, 0, none⟩) 4 4 4 4 (by simp [Act.eval, Act.put]) (by simp [Act.eval, Act.put]) w2.heap.size len 5 _ (le4 m) (Arr.drew hA3) rfl (fun _ => ⟨rfl, _, rfl, (Arr.drew hA2').values⟩) SF.out w.heap.size w (hB2.drew) hg2 ?_; intro w4 hA4 hB4)
  go_wp2
  go_ret
  refine ⟨_, rfl, hg2, ?_, hB4⟩
  have e : splice (splice (zeros (len + 4)) 0 bs) len (le4 m) = sealed bs := by
    rw [HS.out, ← splice_two bs (le4 m) (len + 4) (by rw [HL.out, le4_length]), HL.out]
  rwa [e] at hA4

end Go.Proofs.Ytekjlmnnaaodjaa.Seal
