/-
 Texts of ours, joined: SealF, SealG, SealH, SealI, SealJ, SealK, SealN.
-/
import Derived.Deep.RegionHeld3
import Derived.Stop.BytesEq
import Derived.Lib.Bytes
import Derived.Test.YtoaeficfmcncjaaGreatM7
/-
 Laws on arrays of bytes in a block: stored whole, loaded whole, copied into; and the walk of seal.Put.
-/
namespace Go.Proofs.YtoaeficfmcncjaaGreat.Seal
open Go.RowKit
open Math
open Crc
section
variable {ops : Array Oper} {rest : List Oper} {o : Oper} {a : Act} {w : World} {Q : Exit → Act → World → Prop}
set_option maxRecDepth 100000 in
theorem wpList_store_arr (hgd : o.guard = none) (ty : TypeId) (x y : Operand) (ho : o.op = .store ty x y) (g : Nat) (t : TypeId) (l0 l : List Nat)
  (hx : a.eval x = .pointer (some ⟨g, 0, none⟩)) (hy : a.eval y = arr l) (h0 : Arr w g t l0) (hl : l.length = l0.length) (hi : (Tryz.prog.info? ty).map (·.size) = some l.length)
  (n : Nat) (w0 : World) (hB : Below n w0 w) (hn : n ≤ g)
  (h : ∀ w', Arr w' g t l → (∀ g' t' l', g' ≠ g → Arr w g' t' l' → Arr w' g' t' l') → w'.heap.size = w.heap.size → Below n w0 w' → wpList Tryz.prog ops Q rest (a.put o.dst undef) w') : wpList Tryz.prog ops Q (o :: rest) a w := by
 refine wpList_store_mid hgd ty x y ho g 0 (l.map enc).toArray hx hy ?_ (by simpa using hi) (all_oneCell_toArray (enc_one _)) ?_
 ·have := h0.there
  simpa [hl] using this
 ·refine h _ (h0.setAll l hl) (fun g' t' l' hne hA => hA.setAll_other h0 l hl hne) ?_ (h0.below_setAll l hl hB hn)
  rw [setCells_row h0 (by simp [hl]) (enc_one l)]
  simp [World.setRow]
set_option maxRecDepth 100000 in
theorem wpList_load_arr (hgd : o.guard = none) (ty : TypeId) (x : Operand) (ho : o.op = .load ty x) (g : Nat) (t : TypeId) (l : List Nat)
  (hx : a.eval x = .pointer (some ⟨g, 0, none⟩)) (h0 : Arr w g t l) (m : Nat) (e : TypeId) (hu : Tryz.prog.underlying ty = some (.array m e)) (hi : (Tryz.prog.info? ty).map (·.size) = some l.length)
  (h : wpList Tryz.prog ops Q rest (a.put o.dst (arr l)) w) : wpList Tryz.prog ops Q (o :: rest) a w :=
 wpList_load_mid hgd ty x ho g 0 hx (l.map enc) _ h0.range hu rfl (by simpa using hi) h
theorem splice_map (L l : List Nat) (off : Nat) : splice (L.map enc) off (l.map enc) = (splice L off l).map enc := by
 simp [splice, List.map_take, List.map_drop]
set_option maxRecDepth 100000 in
theorem wpList_copy_arr (hgd : o.guard = none) (d s : Operand) (ho : o.op = .call { callee := .builtin .copy, args := #[d, s], argTypes := #[45, 45] })
  (dp sp : Option Addr) (dLen dCap sLen sCap : Nat) (hd : a.eval d = .slice dp dLen dCap) (hs : a.eval s = .slice sp sLen sCap)
  (g off : Nat) (t : TypeId) (L l : List Nat) (hg : Arr w g t L) (hn : l.length = Nat.min sLen dLen)
  (hpos : 0 < l.length → dp = some ⟨g, off, none⟩ ∧ ∃ ad, sp = some ad ∧ ∀ j v, (l.map enc)[j]? = some v → w.cell? (ad.add j) = some v)
  (hfit : off + l.length ≤ L.length) (B : Nat) (w0 : World) (hb : Below B w0 w) (hBg : B ≤ g)
  (h : ∀ w', Arr w' g t (splice L off l) → Below B w0 w' → wpList Tryz.prog ops Q rest (a.put o.dst (goInt l.length)) w') : wpList Tryz.prog ops Q (o :: rest) a w := by
 refine wpList_copy_splice hgd d s 45 45 ho 5 Tryz.underlying45 Tryz.size5 dp sp dLen dCap sLen sCap hd hs g off (L.map enc) t hg (l.map enc) (by simpa using hn) (by simpa using hpos) (by simpa using hfit) (enc_one l) B w0 hb hBg ?_
 intro w' hg' hb'
 have hh := hg'.out
 rw [splice_map] at hh
 have := h w' hh hb'
 simpa using this
end
set_option maxRecDepth 100000 in
theorem step_copy_arr {ops : Array Oper} {o : Oper} {a : Act} {w : World} {K : Act → World → Prop} {Q : Exit → Act → World → Prop} {E : Prop} (hgd : o.guard = none) (d s : Operand)
  (ho : o.op = .call { callee := .builtin .copy, args := #[d, s], argTypes := #[45, 45] })
  (dp sp : Option Addr) (dLen dCap sLen sCap : Nat) (hd : a.eval d = .slice dp dLen dCap) (hs : a.eval s = .slice sp sLen sCap)
  (g off : Nat) (t : TypeId) (L l : List Nat) (hg : Arr w g t L) (hn : l.length = Nat.min sLen dLen)
  (hpos : 0 < l.length → dp = some ⟨g, off, none⟩ ∧ ∃ ad, sp = some ad ∧ ∀ j v, (l.map enc)[j]? = some v → w.cell? (ad.add j) = some v)
  (hfit : off + l.length ≤ L.length) (B : Nat) (w0 : World) (hb : Below B w0 w) (hBg : B ≤ g)
  (h : ∀ w', Arr w' g t (splice L off l) → Below B w0 w' → K (a.put o.dst (goInt l.length)) w') :
  if Region.wanted o (yielded ops a.tmps) = true then Oper.wp Tryz.prog o a w K Q else E := by
 refine step_copy_splice hgd d s 45 45 ho 5 Tryz.underlying45 Tryz.size5 dp sp dLen dCap sLen sCap hd hs g off (L.map enc) t hg (l.map enc) (by simpa using hn) (by simpa using hpos) (by simpa using hfit) (enc_one l) B w0 hb hBg ?_
 intro w' hg' hb'
 have hh := hg'.out
 rw [splice_map] at hh
 have := h w' hh hb'
 simpa using this
def zeros (n : Nat) : List Nat := List.replicate n 0
theorem zeros_length (n : Nat) : (zeros n).length = n := List.length_replicate
theorem madeBytes (n : Nat) : madeCells #[.int .u8 0] n = ((zeros n).map enc).toArray := by
 apply Array.ext
 ·simp [madeCells, zeros]
 ·intro i h1 h2
  simp [madeCells, enc, zeros, Nat.mod_one]
theorem splice_two (l k : List Nat) (n : Nat) (h : n = l.length + k.length) : splice (splice (zeros n) 0 l) l.length k = l ++ k := by
 subst h
 simp [splice, zeros]
set_option maxRecDepth 100000 in
theorem make_bytes (n : Nat) (hn : n ≤ 100000) (w : World) : (Instr.makeSlice 45 (.int .i64 (n : Int)) (.int .i64 (n : Int))).run Tryz.prog w = .ok (.slice (some ⟨w.heap.size, 0, none⟩) n n) (w.alloc (.cells ((zeros n).map enc).toArray 5)) := by
 obtain ⟨i0, hi, hz0, hz1, hz2⟩ := info_parts Tryz.info5
 have := run_make (P := Tryz.prog) w 45 5 i0 (.int .u8 0) Tryz.underlying45 hi hz0 .i64 .i64 (n : Int) (n : Int) (by omega) (by omega) (by rw [hz2]; omega) (by omega)
 rw [hz1, show ((n : Int)).toNat = n by omega, Nat.mul_one] at this
 rw [← madeBytes]
 exact this
theorem Arr.drew {W : World} {g : Nat} {t : TypeId} {l : List Nat} (h : Arr W g t l) : Arr W.drew g t l := h
theorem Arr.values {W : World} {g : Nat} {t : TypeId} {l : List Nat} (h : Arr W g t l) : ∀ j u, (l.map enc)[j]? = some u → W.cell? ((⟨g, 0, none⟩ : Addr).add j) = some u := fun j u hj => by
 have := h.range j u hj
 rwa [Addr.add_mid]
theorem BytesAt.source {n₀ : Nat} {w : World} {sv : Value} {bs : List Nat} (hI : BytesAt n₀ w sv bs) (w' : World) (h : Below n₀ w w') (aa : Option Addr) (n cap : Nat) (e : sv = .slice aa n cap) (hp : 0 < bs.length) :
  ∃ ad, aa = some ad ∧ ∀ j v, (bs.map enc)[j]? = some v → w'.cell? (ad.add j) = some v := by
 subst e
 have hI' := hI.below h
 obtain ⟨_, a', cap', e, _, rfl | ⟨b, off, rfl, _⟩⟩ := hI
 ·simp at hp
 ·injection e with e1 e2 e3
  subst e1
  exact ⟨_, rfl, hI'.values⟩
set_option maxRecDepth 100000 in
set_option maxHeartbeats 400000 in
theorem put_any (sv : Value) (bs : List Nat) (w : World) (hlen : bs.length ≤ 2000) (hI : BytesAt w.heap.size w sv bs) :
  Calls Tryz.prog 269 #[sv] w fun e w' => ∃ g, e = .returned (.slice (some ⟨g, 0, none⟩) (bs.length + 4) (bs.length + 4)) ∧ w.heap.size ≤ g ∧ Arr w' g 5 (sealed bs) ∧ Below w.heap.size w w' := by
 have q := fun w' (h : Below w.heap.size w w') => sumOf_any sv bs w' (by omega) ((hI.below h).mono h.size)
 have HV0 := hI.source
 obtain ⟨aa, cap, rfl⟩ : ∃ aa cap, sv = .slice aa bs.length cap := by obtain ⟨_, aa, cap, e, _⟩ := hI; exact ⟨aa, cap, e⟩
 have HV : Hid (∀ w', Below w.heap.size w w' → 0 < bs.length → ∃ ad, aa = some ad ∧ ∀ j v, (bs.map enc)[j]? = some v → w'.cell? (ad.add j) = some v) := fun w' h hp => HV0 w' h _ _ _ rfl hp
 clear HV0
 have HS : Hid (sealed bs = bs ++ le4 (more 0 bs)) := rfl
 generalize more 0 bs = m at *
 obtain ⟨len, hl⟩ : ∃ len, bs.length = len := ⟨_, rfl⟩
 have HL : Hid (bs.length = len) := hl
 clear hI
 rw [hl] at hlen q HV ⊢
 clear hl
 have hmk : ∀ w : World, (Instr.makeSlice 45 (.int .i64 ((len : Int) + 4)) (.int .i64 ((len : Int) + 4))).run Tryz.prog w = .ok (.slice (some ⟨w.heap.size, 0, none⟩) (len + 4) (len + 4)) (w.alloc (.cells ((zeros (len + 4)).map enc).toArray 5)) := fun w => make_bytes (len + 4) (by omega) w
 have hB := Below.refl w.heap.size w
 go_enter Tryz.func269, Tryz.ntmps269
 go_wp2_with (first
  | (go_at_call 296; refine (q _ hB).mono ?_; rintro e w1 ⟨rfl, hB1⟩; replace hB := hB.trans hB1)
  | (refine wpList_store_arr rfl 363 _ _ rfl _ 363 [0, 0, 0, 0] (le4 m) rfl rfl (arr_new w1 363 [0, 0, 0, 0]) rfl Tryz.size363 w.heap.size w (hB.alloc hB.size _) hB.size ?_; intro w2 hA2 _ hz2 hB2; replace hz2 : Hid (w2.heap.size = w1.heap.size + 1) := hz2.trans (by simp); clear hB1 q; replace hB := hB.size)
  | (refine wpList_copy_arr rfl _ _ rfl _ _ _ _ _ _ rfl rfl w2.heap.size 0 5 (zeros (len + 4)) bs (arr_new w2 5 _) (by rw [HL.out]; exact (Nat.min_eq_left (by omega)).symm) (fun hp => ⟨rfl, HV.out _ (hB2.alloc hB2.size _) (by rw [← HL.out]; exact hp)⟩) (by rw [HL.out, zeros_length]; omega) w2.heap.size w2 (below_alloc w2 _) (Nat.le_refl _) ?_; intro w3 hA3 hB3))
 have hA2' := hA2.below hB3 (hA2.lt)
 have hg2 := hB2.size
 replace hB2 := hB2.trans (hB3.mono hB2.size)
 clear hmk hB3 hA2
 have k1 : ¬ (len + 4 = len) := by omega
 have k2 : (len : Int) ≤ (len : Int) + 4 := by omega
 have SF : Hid (len + (le4 m).length ≤ (splice (zeros (len + 4)) 0 bs).length) := by
  show _ ≤ _
  rw [length_splice _ _ _ (by rw [HL.out, zeros_length]; omega), zeros_length, le4_length]
  omega
 go_region_law (refine step_copy_arr rfl (.tmp 17) (.tmp 18) rfl (some ⟨w2.heap.size, len, none⟩) (some ⟨w1.heap.size, 0, none⟩) 4 4 4 4 (by simp [Act.eval, Act.put]) (by simp [Act.eval, Act.put]) w2.heap.size len 5 _ (le4 m) (Arr.drew hA3) rfl (fun _ => ⟨rfl, _, rfl, (Arr.drew hA2').values⟩) SF.out w.heap.size w (hB2.drew) hg2 ?_; intro w4 hA4 hB4)
 go_wp2
 go_ret
 refine ⟨_, rfl, hg2, ?_, hB4⟩
 have e : splice (splice (zeros (len + 4)) 0 bs) len (le4 m) = sealed bs := by
  rw [HS.out, ← splice_two bs (le4 m) (len + 4) (by rw [HL.out, le4_length]), HL.out]
 rwa [e] at hA4
end Go.Proofs.YtoaeficfmcncjaaGreat.Seal
namespace Go.Proofs.YtoaeficfmcncjaaGreat.Seal
open Go.RowKit
open Math
open Crc
def twelve (n y : Nat) : List Nat := be 4 n ++ be 8 y
def recd (n y : Nat) : List Nat := sealed (twelve n y)
theorem twelve_length (n y : Nat) : (twelve n y).length = 12 := by simp [twelve, be_length]
theorem recd_length (n y : Nat) : (recd n y).length = 16 := by rw [recd, sealed_length, twelve_length]
theorem twelve_byte (n y : Nat) : ∀ b ∈ twelve n y, b < 256 := by
 intro b hb
 rcases List.mem_append.1 hb with h | h
 ·exact be_byte 4 n b h
 ·exact be_byte 8 y b h
theorem recd_byte (n y : Nat) : ∀ b ∈ recd n y, b < 256 := sealed_byte _ (twelve_byte n y)
def sec0 : Obj := .cells #[.int .u8 0, .int .u8 0, .int .u8 0, .int .u8 0, .int .u8 0, .int .u8 0, .int .u8 0, .int .u8 0, .int .u8 0, .int .u8 0, .int .u8 0, .int .u8 0, .int .u8 0, .int .u8 0, .int .u8 0, .int .u8 0] 113
theorem sec0_is : sec0 = .cells ((zeros 16).map enc).toArray 113 := rfl
theorem arr_sec0 (w : World) : Arr (w.alloc sec0) w.heap.size 113 (zeros 16) := by rw [sec0_is]; exact arr_new w 113 _
def Two (w W : World) (l : List Nat) : Prop := Below w.heap.size w W ∧ Arr W w.heap.size 113 (zeros 16) ∧ Arr W (w.heap.size + 1) 113 l
theorem two_new (w : World) : Two w ((w.alloc sec0).alloc sec0) (zeros 16) := by
 refine ⟨(below_alloc w _).alloc (by simp) _, (arr_sec0 w).alloc _, ?_⟩
 have := arr_sec0 (w.alloc sec0)
 rwa [World.size_alloc] at this
theorem Two.drew {w W : World} {l : List Nat} (h : Two w W l) : Two w W.drew l := ⟨h.1.drew, h.2.1.drew, h.2.2.drew⟩
theorem Two.after {w W W' : World} {l : List Nat} (h : Two w W l) (hB : Below W.heap.size W W') : Two w W' l :=
 ⟨h.1.trans (hB.mono h.1.size), h.2.1.below hB h.2.1.lt, h.2.2.below hB h.2.2.lt⟩
theorem splice_all (L l : List Nat) (h : l.length = L.length) : splice L 0 l = l := by
 simp [splice, h]
section
set_option maxRecDepth 100000
theorem put32_first (n : Nat) (w : World) (hn : n < 4294967296) :
  Calls Tryz.prog 271 #[.slice none 0 0, .int .u32 n] w fun e w' => ∃ v, e = .returned v ∧ BytesAt w'.heap.size w' v (be 4 n) ∧ Below w.heap.size w w' := by
 refine (put32_any (.slice none 0 0) [] n w (by simp) hn ⟨by simp, none, 0, rfl, fun _ => rfl, .inl rfl⟩).mono ?_
 rintro e w' ⟨v, rfl, ho, hB⟩
 exact ⟨v, rfl, bytesAt_owns (be_byte 4 n) (Nat.le_refl _) (by simpa [be_length] using ho), hB⟩
theorem put64_then (n y : Nat) (v : Value) (w : World) (hy : y < 18446744073709551616) (hI : BytesAt w.heap.size w v (be 4 n)) :
  Calls Tryz.prog 270 #[v, .int .u64 y] w fun e w' => ∃ v', e = .returned v' ∧ BytesAt w'.heap.size w' v' (twelve n y) ∧ Below w.heap.size w w' := by
 refine (put64_any v (be 4 n) y w (by simp [be_length]) hy hI).mono ?_
 rintro e w' ⟨v', rfl, ho, hB⟩
 exact ⟨v', rfl, bytesAt_owns (twelve_byte n y) (Nat.le_refl _) (by rw [twelve_length]; simpa [be_length, twelve] using ho), hB⟩
theorem put_twelve (n y : Nat) (v : Value) (w : World) (hI : BytesAt w.heap.size w v (twelve n y)) :
  Calls Tryz.prog 269 #[v] w fun e w' => ∃ g, e = .returned (.slice (some ⟨g, 0, none⟩) 16 16) ∧ w.heap.size ≤ g ∧ Arr w' g 5 (recd n y) ∧ Below w.heap.size w w' := by
 refine (put_any v (twelve n y) w (by rw [twelve_length]; omega) hI).mono ?_
 rintro e w' ⟨g, rfl, hg, hA, hB⟩
 rw [twelve_length]
 exact ⟨g, rfl, hg, hA, hB⟩
end
def over (l : List Nat) (k : Nat) : List Nat := l.take k ++ zeros (l.length - k)
set_option maxRecDepth 100000 in
set_option maxHeartbeats 400000 in
theorem record_any (n y : Nat) (w : World) (hn : n < 4294967296) (hy : y < 18446744073709551616) :
  Calls Tryz.prog 232 #[.int .u32 n, .int .u64 y] w fun e w' => e = .returned (arr (recd n y)) ∧ Below w.heap.size w w' := by
 have hT := (two_new w).drew
 go_enter Tryz.func232, Tryz.ntmps232
 go_wp2_with fail
 go_region_held3 (fun _ => True) (trivial) (first
  | (refine step_copy_arr rfl (.tmp 6) (.tmp 11) rfl (some ⟨w.heap.size + 1, 0, none⟩) (some ⟨g, 0, none⟩) 16 16 16 16 (by simp [Act.eval]) (by simp [Act.eval]) (w.heap.size + 1) 0 113 (zeros 16) (recd n y) hT.2.2 (recd_length n y) (fun _ => ⟨rfl, _, rfl, hG.values⟩) (by rw [recd_length, zeros_length]; omega) (w.heap.size + 1) _ (Below.refl _ _) (Nat.le_refl _) ?_; intro w4 hA4 hB4)
  | (go_at_call 271; refine (put32_first n _ hn).mono ?_; rintro e w1 ⟨v, rfl, hI, hB⟩; replace hT := hT.after hB)
  | (go_at_call 270; refine (put64_then n y _ _ hy hI).mono ?_; rintro e w1 ⟨v, rfl, hI', hB⟩; replace hT := hT.after hB)
  | (go_at_call 269; refine (put_twelve n y _ _ hI').mono ?_; rintro e w1 ⟨g, rfl, -, hG, hB⟩; replace hT := hT.after hB))
 rw [splice_all _ _ (by rw [recd_length, zeros_length])] at hA4
 have hA0 := hT.2.1.below hB4 (Nat.lt_succ_self _)
 have hB0 := hT.1.trans (hB4.mono (Nat.le_succ _))
 have HR : Hid ((Tryz.prog.info? 113).map (·.size) = some (recd n y).length) := by
  show _ = _
  rw [recd_length]
  exact Tryz.size113
 have HL : Hid ((recd n y).length = (zeros 16).length) := recd_length n y
 clear hT hI hI' hG hB4
 go_wp2_with (first
  | (refine wpList_load_arr rfl 113 _ rfl (w.heap.size + 1) 113 (recd n y) rfl hA4 _ _ Tryz.underlying113 HR.out ?_)
  | (refine wpList_store_arr rfl 113 _ _ rfl w.heap.size 113 (zeros 16) (recd n y) rfl rfl hA0 HL.out HR.out w.heap.size w hB0 (Nat.le_refl _) ?_; intro w5 hA5 _ _ hB5))
 refine bodyPost_ret (v := arr (recd n y)) (results_cell_row rfl _ _ w.heap.size 113 ((recd n y).map enc).toArray (0, 0) _ rfl hA5 Tryz.underlying113 rfl (by simpa using HR.out)) rfl ⟨rfl, hB5⟩
end Go.Proofs.YtoaeficfmcncjaaGreat.Seal
namespace Go.Proofs.YtoaeficfmcncjaaGreat.Seal
open Go.RowKit
open Math
open Crc
theorem enc_cells (l : List Nat) (h : ∀ b ∈ l, b < 256) : l.map enc = (l.map UInt8.ofNat).map Extern.Stop.cell := by
 rw [List.map_map]
 refine List.map_congr_left fun b hb => ?_
 have := h b hb
 simp [enc, Extern.Stop.cell]
 omega
theorem ofNat_inj : ∀ (l k : List Nat), (∀ b ∈ l, b < 256) → (∀ b ∈ k, b < 256) → l.map UInt8.ofNat = k.map UInt8.ofNat → l = k
 | [], [], _, _, _ => rfl
 | x :: l, y :: k, hl, hk, e => by
  rw [List.map_cons, List.map_cons] at e
  injection e with e1 e2
  have hx := hl x (by simp)
  have hy := hk y (by simp)
  have e3 := congrArg UInt8.toNat e1
  simp at e3
  rw [Nat.mod_eq_of_lt hx, Nat.mod_eq_of_lt hy] at e3
  rw [e3, ofNat_inj l k (fun b hb => hl b (by simp [hb])) (fun b hb => hk b (by simp [hb])) e2]
 | [], _ :: _, _, _, e => by simp at e
 | _ :: _, [], _, _, e => by simp at e
section
set_option maxRecDepth 100000
theorem eql_arr (t : TypeId) (n : Nat) (ht : Tryz.prog.underlying t = some (.array n 5)) (l k : List Nat) (hl : l.length = n) (hk : k.length = n) (bl : ∀ b ∈ l, b < 256) (bk : ∀ b ∈ k, b < 256) (w : World) :
  (Op.equalIn 10000 t (arr l) (arr k)).run Tryz.prog w = .ok (decide (l = k)) w := by
 have := run_equalIn_bytes (P := Tryz.prog) w 9998 t 5 n ht Tryz.underlying5 Tryz.sizeOf5 (l.map UInt8.ofNat) (k.map UInt8.ofNat) (by simpa using hl) (by simpa using hk)
 unfold arr
 rw [enc_cells l bl, enc_cells k bk, this]
 congr 1
 rw [Bool.eq_iff_iff]
 simp only [beq_iff_eq, decide_eq_true_eq]
 exact ⟨ofNat_inj l k bl bk, fun e => by rw [e]⟩
theorem neq_arr (t : TypeId) (n : Nat) (ht : Tryz.prog.underlying t = some (.array n 5)) (l k : List Nat) (hl : l.length = n) (hk : k.length = n) (bl : ∀ b ∈ l, b < 256) (bk : ∀ b ∈ k, b < 256) (w : World) :
  (binOp .neq t (arr l) (arr k)).run Tryz.prog w = .ok (.bool (!decide (l = k))) w := by
 have := eql_arr t n ht l k hl hk bl bk w
 unfold arr at *
 rw [run_neq_struct, this]
 rfl
theorem guard113 (op : BinOp) (x y : Operand) (l k : List Nat) (w : World) : (eqGuard op 113 x y (arr l) (arr k)).run Tryz.prog w = .ok () w := run_eqGuard_agg w op 113 x y _ _ Tryz.eqGuardType113
end
theorem Arr.bytes {W : World} {g t n : Nat} {l : List Nat} (h : Arr W g t l) (hl : ∀ c ∈ l, c < 256) (hn : l.length = n) (cap : Nat := n) (hc : n ≤ cap := by exact Nat.le_refl _) : BytesAt W.heap.size W (.slice (some ⟨g, 0, none⟩) n cap) l := by
 subst hn
 refine ⟨hl, _, _, rfl, fun h => by simp at h, .inr ⟨g, 0, rfl, hc, h.lt, fun j hj => ?_⟩⟩
 rw [Nat.zero_add]
 exact h.cell j hj
end Go.Proofs.YtoaeficfmcncjaaGreat.Seal
namespace Go.Proofs.YtoaeficfmcncjaaGreat.Seal
open Go.RowKit
open Math
open Crc
def opN (s : List Nat) : Nat := getv 4 s
def opY (s : List Nat) : Nat := getv 8 (s.drop 4)
theorem opN_lt {s : List Nat} (h : ∀ b ∈ s, b < 256) : opN s < 4294967296 := getv_lt (k := 4) h
theorem opY_lt {s : List Nat} (h : ∀ b ∈ s, b < 256) : opY s < 18446744073709551616 := getv_lt (k := 8) (fun b hb => h b (List.mem_of_mem_drop hb))
theorem Arr.bytes4 {W : World} {g t : Nat} {l : List Nat} (h : Arr W g t l) (hl : ∀ c ∈ l, c < 256) (hn : l.length = 16) : BytesAt W.heap.size W (.slice (some ⟨g, 4, none⟩) 12 12) (l.drop 4) := by
 have e : (l.drop 4).length = 12 := by simp [hn]
 refine ⟨fun c hc => hl c (List.mem_of_mem_drop hc), some ⟨g, 4, none⟩, 12, by rw [e], fun h => by simp at h, .inr ⟨g, 4, rfl, by omega, h.lt, fun j hj => ?_⟩⟩
 rw [h.cell (4 + j) (by omega)]
 simp
set_option maxRecDepth 100000 in
set_option maxHeartbeats 400000 in
theorem open_is (s : List Nat) (w : World) (hs : s.length = 16) (hb : ∀ c ∈ s, c < 256) (he : s = recd (opN s) (opY s)) :
  Calls Tryz.prog 295 #[arr s] w fun e w' => e = .returned (.tuple #[.int .u32 (opN s), .int .u64 (opY s), .bool true]) ∧ Below w.heap.size w w' := by
 have hn := opN_lt hb
 have hy := opY_lt hb
 have hA := arr_new w 113 s
 have g1 := get32_any _ _ _ _ (by rw [hs]; omega) (hA.bytes hb hs)
 have g2 := get64_any _ _ _ _ (by simp [hs]) (hA.bytes4 hb hs)
 have eN : getv 4 s = opN s := rfl
 have eY : getv 8 (s.drop 4) = opY s := rfl
 rw [eN] at g1
 rw [eY] at g2
 clear eN eY
 have q := fun w' => record_any (opN s) (opY s) w' hn hy
 have hq : ∀ w : World, (binOp .neq 113 (.agg (s.map enc).toArray) (arr (recd (opN s) (opY s)))).run Tryz.prog w = .ok (.bool false) w := fun w => by
  have := neq_arr 113 16 Tryz.underlying113 s (recd (opN s) (opY s)) hs (recd_length _ _) hb (recd_byte _ _) w
  rw [decide_eq_true he] at this
  exact this
 have hgd : ∀ (x y : Operand) (w : World), (eqGuard .neq 113 x y (.agg (s.map enc).toArray) (arr (recd (opN s) (opY s)))).run Tryz.prog w = .ok () w := fun x y w => guard113 .neq x y s _ w
 have HR : Hid (∀ W, Below (w.alloc (.cells (s.map enc).toArray 113)).heap.size (w.alloc (.cells (s.map enc).toArray 113)) W → W.rangeAt w.heap.size 0 (s.map enc)) := fun W h => (hA.below h hA.lt).range
 have h28 : Tryz.prog.underlying 113 = some (.array 16 5) := Tryz.underlying113
 have hz : (Tryz.prog.info? 113).map (·.size) = some (s.map enc).length := by rw [List.length_map, hs]; exact Tryz.size113
 have hB0 : Below w.heap.size w (w.alloc (.cells (s.map enc).toArray 113)) := below_alloc w _
 have hB := (Below.refl (w.alloc (.cells (s.map enc).toArray 113)).heap.size (w.alloc (.cells (s.map enc).toArray 113))).drew
 clear hA he hs hb
 generalize recd (opN s) (opY s) = r at *
 generalize opN s = n at *
 generalize opY s = y at *
 generalize getB 4 s = t1 at *
 generalize getB 8 (s.drop 4) = t2 at *
 unfold arr at *
 generalize s.map enc = cs at *
 clear s
 go_enter Tryz.func295, Tryz.ntmps295
 go_wp2_with (first
  | (go_at_call 305; refine g1.mono ?_; rintro e w1 ⟨rfl, rfl⟩)
  | (go_at_call 306; refine g2.mono ?_; rintro e w1 ⟨rfl, rfl⟩))
 go_region_held3 (fun W => W.rangeAt w.heap.size 0 cs) (exact HR.out _ hB) (first
  | (go_at_call 232; refine (q _).mono ?_; rintro e w1 ⟨rfl, hB1⟩; replace hB := hB.trans (hB1.mono hB.size)))
 go_wp2
 go_ret3
 exact ⟨rfl, hB0.trans (hB.mono hB0.size)⟩
set_option maxRecDepth 100000 in
set_option maxHeartbeats 400000 in
theorem open_not (s : List Nat) (w : World) (hs : s.length = 16) (hb : ∀ c ∈ s, c < 256) (he : s ≠ recd (opN s) (opY s)) :
  Calls Tryz.prog 295 #[arr s] w fun e w' => e = .returned (.tuple #[.int .u32 0, .int .u64 0, .bool false]) ∧ Below w.heap.size w w' := by
 have hn := opN_lt hb
 have hy := opY_lt hb
 have hA := arr_new w 113 s
 have g1 := get32_any _ _ _ _ (by rw [hs]; omega) (hA.bytes hb hs)
 have g2 := get64_any _ _ _ _ (by simp [hs]) (hA.bytes4 hb hs)
 have eN : getv 4 s = opN s := rfl
 have eY : getv 8 (s.drop 4) = opY s := rfl
 rw [eN] at g1
 rw [eY] at g2
 clear eN eY
 have q := fun w' => record_any (opN s) (opY s) w' hn hy
 have hq : ∀ w : World, (binOp .neq 113 (.agg (s.map enc).toArray) (arr (recd (opN s) (opY s)))).run Tryz.prog w = .ok (.bool true) w := fun w => by
  have := neq_arr 113 16 Tryz.underlying113 s (recd (opN s) (opY s)) hs (recd_length _ _) hb (recd_byte _ _) w
  rw [decide_eq_false he] at this
  exact this
 have hgd : ∀ (x y : Operand) (w : World), (eqGuard .neq 113 x y (.agg (s.map enc).toArray) (arr (recd (opN s) (opY s)))).run Tryz.prog w = .ok () w := fun x y w => guard113 .neq x y s _ w
 have HR : Hid (∀ W, Below (w.alloc (.cells (s.map enc).toArray 113)).heap.size (w.alloc (.cells (s.map enc).toArray 113)) W → W.rangeAt w.heap.size 0 (s.map enc)) := fun W h => (hA.below h hA.lt).range
 have h28 : Tryz.prog.underlying 113 = some (.array 16 5) := Tryz.underlying113
 have hz : (Tryz.prog.info? 113).map (·.size) = some (s.map enc).length := by rw [List.length_map, hs]; exact Tryz.size113
 have hB0 : Below w.heap.size w (w.alloc (.cells (s.map enc).toArray 113)) := below_alloc w _
 have hB := (Below.refl (w.alloc (.cells (s.map enc).toArray 113)).heap.size (w.alloc (.cells (s.map enc).toArray 113))).drew
 clear hA he hs hb
 generalize recd (opN s) (opY s) = r at *
 generalize opN s = n at *
 generalize opY s = y at *
 generalize getB 4 s = t1 at *
 generalize getB 8 (s.drop 4) = t2 at *
 unfold arr at *
 generalize s.map enc = cs at *
 clear s
 go_enter Tryz.func295, Tryz.ntmps295
 go_wp2_with (first
  | (go_at_call 305; refine g1.mono ?_; rintro e w1 ⟨rfl, rfl⟩)
  | (go_at_call 306; refine g2.mono ?_; rintro e w1 ⟨rfl, rfl⟩))
 go_region_held3 (fun W => W.rangeAt w.heap.size 0 cs) (exact HR.out _ hB) (first
  | (go_at_call 232; refine (q _).mono ?_; rintro e w1 ⟨rfl, hB1⟩; replace hB := hB.trans (hB1.mono hB.size)))
 go_wp2
 go_ret3
 exact ⟨rfl, hB0.trans (hB.mono hB0.size)⟩
def isRec (s : List Nat) : Bool := decide (s = recd (opN s) (opY s))
def toldN (s : List Nat) : Nat := if isRec s then opN s else 0
def toldY (s : List Nat) : Nat := if isRec s then opY s else 0
set_option maxRecDepth 100000 in
theorem open_any (s : List Nat) (w : World) (hs : s.length = 16) (hb : ∀ c ∈ s, c < 256) :
  Calls Tryz.prog 295 #[arr s] w fun e w' => e = .returned (.tuple #[.int .u32 (toldN s : Nat), .int .u64 (toldY s : Nat), .bool (isRec s)]) ∧ Below w.heap.size w w' := by
 by_cases he : s = recd (opN s) (opY s)
 ·have h1 : isRec s = true := decide_eq_true he
  have h2 : toldN s = opN s := by unfold toldN; rw [h1]; rfl
  have h3 : toldY s = opY s := by unfold toldY; rw [h1]; rfl
  rw [h1, h2, h3]
  exact open_is s w hs hb he
 ·have h1 : isRec s = false := decide_eq_false he
  have h2 : toldN s = 0 := by unfold toldN; rw [h1]; rfl
  have h3 : toldY s = 0 := by unfold toldY; rw [h1]; rfl
  rw [h1, h2, h3]
  exact open_not s w hs hb he
namespace sealBack
end sealBack
end Go.Proofs.YtoaeficfmcncjaaGreat.Seal
