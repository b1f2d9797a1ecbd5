/-
 Texts of ours, joined: WalksA, WalksB.
-/
import Derived.Test.YtoaeficfmcncjaaGreatProg
import Derived.WalkSpells
import Derived.WalkLawsBesides
import Derived.BigQuiet
import Derived.Deep.WholeRow
import Derived.Deep.RegionHeld3
import Derived.Laws.CopyOwn
import Derived.Stop.BytesEq
import Derived.Lib.SlKeysI
import Derived.Test.YtoaeficfmcncjaaGreatM5
/-
 Sectors as arrays in memory; what stays where it was; a map of sectors; a disk in memory.
-/
namespace Go.Proofs.YtoaeficfmcncjaaGreat
open Go.RowKit
open Math
def enc (i : Nat) : Value := .int .u8 (i : Int)
theorem enc_get (l : List Nat) (j : Nat) (h : j < l.length) : (l.map enc)[j]? = some (.int .u8 ((l[j]?.getD 0 : Nat) : Int)) := by
 simp [h, enc]
def arr (l : List Nat) : Value := .agg (l.map enc).toArray
def Arr (W : World) (g : Nat) (t : TypeId) (l : List Nat) : Prop := W.heap[g]? = some (.cells (l.map enc).toArray t (0, 0))
theorem Arr.lt {W : World} {g : Nat} {t : TypeId} {l : List Nat} (h : Arr W g t l) : g < W.heap.size := (Array.getElem?_eq_some_iff.1 h).1
theorem Arr.cell {W : World} {g : Nat} {t : TypeId} {l : List Nat} (h : Arr W g t l) (j : Nat) (hj : j < l.length) : W.cell? ⟨g, j, none⟩ = some (.int .u8 ((l[j]?.getD 0 : Nat) : Int)) := by
 rw [cell_of_row W g j _ t (0, 0) h, List.getElem?_toArray, enc_get l j hj]
theorem Arr.frozen {W : World} {g : Nat} {t : TypeId} {l : List Nat} (h : Arr W g t l) (j : Nat) : W.frozen? ⟨g, j, none⟩ = false := by
 unfold Arr at h
 simp [World.frozen?, h]
theorem Arr.range {W : World} {g : Nat} {t : TypeId} {l : List Nat} (h : Arr W g t l) : W.rangeAt g 0 (l.map enc) := fun j v hv => by
 rw [Nat.zero_add, cell_of_row W g j _ t (0, 0) h, List.getElem?_toArray]
 exact hv
theorem Arr.there {W : World} {g : Nat} {t : TypeId} {l : List Nat} (h : Arr W g t l) : W.there g 0 l.length := fun j hj => by
 rw [Nat.zero_add]
 exact ⟨by rw [h.cell j hj]; rfl, h.frozen j⟩
theorem arr_new (w : World) (t : TypeId) (l : List Nat) : Arr (w.alloc (.cells (l.map enc).toArray t)) w.heap.size t l := heap_alloc_last w _
theorem Arr.alloc {W : World} {g : Nat} {t : TypeId} {l : List Nat} (h : Arr W g t l) (o : Obj) : Arr (W.alloc o) g t l := by
 have := h.lt
 unfold Arr at *
 show (W.heap.push o)[g]? = _
 rw [Array.getElem?_push, if_neg (by omega)]
 exact h
theorem enc_one (l : List Nat) : ∀ v ∈ l.map enc, v.oneCell' = true := by
 intro u hu
 simp at hu
 obtain ⟨x, _, rfl⟩ := hu
 rfl
theorem Arr.drew {W : World} {g : Nat} {t : TypeId} {l : List Nat} (h : Arr W g t l) : Arr W.drew g t l := h
section
set_option maxRecDepth 100000
theorem Tryz.size113 : (Tryz.prog.info? 113).map (·.size) = some 16 := by kernel_rfl
theorem Tryz.size5 : (Tryz.prog.info? 5).map (·.size) = some 1 := by kernel_rfl
theorem setCells_row {W : World} {g : Nat} {t : TypeId} {cur : Array Value} {vs : List Value} (hg : W.heap[g]? = some (.cells cur t (0, 0))) (hl : vs.length = cur.size) (h1 : ∀ v ∈ vs, v.oneCell' = true) : W.setCells g 0 vs = W.setRow g vs.toArray := by
 have hin : ∀ j, j < vs.length → (W.cell? ⟨g, 0 + 0 + j, none⟩).isSome = true := fun j hj => by
  rw [cell_of_row W g _ cur t (0, 0) hg]
  simp
  omega
 have hfr : ∀ j, j < vs.length → W.frozen? ⟨g, 0 + 0 + j, none⟩ = false := fun j _ => by simp [World.frozen?, hg]
 have e1 := run_storeCells_cells (P := Tryz.prog) g 0 vs 0 W hin hfr h1
 have e2 := run_storeCells_at Tryz.prog g 0 t vs 0 cur W hg (by omega) h1
 rw [e1] at e2
 injection e2 with _ e3
 have e4 : cur.toList.drop (0 + 0 + vs.length) = [] := by apply List.drop_eq_nil_of_le; simp; omega
 rw [e4] at e3
 simpa using e3
end
theorem Arr.setAll {W : World} {g : Nat} {t : TypeId} {l : List Nat} (h : Arr W g t l) (l' : List Nat) (hl : l'.length = l.length) : Arr (W.setCells g 0 (l'.map enc)) g t l' := by
 rw [setCells_row h (by simp [hl]) (enc_one l')]
 exact setRow_heap W g _ _ t _ h
theorem enc_cells (l : List Nat) (h : ∀ b ∈ l, b < 256) : l.map enc = (l.map UInt8.ofNat).map Extern.Stop.cell := by
 rw [List.map_map]
 refine List.map_congr_left fun b hb => ?_
 have := h b hb
 simp [enc, Extern.Stop.cell]
 omega
theorem ofNat_inj : ∀ (l k : List Nat), (∀ b ∈ l, b < 256) → (∀ b ∈ k, b < 256) → l.map UInt8.ofNat = k.map UInt8.ofNat → l = k
 | [], [], _, _, _ => rfl
 | x :: l, y :: k, hl, hk, e => by
  rw [List.map_cons, List.map_cons] at e
  injection e with e1 e2
  have hx := hl x (by simp)
  have hy := hk y (by simp)
  have e3 := congrArg UInt8.toNat e1
  simp at e3
  rw [Nat.mod_eq_of_lt hx, Nat.mod_eq_of_lt hy] at e3
  rw [e3, ofNat_inj l k (fun b hb => hl b (by simp [hb])) (fun b hb => hk b (by simp [hb])) e2]
 | [], _ :: _, _, _, e => by simp at e
 | _ :: _, [], _, _, e => by simp at e
section
set_option maxRecDepth 100000
theorem eql_arr (t : TypeId) (n : Nat) (ht : Tryz.prog.underlying t = some (.array n 5)) (l k : List Nat) (hl : l.length = n) (hk : k.length = n) (bl : ∀ b ∈ l, b < 256) (bk : ∀ b ∈ k, b < 256) (w : World) :
  (Op.equalIn 10000 t (arr l) (arr k)).run Tryz.prog w = .ok (decide (l = k)) w := by
 have := run_equalIn_bytes (P := Tryz.prog) w 9998 t 5 n ht Tryz.underlying5 Tryz.sizeOf5 (l.map UInt8.ofNat) (k.map UInt8.ofNat) (by simpa using hl) (by simpa using hk)
 unfold arr
 rw [enc_cells l bl, enc_cells k bk, this]
 refine congrArg (fun b => Result.ok b w) ?_
 rw [Bool.eq_iff_iff]
 simp only [beq_iff_eq, decide_eq_true_eq]
 exact ⟨ofNat_inj l k bl bk, fun e => by rw [e]⟩
theorem eqls_arr (t : TypeId) (n : Nat) (ht : Tryz.prog.underlying t = some (.array n 5)) (l k : List Nat) (hl : l.length = n) (hk : k.length = n) (bl : ∀ b ∈ l, b < 256) (bk : ∀ b ∈ k, b < 256) (w : World) :
  (binOp .eql t (arr l) (arr k)).run Tryz.prog w = .ok (.bool (decide (l = k))) w := by
 have := eql_arr t n ht l k hl hk bl bk w
 unfold arr at *
 rw [run_eql_struct, this]
 rfl
theorem guard113 (op : BinOp) (x y : Operand) (l k : List Nat) (w : World) : (eqGuard op 113 x y (arr l) (arr k)).run Tryz.prog w = .ok () w := run_eqGuard_agg w op 113 x y _ _ Tryz.eqGuardType113
end
structure Kept (L : List Nat) (w w' : World) : Prop where
 os : w'.os = w.os
 tape : w'.tape = w.tape
 output : w'.output = w.output
 size : w.heap.size ≤ w'.heap.size
 block : ∀ k, k < w.heap.size → k ∉ L → w'.heap[k]? = w.heap[k]?
theorem Kept.refl (L : List Nat) (w : World) : Kept L w w := ⟨rfl, rfl, rfl, Nat.le_refl _, fun _ _ _ => rfl⟩
theorem Kept.trans {L : List Nat} {a b c : World} (h : Kept L a b) (k : Kept L b c) : Kept L a c :=
 ⟨k.os.trans h.os, k.tape.trans h.tape, k.output.trans h.output, Nat.le_trans h.size k.size, fun i hi hL => (k.block i (Nat.lt_of_lt_of_le hi h.size) hL).trans (h.block i hi hL)⟩
theorem Kept.mono {L L' : List Nat} {w w' : World} (h : Kept L w w') (hs : ∀ k ∈ L, k ∈ L') : Kept L' w w' := ⟨h.os, h.tape, h.output, h.size, fun k hk hL => h.block k hk (fun hm => hL (hs k hm))⟩
theorem Kept.of_below {w w' : World} (h : Below w.heap.size w w') (L : List Nat) : Kept L w w' := ⟨h.os, h.tape, h.output, h.size, fun k hk _ => h.block k hk⟩
theorem Kept.below {L : List Nat} {w w' : World} (h : Kept L w w') {n : Nat} (hn : n ≤ w.heap.size) (hL : ∀ k ∈ L, n ≤ k) : Below n w w' :=
 ⟨h.os, h.tape, h.output, h.size, fun k hk => h.block k (by omega) (fun hm => by have := hL k hm; omega)⟩
theorem Kept.of_grown {w w' : World} {b : Nat} (h : w.grownBy w' (some b)) {L : List Nat} (hL : b ∈ L) : Kept L w w' := ⟨h.os, h.tape, h.output, h.size, fun k hk hn => h.block k hk (fun e => by cases e; exact hn hL)⟩
theorem kept_alloc (L : List Nat) (w : World) (o : Obj) : Kept L w (w.alloc o) := Kept.of_below ((Below.refl _ _).alloc (Nat.le_refl _) _) L
theorem kept_drew (L : List Nat) (w : World) : Kept L w w.drew := ⟨rfl, rfl, rfl, Nat.le_refl _, fun _ _ _ => rfl⟩
theorem kept_set {L : List Nat} {g : Nat} (hL : g ∈ L) (w : World) (j : Nat) (u : Value) : Kept L w (w.setCell ⟨g, j, none⟩ u) :=
 ⟨rfl, rfl, rfl, by simp [World.setCell], fun k _ hk => Below.heap_setCell _ _ _ _ (fun e => hk (e ▸ hL))⟩
theorem Kept.young {L : List Nat} {a b c : World} {g : Nat} (h : Kept L a b) (k : Kept (g :: L) b c) (hg : a.heap.size ≤ g) : Kept L a c :=
 ⟨k.os.trans h.os, k.tape.trans h.tape, k.output.trans h.output, Nat.le_trans h.size k.size, fun i hi hL => (k.block i (Nat.lt_of_lt_of_le hi h.size) (fun hm => by
  rcases List.mem_cons.1 hm with e | e
  ·omega
  ·exact hL e)).trans (h.block i hi hL)⟩
theorem Arr.kept {L : List Nat} {A B : World} {g : Nat} {t : TypeId} {l : List Nat} (h : Arr A g t l) (hK : Kept L A B) (hg : g ∉ L) : Arr B g t l := (hK.block g h.lt hg).trans h
section
variable {ops : Array Oper} {rest : List Oper} {o : Oper} {a : Act} {w : World} {Q : Exit → Act → World → Prop}
set_option maxRecDepth 100000 in
theorem wpList_store_arr (hgd : o.guard = none) (ty : TypeId) (x y : Operand) (ho : o.op = .store ty x y) (g : Nat) (t : TypeId) (l0 l : List Nat)
  (hx : a.eval x = .pointer (some ⟨g, 0, none⟩)) (hy : a.eval y = arr l) (h0 : Arr w g t l0) (hl : l.length = l0.length) (hi : (Tryz.prog.info? ty).map (·.size) = some l.length)
  (h : ∀ w', Arr w' g t l → Kept [g] w w' → w'.heap.size = w.heap.size → wpList Tryz.prog ops Q rest (a.put o.dst undef) w') : wpList Tryz.prog ops Q (o :: rest) a w := by
 refine wpList_store_mid hgd ty x y ho g 0 (l.map enc).toArray hx hy ?_ (by simpa using hi) (all_oneCell_toArray (enc_one _)) ?_
 ·have := h0.there
  simpa [hl] using this
 ·have e : w.setCells g 0 (l.map enc) = w.setRow g (l.map enc).toArray := setCells_row h0 (by simp [hl]) (enc_one l)
  refine h _ (h0.setAll l hl) ?_ ?_
  ·simp only [] at *
   rw [e]
   exact ⟨rfl, rfl, rfl, by simp [World.setRow], fun k _ hk => setRow_other w g k _ (by simpa using hk)⟩
  ·simp only [] at *
   rw [e]
   simp [World.setRow]
set_option maxRecDepth 100000 in
theorem wpList_load_arr (hgd : o.guard = none) (ty : TypeId) (x : Operand) (ho : o.op = .load ty x) (g : Nat) (t : TypeId) (l : List Nat)
  (hx : a.eval x = .pointer (some ⟨g, 0, none⟩)) (h0 : Arr w g t l) (m : Nat) (e : TypeId) (hu : Tryz.prog.underlying ty = some (.array m e)) (hi : (Tryz.prog.info? ty).map (·.size) = some l.length)
  (h : wpList Tryz.prog ops Q rest (a.put o.dst (.agg (l.map enc).toArray)) w) : wpList Tryz.prog ops Q (o :: rest) a w :=
 wpList_load_mid hgd ty x ho g 0 hx (l.map enc) _ h0.range hu rfl (by simpa using hi) h
end
end Go.Proofs.YtoaeficfmcncjaaGreat
namespace Go.Proofs.YtoaeficfmcncjaaGreat
open Go.RowKit
open Math
def rdr : Value → Option (DataW Value × List MemPlace) := fun v => some (.held v, [])
def Holds (W : World) (b : Nat) (m : Int → Option (List Nat)) : Prop :=
 (∀ k, m k ≠ none → 0 ≤ k ∧ k < 1024) ∧ ∃ n D, W.ownsMap Tryz.prog 3 rdr b n D ∧ ∀ k : Int, Maps.has D (.int .i64 k) = (m k).isSome ∧ ∀ l, m k = some l → ∀ z, D.atKey (.int .i64 k) z = .held (arr l)
set_option maxRecDepth 100000 in
theorem keyed3 : Go.Maps.Keyed Tryz.prog 3 := Go.Maps.int_keyed Tryz.underlying3
set_option maxRecDepth 100000 in
theorem zero113 (w : World) : (zeroValue 113).run Tryz.prog w = .ok (arr nought) w := by kernel_rfl
theorem wf_i64 {k : Int} (h0 : -9223372036854775808 ≤ k) (h1 : k ≤ 9223372036854775807) : (Lit.int .i64 k).wf = true := WalkArith.wf_i64 ⟨h0, h1⟩
set_option maxRecDepth 100000 in
theorem int_entries {W : World} {b n : Nat} {D : DataW Value} (hown : W.ownsMap Tryz.prog 3 rdr b n D) : ∃ es, D = .map es ∧ es.Pairwise (fun p q => p.1 ≠ q.1) ∧ ∀ p ∈ es, ∃ x : Int, p.1 = .int .i64 x := by
 obtain ⟨es, hD, hpw, _⟩ := hown.entries keyed3
 obtain ⟨es', hD', hko⟩ := hown.keysOf
 obtain rfl : es = es' := by rw [hD] at hD'; simpa using hD'
 exact ⟨es, hD, hpw, fun p hp => by obtain ⟨v, hv⟩ := hko p hp; obtain ⟨x, _, hx, _⟩ := Maps.keyOf_i64 Tryz.underlying3 hv; exact ⟨x, hx⟩⟩
theorem Holds.lt {W : World} {b : Nat} {m : Int → Option (List Nat)} (h : Holds W b m) : b < W.heap.size := by
 obtain ⟨_, n, D, h, _⟩ := h
 exact h.lt
theorem Holds.isMap {W : World} {b : Nat} {m : Int → Option (List Nat)} (h : Holds W b m) : ∃ es clock, W.heap[b]? = some (.map es clock) := by
 obtain ⟨_, n, D, ⟨es, clock, h, _⟩, _⟩ := h
 exact ⟨es, clock, h⟩
theorem Holds.kept {L : List Nat} {A B : World} {b : Nat} {m : Int → Option (List Nat)} (h : Holds A b m) (hK : Kept L A B) (hb : b ∉ L) : Holds B b m := by
 have hlt := h.lt
 obtain ⟨h0, n, D, ⟨es, clock, h1, h2⟩, h3⟩ := h
 exact ⟨h0, n, D, ⟨es, clock, (hK.block b hlt hb).trans h1, h2⟩, h3⟩
section
set_option maxRecDepth 100000
theorem holds_made (w : World) : Holds (w.alloc (.map #[] 0)) w.heap.size (fun _ => none) :=
 ⟨fun _ h => absurd rfl h, 0, .map [], World.ownsMap_made w Tryz.prog 3 rdr, fun k => ⟨rfl, fun l h => by cases h⟩⟩
theorem Holds.few {W : World} {b n : Nat} {m : Int → Option (List Nat)} {D : DataW Value} (h0 : ∀ k, m k ≠ none → 0 ≤ k ∧ k < 1024) (hown : W.ownsMap Tryz.prog 3 rdr b n D)
  (hD : ∀ k : Int, Maps.has D (.int .i64 k) = (m k).isSome) : Maps.size D ≤ 1024 ∧ W.ownsMap Tryz.prog 3 rdr b (Maps.size D) D := by
 obtain ⟨es, rfl, hp, hkey⟩ := int_entries hown
 have hin : ∀ p ∈ es, 0 ≤ intOf p.1 ∧ intOf p.1 < 1024 := fun p hp' => by
  obtain ⟨x, hx⟩ := hkey p hp'
  rw [hx]
  refine h0 x fun hn => ?_
  have := hD x
  rw [hn, Maps.has_eq] at this
  have h2 : es.any (fun q => q.1.sameKey (.int .i64 x)) = true := List.any_eq_true.2 ⟨p, hp', by rw [hx]; simp [Lit.sameKey]⟩
  rw [h2] at this
  cases this
 constructor
 ·have := pigeon 1024 (es.map fun p => (intOf p.1).toNat) (by
   refine List.pairwise_map.2 (hp.imp_of_mem fun {p q} hp' hq' hne e => hne ?_)
   obtain ⟨a, ha⟩ := hkey p hp'
   obtain ⟨b, hb⟩ := hkey q hq'
   have h1 := hin p hp'
   have h2 := hin q hq'
   rw [ha] at h1 e ⊢
   rw [hb] at h2 e ⊢
   simp only [intOf] at h1 h2 e
   congr 1
   omega) (fun x hx => by
   obtain ⟨p, hp', rfl⟩ := List.mem_map.1 hx
   have := hin p hp'
   omega)
  simpa [Maps.size] using this
 ·obtain ⟨es', clock, h1, h2, h3, h4⟩ := hown
  refine ⟨es', clock, h1, h2, ?_, h4⟩
  rw [h4]
  simp [Maps.size, length_sorted]
theorem Holds.sorted {W : World} {b n : Nat} {m : Int → Option (List Nat)} {D : DataW Value} (N : Nat) (h0 : ∀ k, m k ≠ none → 0 ≤ k ∧ k < N) (hown : W.ownsMap Tryz.prog 3 rdr b n D)
  (hD : ∀ k : Int, Maps.has D (.int .i64 k) = (m k).isSome) (ss : List Int) (hs : ss.Perm (intKeys D)) : ss.mergeSort (fun x y => decide (x ≤ y)) = (below m N).map fun i : Nat => (i : Int) := by
 obtain ⟨es, rfl, hp, hkey⟩ := int_entries hown
 have hperm := perm_intKeys hp hkey (ss := (below m N).map fun i : Nat => (i : Int)) (by
  refine List.pairwise_map.2 ((below_nodup m N).imp fun h e => h ?_)
  omega) (fun x => by
  rw [hD x, List.mem_map]
  constructor
  ·rintro ⟨i, hi, rfl⟩
   exact ((mem_below m N i).1 hi).2
  ·intro hx
   obtain ⟨y, hy⟩ := Option.isSome_iff_exists.1 hx
   have := h0 x (by rw [hy]; simp)
   refine ⟨x.toNat, (mem_below m N _).2 ⟨by omega, ?_⟩, by omega⟩
   rwa [Int.toNat_of_nonneg this.1])
 have e := mergeSort_of_perm_i (hs.trans hperm.symm)
 unfold leI at e
 rw [e]
 refine List.Perm.eq_of_pairwise (le := fun a b : Int => a ≤ b) (fun a b _ _ h1 h2 => Int.le_antisymm h1 h2) ?_ ?_ (List.mergeSort_perm _ _)
 ·have := List.pairwise_mergeSort (le := fun x y : Int => decide (x ≤ y)) (fun a b c h1 h2 => by simp at *; omega) (fun a b => by simp; omega) ((below m N).map fun i : Nat => (i : Int))
  exact this.imp fun h => by simpa using h
 ·refine List.pairwise_map.2 ((below_sorted m N).imp fun h => ?_)
  omega
theorem Holds.look {W : World} {b : Nat} {m : Int → Option (List Nat)} (h : Holds W b m) {k : Int} (h0 : -9223372036854775808 ≤ k) (h1 : k ≤ 9223372036854775807) :
  (Instr.lookup 109 (.map (some b)) (.int .i64 k) false).run Tryz.prog W = .ok (arr ((m k).getD nought)) W ∧ (Instr.lookup 109 (.map (some b)) (.int .i64 k) true).run Tryz.prog W = .ok (.tuple #[arr ((m k).getD nought), .bool (m k).isSome]) W := by
 obtain ⟨_, n, D, hown, hD⟩ := h
 obtain ⟨v, ps, hr, hv⟩ := hown.lookup keyed3 Tryz.underlying109 (zero113 W) (zd := .held (arr nought)) (zp := []) rfl (Go.Maps.keyOf_int_mk Tryz.underlying3 (wf_i64 h0 h1))
 obtain ⟨v2, ps2, hr2, hv2⟩ := hown.look_ok keyed3 Tryz.underlying109 (zero113 W) (zd := .held (arr nought)) (zp := []) rfl (Go.Maps.keyOf_int_mk Tryz.underlying3 (wf_i64 h0 h1))
 obtain ⟨hh, ha⟩ := hD k
 have hat : D.atKey (.int .i64 k) (.held (arr nought)) = .held (arr ((m k).getD nought)) := by
  cases hm : m k with
  | none => rw [hm] at hh; exact Maps.atKey_of_not_has hh _
  | some l => exact ha l hm _
 rw [hat] at hv hv2
 simp only [rdr, Option.some.injEq, Prod.mk.injEq, DataW.held.injEq] at hv hv2
 obtain ⟨rfl, _⟩ := hv
 obtain ⟨rfl, _⟩ := hv2
 rw [hh] at hr2
 exact ⟨hr, hr2⟩
theorem Holds.put {W : World} {b : Nat} {m : Int → Option (List Nat)} (h : Holds W b m) {k : Int} (h0 : 0 ≤ k) (h1 : k < 1024) (l : List Nat) :
  ∃ w', (Instr.mapUpdate 109 (.map (some b)) (.int .i64 k) (arr l)).run Tryz.prog W = .ok () w' ∧ Holds w' b (upd m k (some l)) ∧ Kept [b] W w' ∧ w'.heap.size = W.heap.size := by
 obtain ⟨hm, n, D, hown, hD⟩ := h
 obtain ⟨hs, hown⟩ := Holds.few hm hown (fun k => (hD k).1)
 have hwf : (Lit.int .i64 k).wf = true := wf_i64 (by omega) (by omega)
 obtain ⟨w', hr, ho, ht⟩ := hown.store keyed3 Tryz.underlying109 (by unfold maxLen; omega) (Go.Maps.keyOf_int_mk Tryz.underlying3 hwf) (val := arr l) (d := .held (arr l)) (ps := []) rfl
 refine ⟨w', hr, ⟨fun j hj => ?_, _, _, ho, fun j => ?_⟩, Kept.of_grown ht.grown (by simp), ?_⟩
 ·by_cases e : j = k
  ·subst e; omega
  ·rw [upd_other _ _ e] at hj
   exact hm j hj
 ·by_cases e : j = k
  ·subst e
   rw [upd_same]
   refine ⟨Maps.has_put_same hown.isMap (keyed3.key (Go.Maps.keyOf_int_mk Tryz.underlying3 hwf)) _, fun l' hl z => ?_⟩
   cases hl
   exact Maps.atKey_put_same hown.isMap (keyed3.key (Go.Maps.keyOf_int_mk Tryz.underlying3 hwf)) _ _
  ·have hne : Lit.int .i64 j ≠ Lit.int .i64 k := fun e' => e (by injection e')
   rw [upd_other _ _ e, Maps.has_put_other hne]
   refine ⟨(hD j).1, fun l' hl z => ?_⟩
   rw [Maps.atKey_put_other hne]
   exact (hD j).2 l' hl z
 ·obtain ⟨_, _, _, _, _, rfl⟩ := ht
  simp [ChangeMaps.setBlock]
theorem Holds.del {W : World} {b : Nat} {m : Int → Option (List Nat)} (h : Holds W b m) {k : Int} (h0 : -9223372036854775808 ≤ k) (h1 : k ≤ 9223372036854775807) (ty : TypeId) :
  ∃ w', (Builtin.delete_ #[109, 3] ty #[.map (some b), .int .i64 k]).run Tryz.prog W = .ok (.tuple #[]) w' ∧ Holds w' b (upd m k none) ∧ Kept [b] W w' ∧ w'.heap.size = W.heap.size := by
 obtain ⟨hm, n, D, hown, hD⟩ := h
 have hwf : (Lit.int .i64 k).wf = true := wf_i64 (by omega) (by omega)
 obtain ⟨w', hr, ho, ht⟩ := hown.drop keyed3 Tryz.underlying109 (Go.Maps.keyOf_int_mk Tryz.underlying3 hwf) ty
 refine ⟨w', hr, ⟨fun j hj => ?_, _, _, ho, fun j => ?_⟩, Kept.of_grown ht.grown (by simp), ?_⟩
 ·by_cases e : j = k
  ·subst e
   rw [upd_same] at hj
   exact absurd rfl hj
  ·rw [upd_other _ _ e] at hj
   exact hm j hj
 ·by_cases e : j = k
  ·subst e
   rw [upd_same]
   exact ⟨Maps.has_del_same, fun l' hl z => by cases hl⟩
  ·have hne : Lit.int .i64 j ≠ Lit.int .i64 k := fun e' => e (by injection e')
   rw [upd_other _ _ e, Maps.has_del_other hne]
   refine ⟨(hD j).1, fun l' hl z => ?_⟩
   rw [Maps.atKey_del_other hne]
   exact (hD j).2 l' hl z
 ·obtain ⟨_, _, _, _, _, rfl⟩ := ht
  simp [ChangeMaps.setBlock]
end
def dcells (s : Dk) (b1 b2 : Nat) : Array Value := #[.int .i64 (s.size : Int), .map (some b1), .map (some b2), .int .i64 s.fuse, .bool s.broken, .int .i64 (s.ops : Int)]
structure DiskAt (W : World) (d b1 b2 : Nat) (s : Dk) : Prop where
 cells : W.heap[d]? = some (.cells (dcells s b1 b2) 111 (0, 0))
 safe : ∃ m, Holds W b1 m ∧ ∀ k, (m k).getD nought = s.safe k
 fresh : Holds W b2 s.fresh
 apart : b1 ≠ b2
 valid : Valid s
theorem DiskAt.lt {W : World} {d b1 b2 : Nat} {s : Dk} (h : DiskAt W d b1 b2 s) : d < W.heap.size ∧ b1 < W.heap.size ∧ b2 < W.heap.size := by
 obtain ⟨m, h1, _⟩ := h.safe
 exact ⟨(Array.getElem?_eq_some_iff.1 h.cells).1, h1.lt, h.fresh.lt⟩
theorem DiskAt.ne1 {W : World} {d b1 b2 : Nat} {s : Dk} (h : DiskAt W d b1 b2 s) : b1 ≠ d := fun e => by
 obtain ⟨m, h1, _⟩ := h.safe
 obtain ⟨es, clock, h2⟩ := h1.isMap
 rw [e, h.cells] at h2
 cases h2
theorem DiskAt.ne2 {W : World} {d b1 b2 : Nat} {s : Dk} (h : DiskAt W d b1 b2 s) : b2 ≠ d := fun e => by
 obtain ⟨es, clock, h2⟩ := h.fresh.isMap
 rw [e, h.cells] at h2
 cases h2
theorem DiskAt.kept {L : List Nat} {A B : World} {d b1 b2 : Nat} {s : Dk} (h : DiskAt A d b1 b2 s) (hK : Kept L A B) (h0 : d ∉ L) (h1 : b1 ∉ L) (h2 : b2 ∉ L) : DiskAt B d b1 b2 s := by
 obtain ⟨m, hm, hv⟩ := h.safe
 exact ⟨(hK.block d h.lt.1 h0).trans h.cells, ⟨m, hm.kept hK h1, hv⟩, h.fresh.kept hK h2, h.apart, h.valid⟩
theorem DiskAt.drew {W : World} {d b1 b2 : Nat} {s : Dk} (h : DiskAt W d b1 b2 s) : DiskAt W.drew d b1 b2 s := h.kept (kept_drew [] W) (by simp) (by simp) (by simp)
theorem DiskAt.alloc {W : World} {d b1 b2 : Nat} {s : Dk} (h : DiskAt W d b1 b2 s) (o : Obj) : DiskAt (W.alloc o) d b1 b2 s := h.kept (kept_alloc [] W o) (by simp) (by simp) (by simp)
theorem DiskAt.cell {W : World} {d b1 b2 : Nat} {s : Dk} (h : DiskAt W d b1 b2 s) (j : Nat) : W.cell? ⟨d, j, none⟩ = (dcells s b1 b2)[j]? := cell_of_row W d j _ 111 (0, 0) h.cells
theorem DiskAt.frozen {W : World} {d b1 b2 : Nat} {s : Dk} (h : DiskAt W d b1 b2 s) (j : Nat) : W.frozen? ⟨d, j, none⟩ = false := by
 have := h.cells
 simp [World.frozen?, this]
theorem DiskAt.set {W : World} {d b1 b2 : Nat} {s : Dk} (h : DiskAt W d b1 b2 s) (j : Nat) (u : Value) (s' : Dk) (hc : (dcells s b1 b2).setIfInBounds j u = dcells s' b1 b2) (hs : s'.safe = s.safe) (hf : s'.fresh = s.fresh) (hv : Valid s') : DiskAt (W.setCell ⟨d, j, none⟩ u) d b1 b2 s' := by
 have hK := kept_set (L := [d]) (g := d) (by simp) W j u
 have n1 := h.ne1
 have n2 := h.ne2
 refine ⟨?_, ?_, ?_, h.apart, hv⟩
 ·rw [setCell_eq_setRow W d j _ 111 (0, 0) _ h.cells, setRow_heap W d _ _ 111 _ h.cells]
  exact congrArg (fun c => some (Obj.cells c 111 (0, 0))) hc
 ·obtain ⟨m, hm, hvw⟩ := h.safe
  exact ⟨m, hm.kept hK (by simpa using n1), fun k => by rw [hs]; exact hvw k⟩
 ·rw [hf]
  exact h.fresh.kept hK (by simpa using n2)
theorem DiskAt.setFuse {W : World} {d b1 b2 : Nat} {s : Dk} (h : DiskAt W d b1 b2 s) {k : Int} (h0 : -9223372036854775808 ≤ k) (h1 : k ≤ 9223372036854775807) : DiskAt (W.setCell ⟨d, 3, none⟩ (.int .i64 k)) d b1 b2 { s with fuse := k } :=
 h.set 3 _ _ rfl rfl rfl (valid_fused h.valid h0 h1)
theorem DiskAt.setBroken {W : World} {d b1 b2 : Nat} {s : Dk} (h : DiskAt W d b1 b2 s) (b : Bool) : DiskAt (W.setCell ⟨d, 4, none⟩ (.bool b)) d b1 b2 { s with broken := b } :=
 h.set 4 _ _ rfl rfl rfl ⟨h.valid.pos, h.valid.top, h.valid.fresh, h.valid.safe, h.valid.out, h.valid.low, h.valid.high⟩
theorem DiskAt.setOps {W : World} {d b1 b2 : Nat} {s : Dk} (h : DiskAt W d b1 b2 s) (n : Nat) : DiskAt (W.setCell ⟨d, 5, none⟩ (.int .i64 (n : Int))) d b1 b2 { s with ops := n } :=
 h.set 5 _ _ rfl rfl rfl ⟨h.valid.pos, h.valid.top, h.valid.fresh, h.valid.safe, h.valid.out, h.valid.low, h.valid.high⟩
end Go.Proofs.YtoaeficfmcncjaaGreat
