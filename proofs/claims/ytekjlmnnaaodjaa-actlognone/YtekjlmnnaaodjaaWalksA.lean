/-
  Sectors as arrays in memory; what stays where it was; a map of sectors; a disk in memory.
-/
import Derived.Test.YtekjlmnnaaodjaaProg
import Derived.Test.YtekjlmnnaaodjaaMath
import Derived.WalkKit
import Derived.WalkSpells
import Derived.WalkLawsBesides
import Derived.Laws.BitsAllLaws
import Derived.Laws.ShiftsVarLaws
import Derived.Laws.StructEq
import Derived.Below
import Derived.LoopTactic
import Derived.WalkSmall
import Derived.RegionTactic
import Derived.Deep.QuietTactic
import Derived.BigQuiet
import Derived.Deep.WholeRow
import Derived.Deep.MidRow
import Derived.Deep.RegionLaw
import Derived.Deep.RegionHeld3
import Derived.Laws.OwnMore
import Derived.Laws.CopyOwn
import Derived.Stop.BytesEq
import Derived.Maps.OwnSet
namespace Go.Proofs.Ytekjlmnnaaodjaa
open Go.RowKit
open Math

/-- A byte as a value. -/
def enc (i : Nat) : Value := .int .u8 (i : Int)
theorem enc_get (l : List Nat) (j : Nat) (h : j < l.length) : (l.map enc)[j]? = some (.int .u8 ((l[j]?.getD 0 : Nat) : Int)) := by
  simp [h, enc]
/-- Bytes as an array's value, and as an array in a block. -/
def arr (l : List Nat) : Value := .agg (l.map enc).toArray
def Arr (W : World) (g : Nat) (t : TypeId) (l : List Nat) : Prop := W.heap[g]? = some (.cells (l.map enc).toArray t (0, 0))
theorem Arr.lt {W : World} {g : Nat} {t : TypeId} {l : List Nat} (h : Arr W g t l) : g < W.heap.size := (Array.getElem?_eq_some_iff.1 h).1
theorem Arr.below {n : Nat} {A B : World} {g : Nat} {t : TypeId} {l : List Nat} (h : Arr A g t l) (hB : Below n A B) (hg : g < n) : Arr B g t l := by
  have := hB.5 g hg
  unfold Arr at *
  rw [← h]
  exact this
theorem Arr.cell {W : World} {g : Nat} {t : TypeId} {l : List Nat} (h : Arr W g t l) (j : Nat) (hj : j < l.length) : W.cell? ⟨g, j, none⟩ = some (.int .u8 ((l[j]?.getD 0 : Nat) : Int)) := by
  rw [cell_of_row W g j _ t (0, 0) h, List.getElem?_toArray, enc_get l j hj]
theorem Arr.frozen {W : World} {g : Nat} {t : TypeId} {l : List Nat} (h : Arr W g t l) (j : Nat) : W.frozen? ⟨g, j, none⟩ = false := by
  unfold Arr at h
  simp [World.frozen?, h]
theorem Arr.range {W : World} {g : Nat} {t : TypeId} {l : List Nat} (h : Arr W g t l) : W.rangeAt g 0 (l.map enc) := fun j v hv => by
  rw [Nat.zero_add, cell_of_row W g j _ t (0, 0) h, List.getElem?_toArray]
  exact hv
theorem Arr.there {W : World} {g : Nat} {t : TypeId} {l : List Nat} (h : Arr W g t l) : W.there g 0 l.length := fun j hj => by
  rw [Nat.zero_add]
  exact ⟨by rw [h.cell j hj]; rfl, h.frozen j⟩
theorem arr_new (w : World) (t : TypeId) (l : List Nat) : Arr (w.alloc (.cells (l.map enc).toArray t)) w.heap.size t l := heap_alloc_last w _
theorem Arr.alloc {W : World} {g : Nat} {t : TypeId} {l : List Nat} (h : Arr W g t l) (o : Obj) : Arr (W.alloc o) g t l := by
  have := h.lt
  unfold Arr at *
  show (W.heap.push o)[g]? = _
  rw [Array.getElem?_push, if_neg (by omega)]
  exact h
theorem enc_one (l : List Nat) : ∀ v ∈ l.map enc, v.oneCell' = true := by
  intro u hu
  simp at hu
  obtain ⟨x, _, rfl⟩ := hu
  rfl
theorem Arr.drew {W : World} {g : Nat} {t : TypeId} {l : List Nat} (h : Arr W g t l) : Arr W.drew g t l := h
set_option maxRecDepth 100000 in
theorem Try.size56 : (Try.prog.info? 56).map (·.size) = some 16 := by kernel_rfl
set_option maxRecDepth 100000 in
theorem Try.size5 : (Try.prog.info? 5).map (·.size) = some 1 := by kernel_rfl
set_option maxRecDepth 100000 in
/-- A whole array stored: the array in the block is that one; others are as they were. -/
theorem setCells_row {W : World} {g : Nat} {t : TypeId} {cur : Array Value} {vs : List Value} (hg : W.heap[g]? = some (.cells cur t (0, 0))) (hl : vs.length = cur.size) (h1 : ∀ v ∈ vs, v.oneCell' = true) : W.setCells g 0 vs = W.setRow g vs.toArray := by
  have hin : ∀ j, j < vs.length → (W.cell? ⟨g, 0 + 0 + j, none⟩).isSome = true := fun j hj => by
    rw [cell_of_row W g _ cur t (0, 0) hg]
    simp
    omega
  have hfr : ∀ j, j < vs.length → W.frozen? ⟨g, 0 + 0 + j, none⟩ = false := fun j _ => by simp [World.frozen?, hg]
  have e1 := run_storeCells_cells (P := Try.prog) g 0 vs 0 W hin hfr h1
  have e2 := run_storeCells_at Try.prog g 0 t vs 0 cur W hg (by omega) h1
  rw [e1] at e2
  injection e2 with _ e3
  have e4 : cur.toList.drop (0 + 0 + vs.length) = [] := by apply List.drop_eq_nil_of_le; simp; omega
  rw [e4] at e3
  simpa using e3
theorem Arr.setAll {W : World} {g : Nat} {t : TypeId} {l : List Nat} (h : Arr W g t l) (l' : List Nat) (hl : l'.length = l.length) : Arr (W.setCells g 0 (l'.map enc)) g t l' := by
  rw [setCells_row h (by simp [hl]) (enc_one l')]
  exact setRow_heap W g _ _ t _ h
/-- Bytes of ours are those of the library's law on arrays compared. -/
theorem enc_cells (l : List Nat) (h : ∀ b ∈ l, b < 256) : l.map enc = (l.map UInt8.ofNat).map Extern.Stop.cell := by
  rw [List.map_map]
  refine List.map_congr_left fun b hb => ?_
  have := h b hb
  simp [enc, Extern.Stop.cell]
  omega
theorem ofNat_inj : ∀ (l k : List Nat), (∀ b ∈ l, b < 256) → (∀ b ∈ k, b < 256) → l.map UInt8.ofNat = k.map UInt8.ofNat → l = k
  | [], [], _, _, _ => rfl
  | x :: l, y :: k, hl, hk, e => by
    rw [List.map_cons, List.map_cons] at e
    injection e with e1 e2
    have hx := hl x (by simp)
    have hy := hk y (by simp)
    have e3 := congrArg UInt8.toNat e1
    simp at e3
    rw [Nat.mod_eq_of_lt hx, Nat.mod_eq_of_lt hy] at e3
    rw [e3, ofNat_inj l k (fun b hb => hl b (by simp [hb])) (fun b hb => hk b (by simp [hb])) e2]
  | [], _ :: _, _, _, e => by simp at e
  | _ :: _, [], _, _, e => by simp at e
set_option maxRecDepth 100000 in
theorem eql_arr (t : TypeId) (n : Nat) (ht : Try.prog.underlying t = some (.array n 5)) (l k : List Nat) (hl : l.length = n) (hk : k.length = n) (bl : ∀ b ∈ l, b < 256) (bk : ∀ b ∈ k, b < 256) (w : World) :
    (Op.equalIn 10000 t (arr l) (arr k)).run Try.prog w = .ok (decide (l = k)) w := by
  have := run_equalIn_bytes (P := Try.prog) w 9998 t 5 n ht Try.underlying5 Try.sizeOf5 (l.map UInt8.ofNat) (k.map UInt8.ofNat) (by simpa using hl) (by simpa using hk)
  unfold arr
  rw [enc_cells l bl, enc_cells k bk, this]
  refine congrArg (fun b => Result.ok b w) ?_
  rw [Bool.eq_iff_iff]
  simp only [beq_iff_eq, decide_eq_true_eq]
  exact ⟨ofNat_inj l k bl bk, fun e => by rw [e]⟩
set_option maxRecDepth 100000 in
theorem neq_arr (t : TypeId) (n : Nat) (ht : Try.prog.underlying t = some (.array n 5)) (l k : List Nat) (hl : l.length = n) (hk : k.length = n) (bl : ∀ b ∈ l, b < 256) (bk : ∀ b ∈ k, b < 256) (w : World) :
    (binOp .neq t (arr l) (arr k)).run Try.prog w = .ok (.bool (!decide (l = k))) w := by
  have := eql_arr t n ht l k hl hk bl bk w
  unfold arr at *
  rw [run_neq_struct, this]
  rfl
set_option maxRecDepth 100000 in
theorem eqls_arr (t : TypeId) (n : Nat) (ht : Try.prog.underlying t = some (.array n 5)) (l k : List Nat) (hl : l.length = n) (hk : k.length = n) (bl : ∀ b ∈ l, b < 256) (bk : ∀ b ∈ k, b < 256) (w : World) :
    (binOp .eql t (arr l) (arr k)).run Try.prog w = .ok (.bool (decide (l = k))) w := by
  have := eql_arr t n ht l k hl hk bl bk w
  unfold arr at *
  rw [run_eql_struct, this]
  rfl
set_option maxRecDepth 100000 in
theorem guard56 (op : BinOp) (x y : Operand) (l k : List Nat) (w : World) : (eqGuard op 56 x y (arr l) (arr k)).run Try.prog w = .ok () w := run_eqGuard_agg w op 56 x y _ _ Try.eqGuardType56

/-- Every block but those of L is as it was; new ones may have come. -/
structure Kept (L : List Nat) (w w' : World) : Prop where
  os : w'.os = w.os
  tape : w'.tape = w.tape
  output : w'.output = w.output
  size : w.heap.size ≤ w'.heap.size
  block : ∀ k, k < w.heap.size → k ∉ L → w'.heap[k]? = w.heap[k]?
theorem Kept.refl (L : List Nat) (w : World) : Kept L w w := ⟨rfl, rfl, rfl, Nat.le_refl _, fun _ _ _ => rfl⟩
theorem Kept.trans {L : List Nat} {a b c : World} (h : Kept L a b) (k : Kept L b c) : Kept L a c :=
  ⟨k.os.trans h.os, k.tape.trans h.tape, k.output.trans h.output, Nat.le_trans h.size k.size, fun i hi hL => (k.block i (Nat.lt_of_lt_of_le hi h.size) hL).trans (h.block i hi hL)⟩
theorem Kept.mono {L L' : List Nat} {w w' : World} (h : Kept L w w') (hs : ∀ k ∈ L, k ∈ L') : Kept L' w w' := ⟨h.os, h.tape, h.output, h.size, fun k hk hL => h.block k hk (fun hm => hL (hs k hm))⟩
theorem Kept.of_below {w w' : World} (h : Below w.heap.size w w') (L : List Nat) : Kept L w w' := ⟨h.os, h.tape, h.output, h.size, fun k hk _ => h.block k hk⟩
theorem Kept.below {L : List Nat} {w w' : World} (h : Kept L w w') {n : Nat} (hn : n ≤ w.heap.size) (hL : ∀ k ∈ L, n ≤ k) : Below n w w' :=
  ⟨h.os, h.tape, h.output, h.size, fun k hk => h.block k (by omega) (fun hm => by have := hL k hm; omega)⟩
theorem Kept.of_grown {w w' : World} {b : Nat} (h : w.grownBy w' (some b)) {L : List Nat} (hL : b ∈ L) : Kept L w w' := ⟨h.os, h.tape, h.output, h.size, fun k hk hn => h.block k hk (fun e => by cases e; exact hn hL)⟩
theorem kept_alloc (L : List Nat) (w : World) (o : Obj) : Kept L w (w.alloc o) := Kept.of_below ((Below.refl _ _).alloc (Nat.le_refl _) _) L
theorem kept_drew (L : List Nat) (w : World) : Kept L w w.drew := ⟨rfl, rfl, rfl, Nat.le_refl _, fun _ _ _ => rfl⟩
theorem kept_set {L : List Nat} {g : Nat} (hL : g ∈ L) (w : World) (j : Nat) (u : Value) : Kept L w (w.setCell ⟨g, j, none⟩ u) :=
  ⟨rfl, rfl, rfl, by simp [World.setCell], fun k _ hk => Below.heap_setCell _ _ _ _ (fun e => hk (e ▸ hL))⟩
/-- What was made since may be written. -/
theorem Kept.young {L : List Nat} {a b c : World} {g : Nat} (h : Kept L a b) (k : Kept (g :: L) b c) (hg : a.heap.size ≤ g) : Kept L a c :=
  ⟨k.os.trans h.os, k.tape.trans h.tape, k.output.trans h.output, Nat.le_trans h.size k.size, fun i hi hL => (k.block i (Nat.lt_of_lt_of_le hi h.size) (fun hm => by
    rcases List.mem_cons.1 hm with e | e
    · omega
    · exact hL e)).trans (h.block i hi hL)⟩
theorem Arr.kept {L : List Nat} {A B : World} {g : Nat} {t : TypeId} {l : List Nat} (h : Arr A g t l) (hK : Kept L A B) (hg : g ∉ L) : Arr B g t l := (hK.block g h.lt hg).trans h

section
variable {ops : Array Oper} {rest : List Oper} {o : Oper} {a : Act} {w : World} {Q : Exit → Act → World → Prop}

set_option maxRecDepth 100000 in
/-- A whole array stored. -/
theorem wpList_store_arr (hgd : o.guard = none) (ty : TypeId) (x y : Operand) (ho : o.op = .store ty x y) (g : Nat) (t : TypeId) (l0 l : List Nat)
    (hx : a.eval x = .pointer (some ⟨g, 0, none⟩)) (hy : a.eval y = arr l) (h0 : Arr w g t l0) (hl : l.length = l0.length) (hi : (Try.prog.info? ty).map (·.size) = some l.length)
    (h : ∀ w', Arr w' g t l → Kept [g] w w' → w'.heap.size = w.heap.size → wpList Try.prog ops Q rest (a.put o.dst undef) w') : wpList Try.prog ops Q (o :: rest) a w := by
  refine wpList_store_mid hgd ty x y ho g 0 (l.map enc).toArray hx hy ?_ (by simpa using hi) (all_oneCell_toArray (enc_one _)) ?_
  · have := h0.there
    simpa [hl] using this
  · have e : w.setCells g 0 (l.map enc) = w.setRow g (l.map enc).toArray := setCells_row h0 (by simp [hl]) (enc_one l)
    refine h _ (h0.setAll l hl) ?_ ?_
    · simp only [] at *
      rw [e]
      exact ⟨rfl, rfl, rfl, by simp [World.setRow], fun k _ hk => setRow_other w g k _ (by simpa using hk)⟩
    · simp only [] at *
      rw [e]
      simp [World.setRow]
set_option maxRecDepth 100000 in
/-- A whole array loaded. -/
theorem wpList_load_arr (hgd : o.guard = none) (ty : TypeId) (x : Operand) (ho : o.op = .load ty x) (g : Nat) (t : TypeId) (l : List Nat)
    (hx : a.eval x = .pointer (some ⟨g, 0, none⟩)) (h0 : Arr w g t l) (m : Nat) (e : TypeId) (hu : Try.prog.underlying ty = some (.array m e)) (hi : (Try.prog.info? ty).map (·.size) = some l.length)
    (h : wpList Try.prog ops Q rest (a.put o.dst (.agg (l.map enc).toArray)) w) : wpList Try.prog ops Q (o :: rest) a w :=
  wpList_load_mid hgd ty x ho g 0 hx (l.map enc) _ h0.range hu rfl (by simpa using hi) h
end

end Go.Proofs.Ytekjlmnnaaodjaa
