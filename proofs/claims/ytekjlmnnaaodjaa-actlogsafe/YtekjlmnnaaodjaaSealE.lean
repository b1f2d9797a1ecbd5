/-
  The walk of seal.sumOf: the bytes of a sum, as an array.
-/
import Derived.Test.YtekjlmnnaaodjaaSealD
import Derived.Laws.CopyOwn
import Derived.Deep.MidRow
import Derived.Deep.RegionLaw
namespace Go.Proofs.Ytekjlmnnaaodjaa.Seal
open Go.RowKit
open Math
open Crc

/-- The four bytes of a number, the lowest first. -/
def le4 (m : Nat) : List Nat := [m % 256, m / 256 % 256, m / 65536 % 256, m / 16777216 % 256]
/-- The first k of them; noughts in the place of the others. -/
def lay (k m : Nat) : List Nat := (List.range 4).map fun j => if j < k then m / 256 ^ j % 256 else 0
theorem lay_start (m : Nat) : lay 0 m = [0, 0, 0, 0] := rfl
theorem lay_end (m : Nat) : lay 4 m = le4 m := by simp [lay, le4, List.range_succ]
theorem lay_length (k m : Nat) : (lay k m).length = 4 := by simp [lay]
theorem lay_step (k m : Nat) (h : k < 4) : (lay k m).set k (m / 256 ^ k % 256) = lay (k + 1) m := by
  match k, h with
  | 0, _ => rfl
  | 1, _ => rfl
  | 2, _ => rfl
  | 3, _ => rfl
theorem le4_length (m : Nat) : (le4 m).length = 4 := rfl
theorem le4_byte (m : Nat) : ∀ b ∈ le4 m, b < 256 := by
  intro b hb
  simp only [le4, List.mem_cons, List.not_mem_nil, or_false] at hb
  omega
/-- Bytes, and the bytes of their sum behind them. -/
def sealed (bs : List Nat) : List Nat := bs ++ le4 (more 0 bs)
theorem sealed_length (bs : List Nat) : (sealed bs).length = bs.length + 4 := by simp [sealed, le4]
theorem sealed_byte (bs : List Nat) (h : ∀ b ∈ bs, b < 256) : ∀ b ∈ sealed bs, b < 256 := by
  intro b hb
  rcases List.mem_append.1 hb with h1 | h1
  · exact h b h1
  · exact le4_byte _ b h1

/-- Bytes as an array's value, and as an array in a block. -/
def arr (l : List Nat) : Value := .agg (l.map enc).toArray
def Arr (W : World) (g : Nat) (t : TypeId) (l : List Nat) : Prop := W.heap[g]? = some (.cells (l.map enc).toArray t (0, 0))
theorem Arr.lt {W : World} {g : Nat} {t : TypeId} {l : List Nat} (h : Arr W g t l) : g < W.heap.size := (Array.getElem?_eq_some_iff.1 h).1
theorem Arr.below {n : Nat} {A B : World} {g : Nat} {t : TypeId} {l : List Nat} (h : Arr A g t l) (hB : Below n A B) (hg : g < n) : Arr B g t l := by
  have := hB.5 g hg
  unfold Arr at *
  rw [← h]
  exact this
theorem Arr.cell {W : World} {g : Nat} {t : TypeId} {l : List Nat} (h : Arr W g t l) (j : Nat) (hj : j < l.length) : W.cell? ⟨g, j, none⟩ = some (.int .u8 ((l[j]?.getD 0 : Nat) : Int)) := by
  rw [cell_of_row W g j _ t (0, 0) h, List.getElem?_toArray, enc_get l j hj]
theorem Arr.frozen {W : World} {g : Nat} {t : TypeId} {l : List Nat} (h : Arr W g t l) (j : Nat) : W.frozen? ⟨g, j, none⟩ = false := by
  unfold Arr at h
  simp [World.frozen?, h]
theorem Arr.range {W : World} {g : Nat} {t : TypeId} {l : List Nat} (h : Arr W g t l) : W.rangeAt g 0 (l.map enc) := fun j v hv => by
  rw [Nat.zero_add, cell_of_row W g j _ t (0, 0) h, List.getElem?_toArray]
  exact hv
theorem Arr.there {W : World} {g : Nat} {t : TypeId} {l : List Nat} (h : Arr W g t l) : W.there g 0 l.length := fun j hj => by
  rw [Nat.zero_add]
  exact ⟨by rw [h.cell j hj]; rfl, h.frozen j⟩
theorem Arr.set {W : World} {g : Nat} {t : TypeId} {l : List Nat} (h : Arr W g t l) (j v : Nat) : Arr (W.setCell ⟨g, j, none⟩ (enc v)) g t (l.set j v) := by
  unfold Arr at *
  rw [setCell_eq_setRow W g j _ t (0, 0) _ h]
  rw [setRow_heap W g _ _ t _ h]
  simp [List.map_set]
theorem Arr.set_other {W : World} {g g' : Nat} {t : TypeId} {l : List Nat} (h : Arr W g t l) (j : Nat) (v : Value) (hg : g ≠ g') : Arr (W.setCell ⟨g', j, none⟩ v) g t l := by
  unfold Arr at *
  rw [← h]
  simp [World.setCell, Array.getElem?_modify, Ne.symm hg]
theorem arr_new (w : World) (t : TypeId) (l : List Nat) : Arr (w.alloc (.cells (l.map enc).toArray t)) w.heap.size t l := heap_alloc_last w _
theorem Arr.alloc {W : World} {g : Nat} {t : TypeId} {l : List Nat} (h : Arr W g t l) (o : Obj) : Arr (W.alloc o) g t l := by
  have := h.lt
  unfold Arr at *
  show (W.heap.push o)[g]? = _
  rw [Array.getElem?_push, if_neg (by omega)]
  exact h
theorem enc_one (l : List Nat) : ∀ v ∈ l.map enc, v.oneCell' = true := by
  intro u hu
  simp at hu
  obtain ⟨x, _, rfl⟩ := hu
  rfl

set_option maxRecDepth 100000 in
theorem Try.size80 : (Try.prog.info? 80).map (·.size) = some 4 := by kernel_rfl
set_option maxRecDepth 100000 in
theorem Try.size56 : (Try.prog.info? 56).map (·.size) = some 16 := by kernel_rfl
set_option maxRecDepth 100000 in
theorem Try.size5 : (Try.prog.info? 5).map (·.size) = some 1 := by kernel_rfl

set_option maxRecDepth 100000 in
/-- A whole array stored: the array in the block is that one; others are as they were. -/
theorem setCells_row {W : World} {g : Nat} {t : TypeId} {cur : Array Value} {vs : List Value} (hg : W.heap[g]? = some (.cells cur t (0, 0))) (hl : vs.length = cur.size) (h1 : ∀ v ∈ vs, v.oneCell' = true) : W.setCells g 0 vs = W.setRow g vs.toArray := by
  have hin : ∀ j, j < vs.length → (W.cell? ⟨g, 0 + 0 + j, none⟩).isSome = true := fun j hj => by
    rw [cell_of_row W g _ cur t (0, 0) hg]
    simp
    omega
  have hfr : ∀ j, j < vs.length → W.frozen? ⟨g, 0 + 0 + j, none⟩ = false := fun j _ => by simp [World.frozen?, hg]
  have e1 := run_storeCells_cells (P := Try.prog) g 0 vs 0 W hin hfr h1
  have e2 := run_storeCells_at Try.prog g 0 t vs 0 cur W hg (by omega) h1
  rw [e1] at e2
  injection e2 with _ e3
  have e4 : cur.toList.drop (0 + 0 + vs.length) = [] := by apply List.drop_eq_nil_of_le; simp; omega
  rw [e4] at e3
  simpa using e3
theorem Arr.setAll {W : World} {g : Nat} {t : TypeId} {l : List Nat} (h : Arr W g t l) (l' : List Nat) (hl : l'.length = l.length) : Arr (W.setCells g 0 (l'.map enc)) g t l' := by
  rw [setCells_row h (by simp [hl]) (enc_one l')]
  exact setRow_heap W g _ _ t _ h
theorem Arr.setAll_other {W : World} {g g' : Nat} {t t' : TypeId} {l k : List Nat} (h : Arr W g t l) (h' : Arr W g' t' k) (l' : List Nat) (hl : l'.length = k.length) (hne : g ≠ g') : Arr (W.setCells g' 0 (l'.map enc)) g t l := by
  rw [setCells_row h' (by simp [hl]) (enc_one l')]
  exact (setRow_other W g' g _ hne).trans h
theorem Arr.below_setAll {W w : World} {n g : Nat} {t : TypeId} {l : List Nat} (h : Arr W g t l) (l' : List Nat) (hl : l'.length = l.length) (hB : Below n w W) (hn : n ≤ g) : Below n w (W.setCells g 0 (l'.map enc)) := by
  rw [setCells_row h (by simp [hl]) (enc_one l')]
  exact below_setRow hB hn _

/-- A block made for a call, and one below which nothing turns. -/
theorem below_alloc (w : World) (o : Obj) : Below w.heap.size w (w.alloc o) := (Below.refl _ _).alloc (Nat.le_refl _) _

set_option maxRecDepth 100000 in
set_option maxHeartbeats 400000 in
/-- seal.sumOf -/
theorem sumOf_any (sv : Value) (bs : List Nat) (w : World) (hlen : bs.length ≤ 9223372036854775807) (hI : BytesAt w.heap.size w sv bs) :
    Calls Try.prog 43 #[sv] w fun e w' => e = .returned (arr (le4 (more 0 bs))) ∧ Below w.heap.size w w' := by
  have hm := more_lt (s := 0) (bs := bs) (by omega) hI.1
  have q := fun w' (h : Below w.heap.size w w') => sum_any sv bs w' hlen ((hI.below h).mono h.size)
  generalize more 0 bs = m at *
  have hB0 : Below w.heap.size w ((w.alloc (.cells #[.int .u8 0, .int .u8 0, .int .u8 0, .int .u8 0] 80)).alloc (.cells #[.int .u8 0, .int .u8 0, .int .u8 0, .int .u8 0] 80)) := (below_alloc w _).alloc (by simp) _
  have hA : Arr ((w.alloc (.cells #[.int .u8 0, .int .u8 0, .int .u8 0, .int .u8 0] 80)).alloc (.cells #[.int .u8 0, .int .u8 0, .int .u8 0, .int .u8 0] 80)) w.heap.size 80 [0, 0, 0, 0] := (arr_new w 80 [0, 0, 0, 0]).alloc _
  have hC : Arr ((w.alloc (.cells #[.int .u8 0, .int .u8 0, .int .u8 0, .int .u8 0] 80)).alloc (.cells #[.int .u8 0, .int .u8 0, .int .u8 0, .int .u8 0] 80)) (w.heap.size + 1) 80 [0, 0, 0, 0] := by
    have := arr_new (w.alloc (.cells #[.int .u8 0, .int .u8 0, .int .u8 0, .int .u8 0] 80)) 80 [0, 0, 0, 0]
    rwa [World.size_alloc] at this
  clear hI hlen
  go_enter Try.func43, Try.ntmps43
  go_wp2_with (go_at_call 52; refine (q _ hB0).mono ?_; rintro e w1 ⟨rfl, hB1⟩)
  replace hA := hA.below hB1 (by simp; omega)
  replace hC := hC.below hB1 (by simp)
  replace hB0 := hB0.trans (hB1.mono hB0.size)
  clear hB1 q
  obtain ⟨n, hn⟩ : ∃ n, w.heap.size = n := ⟨_, rfl⟩
  rw [hn] at hA hC hB0 ⊢
  have HN : Hid (w.heap.size = n) := hn
  clear hn
  go_loopw [8] (fun i wr => ∃ k : Nat, k ≤ 4 ∧ i = .int .i64 k ∧ Arr wr n 80 [0, 0, 0, 0] ∧ Arr wr (n + 1) 80 (lay k m) ∧ Below n w wr) (fun i _ => 4 - (intOf i).toNat)
  case atStart => exact ⟨0, by omega, rfl, hA, hC, hB0⟩
  case round =>
    obtain ⟨k, hk, rfl, hA', hC', hB⟩ := hrel
    clear hA hC hB0
    by_cases hlt : k < 4
    · have hcx := hC'.cell k (by rw [lay_length]; exact hlt)
      have hfx := hC'.frozen k
      have H : Hid (∀ c : Int, c = ((m / 256 ^ k % 256 : Nat) : Int) → Arr (wr.setCell ⟨n + 1, k, none⟩ (.int .u8 c)) n 80 [0, 0, 0, 0] ∧ Arr (wr.setCell ⟨n + 1, k, none⟩ (.int .u8 c)) (n + 1) 80 (lay (k + 1) m) ∧ Below n w (wr.setCell ⟨n + 1, k, none⟩ (.int .u8 c))) := fun c hc => by
        subst hc
        refine ⟨hA'.set_other k _ (by omega), ?_, hB.setCell (p := ⟨n + 1, k, none⟩) (show n ≤ n + 1 by omega) _⟩
        have := hC'.set k (m / 256 ^ k % 256)
        rwa [lay_step k m hlt] at this
      clear hA' hC' hB
      generalize (lay k m)[k]?.getD 0 = old at *
      rcases (show k = 0 ∨ k = 1 ∨ k = 2 ∨ k = 3 by omega) with rfl | rfl | rfl | rfl
      all_goals
        go_wp2
        go_roundw
        case rel => first | exact ⟨1, by omega, rfl, H.out _ (by omega)⟩ | exact ⟨2, by omega, rfl, H.out _ (by omega)⟩ | exact ⟨3, by omega, rfl, H.out _ (by omega)⟩ | exact ⟨4, by omega, rfl, H.out _ (by omega)⟩
        case measure => simp [intOf]
    · obtain rfl : k = 4 := by omega
      rw [lay_end] at hC'
      go_wp2_with (first
        | refine wpList_load_mid rfl 80 _ rfl (n + 1) 0 rfl ((le4 m).map enc) _ hC'.range Try.underlying80 rfl Try.size80 ?_
        | refine wpList_store_mid rfl 80 _ _ rfl n 0 ((le4 m).map enc).toArray rfl rfl hA'.there Try.size80 (all_oneCell_toArray (enc_one _)) ?_)
      refine bodyPost_ret (v := arr (le4 m)) (results_cell_row rfl _ _ n 80 ((le4 m).map enc).toArray (0, 0) _ rfl (hA'.setAll (le4 m) rfl) Try.underlying80 rfl Try.size80) rfl ⟨rfl, ?_⟩
      rw [HN.out]
      exact hA'.below_setAll (le4 m) rfl hB (Nat.le_refl _)

end Go.Proofs.Ytekjlmnnaaodjaa.Seal
