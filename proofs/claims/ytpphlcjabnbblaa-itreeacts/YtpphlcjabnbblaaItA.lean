import Derived.Test.YtpphlcjabnbblaaBase
import Derived.Test.YtpphlcjabnbblaaSpan1
import Derived.Test.YtpphlcjabnbblaaItM
/-
  The document's tree in memory: items in a row; the walks of less, place, Insert, Delete, Overlaps and Ids of twainref14.
-/
namespace Go.Proofs.Ytpphlcjabnbblaa.Itree
open Go.RowKit

/-- An item's cells, and those of a row. -/
def It.cells (x : It) : List Value := [.int .i64 x.o, .int .i64 x.l, .int .i64 x.i]
def It.val (x : It) : Value := .agg #[.int .i64 x.o, .int .i64 x.l, .int .i64 x.i]

set_option maxRecDepth 100000 in
/-- less -/
theorem less_any (a b : It) (w : World) : Calls Try.prog 41 #[a.val, b.val] w fun e w' => e = .returned (.bool (ahead a b)) ∧ Kept [] w w' := by
  have hk : Kept [] w ((w.alloc (.cells #[.int .i64 a.o, .int .i64 a.l, .int .i64 a.i] 66)).alloc (.cells #[.int .i64 b.o, .int .i64 b.l, .int .i64 b.i] 66)) := (kept_alloc [] w _).trans (kept_alloc [] _ _)
  unfold ahead It.val
  by_cases h1 : a.o = b.o
  · rw [if_pos h1]
    have e1 : (a.o != b.o) = false := by simp [h1]
    by_cases h2 : a.l = b.l
    · rw [if_pos h2]
      have e2 : (a.l != b.l) = false := by simp [h2]
      clear h1 h2
      go_enter Try.func41, Try.ntmps41
      go_wp2
      go_ret
      exact ⟨rfl, hk⟩
    · rw [if_neg h2]
      have e2 : (a.l != b.l) = true := by simp [h2]
      clear h1 h2
      go_enter Try.func41, Try.ntmps41
      go_wp2
      go_ret
      exact ⟨rfl, hk⟩
  · rw [if_neg h1]
    have e1 : (a.o != b.o) = true := by simp [h1]
    clear h1
    go_enter Try.func41, Try.ntmps41
    go_wp2
    go_ret
    exact ⟨rfl, hk⟩

/-- Items in a row; ob: its block, where there is one. -/
def ItemsAt (W : World) (v : Value) (ob : Option Nat) (L : List It) : Prop :=
  ∃ a cap, v = .slice a L.length cap ∧ L.length ≤ cap ∧ cap ≤ maxLen ∧ ((a = none ∧ ob = none ∧ cap = 0 ∧ L = []) ∨ ∃ b off, a = some ⟨b, off, none⟩ ∧ ob = some b ∧ b < W.heap.size ∧ ∀ j x, L[j]? = some x → W.rangeAt b (off + j * 3) x.cells)
theorem ItemsAt.kept {K : List Nat} {A B : World} {v : Value} {ob : Option Nat} {L : List It} (h : ItemsAt A v ob L) (hk : Kept K A B) (hb : ∀ b, ob = some b → b ∉ K) : ItemsAt B v ob L := by
  obtain ⟨a, cap, rfl, hc, hm, ⟨h1, h2, h3, h4⟩ | ⟨b, off, h1, h2, h3, h4⟩⟩ := h
  · exact ⟨a, cap, rfl, hc, hm, .inl ⟨h1, h2, h3, h4⟩⟩
  · refine ⟨a, cap, rfl, hc, hm, .inr ⟨b, off, h1, h2, Nat.lt_of_lt_of_le h3 hk.size, fun j x hx i v hv => ?_⟩⟩
    have := h4 j x hx i v hv
    rw [← this]
    have e := hk.block b h3 (hb b h2)
    exact World.cell?_of_block (by exact e)
/-- The document's tree. -/
structure RT (W : World) (r : Nat) (ob : Option Nat) (L : List It) : Prop where
  row : ∃ v, Blk W r 31 #[v] ∧ ItemsAt W v ob L
  off : ob ≠ some r
  few : L.length ≤ 1000000
theorem RT.kept {K : List Nat} {A B : World} {r : Nat} {ob : Option Nat} {L : List It} (h : RT A r ob L) (hk : Kept K A B) (hr : r ∉ K) (hb : ∀ b, ob = some b → b ∉ K) : RT B r ob L := by
  obtain ⟨v, h1, h2⟩ := h.row
  exact ⟨⟨v, h1.kept hk hr, h2.kept hk hb⟩, h.off, h.few⟩

set_option maxRecDepth 100000 in
set_option maxHeartbeats 1000000 in
/-- place -/
theorem rplace_any (r : Nat) (ob : Option Nat) (L : List It) (x : It) (w : World) (h : RT w r ob L) :
    Calls Try.prog 29 #[.pointer (some ⟨r, 0, none⟩), x.val] w fun e w' => e = .returned (.int .i64 (place L x : Nat)) ∧ Kept [] w w' := by
  obtain ⟨v, hr, a, cap, rfl, hc, hm, hrow⟩ := h.row
  have hfew := h.few
  have hq := fun y W => less_any y x W
  have hpl := place_le L x
  have hah := place_ahead L x
  have hno := place_not L x
  have hk0 := kept_alloc [] w (.cells #[.int .i64 x.o, .int .i64 x.l, .int .i64 x.i] 66)
  have hx0 := blk_new w 66 #[.int .i64 x.o, .int .i64 x.l, .int .i64 x.i]
  generalize place L x = n at *
  obtain ⟨len, hlen⟩ : ∃ len, L.length = len := ⟨_, rfl⟩
  rw [hlen] at hr hpl hc hfew
  replace hlen : Hid (L.length = len) := hlen
  unfold It.val at *
  go_enter Try.func29, Try.ntmps29
  go_wp2_with fail
  go_loopw [5] (fun i wr => ∃ j : Nat, j ≤ n ∧ i = .int .i64 j ∧ Kept [] (w.alloc (.cells #[.int .i64 x.o, .int .i64 x.l, .int .i64 x.i] 66)) wr) (fun i _ => n - (RowKit.intOf i).toNat)
  case atStart => exact ⟨0, by omega, rfl, Kept.refl _ _⟩
  case round =>
    obtain ⟨j, hj, rfl, hk⟩ := hrel
    by_cases hlt : j < len
    · obtain ⟨-, -, -, h4⟩ | ⟨b, off, rfl, -, hb, hcs⟩ := hrow
      · have := hlen.out
        rw [h4] at this
        simp at this
        omega
      obtain ⟨y, hy⟩ : ∃ y, L[j]? = some y := ⟨_, List.getElem?_eq_getElem (by rw [hlen.out]; exact hlt)⟩
      have qy := fun W => hq y W
      have hry := hcs j y hy
      have hS : ∀ W, Kept [] (w.alloc (.cells #[.int .i64 x.o, .int .i64 x.l, .int .i64 x.i] 66)) W → W.cell? ⟨r, 0, none⟩ = some (.slice (some ⟨b, off, none⟩) len cap) ∧ (W.cell? ⟨b, off + j * 3, none⟩ = some (.int .i64 y.o) ∧ W.cell? ⟨b, off + j * 3 + 1, none⟩ = some (.int .i64 y.l) ∧ W.cell? ⟨b, off + j * 3 + 2, none⟩ = some (.int .i64 y.i)) ∧ W.cell? ⟨w.heap.size, 0, none⟩ = some (.int .i64 x.o) ∧ W.cell? ⟨w.heap.size, 1, none⟩ = some (.int .i64 x.l) ∧ W.cell? ⟨w.heap.size, 2, none⟩ = some (.int .i64 x.i) := fun W hkW =>
        have cy := fun k v (hv : y.cells[k]? = some v) => (show W.cell? ⟨b, off + j * 3 + k, none⟩ = some v from (World.cell?_of_block (by exact (hk0.trans hkW).block b hb (by simp))).trans (hry k v hv))
        ⟨(((hr.kept hk0 (by simp)).kept hkW (by simp)).cell 0).trans rfl, ⟨cy 0 _ rfl, cy 1 _ rfl, cy 2 _ rfl⟩, ((hx0.kept hkW (by simp)).cell 0).trans rfl, ((hx0.kept hkW (by simp)).cell 1).trans rfl, ((hx0.kept hkW (by simp)).cell 2).trans rfl⟩
      have hkd := hk.trans (kept_drew [] _)
      have hil : (j : Int) < (len : Int) := by omega
      have hcap : (j : Int) < (cap : Int) := by omega
      by_cases hjn : j < n
      · obtain ⟨y', hy', hah'⟩ := hah j hjn
        rw [hy] at hy'
        obtain rfl : y = y' := by simpa using hy'
        rw [hah'] at qy
        have hm1 : Hid (n - (j + 1) < n - j) := by show _ < _; omega
        clear hah hno hq hah' hy' hy hry hcs
        go_wp2_with fail
        go_region_held3 (fun W => W.cell? ⟨r, 0, none⟩ = some (.slice (some ⟨b, off, none⟩) len cap) ∧ (W.cell? ⟨b, off + j * 3, none⟩ = some (.int .i64 y.o) ∧ W.cell? ⟨b, off + j * 3 + 1, none⟩ = some (.int .i64 y.l) ∧ W.cell? ⟨b, off + j * 3 + 2, none⟩ = some (.int .i64 y.i)) ∧ W.cell? ⟨w.heap.size, 0, none⟩ = some (.int .i64 x.o) ∧ W.cell? ⟨w.heap.size, 1, none⟩ = some (.int .i64 x.l) ∧ W.cell? ⟨w.heap.size, 2, none⟩ = some (.int .i64 x.i)) (exact hS _ hkd) (first
          | (go_at_call 41; refine (qy _).mono ?_; rintro e w1 ⟨rfl, hk1⟩; replace hkd := hkd.trans hk1))
        go_wp2_with fail
        go_roundw
        case rel => exact ⟨j + 1, by omega, rfl, hkd⟩
        case measure => simpa [RowKit.intOf] using hm1.out
      · obtain rfl : j = n := by omega
        have hno' := hno y hy
        rw [hno'] at qy
        clear hah hno hq hno' hy hry hcs
        go_wp2_with fail
        go_region_held3 (fun W => W.cell? ⟨r, 0, none⟩ = some (.slice (some ⟨b, off, none⟩) len cap) ∧ (W.cell? ⟨b, off + j * 3, none⟩ = some (.int .i64 y.o) ∧ W.cell? ⟨b, off + j * 3 + 1, none⟩ = some (.int .i64 y.l) ∧ W.cell? ⟨b, off + j * 3 + 2, none⟩ = some (.int .i64 y.i)) ∧ W.cell? ⟨w.heap.size, 0, none⟩ = some (.int .i64 x.o) ∧ W.cell? ⟨w.heap.size, 1, none⟩ = some (.int .i64 x.l) ∧ W.cell? ⟨w.heap.size, 2, none⟩ = some (.int .i64 x.i)) (exact hS _ hkd) (first
          | (go_at_call 41; refine (qy _).mono ?_; rintro e w1 ⟨rfl, hk1⟩; replace hkd := hkd.trans hk1))
        go_wp2_with fail
        go_ret
        exact ⟨rfl, hk0.trans hkd⟩
    · have hnlt : ¬ ((j : Int) < (len : Int)) := by omega
      obtain rfl : j = n := by omega
      have cr' := (((hr.kept hk0 (by simp)).kept hk (by simp)).cell 0).trans (show _ = some (Value.slice a len cap) from rfl)
      clear hah hno hq hrow
      go_wp2_with fail
      go_quiet (fail)
      go_wp2_with fail
      go_ret
      exact ⟨rfl, (hk0.trans hk).trans (kept_drewN [] _ _)⟩
end Go.Proofs.Ytpphlcjabnbblaa.Itree

