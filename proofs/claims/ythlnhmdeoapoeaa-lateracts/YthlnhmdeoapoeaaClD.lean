/-
  Own writes in rows of a call's own; Owns; lives.
-/
import Derived.Test.YthlnhmdeoapoeaaClC
import Derived.Deep.Cut
import Derived.Deep.CutBlock
namespace Go.Proofs.Ythlnhmdeoapoeaa.Clash
open Go.RowKit

/-- The cells of own writes. -/
def owC (L : List Ow) : List Value := L.flatMap Ow.cells
theorem owC_append (A B : List Ow) : owC (A ++ B) = owC A ++ owC B := by simp [owC]
theorem owC_length (L : List Ow) : (owC L).length = L.length * 3 := by
  induction L with
  | nil => rfl
  | cons x L ih =>
    have : owC (x :: L) = x.cells ++ owC L := rfl
    rw [this, List.length_append, ih, List.length_cons]
    simp [Ow.cells]
    omega
theorem owC_get (L : List Ow) (j : Nat) (x : Ow) (hx : L[j]? = some x) (k : Nat) (v : Value) (hv : x.cells[k]? = some v) : (owC L)[j * 3 + k]? = some v := by
  have hj : j < L.length := (List.getElem?_eq_some_iff.1 hx).1
  have hk : k < 3 := by
    have := (List.getElem?_eq_some_iff.1 hv).1
    simpa [Ow.cells] using this
  have e : L = L.take j ++ x :: L.drop (j + 1) := by
    have h1 := List.getElem?_eq_some_iff.1 hx
    conv => lhs; rw [← List.take_append_drop j L, List.drop_eq_getElem_cons hj, h1.2]
  rw [e, owC_append]
  have hl : (owC (L.take j)).length = j * 3 := by rw [owC_length, List.length_take, Nat.min_eq_left (by omega)]
  rw [List.getElem?_append_right (by omega), hl, Nat.add_sub_cancel_left]
  have : owC (x :: L.drop (j + 1)) = x.cells ++ owC (L.drop (j + 1)) := rfl
  rw [this, List.getElem?_append_left (by simp [Ow.cells]; omega)]
  exact hv
/-- A row of the call's own. -/
def OwnOws (W : World) (base : Nat) (v : Value) (L : List Ow) : Prop := W.ownsRow base 54 3 v L.length (owC L)
theorem own_nil (W : World) (base : Nat) : OwnOws W base (.slice none 0 0) [] := World.ownsRow_nil W base 54 3
theorem OwnOws.kept {A B : World} {base : Nat} {v : Value} {L : List Ow} (h : OwnOws A base v L) (hk : Kept [] A B) : OwnOws B base v L := by
  obtain ⟨h0, ⟨rfl, h1⟩ | ⟨g, cap, cur, rfl, hb, hg, h3⟩⟩ := h
  · exact ⟨h0, .inl ⟨rfl, h1⟩⟩
  · exact ⟨h0, .inr ⟨g, cap, cur, rfl, hb, (hk.block g (Array.getElem?_eq_some_iff.1 hg).1 (by simp)).trans hg, h3⟩⟩
/-- Own writes that lie in a block from its beginning on. -/
def Lies (W : World) (g : Nat) (L : List Ow) : Prop := ∃ cur, Blk W g 54 cur ∧ ∀ j (x : Ow), L[j]? = some x → ∀ i v, x.cells[i]? = some v → cur[j * 3 + i]? = some v
/-- What a call made, as a slice. -/
theorem OwnOws.open {W : World} {base : Nat} {v : Value} {L : List Ow} (h : OwnOws W base v L) : ∃ a cap, v = .slice a L.length cap ∧ L.length ≤ cap ∧ ((a = none ∧ cap = 0 ∧ L = []) ∨ ∃ g, a = some ⟨g, 0, none⟩ ∧ base ≤ g ∧ Lies W g L) := by
  obtain ⟨_, ⟨rfl, h1⟩ | ⟨g, cap, cur, rfl, hb, hg, h1, h2, h3, h4⟩⟩ := h
  · have : L = [] := List.eq_nil_of_length_eq_zero h1
    subst this
    exact ⟨none, 0, rfl, Nat.le_refl _, .inl ⟨rfl, rfl, rfl⟩⟩
  · refine ⟨_, cap, rfl, h1, .inr ⟨g, rfl, hb, cur, hg, fun j x hx i v hv => ?_⟩⟩
    have hj : j < L.length := (List.getElem?_eq_some_iff.1 hx).1
    have hi : i < 3 := by
      have := (List.getElem?_eq_some_iff.1 hv).1
      simpa [Ow.cells] using this
    have e := owC_get L j x hx i v hv
    rw [← h4, List.getElem?_take_of_lt (by omega)] at e
    simpa using e
theorem Lies.ows {W : World} {g : Nat} {L : List Ow} (h : Lies W g L) {cap : Nat} (hc : L.length ≤ cap) : OwsAt W (some ⟨g, 0, none⟩) L.length cap L := by
  obtain ⟨cur, hg, hc'⟩ := h
  refine ⟨rfl, hc, .inr ⟨g, 0, rfl, hg.lt, fun j x hx i v hv => ?_⟩⟩
  rw [hg.cell, Nat.zero_add]
  exact hc' j x hx i v hv
theorem Lies.kept {A B : World} {g : Nat} {L : List Ow} (h : Lies A g L) (hk : Kept [] A B) : Lies B g L := by
  obtain ⟨cur, hg, hc'⟩ := h
  exact ⟨cur, hg.kept hk (by simp), hc'⟩
theorem OwnOws.ows {W : World} {base : Nat} {v : Value} {L : List Ow} (h : OwnOws W base v L) : ∃ a cap, v = .slice a L.length cap ∧ OwsAt W a L.length cap L := by
  obtain ⟨a, cap, rfl, hc, ⟨rfl, rfl, rfl⟩ | ⟨g, rfl, _, hL⟩⟩ := h.open
  · exact ⟨_, _, rfl, ows_nil W⟩
  · exact ⟨_, _, rfl, hL.ows hc⟩
set_option maxRecDepth 100000 in
theorem Try.infoOw : (Try.prog.info? 54).map (fun i => (i.zero, i.size, i.bytes)) = some (some (.agg #[.int .i64 0, .int .i64 0, .bool false]), 3, 24) := by kernel_rfl
theorem kept_grown {w w' : World} {v : Value} {base : Nat} {e : TypeId} {z k : Nat} {l : List Value} (hown : w.ownsRow base e z v k l) (hg : w.grownBy w' v.ownBlock) (w0 : World) (h0 : Kept [] w0 w) (hb : w0.heap.size ≤ base) : Kept [] w0 w' :=
  ⟨hg.os.trans h0.os, hg.tape.trans h0.tape, hg.output.trans h0.output, Nat.le_trans h0.size hg.size, fun j hj _ => (hg.block j (Nat.lt_of_lt_of_le hj h0.size) (fun e => by have := (hown.lt j e.symm).1; omega)).trans (h0.block j hj (by simp))⟩
section
variable {ops : Array Oper} {rest : List Oper} {o : Oper} {a : Act} {w : World} {Q : Exit → Act → World → Prop}
set_option maxRecDepth 100000 in
/-- An own write appended. -/
theorem wpList_append_ow (hgd : o.guard = none) (s x : Operand) (ho : o.op = .call { callee := .builtin .append, args := #[s, x], argTypes := #[40, 40] })
    (base : Nat) (v : Value) (L : List Ow) (y : Ow) (q : Nat) (hs : a.eval s = v) (hown : OwnOws w base v L) (hx : a.eval x = .slice (some ⟨q, 0, none⟩) 1 1) (hq : Blk w q 54 #[.int .i64 y.o, .int .i64 y.l, .bool y.s]) (hlen : L.length ≤ 2000) (hb : base ≤ w.heap.size)
    (h : ∀ v' w', OwnOws w' base v' (L ++ [y]) → w.grownBy w' v.ownBlock → wpList Try.prog ops Q rest (a.put o.dst v') w') : wpList Try.prog ops Q (o :: rest) a w := by
  obtain ⟨i0, hi, hz0, hz1, hz2⟩ := info_parts Try.infoOw
  refine wpList_append_own_at _ hgd s x 40 ho base 54 i0 (.agg #[.int .i64 0, .int .i64 0, .bool false]) 3 24 Try.underlying40 hi hz0 hz1 hz2 rfl (by decide) v L.length (owC L) hs hown ⟨q, 0, none⟩ 1 1 (owC [y]) hx (owC_length [y]) ?_ ?_ (by unfold maxLen; omega) (by omega) hb ?_
  · intro j u hu
    have e : (⟨q, 0, none⟩ : Addr).add j = ⟨q, j, none⟩ := by unfold Addr.add; split <;> simp_all
    rw [e, hq.cell]
    have : owC [y] = [.int .i64 y.o, .int .i64 y.l, .bool y.s] := rfl
    rw [this] at hu
    simpa using hu
  · intro u hu
    have : owC [y] = [.int .i64 y.o, .int .i64 y.l, .bool y.s] := rfl
    rw [this] at hu
    simp at hu
    rcases hu with rfl | rfl | rfl <;> rfl
  · intro v' w' h3 h4 _ _
    refine h v' w' ?_ h4
    unfold OwnOws
    rw [List.length_append, owC_append]
    exact h3
end
set_option maxRecDepth 100000 in
set_option maxHeartbeats 1000000 in
/-- Owns -/
theorem owns_any (a : Option Addr) (len cap : Nat) (L : List Ow) (hl : len ≤ 100) (w : World) (hL : OwsAt w a len cap L) :
    Calls Try.prog 9 #[.slice a len cap] w fun e w' => ∃ v, e = .returned v ∧ OwnOws w' w.heap.size v L ∧ Kept [] w w' := by
  go_enter Try.func9, Try.ntmps9
  go_wp2_with fail
  go_loopw [8, 3] (fun i u wr => ∃ j : Nat, j ≤ len ∧ i = .int .i64 j ∧ OwnOws wr w.heap.size u (L.take j) ∧ Kept [] w wr) (fun i _ _ => len - (RowKit.intOf i).toNat)
  case atStart => exact ⟨0, by omega, rfl, own_nil _ _, Kept.refl _ _⟩
  case round =>
    obtain ⟨j, hj, rfl, hI, hk⟩ := hrel
    by_cases hlt : j < len
    · obtain ⟨⟨yo, yl, ys⟩, b, off, hy, rfl, hb, hcs⟩ := hL.at hlt
      simp only at hcs
      obtain ⟨y0, y1, y2⟩ := hcs wr hk
      have ej : L.take (j + 1) = L.take j ++ [⟨yo, yl, ys⟩] := by rw [List.take_add_one, hy]; rfl
      have hll : Hid ((L.take j).length ≤ 2000) := by
        show _ ≤ _
        rw [List.length_take]
        omega
      have kA := kept_alloc [] wr (.cells #[.int .i64 yo, .int .i64 yl, .bool ys] 66)
      have kB := kept_alloc [] (wr.alloc (.cells #[.int .i64 yo, .int .i64 yl, .bool ys] 66)) (.cells #[.int .i64 yo, .int .i64 yl, .bool ys] 54)
      have hn := blk_new (wr.alloc (.cells #[.int .i64 yo, .int .i64 yl, .bool ys] 66)) 54 #[.int .i64 yo, .int .i64 yl, .bool ys]
      rw [show (wr.alloc (.cells #[.int .i64 yo, .int .i64 yl, .bool ys] 66)).heap.size = wr.heap.size + 1 by simp] at hn
      have hIB := hI.kept (kA.trans kB)
      have hbs := Nat.le_trans hk.size (kA.trans kB).size
      have i1 : (j : Int) < (len : Int) := by omega
      have i2 := hL.2.1
      have hm1 : Hid (len - (j + 1) < len - j) := by show _ < _; omega
      replace ej : Hid _ := ej
      replace hIB : Hid (OwnOws _ _ _ _) := hIB
      replace hbs : Hid _ := hbs
      replace hn : Hid (Blk _ _ _ _) := hn
      clear hy hcs hL hI
      go_wp2_with (at_builtin; refine wpList_append_ow rfl _ _ rfl w.heap.size _ (L.take j) ⟨yo, yl, ys⟩ (wr.heap.size + 1) rfl hIB.out rfl hn.out hll.out hbs.out ?_; intro v1 w1 hI1 hg1; have hk1 := kept_grown hIB.out hg1 w (hk.trans (kA.trans kB)) (Nat.le_refl _); rw [← ej.out] at hI1; clear hg1)
      go_roundw
      case rel => exact ⟨j + 1, by omega, by go_num, hI1, hk1⟩
      case measure => simpa [RowKit.intOf] using hm1.out
    · obtain rfl : j = len := by omega
      have et : L.take j = L := List.take_of_length_le (by rw [hL.1]; exact Nat.le_refl _)
      have i1 : ¬ ((j : Int) < (j : Int)) := by omega
      rw [et] at hI
      clear hL et
      go_wp2_with fail
      go_ret
      exact ⟨_, rfl, hI, hk⟩
/-- The one that lives has. -/
def oneOw : List Ow := [⟨0, 4, true⟩]
theorem lies_one (w : World) (x : Ow) : Lies (w.alloc (.cells #[.int .i64 x.o, .int .i64 x.l, .bool x.s] 54)) w.heap.size [x] := by
  refine ⟨_, blk_new w 54 #[.int .i64 x.o, .int .i64 x.l, .bool x.s], fun j y hy i v hv => ?_⟩
  have e := owC_get [x] j y hy i v hv
  have : (#[.int .i64 x.o, .int .i64 x.l, .bool x.s] : Array Value) = (owC [x]).toArray := rfl
  rw [this]
  simpa using e
end Go.Proofs.Ythlnhmdeoapoeaa.Clash
