/-
  Own writes as layer 23 asks for them, in a row of a call's own; the walk of Own.
-/
import Derived.Test.YtollfckgjhklcaaGreatFlN
namespace Go.Proofs.YtollfckgjhklcaaGreat.Flight
open Go.RowKit Go.Maps Go.Sort
open Table (Rising ins del tks)

/-- An own write as layer 23 asks for it. -/
structure Ow where
  o : Int
  l : Int
  s : Bool
def Ow.cells (x : Ow) : List Value := [.int .i64 x.o, .int .i64 x.l, .bool x.s]
/-- What is told of L. -/
def owsL (L : List (Int × Fw)) : List Ow := L.map fun x => ⟨x.2.o, x.2.l, !decide (x.2.st = 1)⟩
def owC (L : List Ow) : List Value := L.flatMap Ow.cells
theorem owC_append (A B : List Ow) : owC (A ++ B) = owC A ++ owC B := by simp [owC]
theorem owC_length (L : List Ow) : (owC L).length = L.length * 3 := by
  induction L with
  | nil => rfl
  | cons x L ih =>
    have : owC (x :: L) = x.cells ++ owC L := rfl
    rw [this, List.length_append, ih, List.length_cons]
    simp [Ow.cells]
    omega
theorem owC_at : ∀ (xs : List Ow) (i : Nat) (x : Ow), xs[i]? = some x → ∀ c, c < 3 → (owC xs)[i * 3 + c]? = x.cells[c]?
  | [], i, x, h, _, _ => by simp at h
  | y :: xs, 0, x, h, c, hc => by
    simp at h
    subst h
    show (y.cells ++ owC xs)[0 * 3 + c]? = _
    rw [Nat.zero_mul, Nat.zero_add, List.getElem?_append_left (by simp [Ow.cells]; omega)]
  | y :: xs, i + 1, x, h, c, hc => by
    show (y.cells ++ owC xs)[(i + 1) * 3 + c]? = _
    have e : (i + 1) * 3 + c = y.cells.length + (i * 3 + c) := by simp [Ow.cells]; omega
    rw [e, List.getElem?_append_right (by omega), Nat.add_sub_cancel_left]
    exact owC_at xs i x (by simpa using h) c hc
/-- A row of the call's own. -/
def OwnOws (ty : TypeId) (W : World) (base : Nat) (v : Value) (L : List Ow) : Prop := W.ownsRow base ty 3 v L.length (owC L)
theorem own_nil (ty : TypeId) (W : World) (base : Nat) : OwnOws ty W base (.slice none 0 0) [] := World.ownsRow_nil W base ty 3
theorem OwnOws.kept {ty : TypeId} {A B : World} {base : Nat} {v : Value} {L : List Ow} (h : OwnOws ty A base v L) (hk : Kept [] A B) : OwnOws ty B base v L := by
  obtain ⟨h0, ⟨rfl, h1⟩ | ⟨g, cap, cur, rfl, hb, hg, h3⟩⟩ := h
  · exact ⟨h0, .inl ⟨rfl, h1⟩⟩
  · exact ⟨h0, .inr ⟨g, cap, cur, rfl, hb, (hk.block g (Array.getElem?_eq_some_iff.1 hg).1 (by simp)).trans hg, h3⟩⟩
/-- As a slice: what lies at its places. -/
theorem OwnOws.open {ty : TypeId} {W : World} {base : Nat} {v : Value} {L : List Ow} (h : OwnOws ty W base v L) : ∃ a cap, v = .slice a L.length cap ∧ L.length ≤ cap ∧ (L = [] ∨ ∃ g, a = some ⟨g, 0, none⟩ ∧ base ≤ g ∧ g < W.heap.size ∧ ∃ cur, Blk W g ty cur ∧ ∀ i x, L[i]? = some x → ∀ c, c < 3 → cur[i * 3 + c]? = x.cells[c]?) := by
  obtain ⟨_, ⟨rfl, h1⟩ | ⟨g, cap, cur, rfl, hb, hg, h1, h2, h3, h4⟩⟩ := h
  · have : L = [] := List.eq_nil_of_length_eq_zero h1
    subst this
    exact ⟨none, 0, rfl, Nat.le_refl _, .inl rfl⟩
  · refine ⟨_, cap, rfl, h1, .inr ⟨g, rfl, hb, (Array.getElem?_eq_some_iff.1 hg).1, cur, hg, fun i x hx c hc => ?_⟩⟩
    have hi : i < L.length := (List.getElem?_eq_some_iff.1 hx).1
    rw [← owC_at L i x hx c hc, ← h4, List.getElem?_take, if_pos (by omega), Array.getElem?_toList]
set_option maxRecDepth 100000 in
theorem Tryz.infoOwC : (Tryz.prog.info? 80).map (fun i => (i.zero, i.size, i.bytes)) = some (some (.agg #[.int .i64 0, .int .i64 0, .bool false]), 3, 24) := by kernel_rfl
set_option maxRecDepth 100000 in
/-- An own write appended. -/
theorem wpList_append_owC {ops : Array Oper} {rest : List Oper} {o : Oper} {a : Act} {w : World} {Q : Exit → Act → World → Prop} (hgd : o.guard = none) (s x : Operand) (ho : o.op = .call { callee := .builtin .append, args := #[s, x], argTypes := #[57, 57] })
    (base : Nat) (v : Value) (L : List Ow) (y : Ow) (q : Nat) (hs : a.eval s = v) (hown : OwnOws 80 w base v L) (hx : a.eval x = .slice (some ⟨q, 0, none⟩) 1 1) (hq : Blk w q 80 #[.int .i64 y.o, .int .i64 y.l, .bool y.s]) (hlen : L.length ≤ 2000) (hb : base ≤ w.heap.size)
    (h : ∀ v' w', OwnOws 80 w' base v' (L ++ [y]) → w.grownBy w' v.ownBlock → wpList Tryz.prog ops Q rest (a.put o.dst v') w') : wpList Tryz.prog ops Q (o :: rest) a w := by
  obtain ⟨i0, hi, hz0, hz1, hz2⟩ := info_parts Tryz.infoOwC
  refine wpList_append_own_at _ hgd s x 57 ho base 80 i0 (.agg #[.int .i64 0, .int .i64 0, .bool false]) 3 24 Tryz.underlying57 hi hz0 hz1 hz2 rfl (by decide) v L.length (owC L) hs hown ⟨q, 0, none⟩ 1 1 (owC [y]) hx (owC_length [y]) ?_ ?_ (by unfold maxLen; omega) (by omega) hb ?_
  · intro j u hu
    have e : (⟨q, 0, none⟩ : Addr).add j = ⟨q, j, none⟩ := by unfold Addr.add; split <;> simp_all
    rw [e, hq.cell]
    have : owC [y] = [.int .i64 y.o, .int .i64 y.l, .bool y.s] := rfl
    rw [this] at hu
    simpa using hu
  · intro u hu
    have : owC [y] = [.int .i64 y.o, .int .i64 y.l, .bool y.s] := rfl
    rw [this] at hu
    simp at hu
    rcases hu with rfl | rfl | rfl <;> rfl
  · intro v' w' h3 h4 _ _
    refine h v' w' ?_ h4
    unfold OwnOws
    rw [List.length_append, owC_append]
    exact h3
set_option maxRecDepth 100000 in
theorem Tryz.infoOwR : (Tryz.prog.info? 79).map (fun i => (i.zero, i.size, i.bytes)) = some (some (.agg #[.int .i64 0, .int .i64 0, .bool false]), 3, 24) := by kernel_rfl
set_option maxRecDepth 100000 in
/-- An own write appended. -/
theorem wpList_append_owR {ops : Array Oper} {rest : List Oper} {o : Oper} {a : Act} {w : World} {Q : Exit → Act → World → Prop} (hgd : o.guard = none) (s x : Operand) (ho : o.op = .call { callee := .builtin .append, args := #[s, x], argTypes := #[55, 55] })
    (base : Nat) (v : Value) (L : List Ow) (y : Ow) (q : Nat) (hs : a.eval s = v) (hown : OwnOws 79 w base v L) (hx : a.eval x = .slice (some ⟨q, 0, none⟩) 1 1) (hq : Blk w q 79 #[.int .i64 y.o, .int .i64 y.l, .bool y.s]) (hlen : L.length ≤ 2000) (hb : base ≤ w.heap.size)
    (h : ∀ v' w', OwnOws 79 w' base v' (L ++ [y]) → w.grownBy w' v.ownBlock → wpList Tryz.prog ops Q rest (a.put o.dst v') w') : wpList Tryz.prog ops Q (o :: rest) a w := by
  obtain ⟨i0, hi, hz0, hz1, hz2⟩ := info_parts Tryz.infoOwR
  refine wpList_append_own_at _ hgd s x 55 ho base 79 i0 (.agg #[.int .i64 0, .int .i64 0, .bool false]) 3 24 Tryz.underlying55 hi hz0 hz1 hz2 rfl (by decide) v L.length (owC L) hs hown ⟨q, 0, none⟩ 1 1 (owC [y]) hx (owC_length [y]) ?_ ?_ (by unfold maxLen; omega) (by omega) hb ?_
  · intro j u hu
    have e : (⟨q, 0, none⟩ : Addr).add j = ⟨q, j, none⟩ := by unfold Addr.add; split <;> simp_all
    rw [e, hq.cell]
    have : owC [y] = [.int .i64 y.o, .int .i64 y.l, .bool y.s] := rfl
    rw [this] at hu
    simpa using hu
  · intro u hu
    have : owC [y] = [.int .i64 y.o, .int .i64 y.l, .bool y.s] := rfl
    rw [this] at hu
    simp at hu
    rcases hu with rfl | rfl | rfl <;> rfl
  · intro v' w' h3 h4 _ _
    refine h v' w' ?_ h4
    unfold OwnOws
    rw [List.length_append, owC_append]
    exact h3
theorem ownsRow_base {W : World} {base base' : Nat} {e : TypeId} {size : Nat} {v : Value} {k : Nat} {xs : List Value} (h : W.ownsRow base e size v k xs) (hb : base' ≤ base) : W.ownsRow base' e size v k xs := by
  obtain ⟨h0, h1 | ⟨g, cap, cur, e1, hg, h3⟩⟩ := h
  · exact ⟨h0, .inl h1⟩
  · exact ⟨h0, .inr ⟨g, cap, cur, e1, by omega, h3⟩⟩
set_option maxRecDepth 100000 in
set_option maxHeartbeats 2000000 in
/-- Own -/
theorem own_any {lo hi f b p : Nat} {F : List Nat} {L : List (Int × Fw)} (w : World) (h : FlAt w lo hi f b p F L) (hn : L.length ≤ 600) :
    Calls Tryz.prog 25 #[.pointer (some ⟨f, 0, none⟩)] w fun e W' => ∃ v : Value, e = .returned v ∧ OwnOws 80 W' w.heap.size v (owsL L) ∧ Kept [] w W' := by
  have q := rising_any w h hn
  go_enter Tryz.func25, Tryz.ntmps25
  go_wp2_with (go_at_call 43; refine q.mono ?_; rintro e w1 ⟨v, xs, rfl, h1, h2, h3, h4⟩; have hwat := h3.wat; obtain ⟨a, cap, rfl, hcap, -⟩ := hwat.open; have hlen : xs.length = L.length := (by rw [← h1]; simp); obtain ⟨n, hnn⟩ : ∃ n, xs.length = n := ⟨_, rfl⟩; rw [hnn] at hwat hcap hlen ⊢; replace hwat : Hid (WAt 39 w1 w.heap.size (.slice a n cap) xs) := hwat; replace hnn : Hid _ := hnn; replace hlen : Hid _ := hlen)
  go_loopw [9, 3] (fun i u wr => ∃ k : Nat, i = .int .i64 k ∧ k ≤ n ∧ OwnOws 80 wr w1.heap.size u (owsL (L.take k)) ∧ Kept [] w1 wr) (fun i _ _ => n - (RowKit.intOf i).toNat)
  case atStart => exact ⟨0, rfl, Nat.zero_le _, own_nil _ _ _, Kept.refl _ _⟩
  case round =>
    obtain ⟨k, rfl, hk, hI, hkr⟩ := hrel
    have hn6 : n ≤ 600 := by have := hlen.out; omega
    by_cases hlt : k < n
    · have hlt' : (k : Int) < (n : Int) := by omega
      have hk1 : (k : Int) + 1 < 9223372036854775808 := by omega
      obtain ⟨g, off, rfl, hg, hL⟩ : ∃ g off, a = some ⟨g, off, none⟩ ∧ w.heap.size ≤ g ∧ Lies 39 w1 g off xs := by
        rcases hwat.out with ⟨_, h0⟩ | ⟨g, off, cap', e, h2, h3, h4⟩
        · have := hnn.out
          rw [h0] at this
          simp at this
          omega
        · injection e with e1 _ _
          exact ⟨g, off, e1, h2, h4⟩
      obtain ⟨x, hx⟩ : ∃ x, xs[k]? = some x := ⟨_, List.getElem?_eq_getElem (by rw [hnn.out]; exact hlt)⟩
      obtain ⟨d0, d1, d2, d3, d4⟩ := hL.at hx hkr (by simp)
      have ej : Hid (owsL (L.take (k + 1)) = owsL (L.take k) ++ [⟨x.o, x.l, !decide (x.st = 1)⟩]) := by
        show _ = _
        rw [List.take_add_one, fv_at_list h1 hx]
        simp [owsL, Fv.fw]
      have hll : Hid ((owsL (L.take k)).length ≤ 2000) := by
        show _ ≤ _
        simp [owsL]
        omega
      obtain ⟨sx, hsx⟩ : ∃ sx, (!decide (x.st = 1)) = sx := ⟨_, rfl⟩
      rw [hsx] at ej
      have hsx2 : (!(x.st == 1)) = sx := by rw [← hsx]; rfl
      have hsx3 : (x.st != 1) = sx := hsx2
      have kA := kept_alloc [] wr (.cells #[.int .i64 x.t, .int .i64 x.o, .int .i64 x.l, .slice x.sa x.len x.cap, .int .i64 x.st] 39)
      have kB := kept_alloc [] (wr.alloc (.cells #[.int .i64 x.t, .int .i64 x.o, .int .i64 x.l, .slice x.sa x.len x.cap, .int .i64 x.st] 39)) (.cells #[.int .i64 x.o, .int .i64 x.l, .bool sx] 80)
      have hb := blk_new (wr.alloc (.cells #[.int .i64 x.t, .int .i64 x.o, .int .i64 x.l, .slice x.sa x.len x.cap, .int .i64 x.st] 39)) 80 #[.int .i64 x.o, .int .i64 x.l, .bool sx]
      rw [show (wr.alloc (.cells #[.int .i64 x.t, .int .i64 x.o, .int .i64 x.l, .slice x.sa x.len x.cap, .int .i64 x.st] 39)).heap.size = wr.heap.size + 1 by simp] at hb
      have hIB : Hid (OwnOws 80 _ _ _ _) := hI.kept (kA.trans kB)
      have hbs : Hid _ := Nat.le_trans hkr.size (kA.trans kB).size
      replace hb : Hid (Blk _ _ _ _) := hb
      replace hsx : Hid _ := hsx
      clear hx hL hI hsx2
      go_wp2_with (at_builtin; refine wpList_append_owC rfl _ _ rfl w1.heap.size _ (owsL (L.take k)) ⟨x.o, x.l, sx⟩ (wr.heap.size + 1) rfl hIB.out rfl hb.out hll.out hbs.out ?_; intro v1 w5 hI1 hg1; have hk5 := kept_grown hIB.out hg1 w1 (hkr.trans (kA.trans kB)) (Nat.le_refl _); rw [← ej.out] at hI1; clear hg1)
      go_roundw
      case rel => exact ⟨k + 1, by go_num, by omega, hI1, hk5⟩
      case measure => show n - (((k : Int) + 1).toNat) < n - ((k : Int).toNat); omega
    · obtain rfl : k = n := by omega
      have i1 : ¬ ((k : Int) < (k : Int)) := by omega
      have et : L.take k = L := List.take_of_length_le (by have := hlen.out; omega)
      rw [et] at hI
      clear et
      go_wp2_with fail
      go_ret
      refine ⟨_, rfl, ?_, h4.trans hkr⟩
      exact ownsRow_base hI h4.size
end Go.Proofs.YtollfckgjhklcaaGreat.Flight
