import Derived.Test.YtpphlcjabnbblaaItD
/-
  Ids in a row; the walks of Overlaps and Ids of twainref14.
-/
namespace Go.Proofs.Ytpphlcjabnbblaa.Itree
open Go.RowKit

/-- Ids in a row that a call has made, from block base on. -/
def IdsAt (W : World) (base : Nat) (v : Value) (l : List Int) : Prop := W.ownsRow base 3 1 v l.length (l.map (Value.int .i64))
theorem ids_nil (W : World) (base : Nat) : IdsAt W base (.slice none 0 0) [] := World.ownsRow_nil W base 3 1
theorem IdsAt.kept {K : List Nat} {A B : World} {base : Nat} {v : Value} {l : List Int} (h : IdsAt A base v l) (hk : Kept K A B) (hK : ∀ k ∈ K, k < base) : IdsAt B base v l := by
  refine ⟨h.1, ?_⟩
  rcases h.2 with hn | ⟨g, cap, cur, hv, hb, hg, rest⟩
  · exact .inl hn
  · refine .inr ⟨g, cap, cur, hv, hb, ?_, rest⟩
    rw [hk.block g (Array.getElem?_eq_some_iff.1 hg).1 (fun hm => by have := hK g hm; omega)]
    exact hg
theorem IdsAt.mono {W : World} {base base' : Nat} {v : Value} {l : List Int} (h : IdsAt W base v l) (hb : base' ≤ base) : IdsAt W base' v l := by
  refine ⟨h.1, ?_⟩
  rcases h.2 with hn | ⟨g, cap, cur, hv, hg0, rest⟩
  · exact .inl hn
  · exact .inr ⟨g, cap, cur, hv, by omega, rest⟩
/-- As they read. -/
theorem IdsAt.ints {W : World} {base : Nat} {v : Value} {l : List Int} (h : IdsAt W base v l) : Bits.IntsAt W.heap.size W v l := by
  obtain ⟨_, ⟨rfl, h0⟩ | ⟨g, cap, cur, rfl, hb, hg, h1, h2, h3, h4⟩⟩ := h
  · have : l = [] := by simpa using h0
    subst this
    exact ⟨none, 0, rfl, .inl rfl⟩
  · refine ⟨some ⟨g, 0, none⟩, cap, rfl, .inr ⟨g, 0, rfl, (Array.getElem?_eq_some_iff.1 hg).1, fun j hj => ?_⟩⟩
    have e := congrArg (fun t => t[j]?) h4
    simp only [Nat.mul_one] at e
    rw [List.getElem?_take_of_lt hj, List.getElem?_map, List.getElem?_eq_getElem hj] at e
    rw [cell_of_row W g (0 + j) _ 3 (0, 0) hg]
    simpa [hj] using e
/-- It has a length. -/
theorem IdsAt.slice {W : World} {base : Nat} {v : Value} {l : List Int} (h : IdsAt W base v l) : ∃ a cap, v = .slice a l.length cap := by
  obtain ⟨_, ⟨rfl, h0⟩ | ⟨g, cap, cur, rfl, _⟩⟩ := h
  · exact ⟨none, 0, by rw [h0]⟩
  · exact ⟨_, cap, rfl⟩
section
variable {ops : Array Oper} {rest : List Oper} {o : Oper} {a : Act} {w : World} {Q : Exit → Act → World → Prop}
set_option maxRecDepth 100000 in
/-- An id appended. -/
theorem wpList_append_id (hgd : o.guard = none) (s x : Operand) (ho : o.op = .call { callee := .builtin .append, args := #[s, x], argTypes := #[35, 35] })
    (base : Nat) (v : Value) (l : List Int) (id : Int) (q : Nat) (hs : a.eval s = v) (hown : IdsAt w base v l) (hx : a.eval x = .slice (some ⟨q, 0, none⟩) 1 1) (hc : w.cell? ⟨q, 0, none⟩ = some (.int .i64 id)) (hlen : l.length ≤ 2000000) (hb : base ≤ w.heap.size)
    (h : ∀ v' w', IdsAt w' base v' (l ++ [id]) → w.grownBy w' v.ownBlock → wpList Try.prog ops Q rest (a.put o.dst v') w') : wpList Try.prog ops Q (o :: rest) a w := by
  have hi3 : (Try.prog.info? 3).map (fun i => (i.zero, i.size, i.bytes)) = some (some (.int .i64 0), 1, 8) := by kernel_rfl
  obtain ⟨i0, hi, hz0, hz1, hz2⟩ := info_parts hi3
  refine wpList_append_own _ hgd s x 35 ho base 3 i0 (.int .i64 0) 1 8 Try.underlying35 hi hz0 hz1 hz2 rfl (by decide) v l.length (l.map (Value.int .i64)) hs hown ⟨q, 0, none⟩ 1 1 [.int .i64 id] hx rfl ?_ ?_ (by unfold maxLen; omega) (by omega) hb ?_
  · intro j u hu
    have hj : j = 0 := by
      have := (List.getElem?_eq_some_iff.1 hu).1
      simpa using this
    subst hj
    simp at hu
    subst hu
    exact hc
  · intro u hu
    simp at hu
    subst hu
    rfl
  · intro v' w' h3 h4 _
    refine h v' w' ?_ h4
    unfold IdsAt
    rw [List.length_append, List.map_append]
    exact h3
end

set_option maxRecDepth 100000 in
set_option maxHeartbeats 1000000 in
/-- Ids -/
theorem rIds_any (r : Nat) (ob : Option Nat) (L : List It) (w : World) (h : RT w r ob L) :
    Calls Try.prog 19 #[.pointer (some ⟨r, 0, none⟩)] w fun e w' => ∃ v, e = .returned v ∧ IdsAt w' w.heap.size v (idsL L) ∧ Kept [] w w' := by
  obtain ⟨v, hr, a, cap, rfl, hc, hm, hrow⟩ := h.row
  have hfew := h.few
  have cR := (hr.cell 0).trans (show _ = some (Value.slice a L.length cap) from rfl)
  obtain ⟨len, hlen⟩ : ∃ len, L.length = len := ⟨_, rfl⟩
  rw [hlen] at hr hc hfew cR
  replace hlen : Hid (L.length = len) := hlen
  go_enter Try.func19, Try.ntmps19
  go_wp2_with fail
  go_loopw [11, 3] (fun i u wr => ∃ j : Nat, j ≤ len ∧ i = .int .i64 j ∧ IdsAt wr w.heap.size u (idsL (L.take j)) ∧ Kept [] w wr) (fun i _ _ => len - (RowKit.intOf i).toNat)
  case atStart => exact ⟨0, by omega, rfl, ids_nil _ _, Kept.refl _ _⟩
  case round =>
    obtain ⟨j, hj, rfl, hI, hk⟩ := hrel
    by_cases hlt : j < len
    · obtain ⟨-, -, -, h4⟩ | ⟨b, off, rfl, -, hb, hcs⟩ := hrow
      · have := hlen.out
        rw [h4] at this
        simp at this
        omega
      obtain ⟨y, hy⟩ : ∃ y, L[j]? = some y := ⟨_, List.getElem?_eq_getElem (by rw [hlen.out]; exact hlt)⟩
      have hry := hcs j y hy
      have cy := fun k v (hv : y.cells[k]? = some v) => (show wr.cell? ⟨b, off + j * 3 + k, none⟩ = some v from (World.cell?_of_block (by exact hk.block b hb (by simp))).trans (hry k v hv))
      have y0 : wr.cell? ⟨b, off + j * 3, none⟩ = some (.int .i64 y.o) := cy 0 _ rfl
      have y1 : wr.cell? ⟨b, off + j * 3 + 1, none⟩ = some (.int .i64 y.l) := cy 1 _ rfl
      have y2 : wr.cell? ⟨b, off + j * 3 + 2, none⟩ = some (.int .i64 y.i) := cy 2 _ rfl
      have ej : idsL (L.take (j + 1)) = idsL (L.take j) ++ [y.i] := by
        rw [List.take_add_one, hy]
        simp [idsL]
      have hll : Hid ((idsL (L.take j)).length ≤ 2000000) := by
        show _ ≤ _
        simp [idsL]
        omega
      have kA := kept_alloc [] wr (.cells #[.int .i64 y.o, .int .i64 y.l, .int .i64 y.i] 66)
      have kB := kept_alloc [] (wr.alloc (.cells #[.int .i64 y.o, .int .i64 y.l, .int .i64 y.i] 66)) (.cells #[.int .i64 y.i] 3)
      have hn := (blk_new (wr.alloc (.cells #[.int .i64 y.o, .int .i64 y.l, .int .i64 y.i] 66)) 3 #[.int .i64 y.i]).cell 0
      rw [show (wr.alloc (.cells #[.int .i64 y.o, .int .i64 y.l, .int .i64 y.i] 66)).heap.size = wr.heap.size + 1 by simp] at hn
      have hn' : Hid _ := hn.trans (show _ = some (Value.int .i64 y.i) from rfl)
      have hIB := hI.kept (kA.trans kB) (by simp)
      have hbs := Nat.le_trans hk.size (kA.trans kB).size
      have i1 : (j : Int) < (len : Int) := by omega
      have i2 : (j : Int) < (cap : Int) := by omega
      have hm1 : Hid (len - (j + 1) < len - j) := by show _ < _; omega
      replace ej : Hid _ := ej
      replace hIB : Hid _ := hIB
      replace hbs : Hid _ := hbs
      clear hn hy hry cy hcs
      go_wp2_with (at_builtin; refine wpList_append_id rfl _ _ rfl w.heap.size _ (idsL (L.take j)) y.i (wr.heap.size + 1) rfl hIB.out rfl hn'.out hll.out hbs.out ?_; intro v1 w1 hI1 hg1; have hk1 := kept_grown (n := w.heap.size) hIB.out hg1 w (hk.trans (kA.trans kB)) (Nat.le_refl _) rfl; rw [← ej.out] at hI1; clear hg1)
      go_roundw
      case rel => exact ⟨j + 1, by omega, by go_num, hI1, hk1⟩
      case measure => simpa [RowKit.intOf] using hm1.out
    · obtain rfl : j = len := by omega
      have et : L.take j = L := List.take_of_length_le (by rw [hlen.out]; exact Nat.le_refl _)
      rw [et] at hI
      clear hrow et
      go_wp2_with fail
      go_ret
      exact ⟨_, rfl, hI, hk⟩

set_option maxRecDepth 100000 in
set_option maxHeartbeats 2000000 in
/-- Overlaps -/
theorem rOverlaps_any (r : Nat) (ob : Option Nat) (L : List It) (p m : Int) (w : World) (h : RT w r ob L) :
    Calls Try.prog 13 #[.pointer (some ⟨r, 0, none⟩), .agg #[.int .i64 p, .int .i64 m]] w fun e w' => ∃ v, e = .returned v ∧ IdsAt w' w.heap.size v (ovL L p m) ∧ Kept [] w w' := by
  obtain ⟨v, hr, a, cap, rfl, hc, hm, hrow⟩ := h.row
  have hfew := h.few
  have k0 := kept_alloc [] w (.cells #[.int .i64 p, .int .i64 m] 24)
  have hs0 := blk_new w 24 #[.int .i64 p, .int .i64 m]
  have cR := ((hr.kept k0 (by simp)).cell 0).trans (show _ = some (Value.slice a L.length cap) from rfl)
  obtain ⟨len, hlen⟩ : ∃ len, L.length = len := ⟨_, rfl⟩
  rw [hlen] at hr hc hfew cR
  replace hlen : Hid (L.length = len) := hlen
  have hz : w.heap.size + 1 ≤ (w.alloc (.cells #[.int .i64 p, .int .i64 m] 24)).heap.size := by simp
  replace hz : Hid _ := hz
  go_enter Try.func13, Try.ntmps13
  go_wp2_with fail
  go_loopw [13, 5] (fun i u wr => ∃ j : Nat, j ≤ len ∧ i = .int .i64 j ∧ IdsAt wr (w.heap.size + 1) u (ovL (L.take j) p m) ∧ Kept [] (w.alloc (.cells #[.int .i64 p, .int .i64 m] 24)) wr) (fun i _ _ => len - (RowKit.intOf i).toNat)
  case atStart => exact ⟨0, by omega, rfl, ids_nil _ _, Kept.refl _ _⟩
  case round =>
    obtain ⟨j, hj, rfl, hI, hk⟩ := hrel
    by_cases hlt : j < len
    · obtain ⟨-, -, -, h4⟩ | ⟨b, off, rfl, -, hb, hcs⟩ := hrow
      · have := hlen.out
        rw [h4] at this
        simp at this
        omega
      obtain ⟨y, hy⟩ : ∃ y, L[j]? = some y := ⟨_, List.getElem?_eq_getElem (by rw [hlen.out]; exact hlt)⟩
      have hry := hcs j y hy
      have cy := fun k v (hv : y.cells[k]? = some v) => (show wr.cell? ⟨b, off + j * 3 + k, none⟩ = some v from (World.cell?_of_block (by exact (k0.trans hk).block b hb (by simp))).trans (hry k v hv))
      have y0 : wr.cell? ⟨b, off + j * 3, none⟩ = some (.int .i64 y.o) := cy 0 _ rfl
      have y1 : wr.cell? ⟨b, off + j * 3 + 1, none⟩ = some (.int .i64 y.l) := cy 1 _ rfl
      have y2 : wr.cell? ⟨b, off + j * 3 + 2, none⟩ = some (.int .i64 y.i) := cy 2 _ rfl
      have hll : Hid ((ovL (L.take j) p m).length ≤ 2000000) := by
        show _ ≤ _
        have h1 : (ovL (L.take j) p m).length ≤ (L.take j).length := by
          unfold ovL
          rw [List.length_map]
          exact List.length_filter_le _ _
        have h2 : (L.take j).length ≤ j := by simp; omega
        omega
      have kA := kept_alloc [] wr (.cells #[.int .i64 y.o, .int .i64 y.l, .int .i64 y.i] 66)
      have hyA := blk_new wr 66 #[.int .i64 y.o, .int .i64 y.l, .int .i64 y.i]
      have hsA := (hs0.kept hk (by simp)).kept kA (by simp)
      have s0 := (hsA.cell 0).trans (show _ = some (Value.int .i64 p) from rfl)
      have s1 := (hsA.cell 1).trans (show _ = some (Value.int .i64 m) from rfl)
      have q := Span.refOverlap_any y.o y.l p m (wr.alloc (.cells #[.int .i64 y.o, .int .i64 y.l, .int .i64 y.i] 66))
      have i1 : (j : Int) < (len : Int) := by omega
      have i2 : (j : Int) < (cap : Int) := by omega
      have hm1 : Hid (len - (j + 1) < len - j) := by show _ < _; omega
      have ej : ovL (L.take (j + 1)) p m = ovL (L.take j) p m ++ (if Span.Math.over y.o y.l p m then [y.i] else []) := by
        rw [List.take_add_one, hy, ov_append]
        congr 1
        show ovL [y] p m = _
        rw [ov_cons]
        simp [ovL]
      clear hy hry cy hcs
      by_cases ho : Span.Math.over y.o y.l p m = true
      · rw [ho] at q
        rw [if_pos ho] at ej
        replace ej : Hid _ := ej
        clear ho
        go_wp2_with (first
          | (go_at_call 32; refine q.mono ?_; rintro e w1 ⟨rfl, hB1⟩; have hk1 : Kept [] wr w1 := kA.trans (Kept.of_below hB1 []); have c2 := ((hyA.kept (Kept.of_below hB1 []) (by simp)).cell 2).trans (show _ = some (Value.int .i64 y.i) from rfl); have kB := kept_alloc [] w1 (.cells #[.int .i64 y.i] 3); have hn' : Hid _ := ((blk_new w1 3 #[.int .i64 y.i]).cell 0).trans (show _ = some (Value.int .i64 y.i) from rfl); have hIB : Hid _ := hI.kept (hk1.trans kB) (by simp); have hbs : Hid _ := Nat.le_trans hz.out (Nat.le_trans hk.size (hk1.trans kB).size))
          | (at_builtin; refine wpList_append_id rfl _ _ rfl (w.heap.size + 1) _ (ovL (L.take j) p m) y.i w1.heap.size rfl hIB.out rfl hn'.out hll.out hbs.out ?_; intro v2 w2 hI2 hg2; have hk2 := kept_grown (n := w.heap.size + 1) hIB.out hg2 (w.alloc (.cells #[.int .i64 p, .int .i64 m] 24)) ((hk.trans hk1).trans kB) (by simp) rfl; rw [← ej.out] at hI2))
        go_roundw
        case rel => exact ⟨j + 1, by omega, by go_num, hI2, hk2⟩
        case measure => simpa [RowKit.intOf] using hm1.out
      · have ho' : Span.Math.over y.o y.l p m = false := by simpa using ho
        rw [ho'] at q
        rw [if_neg ho, List.append_nil] at ej
        replace ej : Hid _ := ej
        clear ho ho'
        go_wp2_with (first
          | (go_at_call 32; refine q.mono ?_; rintro e w1 ⟨rfl, hB1⟩; have hk1 : Kept [] wr w1 := kA.trans (Kept.of_below hB1 []))
        )
        go_roundw
        case rel => exact ⟨j + 1, by omega, by go_num, by rw [ej.out]; exact hI.kept hk1 (by simp), hk.trans hk1⟩
        case measure => simpa [RowKit.intOf] using hm1.out
    · obtain rfl : j = len := by omega
      have et : L.take j = L := List.take_of_length_le (by rw [hlen.out]; exact Nat.le_refl _)
      rw [et] at hI
      clear hrow et
      go_wp2_with fail
      go_ret
      exact ⟨_, rfl, hI.mono (Nat.le_succ _), k0.trans hk⟩
end Go.Proofs.Ytpphlcjabnbblaa.Itree

