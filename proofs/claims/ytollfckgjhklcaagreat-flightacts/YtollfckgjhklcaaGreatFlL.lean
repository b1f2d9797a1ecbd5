/-
  Writes in a row, sorted by their tickets: slices.SortFunc, slices.SortedFunc, and rising.
-/
import Derived.Test.YtollfckgjhklcaaGreatFlJ
import Derived.Test.YtollfckgjhklcaaGreatLaid
namespace Go.Proofs.YtollfckgjhklcaaGreat.Flight
open Go.RowKit Go.Maps Go.Sort Go.Shelf
open Table (Rising ins del tks)

/-- Writes in a row of the call's own, in a block from base on. -/
def WRow (W : World) (base : Nat) (v : Value) (xs : List Fv) : Prop :=
  (v = .slice none 0 0 ∧ xs = []) ∨ ∃ g cap cur, v = .slice (some ⟨g, 0, none⟩) xs.length cap ∧ base ≤ g ∧ Blk W g 39 cur ∧ xs.length ≤ cap ∧ cap ≤ maxLen ∧ cur.size = cap * 5 ∧ ∀ i x, xs[i]? = some x → ∀ c, c < 5 → cur[i * 5 + c]? = x.cells[c]?
theorem WRow.kept {K : List Nat} {A B : World} {base : Nat} {v : Value} {xs : List Fv} (h : WRow A base v xs) (hk : Kept K A B) (hK : ∀ k ∈ K, k < base) : WRow B base v xs := by
  rcases h with h | ⟨g, cap, cur, h1, h2, h3, h4⟩
  · exact .inl h
  · exact .inr ⟨g, cap, cur, h1, h2, h3.kept hk (fun hm => by have := hK g hm; omega), h4⟩
theorem WRow.mono {W : World} {base base' : Nat} {v : Value} {xs : List Fv} (h : WRow W base v xs) (hb : base' ≤ base) : WRow W base' v xs := by
  rcases h with h | ⟨g, cap, cur, h1, h2, h3, h4⟩
  · exact .inl h
  · exact .inr ⟨g, cap, cur, h1, by omega, h3, h4⟩
theorem wrow_owns {W : World} {base : Nat} {v : Value} {xs : List Fv} (h : W.ownsRow base 39 5 v xs.length (cellsL xs)) : WRow W base v xs := by
  obtain ⟨_, ⟨rfl, h0⟩ | ⟨g, cap, cur, rfl, hb, hg, h1, h2, h3, h4⟩⟩ := h
  · exact .inl ⟨rfl, List.eq_nil_of_length_eq_zero h0⟩
  · refine .inr ⟨g, cap, cur, rfl, hb, hg, h1, h2, h3, fun i x hx c hc => ?_⟩
    rw [← cellsL_at xs i x hx c hc, ← h4, List.getElem?_take]
    have : i < xs.length := (List.getElem?_eq_some_iff.1 hx).1
    rw [if_pos (by omega), Array.getElem?_toList]
theorem swoT : SWO (ltOf fun x y : Fv => Itree.cmpI x.t y.t) := by
  have e : ∀ x y : Fv, ltOf (fun x y : Fv => Itree.cmpI x.t y.t) x y = decide (x.t < y.t) := fun x y => by
    show decide (Itree.cmpI x.t y.t < 0) = _
    rcases Itree.cmpI_cases x.t y.t with ⟨h, e⟩ | ⟨h, e⟩ | ⟨h, e⟩ <;> rw [e] <;> simp <;> omega
  refine ⟨fun x => ?_, fun x y z h1 h2 => ?_, fun x y z h1 h2 => ?_⟩ <;> simp only [e] at * <;> simp at * <;> omega
theorem ltT (x y : Fv) : ltOf (fun x y : Fv => Itree.cmpI x.t y.t) x y = decide (x.t < y.t) := by
  show decide (Itree.cmpI x.t y.t < 0) = _
  rcases Itree.cmpI_cases x.t y.t with ⟨h, e⟩ | ⟨h, e⟩ | ⟨h, e⟩ <;> rw [e] <;> simp <;> omega
set_option maxRecDepth 100000 in
set_option maxHeartbeats 1000000 in
/-- against -/
theorem against_any (x y : Fv) (W : World) : Calls Tryz.prog 64 #[x.val, y.val] W fun e w' => e = .returned (.int .i64 (Itree.cmpI x.t y.t)) ∧ ∃ q os', w' = grow (W.drewN q) os' := by
  have hcon := fun W' => Itree.compare_any x.t y.t W'
  generalize Itree.cmpI x.t y.t = r at hcon ⊢
  unfold Fv.val
  go_enter Tryz.func64, Tryz.ntmps64
  go_wp2_with (go_at_call 73; refine (hcon _).mono ?_; rintro e w' ⟨rfl, rfl⟩)
  go_ret
  exact ⟨rfl, 0, _, by rw [alloc_eq_grow, alloc_eq_grow, grow_grow]; rfl⟩
set_option maxRecDepth 100000 in
theorem cmpLays (blk off size : Nat) (w : World) : CmpLays Tryz.prog 64 #[] Fv.cells 5 (fun x y => Itree.cmpI x.t y.t) blk off size w :=
  fun _ _ _ _ x y => against_any x y _
/-- A row that is sorted in its place. -/
theorem sort_blk {W : World} {g : Nat} {cur : Array Value} (hB : Blk W g 39 cur) (m : Nat) (d : Array Fv) (os : Array Obj) (hs : d.size * 5 ≤ cur.size) :
    ∃ cur', Blk (sortWorldK Fv.cells 5 W g 0 m d os) g 39 cur' ∧ cur'.size = cur.size ∧ (∀ i x, d.toList[i]? = some x → ∀ c, c < 5 → cur'[i * 5 + c]? = x.cells[c]?) ∧ Kept [g] W (sortWorldK Fv.cells 5 W g 0 m d os) := by
  have hlt := hB.lt
  refine ⟨putCells id 0 (flatK Fv.cells 5 d) cur, ?_, ?_, fun i x hx c hc => ?_, ?_⟩
  · unfold Blk at hB ⊢
    unfold sortWorldK grow putRowK putRow mapBlock Go.Sort.ahead
    simp only [Array.getElem?_append, Array.size_modify, hlt, if_true, Array.getElem?_modify, hB]
    rfl
  · simp [putCells]
  · have hi : i < d.size := by
      have := (List.getElem?_eq_some_iff.1 hx).1
      simpa using this
    have hd : d[i]! = x := by
      rw [Array.getElem?_toList] at hx
      simp [hi]
      have := Array.getElem?_eq_some_iff.1 hx
      exact this.2
    have e1 : (i * 5 + c) / 5 = i := by omega
    have e2 : (i * 5 + c) % 5 = c := by omega
    have hl5 : x.cells.length = 5 := rfl
    rw [putCells, Array.getElem?_mapIdx, Array.getElem?_eq_getElem (by omega), Option.map_some, if_pos (by rw [size_flatK]; omega)]
    rw [Nat.sub_zero, get_flatK _ _ _ _ (by omega), e1, e2, hd]
    rw [List.getElem?_eq_getElem (by omega)]
    simp [List.getElem!_eq_getElem?_getD, List.getElem?_eq_getElem (show c < x.cells.length by omega)]
  · refine ⟨rfl, rfl, rfl, ?_, fun k hk hne => ?_⟩
    · unfold sortWorldK
      rw [size_grow]
      unfold putRowK putRow mapBlock Go.Sort.ahead
      simp
    · unfold sortWorldK grow putRowK putRow mapBlock Go.Sort.ahead
      have hne' : g ≠ k := fun e => hne (by simp [e])
      simp only [Array.getElem?_append, Array.size_modify, hk, if_true, Array.getElem?_modify, hne', if_false]
set_option maxRecDepth 100000 in
/-- slices.SortFunc by tickets -/
theorem sort_any (base : Nat) (v : Value) (xs : List Fv) (w : World) (h : WRow w base v xs) (hl : xs.length ≤ 1000) :
    Calls Tryz.prog 71 #[v, .func (.func 64) #[] #[]] w fun e w' => e = .returned (.tuple #[]) ∧ ∃ ys : List Fv, ys.Perm xs ∧ ys.Pairwise (fun x y => x.t ≤ y.t) ∧ WRow w' base v ys ∧ Below base w w' := by
  rcases h with ⟨rfl, rfl⟩ | ⟨g, cap, cur, rfl, hb, hB, hc1, hc2, hc3, hcs⟩
  · refine (AnyF.slices_SortFunc_none (P := Tryz.prog) { Tryz.sortFL with } none 0 (.func (.func 64) #[] #[]) w).mono ?_
    rintro e w' ⟨rfl, rfl⟩
    exact ⟨rfl, [], List.Perm.refl _, List.Pairwise.nil, .inl ⟨rfl, rfl⟩, Below.refl _ _⟩
  · have eg : ∀ args w, (callFunc 64 args).run Tryz.prog w = .ok (.enter 64 args) w := enters_of Tryz.func64 (by kernel_rfl) rfl
    have hH : HoldsK Fv.cells 5 w g 0 xs.toArray := by
      intro j hj
      rw [size_flatK] at hj
      have hj' : j / 5 < xs.length := by simp at hj; omega
      rw [get_flatK _ _ _ _ hj]
      have e := hcs (j / 5) (xs[j / 5]) (List.getElem?_eq_getElem hj') (j % 5) (by omega)
      rw [show j / 5 * 5 + j % 5 = j by omega] at e
      refine ⟨?_, hB.frozen _⟩
      rw [Nat.zero_add, hB.cell, e]
      have hl5 : (xs[j / 5]).cells.length = 5 := rfl
      rw [List.getElem?_eq_getElem (by omega)]
      simp [hj', List.getElem!_eq_getElem?_getD, List.getElem?_eq_getElem (show j % 5 < (xs[j / 5]).cells.length by omega)]
    have q := AnyQ.slices_SortFunc (P := Tryz.prog) Tryz.sortFL 5 Tryz.isAgg39 Tryz.sizeOf39 Fv.cells (fun _ => rfl) (fun x v hv => by simp [Fv.cells] at hv; rcases hv with rfl | rfl | rfl | rfl | rfl <;> rfl) (fun x y => Itree.cmpI x.t y.t) swoT 64 #[] g 0 cap xs.toArray w eg (cmpLays g 0 _ w) hH hB.lt (by simp; omega)
    rw [List.size_toArray] at q
    refine q.mono ?_
    rintro e w' ⟨rfl, d', n, os, hp, hs, rfl⟩
    have hsz : d'.size = xs.length := by simpa using hp.1
    obtain ⟨cur', hB', hsz', hcs', hk'⟩ := sort_blk hB n d' os (by rw [hsz]; omega)
    refine ⟨rfl, d'.toList, ?_, ?_, .inr ⟨g, cap, cur', by simp [hsz], hb, hB', by simp [hsz]; exact hc1, hc2, by rw [hsz', hc3], hcs'⟩, hk'.below (by have := hB.lt; omega) (by simpa using hb)⟩
    · have := hp.2.2
      rw [show d'.extract 0 xs.length = d' by rw [← hsz]; simp, show xs.toArray.extract 0 xs.length = xs.toArray by simp] at this
      simpa using this
    · rw [List.pairwise_iff_getElem]
      intro i j hi hj hij
      simp at hi hj
      have := hs i j (Nat.zero_le _) hij (by omega)
      rw [ltT] at this
      simp [hi, hj] at this
      simpa using this
set_option maxRecDepth 100000 in
/-- slices.SortedFunc(maps.Values(m), Write.against) -/
theorem sorted_any (Bm b nn lo hi : Nat) (D : DataW Value) (L : List (Int × Fw)) (w : World) (hD : Has w lo hi D L) (hr : Rising L) (hft : Fit L) (hBm : Bm < w.heap.size) (hm : w.cell? ⟨Bm, 0, none⟩ = some (.map (some b))) (hown : w.ownsMap Tryz.prog 71 rdr b nn D) (hsz : Maps.size D = L.length) (hn : L.length ≤ 1000) :
    Calls Tryz.prog 62 #[.func (.func 72) #[] #[.pointer (some ⟨Bm, 0, none⟩)], .func (.func 64) #[] #[]] w fun e W' => ∃ (v : Value) (xs : List Fv), e = .returned v ∧ (xs.map fun x => (x.t, x.fw)) = L ∧ (∀ x ∈ xs, x.At lo hi w) ∧ WRow W' w.heap.size v xs ∧ Kept [] w W' := by
  have q := collect_any Bm b nn lo hi D L w hD hr hft hBm hm hown (by omega)
  go_enter Tryz.func62, Tryz.ntmps62
  go_wp2_with (first
    | (go_at_call 70; refine q.mono ?_; rintro e w1 ⟨v, xs, rfl, h1, h2, h3⟩; have hlen : xs.length ≤ 1000 := (by have := h1.1.length_eq; simp at this; omega); have qs := sort_any w.heap.size v xs w1 (wrow_owns h2) hlen)
    | (go_at_call 71; refine qs.mono ?_; rintro e w2 ⟨rfl, ys, hp, hso, hw, hB⟩))
  go_ret
  refine ⟨v, ys, rfl, ?_, fun x hx => h1.2 x (hp.mem_iff.1 hx), hw, Kept.of_below (h3.trans hB) []⟩
  have hpL : (ys.map fun x => (x.t, x.fw)).Perm L := (hp.map _).trans h1.1
  refine List.Perm.eq_of_pairwise (le := fun a b : Int × Fw => a.1 ≤ b.1) (fun a b ha hb h1 h2 => ?_) (List.pairwise_map.2 hso) (hr.imp fun h => Int.le_of_lt h) hpL
  have e : a.1 = b.1 := by omega
  have l1 := look_some hr (hpL.mem_iff.1 ha)
  have l2 := look_some hr hb
  rw [e, l2] at l1
  injection l1 with l1
  exact Prod.ext e l1.symm
set_option maxRecDepth 100000 in
/-- rising -/
theorem rising_any {lo hi f b p : Nat} {F : List Nat} {L : List (Int × Fw)} (w : World) (h : FlAt w lo hi f b p F L) (hn : L.length ≤ 600) :
    Calls Tryz.prog 43 #[.pointer (some ⟨f, 0, none⟩)] w fun e W' => ∃ (v : Value) (xs : List Fv), e = .returned v ∧ (xs.map fun x => (x.t, x.fw)) = L ∧ (∀ x ∈ xs, x.At lo hi w) ∧ WRow W' w.heap.size v xs ∧ Kept [] w W' := by
  have q := made_any w h
  have c1 := h.two.2
  have qv := values_any (some b) w
  have ka := kept_alloc [] w (.cells #[.map (some b)] 63)
  obtain ⟨D, hown, hs, hD⟩ := (h.map.kept ka (by simp) (by simp)).sized h.good.rising h.fit
  have hx : Hid (∀ x : Fv, x.At lo hi (w.alloc (.cells #[.map (some b)] 63)) → x.At lo hi w) := fun x hx => by
    obtain ⟨hb, a, cap, e, hn, h' | ⟨g, off, cur, e2, hl, h1, h3, h2, hc⟩⟩ := hx
    · exact ⟨hb, a, cap, e, hn, .inl h'⟩
    · exact ⟨hb, a, cap, e, hn, .inr ⟨g, off, cur, e2, hl, h1, h3, (ka.block g (by have := h.hih; omega) (by simp)).symm.trans h2, hc⟩⟩
  have qs := sorted_any w.heap.size b _ lo hi D L _ hD h.good.rising h.fit (by simp) ((blk_new w 63 #[.map (some b)]).cell 0) hown hs (by omega)
  replace hs : Hid _ := hs
  go_enter Tryz.func43, Tryz.ntmps43
  go_wp2_with (first
    | (go_at_call 28; refine q.mono ?_; rintro e w ⟨rfl, rfl⟩)
    | (go_at_call 63; refine qv.mono ?_; rintro e w' ⟨rfl, rfl⟩)
    | (go_at_call 62; refine qs.mono ?_; rintro e w2 ⟨v, xs, rfl, h1, h2, h3, h4⟩))
  go_ret
  exact ⟨v, xs, rfl, h1, fun x hx' => hx.out x (h2 x hx'), h3.mono (by simp), ka.trans h4⟩
end Go.Proofs.YtollfckgjhklcaaGreat.Flight
