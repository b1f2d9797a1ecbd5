/-
 Writes in a row, sorted by their tickets: slices.SortFunc, slices.SortedFunc, and rising.
-/
import Derived.Test.YtoaeficfmcncjaaGreatM29
import Derived.Test.YtoaeficfmcncjaaGreatM30
namespace Go.Proofs.YtoaeficfmcncjaaGreat.Flight
open Go.RowKit Go.Maps Go.Sort Go.Shelf
open Table (Rising ins del tks)
def WRow (W : World) (base : Nat) (v : Value) (xs : List Fv) : Prop :=
 (v = .slice none 0 0 ∧ xs = []) ∨ ∃ g cap cur, v = .slice (some ⟨g, 0, none⟩) xs.length cap ∧ base ≤ g ∧ Blk W g 94 cur ∧ xs.length ≤ cap ∧ cap ≤ maxLen ∧ cur.size = cap * 5 ∧ ∀ i x, xs[i]? = some x → ∀ c, c < 5 → cur[i * 5 + c]? = x.cells[c]?
theorem WRow.mono {W : World} {base base' : Nat} {v : Value} {xs : List Fv} (h : WRow W base v xs) (hb : base' ≤ base) : WRow W base' v xs := by
 rcases h with h | ⟨g, cap, cur, h1, h2, h3, h4⟩
 ·exact .inl h
 ·exact .inr ⟨g, cap, cur, h1, by omega, h3, h4⟩
theorem wrow_owns {W : World} {base : Nat} {v : Value} {xs : List Fv} (h : W.ownsRow base 94 5 v xs.length (cellsL xs)) : WRow W base v xs := by
 obtain ⟨_, ⟨rfl, h0⟩ | ⟨g, cap, cur, rfl, hb, hg, h1, h2, h3, h4⟩⟩ := h
 ·exact .inl ⟨rfl, List.eq_nil_of_length_eq_zero h0⟩
 ·refine .inr ⟨g, cap, cur, rfl, hb, hg, h1, h2, h3, fun i x hx c hc => ?_⟩
  rw [← cellsL_at xs i x hx c hc, ← h4, List.getElem?_take]
  have : i < xs.length := (List.getElem?_eq_some_iff.1 hx).1
  rw [if_pos (by omega), Array.getElem?_toList]
theorem swoT : SWO (ltOf fun x y : Fv => Itree.cmpI x.t y.t) := by
 have e : ∀ x y : Fv, ltOf (fun x y : Fv => Itree.cmpI x.t y.t) x y = decide (x.t < y.t) := fun x y => by
  show decide (Itree.cmpI x.t y.t < 0) = _
  rcases Itree.cmpI_cases x.t y.t with ⟨h, e⟩ | ⟨h, e⟩ | ⟨h, e⟩ <;> rw [e] <;> simp <;> omega
 refine ⟨fun x => ?_, fun x y z h1 h2 => ?_, fun x y z h1 h2 => ?_⟩ <;> simp only [e] at * <;> simp at * <;> omega
theorem ltT (x y : Fv) : ltOf (fun x y : Fv => Itree.cmpI x.t y.t) x y = decide (x.t < y.t) := by
 show decide (Itree.cmpI x.t y.t < 0) = _
 rcases Itree.cmpI_cases x.t y.t with ⟨h, e⟩ | ⟨h, e⟩ | ⟨h, e⟩ <;> rw [e] <;> simp <;> omega
set_option maxRecDepth 100000 in
set_option maxHeartbeats 1000000 in
theorem against_any (x y : Fv) (W : World) : Calls Tryz.prog 173 #[x.val, y.val] W fun e w' => e = .returned (.int .i64 (Itree.cmpI x.t y.t)) ∧ ∃ q os', w' = grow (W.drewN q) os' := by
 have hcon := fun W' => Itree.compare_any x.t y.t W'
 generalize Itree.cmpI x.t y.t = r at hcon ⊢
 unfold Fv.val
 go_enter Tryz.func173, Tryz.ntmps173
 go_wp2_with (go_at_call 223; refine (hcon _).mono ?_; rintro e w' ⟨rfl, rfl⟩)
 go_ret
 exact ⟨rfl, 0, _, by rw [alloc_eq_grow, alloc_eq_grow, grow_grow]; rfl⟩
set_option maxRecDepth 100000 in
theorem cmpLays (blk off size : Nat) (w : World) : CmpLays Tryz.prog 173 #[] Fv.cells 5 (fun x y => Itree.cmpI x.t y.t) blk off size w :=
 fun _ _ _ _ x y => against_any x y _
theorem sort_blk {W : World} {g : Nat} {cur : Array Value} (hB : Blk W g 94 cur) (m : Nat) (d : Array Fv) (os : Array Obj) (hs : d.size * 5 ≤ cur.size) :
  ∃ cur', Blk (sortWorldK Fv.cells 5 W g 0 m d os) g 94 cur' ∧ cur'.size = cur.size ∧ (∀ i x, d.toList[i]? = some x → ∀ c, c < 5 → cur'[i * 5 + c]? = x.cells[c]?) ∧ Kept [g] W (sortWorldK Fv.cells 5 W g 0 m d os) := by
 have hlt := hB.lt
 refine ⟨putCells id 0 (flatK Fv.cells 5 d) cur, ?_, ?_, fun i x hx c hc => ?_, ?_⟩
 ·unfold Blk at hB ⊢
  unfold sortWorldK grow putRowK putRow mapBlock Go.Sort.ahead
  simp only [Array.getElem?_append, Array.size_modify, hlt, if_true, Array.getElem?_modify, hB]
  rfl
 ·simp [putCells]
 ·have hi : i < d.size := by
   have := (List.getElem?_eq_some_iff.1 hx).1
   simpa using this
  have hd : d[i]! = x := by
   rw [Array.getElem?_toList] at hx
   simp [hi]
   have := Array.getElem?_eq_some_iff.1 hx
   exact this.2
  have e1 : (i * 5 + c) / 5 = i := by omega
  have e2 : (i * 5 + c) % 5 = c := by omega
  have hl5 : x.cells.length = 5 := rfl
  rw [putCells, Array.getElem?_mapIdx, Array.getElem?_eq_getElem (by omega), Option.map_some, if_pos (by rw [size_flatK]; omega)]
  rw [Nat.sub_zero, get_flatK _ _ _ _ (by omega), e1, e2, hd]
  rw [List.getElem?_eq_getElem (by omega)]
  simp [List.getElem!_eq_getElem?_getD, List.getElem?_eq_getElem (show c < x.cells.length by omega)]
 ·refine ⟨rfl, rfl, rfl, ?_, fun k hk hne => ?_⟩
  ·unfold sortWorldK
   rw [size_grow]
   unfold putRowK putRow mapBlock Go.Sort.ahead
   simp
  ·unfold sortWorldK grow putRowK putRow mapBlock Go.Sort.ahead
   have hne' : g ≠ k := fun e => hne (by simp [e])
   simp only [Array.getElem?_append, Array.size_modify, hk, if_true, Array.getElem?_modify, hne', if_false]
section
set_option maxRecDepth 100000
theorem sort_any (base : Nat) (v : Value) (xs : List Fv) (w : World) (h : WRow w base v xs) (hl : xs.length ≤ 1000) :
  Calls Tryz.prog 221 #[v, .func (.func 173) #[] #[]] w fun e w' => e = .returned (.tuple #[]) ∧ ∃ ys : List Fv, ys.Perm xs ∧ ys.Pairwise (fun x y => x.t ≤ y.t) ∧ WRow w' base v ys ∧ Below base w w' := by
 rcases h with ⟨rfl, rfl⟩ | ⟨g, cap, cur, rfl, hb, hB, hc1, hc2, hc3, hcs⟩
 ·refine (AnyF.slices_SortFunc_none (P := Tryz.prog) { Tryz.sortFL with } none 0 (.func (.func 173) #[] #[]) w).mono ?_
  rintro e w' ⟨rfl, rfl⟩
  exact ⟨rfl, [], List.Perm.refl _, List.Pairwise.nil, .inl ⟨rfl, rfl⟩, Below.refl _ _⟩
 ·have eg : ∀ args w, (callFunc 173 args).run Tryz.prog w = .ok (.enter 173 args) w := enters_of Tryz.func173 (by kernel_rfl) rfl
  have hH : HoldsK Fv.cells 5 w g 0 xs.toArray := by
   intro j hj
   rw [size_flatK] at hj
   have hj' : j / 5 < xs.length := by simp at hj; omega
   rw [get_flatK _ _ _ _ hj]
   have e := hcs (j / 5) (xs[j / 5]) (List.getElem?_eq_getElem hj') (j % 5) (by omega)
   rw [show j / 5 * 5 + j % 5 = j by omega] at e
   refine ⟨?_, hB.frozen _⟩
   rw [Nat.zero_add, hB.cell, e]
   have hl5 : (xs[j / 5]).cells.length = 5 := rfl
   rw [List.getElem?_eq_getElem (by omega)]
   simp [hj', List.getElem!_eq_getElem?_getD, List.getElem?_eq_getElem (show j % 5 < (xs[j / 5]).cells.length by omega)]
  have q := AnyQ.slices_SortFunc (P := Tryz.prog) Tryz.sortFL 5 Tryz.isAgg94 Tryz.sizeOf94 Fv.cells (fun _ => rfl) (fun x v hv => by simp [Fv.cells] at hv; rcases hv with rfl | rfl | rfl | rfl | rfl <;> rfl) (fun x y => Itree.cmpI x.t y.t) swoT 173 #[] g 0 cap xs.toArray w eg (cmpLays g 0 _ w) hH hB.lt (by simp; omega)
  rw [List.size_toArray] at q
  refine q.mono ?_
  rintro e w' ⟨rfl, d', n, os, hp, hs, rfl⟩
  have hsz : d'.size = xs.length := by simpa using hp.1
  obtain ⟨cur', hB', hsz', hcs', hk'⟩ := sort_blk hB n d' os (by rw [hsz]; omega)
  refine ⟨rfl, d'.toList, ?_, ?_, .inr ⟨g, cap, cur', by simp [hsz], hb, hB', by simp [hsz]; exact hc1, hc2, by rw [hsz', hc3], hcs'⟩, hk'.below (by have := hB.lt; omega) (by simpa using hb)⟩
  ·have := hp.2.2
   rw [show d'.extract 0 xs.length = d' by rw [← hsz]; simp, show xs.toArray.extract 0 xs.length = xs.toArray by simp] at this
   simpa using this
  ·rw [List.pairwise_iff_getElem]
   intro i j hi hj hij
   simp at hi hj
   have := hs i j (Nat.zero_le _) hij (by omega)
   rw [ltT] at this
   simp [hi, hj] at this
   simpa using this
theorem sorted_any (Bm b nn lo hi : Nat) (D : DataW Value) (L : List (Int × Fw)) (w : World) (hD : Has w lo hi D L) (hr : Rising L) (hft : Fit L) (hBm : Bm < w.heap.size) (hm : w.cell? ⟨Bm, 0, none⟩ = some (.map (some b))) (hown : w.ownsMap Tryz.prog 225 rdr b nn D) (hsz : Maps.size D = L.length) (hn : L.length ≤ 1000) :
  Calls Tryz.prog 171 #[.func (.func 222) #[] #[.pointer (some ⟨Bm, 0, none⟩)], .func (.func 173) #[] #[]] w fun e W' => ∃ (v : Value) (xs : List Fv), e = .returned v ∧ (xs.map fun x => (x.t, x.fw)) = L ∧ (∀ x ∈ xs, x.At lo hi w) ∧ WRow W' w.heap.size v xs ∧ Kept [] w W' := by
 have q := collect_any Bm b nn lo hi D L w hD hr hft hBm hm hown (by omega)
 go_enter Tryz.func171, Tryz.ntmps171
 go_wp2_with (first
  | (go_at_call 220; refine q.mono ?_; rintro e w1 ⟨v, xs, rfl, h1, h2, h3⟩; have hlen : xs.length ≤ 1000 := (by have := h1.1.length_eq; simp at this; omega); have qs := sort_any w.heap.size v xs w1 (wrow_owns h2) hlen)
  | (go_at_call 221; refine qs.mono ?_; rintro e w2 ⟨rfl, ys, hp, hso, hw, hB⟩))
 go_ret
 refine ⟨v, ys, rfl, ?_, fun x hx => h1.2 x (hp.mem_iff.1 hx), hw, Kept.of_below (h3.trans hB) []⟩
 have hpL : (ys.map fun x => (x.t, x.fw)).Perm L := (hp.map _).trans h1.1
 refine List.Perm.eq_of_pairwise (le := fun a b : Int × Fw => a.1 ≤ b.1) (fun a b ha hb h1 h2 => ?_) (List.pairwise_map.2 hso) (hr.imp fun h => Int.le_of_lt h) hpL
 have e : a.1 = b.1 := by omega
 have l1 := look_some hr (hpL.mem_iff.1 ha)
 have l2 := look_some hr hb
 rw [e, l2] at l1
 injection l1 with l1
 exact Prod.ext e l1.symm
theorem rising_any {lo hi f b p : Nat} {F : List Nat} {L : List (Int × Fw)} (w : World) (h : FlAt w lo hi f b p F L) (hn : L.length ≤ 600) :
  Calls Tryz.prog 116 #[.pointer (some ⟨f, 0, none⟩)] w fun e W' => ∃ (v : Value) (xs : List Fv), e = .returned v ∧ (xs.map fun x => (x.t, x.fw)) = L ∧ (∀ x ∈ xs, x.At lo hi w) ∧ WRow W' w.heap.size v xs ∧ Kept [] w W' := by
 have q := made_any w h
 have c1 := h.two.2
 have qv := values_any (some b) w
 have ka := kept_alloc [] w (.cells #[.map (some b)] 182)
 obtain ⟨D, hown, hs, hD⟩ := (h.map.kept ka (by simp) (by simp)).sized h.good.rising h.fit
 have hx : Hid (∀ x : Fv, x.At lo hi (w.alloc (.cells #[.map (some b)] 182)) → x.At lo hi w) := fun x hx => by
  obtain ⟨hb, a, cap, e, hn, h' | ⟨g, off, cur, e2, hl, h1, h3, h2, hc⟩⟩ := hx
  ·exact ⟨hb, a, cap, e, hn, .inl h'⟩
  ·exact ⟨hb, a, cap, e, hn, .inr ⟨g, off, cur, e2, hl, h1, h3, (ka.block g (by have := h.hih; omega) (by simp)).symm.trans h2, hc⟩⟩
 have qs := sorted_any w.heap.size b _ lo hi D L _ hD h.good.rising h.fit (by simp) ((blk_new w 182 #[.map (some b)]).cell 0) hown hs (by omega)
 replace hs : Hid _ := hs
 go_enter Tryz.func116, Tryz.ntmps116
 go_wp2_with (first
  | (go_at_call 119; refine q.mono ?_; rintro e w ⟨rfl, rfl⟩)
  | (go_at_call 172; refine qv.mono ?_; rintro e w' ⟨rfl, rfl⟩)
  | (go_at_call 171; refine qs.mono ?_; rintro e w2 ⟨v, xs, rfl, h1, h2, h3, h4⟩))
 go_ret
 exact ⟨v, xs, rfl, h1, fun x hx' => hx.out x (h2 x hx'), h3.mono (by simp), ka.trans h4⟩
end
end Go.Proofs.YtoaeficfmcncjaaGreat.Flight
namespace Go.Proofs.YtoaeficfmcncjaaGreat.Flight
open Go.RowKit Go.Maps Go.Sort
open Table (Rising ins del tks)
def Lies (ty : TypeId) (W : World) (g off : Nat) (xs : List Fv) : Prop := ∃ cur, Blk W g ty cur ∧ off + xs.length * 5 ≤ cur.size ∧ ∀ i x, xs[i]? = some x → ∀ c, c < 5 → cur[off + i * 5 + c]? = x.cells[c]?
theorem Lies.lt {ty : TypeId} {W : World} {g off : Nat} {xs : List Fv} (h : Lies ty W g off xs) : g < W.heap.size := by
 obtain ⟨cur, h1, _⟩ := h
 exact h1.lt
theorem Lies.kept {ty : TypeId} {K : List Nat} {A B : World} {g off : Nat} {xs : List Fv} (h : Lies ty A g off xs) (hk : Kept K A B) (hg : g ∉ K) : Lies ty B g off xs := by
 obtain ⟨cur, h1, h2⟩ := h
 exact ⟨cur, h1.kept hk hg, h2⟩
theorem Lies.off {ty : TypeId} {W : World} {g off : Nat} {xs : List Fv} (h : Lies ty W g off xs) (ht : ty ≠ 5) (lo hi : Nat) : Off lo hi W g := by
 obtain ⟨cur, h1, _⟩ := h
 exact off_blk h1 ht
theorem Lies.at {ty : TypeId} {W : World} {g off : Nat} {xs : List Fv} (h : Lies ty W g off xs) {i : Nat} {x : Fv} (hx : xs[i]? = some x) {K : List Nat} {V : World} (hk : Kept K W V) (hg : g ∉ K) :
  V.cell? ⟨g, off + i * 5, none⟩ = some (.int .i64 x.t) ∧ V.cell? ⟨g, off + i * 5 + 1, none⟩ = some (.int .i64 x.o) ∧ V.cell? ⟨g, off + i * 5 + 2, none⟩ = some (.int .i64 x.l) ∧ V.cell? ⟨g, off + i * 5 + 3, none⟩ = some (.slice x.sa x.len x.cap) ∧ V.cell? ⟨g, off + i * 5 + 4, none⟩ = some (.int .i64 x.st) := by
 obtain ⟨cur, h1, _, h3⟩ := h
 have hv := h1.kept hk hg
 exact ⟨(hv.cell _).trans (h3 i x hx 0 (by omega)), (hv.cell _).trans (h3 i x hx 1 (by omega)), (hv.cell _).trans (h3 i x hx 2 (by omega)), (hv.cell _).trans (h3 i x hx 3 (by omega)), (hv.cell _).trans (h3 i x hx 4 (by omega))⟩
def WAt (ty : TypeId) (W : World) (base : Nat) (v : Value) (xs : List Fv) : Prop := (v = .slice none 0 0 ∧ xs = []) ∨ ∃ g off cap, v = .slice (some ⟨g, off, none⟩) xs.length cap ∧ base ≤ g ∧ xs.length ≤ cap ∧ Lies ty W g off xs
theorem WAt.kept {ty : TypeId} {K : List Nat} {A B : World} {base : Nat} {v : Value} {xs : List Fv} (h : WAt ty A base v xs) (hk : Kept K A B) (hK : ∀ k ∈ K, k < base) : WAt ty B base v xs := by
 rcases h with h | ⟨g, off, cap, h1, h2, h3, h4⟩
 ·exact .inl h
 ·exact .inr ⟨g, off, cap, h1, h2, h3, h4.kept hk (fun hm => by have := hK g hm; omega)⟩
theorem WRow.wat {W : World} {base : Nat} {v : Value} {xs : List Fv} (h : WRow W base v xs) : WAt 94 W base v xs := by
 rcases h with h | ⟨g, cap, cur, h1, h2, h3, h4, h5, h6, h7⟩
 ·exact .inl h
 ·refine .inr ⟨g, 0, cap, h1, h2, h4, cur, h3, by omega, fun i x hx c hc => ?_⟩
  rw [Nat.zero_add]
  exact h7 i x hx c hc
theorem WAt.open {ty : TypeId} {W : World} {base : Nat} {v : Value} {xs : List Fv} (h : WAt ty W base v xs) : ∃ a cap, v = .slice a xs.length cap ∧ xs.length ≤ cap ∧ (xs = [] ∨ ∃ g off, a = some ⟨g, off, none⟩ ∧ base ≤ g ∧ Lies ty W g off xs) := by
 rcases h with ⟨rfl, rfl⟩ | ⟨g, off, cap, h1, h2, h3, h4⟩
 ·exact ⟨none, 0, rfl, Nat.le_refl _, .inl rfl⟩
 ·exact ⟨_, cap, h1, h3, .inr ⟨g, off, rfl, h2, h4⟩⟩
def put5 (cur : Array Value) (o : Nat) (z : Fv) : Array Value := ((((cur.setIfInBounds o (.int .i64 z.t)).setIfInBounds (o + 1) (.int .i64 z.o)).setIfInBounds (o + 2) (.int .i64 z.l)).setIfInBounds (o + 3) (.slice z.sa z.len z.cap)).setIfInBounds (o + 4) (.int .i64 z.st)
theorem put5_size (cur : Array Value) (o : Nat) (z : Fv) : (put5 cur o z).size = cur.size := by simp [put5]
theorem put5_other (cur : Array Value) (o : Nat) (z : Fv) (j : Nat) (h : j < o ∨ o + 5 ≤ j) : (put5 cur o z)[j]? = cur[j]? := by
 unfold put5
 rw [Array.getElem?_setIfInBounds_ne (by omega), Array.getElem?_setIfInBounds_ne (by omega), Array.getElem?_setIfInBounds_ne (by omega), Array.getElem?_setIfInBounds_ne (by omega), Array.getElem?_setIfInBounds_ne (by omega)]
theorem put5_same (cur : Array Value) (o : Nat) (z : Fv) (h : o + 5 ≤ cur.size) (c : Nat) (hc : c < 5) : (put5 cur o z)[o + c]? = z.cells[c]? := by
 have : c = 0 ∨ c = 1 ∨ c = 2 ∨ c = 3 ∨ c = 4 := by omega
 unfold put5
 rcases this with rfl | rfl | rfl | rfl | rfl
 ·rw [Array.getElem?_setIfInBounds_ne (by omega), Array.getElem?_setIfInBounds_ne (by omega), Array.getElem?_setIfInBounds_ne (by omega), Array.getElem?_setIfInBounds_ne (by omega), Nat.add_zero, Array.getElem?_setIfInBounds_self_of_lt (by omega)]
  rfl
 ·rw [Array.getElem?_setIfInBounds_ne (by omega), Array.getElem?_setIfInBounds_ne (by omega), Array.getElem?_setIfInBounds_ne (by omega), Array.getElem?_setIfInBounds_self_of_lt (by simp; omega)]
  rfl
 ·rw [Array.getElem?_setIfInBounds_ne (by omega), Array.getElem?_setIfInBounds_ne (by omega), Array.getElem?_setIfInBounds_self_of_lt (by simp; omega)]
  rfl
 ·rw [Array.getElem?_setIfInBounds_ne (by omega), Array.getElem?_setIfInBounds_self_of_lt (by simp; omega)]
  rfl
 ·rw [Array.getElem?_setIfInBounds_self_of_lt (by simp; omega)]
  rfl
theorem put5_lies {cur : Array Value} {off i : Nat} {xs : List Fv} (hsz : off + xs.length * 5 ≤ cur.size) (hcs : ∀ i x, xs[i]? = some x → ∀ c, c < 5 → cur[off + i * 5 + c]? = x.cells[c]?) (z : Fv) (j : Nat) (u : Fv) (hu : (xs.set i z)[j]? = some u) (c : Nat) (hc : c < 5) : (put5 cur (off + i * 5) z)[off + j * 5 + c]? = u.cells[c]? := by
 have hju : j < xs.length := by
  have := (List.getElem?_eq_some_iff.1 hu).1
  simpa using this
 by_cases e : i = j
 ·rw [e] at hu ⊢
  rw [List.getElem?_set_self hju] at hu
  rw [← Option.some.inj hu]
  exact put5_same cur _ z (by omega) c hc
 ·rw [List.getElem?_set_ne e] at hu
  rw [← hcs j u hu c hc]
  exact put5_other cur _ z _ (by omega)
theorem setFive (w : World) (g o : Nat) (z : Fv) : w.setCells g o z.cells = ((((w.setCell ⟨g, o, none⟩ (.int .i64 z.t)).setCell ⟨g, o + 1, none⟩ (.int .i64 z.o)).setCell ⟨g, o + 2, none⟩ (.int .i64 z.l)).setCell ⟨g, o + 3, none⟩ (.slice z.sa z.len z.cap)).setCell ⟨g, o + 4, none⟩ (.int .i64 z.st) := rfl
theorem Lies.set {tb : TypeId} {w : World} {g off i : Nat} {xs : List Fv} (h0 : Lies tb w g off xs) (z : Fv) : Lies tb (w.setCells g (off + i * 5) z.cells) g off (xs.set i z) ∧ Kept [g] w (w.setCells g (off + i * 5) z.cells) ∧ (w.setCells g (off + i * 5) z.cells).heap.size = w.heap.size := by
 obtain ⟨cur, hB, hsz, hcs⟩ := h0
 have hp := fun j u hu c hc => put5_lies (i := i) hsz hcs z j u hu c hc
 obtain ⟨o, ho⟩ : ∃ o, off + i * 5 = o := ⟨_, rfl⟩
 rw [ho] at hp ⊢
 rw [setFive]
 have hb := ((((hB.set o (.int .i64 z.t)).set (o + 1) (.int .i64 z.o)).set (o + 2) (.int .i64 z.l)).set (o + 3) (.slice z.sa z.len z.cap)).set (o + 4) (.int .i64 z.st)
 refine ⟨⟨put5 cur o z, hb, by rw [put5_size]; simpa using hsz, hp⟩, ?_, by simp [World.setCell]⟩
 exact ((((kept_set (by simp) _ _ _).trans (kept_set (by simp) _ _ _)).trans (kept_set (by simp) _ _ _)).trans (kept_set (by simp) _ _ _)).trans (kept_set (by simp) _ _ _)
section
variable {ops : Array Oper} {rest : List Oper} {o : Oper} {a : Act} {w : World} {Q : Exit → Act → World → Prop}
set_option maxRecDepth 100000 in
theorem wpList_store_lies (hgd : o.guard = none) (ty tb : TypeId) (x y : Operand) (ho : o.op = .store ty x y) (g off i : Nat) (xs : List Fv) (z : Fv) (hx : a.eval x = .pointer (some ⟨g, off + i * 5, none⟩)) (hy : a.eval y = z.val) (h0 : Lies tb w g off xs) (hi : i < xs.length) (hs : (Tryz.prog.info? ty).map (·.size) = some 5)
  (h : ∀ w', Lies tb w' g off (xs.set i z) → Kept [g] w w' → Hid (w'.heap.size = w.heap.size) → wpList Tryz.prog ops Q rest (a.put o.dst undef) w') : wpList Tryz.prog ops Q (o :: rest) a w := by
 obtain ⟨r1, r2, r3⟩ := h0.set (i := i) z
 obtain ⟨cur, hB, hsz, hcs⟩ := h0
 refine wpList_store_mid hgd ty x y ho g (off + i * 5) z.cells.toArray hx hy (fun j hj => ?_) (by simpa [Fv.cells] using hs) (all_oneCell_toArray (fun v hv => by simp [Fv.cells] at hv; rcases hv with rfl | rfl | rfl | rfl | rfl <;> rfl)) (h _ r1 r2 r3)
 have hj5 : j < 5 := by simpa [Fv.cells] using hj
 refine ⟨?_, hB.frozen _⟩
 rw [hB.cell, Array.getElem?_eq_getElem (by omega)]
 rfl
end
theorem fv_at_list {L : List (Int × Fw)} {zs : List Fv} (h : (zs.map fun x => (x.t, x.fw)) = L) {i : Nat} {x : Fv} (hx : zs[i]? = some x) : L[i]? = some (x.t, x.fw) := by
 rw [← h, List.getElem?_map, hx]
 rfl
def Listed (ty : TypeId) (n : Nat) (W : World) (v : Value) (L : List (Int × Fw)) : Prop := ∃ xs : List Fv, (xs.map fun x => (x.t, x.fw)) = L ∧ (∀ x ∈ xs, x.At n W.heap.size W) ∧ WAt ty W n v xs
set_option maxRecDepth 100000 in
set_option maxHeartbeats 2000000 in
theorem list_any {lo hi f b p : Nat} {F : List Nat} {L : List (Int × Fw)} (w : World) (h : FlAt w lo hi f b p F L) (hn : L.length ≤ 600) :
  Calls Tryz.prog 60 #[.pointer (some ⟨f, 0, none⟩)] w fun e W' => ∃ v : Value, e = .returned v ∧ Listed 94 w.heap.size W' v L ∧ Kept [] w W' := by
 have q := rising_any w h hn
 have hhi := h.hih
 have hshort : Hid (∀ x : Fv, (x.t, x.fw) ∈ L → x.bs.length ≤ 140737488351232) := fun x hx => h.fit.short _ hx
 go_enter Tryz.func60, Tryz.ntmps60
 go_wp2_with (go_at_call 116; refine q.mono ?_; rintro e w1 ⟨v, xs, rfl, h1, h2, h3, h4⟩; have hwat := h3.wat; obtain ⟨a, cap, rfl, hcap, -⟩ := hwat.open; have hlen : xs.length = L.length := (by rw [← h1]; simp); obtain ⟨n, hnn⟩ : ∃ n, xs.length = n := ⟨_, rfl⟩; rw [hnn] at hwat hcap hlen ⊢; replace hwat : Hid (WAt 94 w1 w.heap.size (.slice a n cap) xs) := hwat; replace hnn : Hid _ := hnn; replace hlen : Hid _ := hlen)
 go_loopw [10] (fun i wr => ∃ (k : Nat) (zs : List Fv), i = .int .i64 k ∧ k ≤ n ∧ Hid (zs.length = n) ∧ Hid ((zs.map fun x => (x.t, x.fw)) = L) ∧ Hid (WAt 94 wr w.heap.size (.slice a n cap) zs) ∧ Hid (∀ j x, zs[j]? = some x → (j < k → x.At w.heap.size wr.heap.size wr) ∧ (k ≤ j → x.At lo hi wr)) ∧ Kept [] w wr) (fun i _ => n - (RowKit.intOf i).toNat)
 case atStart =>
  exact ⟨0, xs, rfl, Nat.zero_le _, hnn.out, h1, hwat, fun j x hx => ⟨fun h => by omega, fun _ => (h2 x (List.mem_of_getElem? hx)).kept0 h4⟩, h4⟩
 case round =>
  obtain ⟨k, zs, rfl, hk, hzl, hzL, hzc, hzA, hkr⟩ := hrel
  have hn6 : n ≤ 600 := by have := hlen.out; omega
  by_cases hlt : k < n
  ·have hlt' : (k : Int) < (n : Int) := by omega
   have hk1 : (k : Int) + 1 < 9223372036854775808 := by omega
   obtain ⟨g, off, rfl, hg, hL⟩ : ∃ g off, a = some ⟨g, off, none⟩ ∧ w.heap.size ≤ g ∧ Lies 94 wr g off zs := by
    rcases hzc.out with ⟨_, h0⟩ | ⟨g, off, cap', e, h2, h3, h4⟩
    ·have := hzl.out
     rw [h0] at this
     simp at this
     omega
    ·injection e with e1 _ _
     exact ⟨g, off, e1, h2, h4⟩
   obtain ⟨x, hx⟩ : ∃ x, zs[k]? = some x := ⟨_, List.getElem?_eq_getElem (by rw [hzl.out]; exact hlt)⟩
   obtain ⟨d0, d1, d2, d3, d4⟩ := hL.at hx (Kept.refl [] wr) (by simp)
   have hxA := (hzA.out k x hx).2 (Nat.le_refl _)
   have ka := kept_alloc [] wr (.cells #[.int .i64 x.t, .int .i64 x.o, .int .i64 x.l, .slice x.sa x.len x.cap, .int .i64 x.st] 94)
   have hmem : (x.t, x.fw) ∈ L := by
    have := fv_at_list hzL.out hx
    exact List.mem_of_getElem? this
   have hL2 := hL.kept ka (by simp)
   have hxA2 := hxA.kept0 ka
   have qa := apart_any x hi _ hxA2.in (Nat.le_trans hhi (Nat.le_trans hkr.size ka.size)) (hshort.out x hmem)
   unfold Fv.val at qa
   have hLH : Hid (Lies 94 wr g off zs) := hL
   have hglt := hL.lt
   have hoff := hL.off (by decide)
   have hkz : Hid (k < zs.length) := (show _ < _ by rw [hzl.out]; exact hlt)
   replace hL2 : Hid (Lies 94 _ g off zs) := hL2
   replace hx : Hid _ := hx
   clear hL hxA hxA2
   go_wp2_with (first
    | (go_at_call 117; refine qa.mono ?_; rintro e w3 ⟨y, rfl, hyt, hyw, hyA, hk3⟩; replace hyt : Hid _ := hyt; replace hyw : Hid _ := hyw; have hL3 := hL2.out.kept hk3 (by simp))
    | (refine wpList_store_lies rfl 94 94 _ _ rfl g off k zs y rfl rfl hL3 hkz.out Tryz.sizeW ?_; intro w4 hL4 hk4 hz4))
   go_roundw
   case rel =>
    have hgz : g < wr.heap.size := hglt
    have hk34 : Kept [g] wr w4 := ((ka.trans hk3).mono (by simp)).trans hk4
    have hofw : ∀ lo' hi', Off lo' hi' w3 g := fun lo' hi' => hL3.off (by decide) lo' hi'
    refine ⟨k + 1, zs.set k y, by go_num, by omega, (show _ = _ by rw [List.length_set]; exact hzl.out), ?_, (show WAt _ _ _ _ _ from .inr ⟨g, off, cap, by rw [List.length_set, hzl.out], hg, by rw [List.length_set, hzl.out]; exact hcap, hL4⟩), fun j u hu => ?_, hkr.young hk34 hg⟩
    ·show _ = _
     rw [List.map_set, hyt.out, hyw.out, hzL.out]
     have := fv_at_list hzL.out hx.out
     rw [List.getElem?_eq_some_iff] at this
     obtain ⟨h1, h2⟩ := this
     rw [← h2]
     exact List.set_getElem_self h1
    ·by_cases e : k = j
     ·rw [← e, List.getElem?_set_self hkz.out] at hu
      rw [← Option.some.inj hu]
      refine ⟨fun _ => (hyA.kept hk4 (by simpa using hofw _ _)).mono (Nat.le_trans hkr.size ka.size) hk4.size, fun hh => by omega⟩
     ·rw [List.getElem?_set_ne e] at hu
      have := hzA.out j u hu
      refine ⟨fun hh => (((this.1 (by omega)).kept0 (ka.trans hk3)).kept hk4 (by simpa using hofw _ _)).mono (Nat.le_refl _) (Nat.le_trans (ka.trans hk3).size hk4.size), fun hh => ((this.2 (by omega)).kept0 (ka.trans hk3)).kept hk4 (by simpa using hofw _ _)⟩
   case measure => show n - (((k : Int) + 1).toNat) < n - ((k : Int).toNat); omega
  ·obtain rfl : k = n := by omega
   have hlt' : ¬ ((k : Int) < (k : Int)) := by omega
   go_wp2_with fail
   go_ret
   refine ⟨_, rfl, ⟨zs, hzL.out, fun x hx => ?_, hzc.out⟩, hkr⟩
   obtain ⟨j, hj⟩ := List.getElem?_of_mem hx
   have hjl : j < zs.length := (List.getElem?_eq_some_iff.1 hj).1
   exact (hzA.out j x hj).1 (by rw [← hzl.out]; exact hjl)
end Go.Proofs.YtoaeficfmcncjaaGreat.Flight
namespace Go.Proofs.YtoaeficfmcncjaaGreat.Flight
open Go.RowKit Go.Maps Go.Sort
open Table (Rising ins del tks)
structure Ow where
 o : Int
 l : Int
 s : Bool
def Ow.cells (x : Ow) : List Value := [.int .i64 x.o, .int .i64 x.l, .bool x.s]
def owsL (L : List (Int × Fw)) : List Ow := L.map fun x => ⟨x.2.o, x.2.l, !decide (x.2.st = 1)⟩
def owC (L : List Ow) : List Value := L.flatMap Ow.cells
theorem owC_append (A B : List Ow) : owC (A ++ B) = owC A ++ owC B := by simp [owC]
theorem owC_length (L : List Ow) : (owC L).length = L.length * 3 := by
 induction L with
 | nil => rfl
 | cons x L ih =>
  have : owC (x :: L) = x.cells ++ owC L := rfl
  rw [this, List.length_append, ih, List.length_cons]
  simp [Ow.cells]
  omega
theorem owC_at : ∀ (xs : List Ow) (i : Nat) (x : Ow), xs[i]? = some x → ∀ c, c < 3 → (owC xs)[i * 3 + c]? = x.cells[c]?
 | [], i, x, h, _, _ => by simp at h
 | y :: xs, 0, x, h, c, hc => by
  simp at h
  subst h
  show (y.cells ++ owC xs)[0 * 3 + c]? = _
  rw [Nat.zero_mul, Nat.zero_add, List.getElem?_append_left (by simp [Ow.cells]; omega)]
 | y :: xs, i + 1, x, h, c, hc => by
  show (y.cells ++ owC xs)[(i + 1) * 3 + c]? = _
  have e : (i + 1) * 3 + c = y.cells.length + (i * 3 + c) := by simp [Ow.cells]; omega
  rw [e, List.getElem?_append_right (by omega), Nat.add_sub_cancel_left]
  exact owC_at xs i x (by simpa using h) c hc
def OwnOws (ty : TypeId) (W : World) (base : Nat) (v : Value) (L : List Ow) : Prop := W.ownsRow base ty 3 v L.length (owC L)
theorem own_nil (ty : TypeId) (W : World) (base : Nat) : OwnOws ty W base (.slice none 0 0) [] := World.ownsRow_nil W base ty 3
theorem OwnOws.kept {ty : TypeId} {A B : World} {base : Nat} {v : Value} {L : List Ow} (h : OwnOws ty A base v L) (hk : Kept [] A B) : OwnOws ty B base v L := by
 obtain ⟨h0, ⟨rfl, h1⟩ | ⟨g, cap, cur, rfl, hb, hg, h3⟩⟩ := h
 ·exact ⟨h0, .inl ⟨rfl, h1⟩⟩
 ·exact ⟨h0, .inr ⟨g, cap, cur, rfl, hb, (hk.block g (Array.getElem?_eq_some_iff.1 hg).1 (by simp)).trans hg, h3⟩⟩
theorem OwnOws.open {ty : TypeId} {W : World} {base : Nat} {v : Value} {L : List Ow} (h : OwnOws ty W base v L) : ∃ a cap, v = .slice a L.length cap ∧ L.length ≤ cap ∧ (L = [] ∨ ∃ g, a = some ⟨g, 0, none⟩ ∧ base ≤ g ∧ g < W.heap.size ∧ ∃ cur, Blk W g ty cur ∧ ∀ i x, L[i]? = some x → ∀ c, c < 3 → cur[i * 3 + c]? = x.cells[c]?) := by
 obtain ⟨_, ⟨rfl, h1⟩ | ⟨g, cap, cur, rfl, hb, hg, h1, h2, h3, h4⟩⟩ := h
 ·have : L = [] := List.eq_nil_of_length_eq_zero h1
  subst this
  exact ⟨none, 0, rfl, Nat.le_refl _, .inl rfl⟩
 ·refine ⟨_, cap, rfl, h1, .inr ⟨g, rfl, hb, (Array.getElem?_eq_some_iff.1 hg).1, cur, hg, fun i x hx c hc => ?_⟩⟩
  have hi : i < L.length := (List.getElem?_eq_some_iff.1 hx).1
  rw [← owC_at L i x hx c hc, ← h4, List.getElem?_take, if_pos (by omega), Array.getElem?_toList]
set_option maxRecDepth 100000 in
theorem Tryz.infoOwC : (Tryz.prog.info? 288).map (fun i => (i.zero, i.size, i.bytes)) = some (some (.agg #[.int .i64 0, .int .i64 0, .bool false]), 3, 24) := by kernel_rfl
set_option maxRecDepth 100000 in
theorem wpList_append_owC {ops : Array Oper} {rest : List Oper} {o : Oper} {a : Act} {w : World} {Q : Exit → Act → World → Prop} (hgd : o.guard = none) (s x : Operand) (ho : o.op = .call { callee := .builtin .append, args := #[s, x], argTypes := #[233, 233] })
  (base : Nat) (v : Value) (L : List Ow) (y : Ow) (q : Nat) (hs : a.eval s = v) (hown : OwnOws 288 w base v L) (hx : a.eval x = .slice (some ⟨q, 0, none⟩) 1 1) (hq : Blk w q 288 #[.int .i64 y.o, .int .i64 y.l, .bool y.s]) (hlen : L.length ≤ 2000) (hb : base ≤ w.heap.size)
  (h : ∀ v' w', OwnOws 288 w' base v' (L ++ [y]) → w.grownBy w' v.ownBlock → wpList Tryz.prog ops Q rest (a.put o.dst v') w') : wpList Tryz.prog ops Q (o :: rest) a w := by
 obtain ⟨i0, hi, hz0, hz1, hz2⟩ := info_parts Tryz.infoOwC
 refine wpList_append_own_at _ hgd s x 233 ho base 288 i0 (.agg #[.int .i64 0, .int .i64 0, .bool false]) 3 24 Tryz.underlying233 hi hz0 hz1 hz2 rfl (by decide) v L.length (owC L) hs hown ⟨q, 0, none⟩ 1 1 (owC [y]) hx (owC_length [y]) ?_ ?_ (by unfold maxLen; omega) (by omega) hb ?_
 ·intro j u hu
  have e : (⟨q, 0, none⟩ : Addr).add j = ⟨q, j, none⟩ := by unfold Addr.add; split <;> simp_all
  rw [e, hq.cell]
  have : owC [y] = [.int .i64 y.o, .int .i64 y.l, .bool y.s] := rfl
  rw [this] at hu
  simpa using hu
 ·intro u hu
  have : owC [y] = [.int .i64 y.o, .int .i64 y.l, .bool y.s] := rfl
  rw [this] at hu
  simp at hu
  rcases hu with rfl | rfl | rfl <;> rfl
 ·intro v' w' h3 h4 _ _
  refine h v' w' ?_ h4
  unfold OwnOws
  rw [List.length_append, owC_append]
  exact h3
theorem ownsRow_base {W : World} {base base' : Nat} {e : TypeId} {size : Nat} {v : Value} {k : Nat} {xs : List Value} (h : W.ownsRow base e size v k xs) (hb : base' ≤ base) : W.ownsRow base' e size v k xs := by
 obtain ⟨h0, h1 | ⟨g, cap, cur, e1, hg, h3⟩⟩ := h
 ·exact ⟨h0, .inl h1⟩
 ·exact ⟨h0, .inr ⟨g, cap, cur, e1, by omega, h3⟩⟩
set_option maxRecDepth 100000 in
set_option maxHeartbeats 2000000 in
theorem own_any {lo hi f b p : Nat} {F : List Nat} {L : List (Int × Fw)} (w : World) (h : FlAt w lo hi f b p F L) (hn : L.length ≤ 600) :
  Calls Tryz.prog 144 #[.pointer (some ⟨f, 0, none⟩)] w fun e W' => ∃ v : Value, e = .returned v ∧ OwnOws 288 W' w.heap.size v (owsL L) ∧ Kept [] w W' := by
 have q := rising_any w h hn
 go_enter Tryz.func144, Tryz.ntmps144
 go_wp2_with (go_at_call 116; refine q.mono ?_; rintro e w1 ⟨v, xs, rfl, h1, h2, h3, h4⟩; have hwat := h3.wat; obtain ⟨a, cap, rfl, hcap, -⟩ := hwat.open; have hlen : xs.length = L.length := (by rw [← h1]; simp); obtain ⟨n, hnn⟩ : ∃ n, xs.length = n := ⟨_, rfl⟩; rw [hnn] at hwat hcap hlen ⊢; replace hwat : Hid (WAt 94 w1 w.heap.size (.slice a n cap) xs) := hwat; replace hnn : Hid _ := hnn; replace hlen : Hid _ := hlen)
 go_loopw [9, 3] (fun i u wr => ∃ k : Nat, i = .int .i64 k ∧ k ≤ n ∧ OwnOws 288 wr w1.heap.size u (owsL (L.take k)) ∧ Kept [] w1 wr) (fun i _ _ => n - (RowKit.intOf i).toNat)
 case atStart => exact ⟨0, rfl, Nat.zero_le _, own_nil _ _ _, Kept.refl _ _⟩
 case round =>
  obtain ⟨k, rfl, hk, hI, hkr⟩ := hrel
  have hn6 : n ≤ 600 := by have := hlen.out; omega
  by_cases hlt : k < n
  ·have hlt' : (k : Int) < (n : Int) := by omega
   have hk1 : (k : Int) + 1 < 9223372036854775808 := by omega
   obtain ⟨g, off, rfl, hg, hL⟩ : ∃ g off, a = some ⟨g, off, none⟩ ∧ w.heap.size ≤ g ∧ Lies 94 w1 g off xs := by
    rcases hwat.out with ⟨_, h0⟩ | ⟨g, off, cap', e, h2, h3, h4⟩
    ·have := hnn.out
     rw [h0] at this
     simp at this
     omega
    ·injection e with e1 _ _
     exact ⟨g, off, e1, h2, h4⟩
   obtain ⟨x, hx⟩ : ∃ x, xs[k]? = some x := ⟨_, List.getElem?_eq_getElem (by rw [hnn.out]; exact hlt)⟩
   obtain ⟨d0, d1, d2, d3, d4⟩ := hL.at hx hkr (by simp)
   have ej : Hid (owsL (L.take (k + 1)) = owsL (L.take k) ++ [⟨x.o, x.l, !decide (x.st = 1)⟩]) := by
    show _ = _
    rw [List.take_add_one, fv_at_list h1 hx]
    simp [owsL, Fv.fw]
   have hll : Hid ((owsL (L.take k)).length ≤ 2000) := by
    show _ ≤ _
    simp [owsL]
    omega
   obtain ⟨sx, hsx⟩ : ∃ sx, (!decide (x.st = 1)) = sx := ⟨_, rfl⟩
   rw [hsx] at ej
   have hsx2 : (!(x.st == 1)) = sx := by rw [← hsx]; rfl
   have hsx3 : (x.st != 1) = sx := hsx2
   have kA := kept_alloc [] wr (.cells #[.int .i64 x.t, .int .i64 x.o, .int .i64 x.l, .slice x.sa x.len x.cap, .int .i64 x.st] 94)
   have kB := kept_alloc [] (wr.alloc (.cells #[.int .i64 x.t, .int .i64 x.o, .int .i64 x.l, .slice x.sa x.len x.cap, .int .i64 x.st] 94)) (.cells #[.int .i64 x.o, .int .i64 x.l, .bool sx] 288)
   have hb := blk_new (wr.alloc (.cells #[.int .i64 x.t, .int .i64 x.o, .int .i64 x.l, .slice x.sa x.len x.cap, .int .i64 x.st] 94)) 288 #[.int .i64 x.o, .int .i64 x.l, .bool sx]
   rw [show (wr.alloc (.cells #[.int .i64 x.t, .int .i64 x.o, .int .i64 x.l, .slice x.sa x.len x.cap, .int .i64 x.st] 94)).heap.size = wr.heap.size + 1 by simp] at hb
   have hIB : Hid (OwnOws 288 _ _ _ _) := hI.kept (kA.trans kB)
   have hbs : Hid _ := Nat.le_trans hkr.size (kA.trans kB).size
   replace hb : Hid (Blk _ _ _ _) := hb
   replace hsx : Hid _ := hsx
   clear hx hL hI hsx2
   go_wp2_with (at_builtin; refine wpList_append_owC rfl _ _ rfl w1.heap.size _ (owsL (L.take k)) ⟨x.o, x.l, sx⟩ (wr.heap.size + 1) rfl hIB.out rfl hb.out hll.out hbs.out ?_; intro v1 w5 hI1 hg1; have hk5 := kept_grown hIB.out hg1 w1 (hkr.trans (kA.trans kB)) (Nat.le_refl _); rw [← ej.out] at hI1; clear hg1)
   go_roundw
   case rel => exact ⟨k + 1, by go_num, by omega, hI1, hk5⟩
   case measure => show n - (((k : Int) + 1).toNat) < n - ((k : Int).toNat); omega
  ·obtain rfl : k = n := by omega
   have i1 : ¬ ((k : Int) < (k : Int)) := by omega
   have et : L.take k = L := List.take_of_length_le (by have := hlen.out; omega)
   rw [et] at hI
   clear et
   go_wp2_with fail
   go_ret
   refine ⟨_, rfl, ?_, h4.trans hkr⟩
   exact ownsRow_base hI h4.size
end Go.Proofs.YtoaeficfmcncjaaGreat.Flight
namespace Go.Proofs.YtoaeficfmcncjaaGreat
theorem tJ {P : Program} {ops : Array Oper} {Q : Exit → Act → World → Prop} {md : Region.Mode} {S : World → Prop} (i : Nat) (oi : Oper) (v : Value) {fuel : Nat} {listed l : Array Bool} {a b : Act} {w : World} (hi : ops[i]? = some oi) (hS : S w) (h : wpAnyH P md ops Q S fuel l b w)
    (hB : ∀ w, S w → (execOp a.eval oi).run P w = .ok (.value v) w := by intro W hSw; go_simp)
    (hs : Region.noSelect ops = true := by kernel_rfl) (hf : Region.free md ops listed i = true := by kernel_rfl) (hr : (Region.ready md ops listed).contains i = true := by kernel_rfl)
    (hQ : ∀ c a w, Q (.panic c) (a.put oi.dst v) w → Q (.panic c) a w := by exact fun _ _ _ h => h) (hA : Region.wanted oi (yielded ops a.tmps) = true := by rfl)
    (hl : listed.setIfInBounds i true = l := by (try simp only [List.setIfInBounds_toArray, List.set_cons_zero, List.set_cons_succ]); exact rfl)
    (hb : a.put oi.dst v = b := by (try simp only [Act.put, List.setIfInBounds_toArray, List.set_cons_zero, List.set_cons_succ]); exact rfl) : wpAnyH P md ops Q S (fuel + 1) listed a w := by
  subst hl hb
  exact wpAnyH_take hi hs hf hr hQ (Or.inl ⟨hA, hB⟩) hS h
theorem tI {P : Program} {ops : Array Oper} {Q : Exit → Act → World → Prop} {md : Region.Mode} {S : World → Prop} (i : Nat) (oi : Oper) (v : Value) {fuel : Nat} {listed l : Array Bool} {a b : Act} {w : World} (hi : ops[i]? = some oi) (hB : ∀ w, S w → (execOp a.eval oi).run P w = .ok (.value v) w) (hS : S w) (h : wpAnyH P md ops Q S fuel l b w)
    (hs : Region.noSelect ops = true := by kernel_rfl) (hf : Region.free md ops listed i = true := by kernel_rfl) (hr : (Region.ready md ops listed).contains i = true := by kernel_rfl)
    (hQ : ∀ c a w, Q (.panic c) (a.put oi.dst v) w → Q (.panic c) a w := by exact fun _ _ _ h => h) (hA : Region.wanted oi (yielded ops a.tmps) = true := by rfl)
    (hl : listed.setIfInBounds i true = l := by (try simp only [List.setIfInBounds_toArray, List.set_cons_zero, List.set_cons_succ]); exact rfl)
    (hb : a.put oi.dst v = b := by (try simp only [Act.put, List.setIfInBounds_toArray, List.set_cons_zero, List.set_cons_succ]); exact rfl) : wpAnyH P md ops Q S (fuel + 1) listed a w := by
  subst hl hb
  exact wpAnyH_take hi hs hf hr hQ (Or.inl ⟨hA, hB⟩) hS h
theorem tO {P : Program} {ops : Array Oper} {Q : Exit → Act → World → Prop} {md : Region.Mode} {S : World → Prop} (i : Nat) (oi : Oper) {v : Value} {fuel : Nat} {listed l : Array Bool} {a b : Act} {w : World} (hi : ops[i]? = some oi) (hS : S w) (h : wpAnyH P md ops Q S fuel l b w)
    (hs : Region.noSelect ops = true := by kernel_rfl) (hf : Region.free md ops listed i = true := by kernel_rfl) (hr : (Region.ready md ops listed).contains i = true := by kernel_rfl)
    (hQ : ∀ c a w, Q (.panic c) (a.put oi.dst v) w → Q (.panic c) a w := by exact fun _ _ _ h => h) (hA : Region.wanted oi (yielded ops a.tmps) = false := by rfl) (hv : v = undef := by rfl)
    (hl : listed.setIfInBounds i true = l := by (try simp only [List.setIfInBounds_toArray, List.set_cons_zero, List.set_cons_succ]); exact rfl)
    (hb : a.put oi.dst v = b := by (try simp only [Act.put, List.setIfInBounds_toArray, List.set_cons_zero, List.set_cons_succ]); exact rfl) : wpAnyH P md ops Q S (fuel + 1) listed a w := by
  subst hl hb
  exact wpAnyH_take hi hs hf hr hQ (Or.inr ⟨hA, hv⟩) hS h
theorem tC {P : Program} {ops : Array Oper} {Q : Exit → Act → World → Prop} {md : Region.Mode} {S : World → Prop} (i : Nat) {o : Oper} {fuel : Nat} {listed : Array Bool} {a : Act} {w : World} (ho : ops[i]? = some o)
    (h : ∀ K : Act → World → Prop, Shut (∀ a w, S w → (S w → wpAnyH P md ops Q S fuel (listed.setIfInBounds i true) a w) → K a w) → if Region.wanted o (yielded ops a.tmps) = true then Oper.wp P o a w K Q else K (a.put o.dst undef) w)
    (hr : Region.ready md ops listed = [i] := by kernel_rfl) : wpAnyH P md ops Q S (fuel + 1) listed a w :=
  wpAnyH_ready hr (by simp) (AllReadyH.cons ho h AllReadyH.nil)
end Go.Proofs.YtoaeficfmcncjaaGreat
