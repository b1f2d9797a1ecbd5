/-
  Rows of writes; the walk of List.
-/
import Derived.Test.YtollfckgjhklcaaGreatFlL
namespace Go.Proofs.YtollfckgjhklcaaGreat.Flight
open Go.RowKit Go.Maps Go.Sort
open Table (Rising ins del tks)

/-- Writes that lie in block g from place off on. -/
def Lies (ty : TypeId) (W : World) (g off : Nat) (xs : List Fv) : Prop := ∃ cur, Blk W g ty cur ∧ off + xs.length * 5 ≤ cur.size ∧ ∀ i x, xs[i]? = some x → ∀ c, c < 5 → cur[off + i * 5 + c]? = x.cells[c]?
theorem Lies.lt {ty : TypeId} {W : World} {g off : Nat} {xs : List Fv} (h : Lies ty W g off xs) : g < W.heap.size := by
  obtain ⟨cur, h1, _⟩ := h
  exact h1.lt
theorem Lies.kept {ty : TypeId} {K : List Nat} {A B : World} {g off : Nat} {xs : List Fv} (h : Lies ty A g off xs) (hk : Kept K A B) (hg : g ∉ K) : Lies ty B g off xs := by
  obtain ⟨cur, h1, h2⟩ := h
  exact ⟨cur, h1.kept hk hg, h2⟩
theorem Lies.off {ty : TypeId} {W : World} {g off : Nat} {xs : List Fv} (h : Lies ty W g off xs) (ht : ty ≠ 5) (lo hi : Nat) : Off lo hi W g := by
  obtain ⟨cur, h1, _⟩ := h
  exact off_blk h1 ht
/-- What lies at a place, in every later world. -/
theorem Lies.at {ty : TypeId} {W : World} {g off : Nat} {xs : List Fv} (h : Lies ty W g off xs) {i : Nat} {x : Fv} (hx : xs[i]? = some x) {K : List Nat} {V : World} (hk : Kept K W V) (hg : g ∉ K) :
    V.cell? ⟨g, off + i * 5, none⟩ = some (.int .i64 x.t) ∧ V.cell? ⟨g, off + i * 5 + 1, none⟩ = some (.int .i64 x.o) ∧ V.cell? ⟨g, off + i * 5 + 2, none⟩ = some (.int .i64 x.l) ∧ V.cell? ⟨g, off + i * 5 + 3, none⟩ = some (.slice x.sa x.len x.cap) ∧ V.cell? ⟨g, off + i * 5 + 4, none⟩ = some (.int .i64 x.st) := by
  obtain ⟨cur, h1, _, h3⟩ := h
  have hv := h1.kept hk hg
  exact ⟨(hv.cell _).trans (h3 i x hx 0 (by omega)), (hv.cell _).trans (h3 i x hx 1 (by omega)), (hv.cell _).trans (h3 i x hx 2 (by omega)), (hv.cell _).trans (h3 i x hx 3 (by omega)), (hv.cell _).trans (h3 i x hx 4 (by omega))⟩
/-- Writes in a slice, in a block from base on where there is one. -/
def WAt (ty : TypeId) (W : World) (base : Nat) (v : Value) (xs : List Fv) : Prop := (v = .slice none 0 0 ∧ xs = []) ∨ ∃ g off cap, v = .slice (some ⟨g, off, none⟩) xs.length cap ∧ base ≤ g ∧ xs.length ≤ cap ∧ Lies ty W g off xs
theorem WAt.kept {ty : TypeId} {K : List Nat} {A B : World} {base : Nat} {v : Value} {xs : List Fv} (h : WAt ty A base v xs) (hk : Kept K A B) (hK : ∀ k ∈ K, k < base) : WAt ty B base v xs := by
  rcases h with h | ⟨g, off, cap, h1, h2, h3, h4⟩
  · exact .inl h
  · exact .inr ⟨g, off, cap, h1, h2, h3, h4.kept hk (fun hm => by have := hK g hm; omega)⟩
theorem WAt.mono {ty : TypeId} {W : World} {base base' : Nat} {v : Value} {xs : List Fv} (h : WAt ty W base v xs) (hb : base' ≤ base) : WAt ty W base' v xs := by
  rcases h with h | ⟨g, off, cap, h1, h2, h3⟩
  · exact .inl h
  · exact .inr ⟨g, off, cap, h1, by omega, h3⟩
theorem WRow.wat {W : World} {base : Nat} {v : Value} {xs : List Fv} (h : WRow W base v xs) : WAt 39 W base v xs := by
  rcases h with h | ⟨g, cap, cur, h1, h2, h3, h4, h5, h6, h7⟩
  · exact .inl h
  · refine .inr ⟨g, 0, cap, h1, h2, h4, cur, h3, by omega, fun i x hx c hc => ?_⟩
    rw [Nat.zero_add]
    exact h7 i x hx c hc
/-- A slice of writes, written out. -/
theorem WAt.open {ty : TypeId} {W : World} {base : Nat} {v : Value} {xs : List Fv} (h : WAt ty W base v xs) : ∃ a cap, v = .slice a xs.length cap ∧ xs.length ≤ cap ∧ (xs = [] ∨ ∃ g off, a = some ⟨g, off, none⟩ ∧ base ≤ g ∧ Lies ty W g off xs) := by
  rcases h with ⟨rfl, rfl⟩ | ⟨g, off, cap, h1, h2, h3, h4⟩
  · exact ⟨none, 0, rfl, Nat.le_refl _, .inl rfl⟩
  · exact ⟨_, cap, h1, h3, .inr ⟨g, off, rfl, h2, h4⟩⟩
/-- Five cells of an array set anew. -/
def put5 (cur : Array Value) (o : Nat) (z : Fv) : Array Value := ((((cur.setIfInBounds o (.int .i64 z.t)).setIfInBounds (o + 1) (.int .i64 z.o)).setIfInBounds (o + 2) (.int .i64 z.l)).setIfInBounds (o + 3) (.slice z.sa z.len z.cap)).setIfInBounds (o + 4) (.int .i64 z.st)
theorem put5_size (cur : Array Value) (o : Nat) (z : Fv) : (put5 cur o z).size = cur.size := by simp [put5]
theorem put5_other (cur : Array Value) (o : Nat) (z : Fv) (j : Nat) (h : j < o ∨ o + 5 ≤ j) : (put5 cur o z)[j]? = cur[j]? := by
  unfold put5
  rw [Array.getElem?_setIfInBounds_ne (by omega), Array.getElem?_setIfInBounds_ne (by omega), Array.getElem?_setIfInBounds_ne (by omega), Array.getElem?_setIfInBounds_ne (by omega), Array.getElem?_setIfInBounds_ne (by omega)]
theorem put5_same (cur : Array Value) (o : Nat) (z : Fv) (h : o + 5 ≤ cur.size) (c : Nat) (hc : c < 5) : (put5 cur o z)[o + c]? = z.cells[c]? := by
  have : c = 0 ∨ c = 1 ∨ c = 2 ∨ c = 3 ∨ c = 4 := by omega
  unfold put5
  rcases this with rfl | rfl | rfl | rfl | rfl
  · rw [Array.getElem?_setIfInBounds_ne (by omega), Array.getElem?_setIfInBounds_ne (by omega), Array.getElem?_setIfInBounds_ne (by omega), Array.getElem?_setIfInBounds_ne (by omega), Nat.add_zero, Array.getElem?_setIfInBounds_self_of_lt (by omega)]
    rfl
  · rw [Array.getElem?_setIfInBounds_ne (by omega), Array.getElem?_setIfInBounds_ne (by omega), Array.getElem?_setIfInBounds_ne (by omega), Array.getElem?_setIfInBounds_self_of_lt (by simp; omega)]
    rfl
  · rw [Array.getElem?_setIfInBounds_ne (by omega), Array.getElem?_setIfInBounds_ne (by omega), Array.getElem?_setIfInBounds_self_of_lt (by simp; omega)]
    rfl
  · rw [Array.getElem?_setIfInBounds_ne (by omega), Array.getElem?_setIfInBounds_self_of_lt (by simp; omega)]
    rfl
  · rw [Array.getElem?_setIfInBounds_self_of_lt (by simp; omega)]
    rfl
theorem put5_lies {cur : Array Value} {off i : Nat} {xs : List Fv} (hsz : off + xs.length * 5 ≤ cur.size) (hcs : ∀ i x, xs[i]? = some x → ∀ c, c < 5 → cur[off + i * 5 + c]? = x.cells[c]?) (z : Fv) (j : Nat) (u : Fv) (hu : (xs.set i z)[j]? = some u) (c : Nat) (hc : c < 5) : (put5 cur (off + i * 5) z)[off + j * 5 + c]? = u.cells[c]? := by
  have hju : j < xs.length := by
    have := (List.getElem?_eq_some_iff.1 hu).1
    simpa using this
  by_cases e : i = j
  · rw [e] at hu ⊢
    rw [List.getElem?_set_self hju] at hu
    rw [← Option.some.inj hu]
    exact put5_same cur _ z (by omega) c hc
  · rw [List.getElem?_set_ne e] at hu
    rw [← hcs j u hu c hc]
    exact put5_other cur _ z _ (by omega)
theorem setFive (w : World) (g o : Nat) (z : Fv) : w.setCells g o z.cells = ((((w.setCell ⟨g, o, none⟩ (.int .i64 z.t)).setCell ⟨g, o + 1, none⟩ (.int .i64 z.o)).setCell ⟨g, o + 2, none⟩ (.int .i64 z.l)).setCell ⟨g, o + 3, none⟩ (.slice z.sa z.len z.cap)).setCell ⟨g, o + 4, none⟩ (.int .i64 z.st) := rfl
/-- One of them set anew. -/
theorem Lies.set {tb : TypeId} {w : World} {g off i : Nat} {xs : List Fv} (h0 : Lies tb w g off xs) (z : Fv) : Lies tb (w.setCells g (off + i * 5) z.cells) g off (xs.set i z) ∧ Kept [g] w (w.setCells g (off + i * 5) z.cells) ∧ (w.setCells g (off + i * 5) z.cells).heap.size = w.heap.size := by
  obtain ⟨cur, hB, hsz, hcs⟩ := h0
  have hp := fun j u hu c hc => put5_lies (i := i) hsz hcs z j u hu c hc
  obtain ⟨o, ho⟩ : ∃ o, off + i * 5 = o := ⟨_, rfl⟩
  rw [ho] at hp ⊢
  rw [setFive]
  have hb := ((((hB.set o (.int .i64 z.t)).set (o + 1) (.int .i64 z.o)).set (o + 2) (.int .i64 z.l)).set (o + 3) (.slice z.sa z.len z.cap)).set (o + 4) (.int .i64 z.st)
  refine ⟨⟨put5 cur o z, hb, by rw [put5_size]; simpa using hsz, hp⟩, ?_, by simp [World.setCell]⟩
  exact ((((kept_set (by simp) _ _ _).trans (kept_set (by simp) _ _ _)).trans (kept_set (by simp) _ _ _)).trans (kept_set (by simp) _ _ _)).trans (kept_set (by simp) _ _ _)
section
variable {ops : Array Oper} {rest : List Oper} {o : Oper} {a : Act} {w : World} {Q : Exit → Act → World → Prop}
set_option maxRecDepth 100000 in
/-- One of them stored anew. -/
theorem wpList_store_lies (hgd : o.guard = none) (ty tb : TypeId) (x y : Operand) (ho : o.op = .store ty x y) (g off i : Nat) (xs : List Fv) (z : Fv) (hx : a.eval x = .pointer (some ⟨g, off + i * 5, none⟩)) (hy : a.eval y = z.val) (h0 : Lies tb w g off xs) (hi : i < xs.length) (hs : (Tryz.prog.info? ty).map (·.size) = some 5)
    (h : ∀ w', Lies tb w' g off (xs.set i z) → Kept [g] w w' → Hid (w'.heap.size = w.heap.size) → wpList Tryz.prog ops Q rest (a.put o.dst undef) w') : wpList Tryz.prog ops Q (o :: rest) a w := by
  obtain ⟨r1, r2, r3⟩ := h0.set (i := i) z
  obtain ⟨cur, hB, hsz, hcs⟩ := h0
  refine wpList_store_mid hgd ty x y ho g (off + i * 5) z.cells.toArray hx hy (fun j hj => ?_) (by simpa [Fv.cells] using hs) (all_oneCell_toArray (fun v hv => by simp [Fv.cells] at hv; rcases hv with rfl | rfl | rfl | rfl | rfl <;> rfl)) (h _ r1 r2 r3)
  have hj5 : j < 5 := by simpa [Fv.cells] using hj
  refine ⟨?_, hB.frozen _⟩
  rw [hB.cell, Array.getElem?_eq_getElem (by omega)]
  rfl
end
theorem fv_at_list {L : List (Int × Fw)} {zs : List Fv} (h : (zs.map fun x => (x.t, x.fw)) = L) {i : Nat} {x : Fv} (hx : zs[i]? = some x) : L[i]? = some (x.t, x.fw) := by
  rw [← h, List.getElem?_map, hx]
  rfl
/-- What a call tells of L: copies, in a row of its own. -/
def Listed (ty : TypeId) (n : Nat) (W : World) (v : Value) (L : List (Int × Fw)) : Prop := ∃ xs : List Fv, (xs.map fun x => (x.t, x.fw)) = L ∧ (∀ x ∈ xs, x.At n W.heap.size W) ∧ WAt ty W n v xs
set_option maxRecDepth 100000 in
set_option maxHeartbeats 2000000 in
/-- List -/
theorem list_any {lo hi f b p : Nat} {F : List Nat} {L : List (Int × Fw)} (w : World) (h : FlAt w lo hi f b p F L) (hn : L.length ≤ 600) :
    Calls Tryz.prog 21 #[.pointer (some ⟨f, 0, none⟩)] w fun e W' => ∃ v : Value, e = .returned v ∧ Listed 39 w.heap.size W' v L ∧ Kept [] w W' := by
  have q := rising_any w h hn
  have hhi := h.hih
  have hshort : Hid (∀ x : Fv, (x.t, x.fw) ∈ L → x.bs.length ≤ 140737488351232) := fun x hx => h.fit.short _ hx
  go_enter Tryz.func21, Tryz.ntmps21
  go_wp2_with (go_at_call 43; refine q.mono ?_; rintro e w1 ⟨v, xs, rfl, h1, h2, h3, h4⟩; have hwat := h3.wat; obtain ⟨a, cap, rfl, hcap, -⟩ := hwat.open; have hlen : xs.length = L.length := (by rw [← h1]; simp); obtain ⟨n, hnn⟩ : ∃ n, xs.length = n := ⟨_, rfl⟩; rw [hnn] at hwat hcap hlen ⊢; replace hwat : Hid (WAt 39 w1 w.heap.size (.slice a n cap) xs) := hwat; replace hnn : Hid _ := hnn; replace hlen : Hid _ := hlen)
  go_loopw [10] (fun i wr => ∃ (k : Nat) (zs : List Fv), i = .int .i64 k ∧ k ≤ n ∧ Hid (zs.length = n) ∧ Hid ((zs.map fun x => (x.t, x.fw)) = L) ∧ Hid (WAt 39 wr w.heap.size (.slice a n cap) zs) ∧ Hid (∀ j x, zs[j]? = some x → (j < k → x.At w.heap.size wr.heap.size wr) ∧ (k ≤ j → x.At lo hi wr)) ∧ Kept [] w wr) (fun i _ => n - (RowKit.intOf i).toNat)
  case atStart =>
    exact ⟨0, xs, rfl, Nat.zero_le _, hnn.out, h1, hwat, fun j x hx => ⟨fun h => by omega, fun _ => (h2 x (List.mem_of_getElem? hx)).kept0 h4⟩, h4⟩
  case round =>
    obtain ⟨k, zs, rfl, hk, hzl, hzL, hzc, hzA, hkr⟩ := hrel
    have hn6 : n ≤ 600 := by have := hlen.out; omega
    by_cases hlt : k < n
    · have hlt' : (k : Int) < (n : Int) := by omega
      have hk1 : (k : Int) + 1 < 9223372036854775808 := by omega
      obtain ⟨g, off, rfl, hg, hL⟩ : ∃ g off, a = some ⟨g, off, none⟩ ∧ w.heap.size ≤ g ∧ Lies 39 wr g off zs := by
        rcases hzc.out with ⟨_, h0⟩ | ⟨g, off, cap', e, h2, h3, h4⟩
        · have := hzl.out
          rw [h0] at this
          simp at this
          omega
        · injection e with e1 _ _
          exact ⟨g, off, e1, h2, h4⟩
      obtain ⟨x, hx⟩ : ∃ x, zs[k]? = some x := ⟨_, List.getElem?_eq_getElem (by rw [hzl.out]; exact hlt)⟩
      obtain ⟨d0, d1, d2, d3, d4⟩ := hL.at hx (Kept.refl [] wr) (by simp)
      have hxA := (hzA.out k x hx).2 (Nat.le_refl _)
      have ka := kept_alloc [] wr (.cells #[.int .i64 x.t, .int .i64 x.o, .int .i64 x.l, .slice x.sa x.len x.cap, .int .i64 x.st] 39)
      have hmem : (x.t, x.fw) ∈ L := by
        have := fv_at_list hzL.out hx
        exact List.mem_of_getElem? this
      have hL2 := hL.kept ka (by simp)
      have hxA2 := hxA.kept0 ka
      have qa := apart_any x hi _ hxA2.in (Nat.le_trans hhi (Nat.le_trans hkr.size ka.size)) (hshort.out x hmem)
      unfold Fv.val at qa
      have hLH : Hid (Lies 39 wr g off zs) := hL
      have hglt := hL.lt
      have hoff := hL.off (by decide)
      have hkz : Hid (k < zs.length) := (show _ < _ by rw [hzl.out]; exact hlt)
      replace hL2 : Hid (Lies 39 _ g off zs) := hL2
      replace hx : Hid _ := hx
      clear hL hxA hxA2
      go_wp2_with (first
        | (go_at_call 31; refine qa.mono ?_; rintro e w3 ⟨y, rfl, hyt, hyw, hyA, hk3⟩; replace hyt : Hid _ := hyt; replace hyw : Hid _ := hyw; have hL3 := hL2.out.kept hk3 (by simp))
        | (refine wpList_store_lies rfl 39 39 _ _ rfl g off k zs y rfl rfl hL3 hkz.out Tryz.sizeW ?_; intro w4 hL4 hk4 hz4))
      go_roundw
      case rel =>
        have hgz : g < wr.heap.size := hglt
        have hk34 : Kept [g] wr w4 := ((ka.trans hk3).mono (by simp)).trans hk4
        have hofw : ∀ lo' hi', Off lo' hi' w3 g := fun lo' hi' => hL3.off (by decide) lo' hi'
        refine ⟨k + 1, zs.set k y, by go_num, by omega, (show _ = _ by rw [List.length_set]; exact hzl.out), ?_, (show WAt _ _ _ _ _ from .inr ⟨g, off, cap, by rw [List.length_set, hzl.out], hg, by rw [List.length_set, hzl.out]; exact hcap, hL4⟩), fun j u hu => ?_, hkr.young hk34 hg⟩
        · show _ = _
          rw [List.map_set, hyt.out, hyw.out, hzL.out]
          have := fv_at_list hzL.out hx.out
          rw [List.getElem?_eq_some_iff] at this
          obtain ⟨h1, h2⟩ := this
          rw [← h2]
          exact List.set_getElem_self h1
        · by_cases e : k = j
          · rw [← e, List.getElem?_set_self hkz.out] at hu
            rw [← Option.some.inj hu]
            refine ⟨fun _ => (hyA.kept hk4 (by simpa using hofw _ _)).mono (Nat.le_trans hkr.size ka.size) hk4.size, fun hh => by omega⟩
          · rw [List.getElem?_set_ne e] at hu
            have := hzA.out j u hu
            refine ⟨fun hh => (((this.1 (by omega)).kept0 (ka.trans hk3)).kept hk4 (by simpa using hofw _ _)).mono (Nat.le_refl _) (Nat.le_trans (ka.trans hk3).size hk4.size), fun hh => ((this.2 (by omega)).kept0 (ka.trans hk3)).kept hk4 (by simpa using hofw _ _)⟩
      case measure => show n - (((k : Int) + 1).toNat) < n - ((k : Int).toNat); omega
    · obtain rfl : k = n := by omega
      have hlt' : ¬ ((k : Int) < (k : Int)) := by omega
      go_wp2_with fail
      go_ret
      refine ⟨_, rfl, ⟨zs, hzL.out, fun x hx => ?_, hzc.out⟩, hkr⟩
      obtain ⟨j, hj⟩ := List.getElem?_of_mem hx
      have hjl : j < zs.length := (List.getElem?_eq_some_iff.1 hj).1
      exact (hzA.out j x hj).1 (by rw [← hzl.out]; exact hjl)
end Go.Proofs.YtollfckgjhklcaaGreat.Flight
