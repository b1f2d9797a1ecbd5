/-
  The law's writes and owns; the document's Same and Owns at what is the same.
-/
import Derived.Test.YtollfckgjhklcaaGreatFlYA
import Derived.Test.YtollfckgjhklcaaGreatFlP
namespace Go.Proofs.YtollfckgjhklcaaGreat.Flight
open Go.RowKit Go.Maps Go.Sort
open Table (Rising ins del tks)

theorem WAt.kept0 {ty : TypeId} {A B : World} {base : Nat} {v : Value} {xs : List Fv} (h : WAt ty A base v xs) (hk : Kept [] A B) : WAt ty B base v xs := by
  rcases h with h | ⟨g, off, cap, h1, h2, h3, h4⟩
  · exact .inl h
  · exact .inr ⟨g, off, cap, h1, h2, h3, h4.kept hk (by simp)⟩
/-- One write in a block of its own. -/
theorem wat_one {ty : TypeId} {W : World} {q : Nat} (x : Fv) (h : Blk W q ty #[.int .i64 x.t, .int .i64 x.o, .int .i64 x.l, .slice x.sa x.len x.cap, .int .i64 x.st]) : WAt ty W q (.slice (some ⟨q, 0, none⟩) 1 1) [x] := by
  refine .inr ⟨q, 0, 1, rfl, Nat.le_refl _, Nat.le_refl _, _, h, by simp, fun j y hy k hk => ?_⟩
  have hj : j = 0 := by
    have := (List.getElem?_eq_some_iff.1 hy).1
    simpa using this
  subst hj
  simp at hy
  subst hy
  simp [Fv.cells]
set_option maxRecDepth 100000 in
set_option maxHeartbeats 2000000 in
/-- writes -/
theorem writes_any {base : Nat} {xs : List Fv} (v : Value) (w : World) (h : WAt 39 w base v xs) (hn6 : xs.length ≤ 600) :
    Calls Tryz.prog 15 #[v] w fun e w' => ∃ u : Value, e = .returned u ∧ WAt 42 w' w.heap.size u xs ∧ Kept [] w w' := by
  obtain ⟨a, cap, rfl, hcap, hcase⟩ := h.open
  obtain ⟨n, hnn⟩ : ∃ n, xs.length = n := ⟨_, rfl⟩
  rw [hnn] at hcap hn6 ⊢
  replace hnn : Hid (xs.length = n) := hnn
  replace hcase : Hid (xs = [] ∨ ∃ g off, a = some ⟨g, off, none⟩ ∧ base ≤ g ∧ Lies 39 w g off xs) := hcase
  clear h
  go_enter Tryz.func15, Tryz.ntmps15
  go_wp2_with fail
  go_loopw [8, 3] (fun i u wr => ∃ j : Nat, j ≤ n ∧ i = .int .i64 j ∧ Hid (wr.ownsRow w.heap.size 42 5 u (xs.take j).length (cellsL (xs.take j))) ∧ Kept [] w wr) (fun i _ _ => n - (RowKit.intOf i).toNat)
  case atStart => exact ⟨0, by omega, rfl, World.ownsRow_nil _ _ _ _, Kept.refl _ _⟩
  case round =>
    obtain ⟨j, hj, rfl, hI, hk⟩ := hrel
    by_cases hlt : j < n
    · have hil : (j : Int) < (n : Int) := by omega
      have hj1 : (j : Int) + 1 < 9223372036854775808 := by omega
      obtain ⟨y, hy⟩ : ∃ y, xs[j]? = some y := ⟨_, List.getElem?_eq_getElem (by rw [hnn.out]; exact hlt)⟩
      obtain ⟨g, off, rfl, hg, hL⟩ : ∃ g off, a = some ⟨g, off, none⟩ ∧ base ≤ g ∧ Lies 39 w g off xs := by
        rcases hcase.out with h0 | h0
        · rw [h0] at hy
          simp at hy
        · exact h0
      obtain ⟨d0, d1, d2, d3, d4⟩ := hL.at hy hk (by simp)
      have eT : Hid (xs.take (j + 1) = xs.take j ++ [y]) := (show _ = _ by rw [List.take_add_one, hy]; rfl)
      have kA := kept_alloc [] wr (.cells #[.int .i64 y.t, .int .i64 y.o, .int .i64 y.l, .slice y.sa y.len y.cap, .int .i64 y.st] 39)
      have kB := kept_alloc [] (wr.alloc (.cells #[.int .i64 y.t, .int .i64 y.o, .int .i64 y.l, .slice y.sa y.len y.cap, .int .i64 y.st] 39)) (.cells #[.int .i64 y.t, .int .i64 y.o, .int .i64 y.l, .slice y.sa y.len y.cap, .int .i64 y.st] 42)
      have hu : Hid (RAt ((wr.alloc (.cells #[.int .i64 y.t, .int .i64 y.o, .int .i64 y.l, .slice y.sa y.len y.cap, .int .i64 y.st] 39)).alloc (.cells #[.int .i64 y.t, .int .i64 y.o, .int .i64 y.l, .slice y.sa y.len y.cap, .int .i64 y.st] 42)) (wr.heap.size + 1) (.slice (some ⟨wr.heap.size + 1, 0, none⟩) 1 1) [y]) := (show RAt _ _ _ _ by have := rat_one (wr.alloc (.cells #[.int .i64 y.t, .int .i64 y.o, .int .i64 y.l, .slice y.sa y.len y.cap, .int .i64 y.st] 39)) y; rw [show (wr.alloc (.cells #[.int .i64 y.t, .int .i64 y.o, .int .i64 y.l, .slice y.sa y.len y.cap, .int .i64 y.st] 39)).heap.size = wr.heap.size + 1 by simp] at this; exact this)
      have hr5 : Hid (((wr.alloc (.cells #[.int .i64 y.t, .int .i64 y.o, .int .i64 y.l, .slice y.sa y.len y.cap, .int .i64 y.st] 39)).alloc (.cells #[.int .i64 y.t, .int .i64 y.o, .int .i64 y.l, .slice y.sa y.len y.cap, .int .i64 y.st] 42)).ownsRow w.heap.size 42 5 _ (xs.take j).length (cellsL (xs.take j))) := owns_kept0 hI.out (kA.trans kB)
      have hl2 : Hid ((xs.take j).length + [y].length ≤ 2000) := (show _ ≤ _ by simp; omega)
      have hbig : Hid _ := Nat.le_trans hk.size (kA.trans kB).size
      clear hy hL hI
      go_wp2_with (first
        | (at_builtin; refine wpList_append_rows rfl _ _ rfl w.heap.size (wr.heap.size + 1) _ _ (xs.take j) [y] rfl hr5.out rfl hu.out hl2.out hbig.out ?_; intro v6 w6 hr6 hg6 hw6; have hk6 : Kept [] w w6 := kept_grown hr5.out hg6 w (hk.trans (kA.trans kB)) (Nat.le_refl _); rw [← eT.out] at hr6; clear hu hr5 hw6 hg6))
      go_roundw
      case rel => exact ⟨j + 1, by omega, by go_num, hr6, hk6⟩
      case measure => show n - (((j : Int) + 1).toNat) < n - ((j : Int).toNat); omega
    · obtain rfl : j = n := by omega
      have i1 : ¬ ((j : Int) < (j : Int)) := by omega
      have et : xs.take j = xs := List.take_of_length_le (by rw [hnn.out]; exact Nat.le_refl _)
      rw [et] at hI
      clear et
      go_wp2_with fail
      go_ret
      exact ⟨_, rfl, (rat_owns hI.out).wat, hk⟩
set_option maxRecDepth 100000 in
set_option maxHeartbeats 2000000 in
/-- owns -/
theorem owns_any {base : Nat} {L : List Ow} (v : Value) (w : World) (h : OwnOws 80 w base v L) (hn6 : L.length ≤ 600) :
    Calls Tryz.prog 24 #[v] w fun e w' => ∃ u : Value, e = .returned u ∧ OwnOws 79 w' w.heap.size u L ∧ Kept [] w w' := by
  obtain ⟨a, cap, rfl, hcap, hcase⟩ := h.open
  obtain ⟨n, hnn⟩ : ∃ n, L.length = n := ⟨_, rfl⟩
  rw [hnn] at hcap hn6 ⊢
  replace hnn : Hid (L.length = n) := hnn
  replace hcase : Hid (L = [] ∨ ∃ g, a = some ⟨g, 0, none⟩ ∧ base ≤ g ∧ g < w.heap.size ∧ ∃ cur, Blk w g 80 cur ∧ ∀ i x, L[i]? = some x → ∀ c, c < 3 → cur[i * 3 + c]? = x.cells[c]?) := hcase
  clear h
  go_enter Tryz.func24, Tryz.ntmps24
  go_wp2_with fail
  go_loopw [8, 3] (fun i u wr => ∃ j : Nat, j ≤ n ∧ i = .int .i64 j ∧ OwnOws 79 wr w.heap.size u (L.take j) ∧ Kept [] w wr) (fun i _ _ => n - (RowKit.intOf i).toNat)
  case atStart => exact ⟨0, by omega, rfl, own_nil _ _ _, Kept.refl _ _⟩
  case round =>
    obtain ⟨j, hj, rfl, hI, hk⟩ := hrel
    by_cases hlt : j < n
    · have hil : (j : Int) < (n : Int) := by omega
      have hj1 : (j : Int) + 1 < 9223372036854775808 := by omega
      obtain ⟨y, hy⟩ : ∃ y, L[j]? = some y := ⟨_, List.getElem?_eq_getElem (by rw [hnn.out]; exact hlt)⟩
      obtain ⟨g, rfl, cur, hB, hcs⟩ : ∃ g, a = some ⟨g, 0, none⟩ ∧ ∃ cur, Blk w g 80 cur ∧ ∀ i x, L[i]? = some x → ∀ c, c < 3 → cur[i * 3 + c]? = x.cells[c]? := by
        rcases hcase.out with h0 | ⟨g, h1, _, _, h4⟩
        · rw [h0] at hy
          simp at hy
        · exact ⟨g, h1, h4⟩
      have hBr := hB.kept hk (by simp)
      have d0 : wr.cell? ⟨g, j * 3, none⟩ = some (.int .i64 y.o) := (hBr.cell (j * 3)).trans (hcs j y hy 0 (by omega))
      have d1 : wr.cell? ⟨g, j * 3 + 1, none⟩ = some (.int .i64 y.l) := (hBr.cell (j * 3 + 1)).trans (hcs j y hy 1 (by omega))
      have d2 : wr.cell? ⟨g, j * 3 + 2, none⟩ = some (.bool y.s) := (hBr.cell (j * 3 + 2)).trans (hcs j y hy 2 (by omega))
      have eT : Hid (L.take (j + 1) = L.take j ++ [⟨y.o, y.l, y.s⟩]) := (show _ = _ by rw [List.take_add_one, hy]; rfl)
      have kA := kept_alloc [] wr (.cells #[.int .i64 y.o, .int .i64 y.l, .bool y.s] 80)
      have kB := kept_alloc [] (wr.alloc (.cells #[.int .i64 y.o, .int .i64 y.l, .bool y.s] 80)) (.cells #[.int .i64 y.o, .int .i64 y.l, .bool y.s] 79)
      have hb := blk_new (wr.alloc (.cells #[.int .i64 y.o, .int .i64 y.l, .bool y.s] 80)) 79 #[.int .i64 y.o, .int .i64 y.l, .bool y.s]
      rw [show (wr.alloc (.cells #[.int .i64 y.o, .int .i64 y.l, .bool y.s] 80)).heap.size = wr.heap.size + 1 by simp] at hb
      have hIB : Hid (OwnOws 79 _ _ _ _) := hI.kept (kA.trans kB)
      have hbs : Hid _ := Nat.le_trans hk.size (kA.trans kB).size
      have hll : Hid ((L.take j).length ≤ 2000) := (show _ ≤ _ by simp; omega)
      replace hb : Hid (Blk _ _ _ _) := hb
      clear hy hB hcs hI hBr
      go_wp2_with (at_builtin; refine wpList_append_owR rfl _ _ rfl w.heap.size _ (L.take j) ⟨y.o, y.l, y.s⟩ (wr.heap.size + 1) rfl hIB.out rfl hb.out hll.out hbs.out ?_; intro v1 w5 hI1 hg1; have hk5 := kept_grown hIB.out hg1 w (hk.trans (kA.trans kB)) (Nat.le_refl _); rw [← eT.out] at hI1; clear hg1)
      go_roundw
      case rel => exact ⟨j + 1, by omega, by go_num, hI1, hk5⟩
      case measure => show n - (((j : Int) + 1).toNat) < n - ((j : Int).toNat); omega
    · obtain rfl : j = n := by omega
      have i1 : ¬ ((j : Int) < (j : Int)) := by omega
      have et : L.take j = L := List.take_of_length_le (by rw [hnn.out]; exact Nat.le_refl _)
      rw [et] at hI
      clear et
      go_wp2_with fail
      go_ret
      exact ⟨_, rfl, hI, hk⟩
theorem OwnOws.cellsAt {ty : TypeId} {W : World} {base n cap : Nat} {a : Option Addr} {L : List Ow} (h : OwnOws ty W base (.slice a n cap) L) {j : Nat} {y : Ow} (hy : L[j]? = some y) : ∃ g, a = some ⟨g, 0, none⟩ ∧ ∀ V, Kept [] W V → V.cell? ⟨g, j * 3, none⟩ = some (.int .i64 y.o) ∧ V.cell? ⟨g, j * 3 + 1, none⟩ = some (.int .i64 y.l) ∧ V.cell? ⟨g, j * 3 + 2, none⟩ = some (.bool y.s) := by
  obtain ⟨a', cap', e, _, h0 | ⟨g, h1, _, _, cur, hB, hcs⟩⟩ := h.open
  · rw [h0] at hy
    simp at hy
  · injection e with e1 _ _
    refine ⟨g, e1.trans h1, fun V hV => ?_⟩
    have hBr := hB.kept hV (by simp)
    exact ⟨(hBr.cell (j * 3)).trans (hcs j y hy 0 (by omega)), (hBr.cell (j * 3 + 1)).trans (hcs j y hy 1 (by omega)), (hBr.cell (j * 3 + 2)).trans (hcs j y hy 2 (by omega))⟩
set_option maxRecDepth 100000 in
set_option maxHeartbeats 2000000 in
/-- The document's Owns, at the same rows. -/
theorem rOwns_any {b1 b2 : Nat} {L : List Ow} (v u : Value) (w : World) (h : OwnOws 79 w b1 v L) (h2 : OwnOws 79 w b2 u L) (hn6 : L.length ≤ 600) :
    Calls Tryz.prog 23 #[v, u] w fun e w' => e = .returned (.bool true) ∧ Kept [] w w' := by
  obtain ⟨a, cap, rfl, hcap, -⟩ := h.open
  obtain ⟨c, cap2, rfl, hcap2, -⟩ := h2.open
  obtain ⟨n, hnn⟩ : ∃ n, L.length = n := ⟨_, rfl⟩
  rw [hnn] at hcap hcap2 hn6 h h2 ⊢
  replace hnn : Hid (L.length = n) := hnn
  replace h : Hid (OwnOws 79 w b1 (.slice a n cap) L) := h
  replace h2 : Hid (OwnOws 79 w b2 (.slice c n cap2) L) := h2
  go_enter Tryz.func23, Tryz.ntmps23
  go_wp2_with fail
  go_loopw [13] (fun i wr => ∃ j : Nat, j ≤ n ∧ i = .int .i64 j ∧ Kept [] w wr) (fun i _ => n - (RowKit.intOf i).toNat)
  case atStart => exact ⟨0, by omega, rfl, Kept.refl _ _⟩
  case round =>
    obtain ⟨j, hj, rfl, hk⟩ := hrel
    by_cases hlt : j < n
    · have hil : (j : Int) < (n : Int) := by omega
      have hj1 : (j : Int) + 1 < 9223372036854775808 := by omega
      obtain ⟨y, hy⟩ : ∃ y, L[j]? = some y := ⟨_, List.getElem?_eq_getElem (by rw [hnn.out]; exact hlt)⟩
      obtain ⟨g, rfl, hc⟩ := h.out.cellsAt hy
      obtain ⟨g2, rfl, hc2⟩ := h2.out.cellsAt hy
      have x0 := fun m => (hc (wr.drewN m) (hk.trans (kept_drewN [] _ _))).1
      have x1 := fun m => (hc (wr.drewN m) (hk.trans (kept_drewN [] _ _))).2.1
      have x2 := fun m => (hc (wr.drewN m) (hk.trans (kept_drewN [] _ _))).2.2
      have y0 := fun m => (hc2 (wr.drewN m) (hk.trans (kept_drewN [] _ _))).1
      have y1 := fun m => (hc2 (wr.drewN m) (hk.trans (kept_drewN [] _ _))).2.1
      have y2 := fun m => (hc2 (wr.drewN m) (hk.trans (kept_drewN [] _ _))).2.2
      clear hy hc hc2
      go_wp2_with fail
      go_quiet (fail)
      go_wp2_with fail
      go_roundw
      case rel => exact ⟨j + 1, by omega, by go_num, hk.trans (kept_drewN [] _ _)⟩
      case measure => show n - (((j : Int) + 1).toNat) < n - ((j : Int).toNat); omega
    · obtain rfl : j = n := by omega
      have i1 : ¬ ((j : Int) < (j : Int)) := by omega
      go_wp2_with fail
      go_ret
      exact ⟨rfl, hk⟩
theorem WAt.cellsAt {ty : TypeId} {W : World} {base n cap : Nat} {a : Option Addr} {xs : List Fv} (h : WAt ty W base (.slice a n cap) xs) {j : Nat} {y : Fv} (hy : xs[j]? = some y) : ∃ g off, a = some ⟨g, off, none⟩ ∧ ∀ V, Kept [] W V → V.cell? ⟨g, off + j * 5, none⟩ = some (.int .i64 y.t) ∧ V.cell? ⟨g, off + j * 5 + 1, none⟩ = some (.int .i64 y.o) ∧ V.cell? ⟨g, off + j * 5 + 2, none⟩ = some (.int .i64 y.l) ∧ V.cell? ⟨g, off + j * 5 + 3, none⟩ = some (.slice y.sa y.len y.cap) ∧ V.cell? ⟨g, off + j * 5 + 4, none⟩ = some (.int .i64 y.st) := by
  obtain ⟨a', cap', e, _, h0 | ⟨g, off, h1, _, hL⟩⟩ := h.open
  · rw [h0] at hy
    simp at hy
  · injection e with e1 _ _
    exact ⟨g, off, e1.trans h1, fun V hV => hL.at hy hV (by simp)⟩
set_option maxRecDepth 100000 in
set_option maxHeartbeats 4000000 in
/-- The document's Same, at the same writes. -/
theorem rSame_any {b1 b2 : Nat} {xs ys : List Fv} (v u : Value) (w : World) (h : WAt 42 w b1 v xs) (h2 : WAt 42 w b2 u ys) (he : tl xs = tl ys) (hx : ∀ x ∈ xs, x.In w.heap.size w) (hy : ∀ y ∈ ys, y.In w.heap.size w) (hn6 : xs.length ≤ 600) :
    Calls Tryz.prog 14 #[v, u] w fun e w' => e = .returned (.bool true) ∧ Kept [] w w' := by
  have hl : ys.length = xs.length := by rw [← tl_length, ← he, tl_length]
  obtain ⟨a, cap, rfl, hcap, -⟩ := h.open
  obtain ⟨c, cap2, rfl, hcap2, -⟩ := h2.open
  obtain ⟨n, hnn⟩ : ∃ n, xs.length = n := ⟨_, rfl⟩
  rw [hl] at h2 hcap2 ⊢
  rw [hnn] at hcap hcap2 hn6 h h2 hl ⊢
  replace hnn : Hid (xs.length = n) := hnn
  replace hl : Hid (ys.length = n) := hl
  replace h : Hid (WAt 42 w b1 (.slice a n cap) xs) := h
  replace h2 : Hid (WAt 42 w b2 (.slice c n cap2) ys) := h2
  replace hx : Hid (∀ x ∈ xs, x.In w.heap.size w) := hx
  replace hy : Hid (∀ y ∈ ys, y.In w.heap.size w) := hy
  replace he : Hid _ := he
  go_enter Tryz.func14, Tryz.ntmps14
  go_wp2_with fail
  go_loopw [13] (fun i wr => ∃ j : Nat, j ≤ n ∧ i = .int .i64 j ∧ Kept [] w wr) (fun i _ => n - (RowKit.intOf i).toNat)
  case atStart => exact ⟨0, by omega, rfl, Kept.refl _ _⟩
  case round =>
    obtain ⟨j, hj, rfl, hk⟩ := hrel
    by_cases hlt : j < n
    · have hil : (j : Int) < (n : Int) := by omega
      have hj1 : (j : Int) + 1 < 9223372036854775808 := by omega
      obtain ⟨x, hxj⟩ : ∃ y, xs[j]? = some y := ⟨_, List.getElem?_eq_getElem (by rw [hnn.out]; exact hlt)⟩
      obtain ⟨y, hyj⟩ : ∃ y, ys[j]? = some y := ⟨_, List.getElem?_eq_getElem (by rw [hl.out]; exact hlt)⟩
      obtain ⟨g, off, rfl, hc⟩ := h.out.cellsAt hxj
      obtain ⟨g2, off2, rfl, hc2⟩ := h2.out.cellsAt hyj
      have hee : (x.t, x.fw) = (y.t, y.fw) := by
        have e1 := tl_at hxj
        rw [he.out, tl_at hyj] at e1
        exact (Option.some.inj e1).symm
      have z0 : y.t = x.t := by injection hee with e1 _; exact e1.symm
      have hfw : x.fw = y.fw := by injection hee
      unfold Fv.fw at hfw
      injection hfw with z1 z2 z3 z4
      have hX := hx.out x (List.mem_of_getElem? hxj)
      have hY := hy.out y (List.mem_of_getElem? hyj)
      have cx := fun m => conv_txt (hX.kept (Nat.le_refl _) (hk.trans (kept_drewN [] wr m)) (by simp))
      have cy := fun m => conv_txt (hY.kept (Nat.le_refl _) (hk.trans (kept_drewN [] wr m)) (by simp))
      rw [← z3] at cy
      simp only [z0, ← z1, ← z2, ← z4] at hc2
      have x0 := fun m => (hc (wr.drewN m) (hk.trans (kept_drewN [] _ _))).1
      have x1 := fun m => (hc (wr.drewN m) (hk.trans (kept_drewN [] _ _))).2.1
      have x2 := fun m => (hc (wr.drewN m) (hk.trans (kept_drewN [] _ _))).2.2.1
      have x3 := fun m => (hc (wr.drewN m) (hk.trans (kept_drewN [] _ _))).2.2.2.1
      have x4 := fun m => (hc (wr.drewN m) (hk.trans (kept_drewN [] _ _))).2.2.2.2
      have y0 := fun m => (hc2 (wr.drewN m) (hk.trans (kept_drewN [] _ _))).1
      have y1 := fun m => (hc2 (wr.drewN m) (hk.trans (kept_drewN [] _ _))).2.1
      have y2 := fun m => (hc2 (wr.drewN m) (hk.trans (kept_drewN [] _ _))).2.2.1
      have y3 := fun m => (hc2 (wr.drewN m) (hk.trans (kept_drewN [] _ _))).2.2.2.1
      have y4 := fun m => (hc2 (wr.drewN m) (hk.trans (kept_drewN [] _ _))).2.2.2.2
      generalize txt x.bs = S at *
      clear hxj hyj hc hc2 hX hY hee z0 z1 z2 z3 z4 hx hy
      go_wp2_with fail
      go_quiet (fail)
      go_wp2_with fail
      go_roundw
      case rel => exact ⟨j + 1, by omega, by go_num, hk.trans (kept_drewN [] _ _)⟩
      case measure => show n - (((j : Int) + 1).toNat) < n - ((j : Int).toNat); omega
    · obtain rfl : j = n := by omega
      have i1 : ¬ ((j : Int) < (j : Int)) := by omega
      go_wp2_with fail
      go_ret
      exact ⟨rfl, hk⟩
end Go.Proofs.YtollfckgjhklcaaGreat.Flight
