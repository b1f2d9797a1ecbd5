import Derived.Test.YtfiofdmefgkloaaGreatDataB
import Derived.Sort.CutIn
/-
  The walk of data.Write.
-/
namespace Go.Proofs.YtfiofdmefgkloaaGreat
open Go.RowKit Go.Maps Go.Shelf
open Math

attribute [local go_sem] Oper.semAt_some

theorem Blk.alloc {W : World} {g : Nat} {t : TypeId} {cs : Array Value} (h : Blk W g t cs) (o : Obj) : Blk (W.alloc o) g t cs := h.kept (kept_alloc [] W o) (by simp)
theorem Blk.drew {W : World} {g : Nat} {t : TypeId} {cs : Array Value} (h : Blk W g t cs) : Blk W.drew g t cs := h
/-- What a write has in memory: the disk, the span, the bytes, what it will tell. -/
structure WBox (W : World) (n d : Nat) (o l : Int) (v r : Value) : Prop where
  b0 : Blk W n 30 #[.pointer (some ⟨d, 0, none⟩)]
  b1 : Blk W (n + 1) 127 #[.int .i64 o, .int .i64 l]
  b2 : Blk W (n + 2) 24 #[v]
  b3 : Blk W (n + 3) 31 #[r]
theorem WBox.kept {L : List Nat} {A B : World} {n d : Nat} {o l : Int} {v r : Value} (h : WBox A n d o l v r) (hk : Kept L A B) (hL : ∀ k ∈ L, k < n ∨ n + 4 ≤ k) : WBox B n d o l v r :=
  ⟨h.b0.kept hk (fun hm => by have := hL _ hm; omega), h.b1.kept hk (fun hm => by have := hL _ hm; omega), h.b2.kept hk (fun hm => by have := hL _ hm; omega), h.b3.kept hk (fun hm => by have := hL _ hm; omega)⟩
theorem wbox_new (w : World) (d : Nat) (o l : Int) (v r : Value) :
    WBox ((((w.alloc (.cells #[.pointer (some ⟨d, 0, none⟩)] 30)).alloc (.cells #[.int .i64 o, .int .i64 l] 127)).alloc (.cells #[v] 24)).alloc (.cells #[r] 31)) w.heap.size d o l v r := by
  have a0 := blk_new w 30 #[.pointer (some ⟨d, 0, none⟩)]
  have a1 := blk_new (w.alloc (.cells #[.pointer (some ⟨d, 0, none⟩)] 30)) 127 #[.int .i64 o, .int .i64 l]
  have a2 := blk_new ((w.alloc (.cells #[.pointer (some ⟨d, 0, none⟩)] 30)).alloc (.cells #[.int .i64 o, .int .i64 l] 127)) 24 #[v]
  have a3 := blk_new (((w.alloc (.cells #[.pointer (some ⟨d, 0, none⟩)] 30)).alloc (.cells #[.int .i64 o, .int .i64 l] 127)).alloc (.cells #[v] 24)) 31 #[r]
  simp only [World.size_alloc] at a1 a2 a3
  exact ⟨((a0.alloc _).alloc _).alloc _, (a1.alloc _).alloc _, a2.alloc _, a3⟩
theorem WBox.cells {W : World} {n d : Nat} {o l : Int} {v r : Value} (h : WBox W n d o l v r) :
    W.cell? ⟨n, 0, none⟩ = some (.pointer (some ⟨d, 0, none⟩)) ∧ W.cell? ⟨n + 1, 0, none⟩ = some (.int .i64 o) ∧ W.cell? ⟨n + 1, 1, none⟩ = some (.int .i64 l) ∧ W.cell? ⟨n + 1 + 1, 0, none⟩ = some v ∧ W.cell? ⟨n + 1 + 1 + 1, 0, none⟩ = some r ∧ W.frozen? ⟨n + 1 + 1 + 1, 0, none⟩ = false :=
  ⟨h.b0.cell 0, h.b1.cell 0, h.b1.cell 1, h.b2.cell 0, h.b3.cell 0, h.b3.frozen 0⟩
theorem WBox.lt {W : World} {n d : Nat} {o l : Int} {v r : Value} (h : WBox W n d o l v r) : n + 4 ≤ W.heap.size := by
  have := h.b3.lt
  omega
set_option maxRecDepth 100000 in
/-- A result in a cell. -/
theorem results_errno {fn : Func} {p : Tmp} (h : fn.results = #[.cell p 31]) (tmps : Array Value) (w : World) (g : Nat) (v : Value) (hp : tmps[p]? = some (.pointer (some ⟨g, 0, none⟩))) (hv : w.cell? ⟨g, 0, none⟩ = some v) :
    (results fn tmps).run Tryz.prog w = .ok v w := by
  simp [results, h, go_sem, hp, hv]

set_option maxRecDepth 100000 in
set_option maxHeartbeats 1000000 in
/-- Write, of a span that the area has not -/
theorem dWrite_range (d b1 b2 : Nat) (s : Dk) (o l : Int) (a : Option Addr) (len cap : Nat) (w : World) (h : DiskAt w d b1 b2 s) (hg : Span.Math.good o l (dataN s : Nat) = false) :
    Calls Tryz.prog 64 #[.pointer (some ⟨d, 0, none⟩), .agg #[.int .i64 o, .int .i64 l], .slice a len cap] w fun e w' => e = .returned (.int .i64 13) ∧ Kept [] w w' := by
  have hb := wbox_new w d o l (.slice a len cap) (.int .i64 0)
  have hk : Kept [] w ((((w.alloc (.cells #[.pointer (some ⟨d, 0, none⟩)] 30)).alloc (.cells #[.int .i64 o, .int .i64 l] 127)).alloc (.cells #[.slice a len cap] 24)).alloc (.cells #[.int .i64 0] 31)) :=
    (((kept_alloc [] _ _).trans (kept_alloc [] _ _)).trans (kept_alloc [] _ _)).trans (kept_alloc [] _ _)
  have h1 := h.kept hk (by simp) (by simp) (by simp)
  have q := dfind_any d b1 b2 s o l _ h1
  rw [hg, if_neg (by simp)] at q
  go_enter Tryz.func64, Tryz.ntmps64
  go_wp2_with (go_at_call 104; refine q.mono ?_; rintro e w1 ⟨rfl, hk1⟩; have hb1 := hb.kept hk1 (by simp); obtain ⟨-, -, -, -, c4, f4⟩ := hb1.cells)
  refine bodyPost_ret (results_errno rfl _ _ (w.heap.size + 3) (.int .i64 13) rfl ((hb1.b3.set 0 _).cell 0)) rfl ⟨rfl, ?_⟩
  exact (hk.trans hk1).young (g := w.heap.size + 3) (kept_set (by simp) _ _ _) (by omega)
set_option maxRecDepth 100000 in
set_option maxHeartbeats 1000000 in
/-- Write, of too few bytes, or too many -/
theorem dWrite_arg (d b1 b2 : Nat) (s : Dk) (o l : Int) (a : Option Addr) (len cap : Nat) (w : World) (h : DiskAt w d b1 b2 s) (hg : Span.Math.good o l (dataN s : Nat) = true) (hn : (len : Int) ≠ 16 * l) :
    Calls Tryz.prog 64 #[.pointer (some ⟨d, 0, none⟩), .agg #[.int .i64 o, .int .i64 l], .slice a len cap] w fun e w' => e = .returned (.int .i64 2) ∧ Kept [] w w' := by
  have hb := wbox_new w d o l (.slice a len cap) (.int .i64 0)
  have hk : Kept [] w ((((w.alloc (.cells #[.pointer (some ⟨d, 0, none⟩)] 30)).alloc (.cells #[.int .i64 o, .int .i64 l] 127)).alloc (.cells #[.slice a len cap] 24)).alloc (.cells #[.int .i64 0] 31)) :=
    (((kept_alloc [] _ _).trans (kept_alloc [] _ _)).trans (kept_alloc [] _ _)).trans (kept_alloc [] _ _)
  have h1 := h.kept hk (by simp) (by simp) (by simp)
  have q := dfind_any d b1 b2 s o l _ h1
  rw [hg, if_pos rfl] at q
  have hgo := good_of hg
  have hne : ((len : Int) != l * 16) = true := by simp; omega
  have q2 := fun W => dsize_any o l (by omega) (by omega) W
  go_enter Tryz.func64, Tryz.ntmps64
  go_wp2_with (go_at_call 104; refine q.mono ?_; rintro e w1 ⟨rfl, hk1⟩; have hb1 := hb.kept hk1 (by simp); obtain ⟨c0, c1, c2, c3, c4, f4⟩ := hb1.cells)
  go_region_with (first | (go_at_call 105; refine (q2 _).mono ?_; rintro e w2 ⟨rfl, hk2⟩; have hb2 := (hb1.kept (kept_drew [] w1) (by simp)).kept hk2 (by simp); obtain ⟨g0, g1, g2, g3, g4, e4⟩ := hb2.cells))
  all_goals
    go_wp2
    refine bodyPost_ret (results_errno rfl _ _ (w.heap.size + 3) (.int .i64 2) rfl ((hb2.b3.set 0 _).cell 0)) rfl ⟨rfl, ?_⟩
    exact (((hk.trans hk1).trans (kept_drew [] _)).trans hk2).young (g := w.heap.size + 3) (kept_set (by simp) _ _ _) (by omega)

theorem Kept.keepsFrom {L : List Nat} {A B : World} {n : Nat} (h : Kept L A B) (hL : ∀ k ∈ L, k < n) : KeepsFrom n A B :=
  ⟨h.size, fun k o hn hk _ => (h.block k (Array.getElem?_eq_some_iff.1 hk).1 (fun hm => by have := hL k hm; omega)).trans hk⟩
/-- A turn of a block from B on is seen by no block below it. -/
theorem kept_grown {W W' : World} {row : Option Nat} {B : Nat} (hg : W.grownBy W' row) (hr : ∀ r, row = some r → B ≤ r) : ∃ L, Kept L W W' ∧ ∀ k ∈ L, B ≤ k := by
  refine ⟨row.toList, ⟨hg.os, hg.tape, hg.output, hg.size, fun k hk hn => hg.block k hk (fun e => hn (by simp [← e]))⟩, fun k hk => hr k (by simpa using hk)⟩
theorem kept_put {W : World} {D : Nat} (o : Obj) : Kept [D] W (W.putObj D o) := by
  obtain ⟨L, h1, h2⟩ := kept_grown (B := D) (grownBy_putObj' W D o) (fun r e => by cases e; exact Nat.le_refl _)
  refine ⟨h1.os, h1.tape, h1.output, h1.size, fun k hk hn => World.putObj_heap_other (by simpa using hn)⟩
theorem mods_range (n : Nat) : ∀ k, k ≤ n → (List.range k).map (· % n) = List.range k := fun k hk => by
  conv => rhs; rw [← List.map_id (List.range k)]
  refine List.map_congr_left fun i hi => ?_
  have : i < k := by simpa using hi
  exact Nat.mod_eq_of_lt (by omega)
theorem mods_lt {n : Nat} (hn : 1 ≤ n) (pre : List Nat) : ∀ i ∈ pre.map (· % n), i < n := fun i hi => by
  obtain ⟨x, _, rfl⟩ := List.mem_map.1 hi
  exact Nat.mod_lt _ (by omega)

/-- What lies between two sectors of a write. -/
structure WMid (W0 W : World) (n d b1 b2 : Nat) (o l : Int) (v r : Value) (s : Dk) : Prop where
  box : WBox W n d o l v r
  disk : DiskAt W d b1 b2 s
  kept : Kept [d, b1, b2, n + 3] W0 W
theorem WMid.grown {W0 A B : World} {row : Option Nat} {n d b1 b2 : Nat} {o l : Int} {v r : Value} {s : Dk} (h : WMid W0 A n d b1 b2 o l v r s) (hn : n + 4 ≤ W0.heap.size) (hd : d < W0.heap.size ∧ b1 < W0.heap.size ∧ b2 < W0.heap.size) (hg : A.grownBy B row) (hr : ∀ r, row = some r → W0.heap.size ≤ r) : WMid W0 B n d b1 b2 o l v r s := by
  obtain ⟨L, hk, hL⟩ := kept_grown hg hr
  refine ⟨h.box.kept hk (fun k hm => by have := hL k hm; omega), h.disk.kept hk (fun hm => by have := hL _ hm; omega) (fun hm => by have := hL _ hm; omega) (fun hm => by have := hL _ hm; omega), ?_⟩
  exact ⟨hk.os.trans h.kept.os, hk.tape.trans h.kept.tape, hk.output.trans h.kept.output, Nat.le_trans h.kept.size hk.size, fun i hi hn => (hk.block i (Nat.lt_of_lt_of_le hi h.kept.size) (fun hm => by have := hL i hm; omega)).trans (h.kept.block i hi hn)⟩

section
variable {F : Fence} {n : Nat} {ops : Array Oper} {rest : List Oper} {o : Oper} {a : Act} {w : World} {Q : Exit → Act → World → Prop}
set_option maxRecDepth 100000 in
/-- A whole sector loaded, inside a fence. -/
theorem wpListIn_load_arr (hgd : o.guard = none) (x : Operand) (ho : o.op = .load 95 x) (g : Nat) (t : TypeId) (l : List Nat) (hx : a.eval x = .pointer (some ⟨g, 0, none⟩)) (h0 : Arr w g t l) (hl : l.length = 16)
    (h : wpListIn F n Tryz.prog ops Q rest (a.put o.dst (.agg (l.map enc).toArray)) w) : wpListIn F n Tryz.prog ops Q (o :: rest) a w := by
  refine wpListIn_plain hgd fun K hK => ?_
  have hrun := load_arr h0 hl
  unfold Oper.wpIn
  refine ⟨?_, ?_⟩
  · simp [Oper.about, ho]
  · rw [Oper.semAt_plain F _ _ (by rw [ho]; intro c hc'; cases hc')]
    simp [execOp, ho, hx, hrun, Result.andThen]
    exact hK _ _ h
set_option maxRecDepth 100000 in
/-- A whole sector stored, inside a fence. -/
theorem wpListIn_store_arr (hgd : o.guard = none) (x y : Operand) (ho : o.op = .store 95 x y) (g : Nat) (t : TypeId) (l0 l : List Nat) (hx : a.eval x = .pointer (some ⟨g, 0, none⟩)) (hy : a.eval y = .agg (l.map enc).toArray) (h0 : Arr w g t l0) (hl0 : l0.length = 16) (hl : l.length = 16)
    (h : ∀ w', Arr w' g t l → Kept [g] w w' → Hid (w'.heap.size = w.heap.size) → wpListIn F n Tryz.prog ops Q rest (a.put o.dst undef) w') : wpListIn F n Tryz.prog ops Q (o :: rest) a w := by
  refine wpListIn_plain hgd fun K hK => ?_
  have hrun := run_storeAt_mid (P := Tryz.prog) w g 0 95 (l.map enc).toArray (by have := h0.there; simpa [hl, hl0] using this) (by simpa [hl] using Tryz.size95) (all_oneCell_toArray (enc_one _))
  unfold Oper.wpIn
  refine ⟨?_, ?_⟩
  · simp [Oper.about, ho]
  · rw [Oper.semAt_plain F _ _ (by rw [ho]; intro c hc'; cases hc')]
    simp [execOp, ho, hx, hy, hrun, Result.andThen]
    have e : w.setCells g 0 (l.map enc) = w.setRow g (l.map enc).toArray := setCells_row h0 (by simp [hl, hl0]) (enc_one l)
    refine hK _ _ (h _ (h0.setAll l (by omega)) ?_ ?_)
    · rw [e]
      exact ⟨rfl, rfl, rfl, by simp [World.setRow], fun k _ hk => setRow_other w g k _ (by simpa using hk)⟩
    · rw [e]
      show _ = _
      simp [World.setRow]
end
end Go.Proofs.YtfiofdmefgkloaaGreat

