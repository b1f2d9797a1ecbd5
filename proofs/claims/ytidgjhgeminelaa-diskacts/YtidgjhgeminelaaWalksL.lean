/-
  A disk that no call made: each call tells so, and nothing is done; the walk of DiskNone.
-/
import Derived.Test.YtidgjhgeminelaaWalksJ
namespace Go.Proofs.Ytidgjhgeminelaa
open Go.RowKit Go.Maps Go.Shelf
open Math

/-- A load whose guard is met. -/
theorem wpList_load_wanted {ops : Array Oper} {rest : List Oper} {op : Oper} {a : Act} {w : World} {Q : Exit → Act → World → Prop} (hw : Region.wanted op (yielded ops a.tmps) = true) (ty : TypeId) (x : Operand) (ho : op.op = .load ty x)
    (b o : Nat) (hx : a.eval x = .pointer (some ⟨b, o, none⟩)) (cs : List Value) (d : TypeDesc) (hc : w.rangeAt b o cs)
    (hu : Try.prog.underlying ty = some d) (hd : d.isRow = true) (hi : (Try.prog.info? ty).map (·.size) = some cs.length)
    (h : wpList Try.prog ops Q rest (a.put op.dst (.agg cs.toArray)) w) : wpList Try.prog ops Q (op :: rest) a w := by
  unfold wpList
  rw [if_pos hw]
  exact .inl (wp_load_mid ty x ho b o hx cs d hc hu hd hi h)

/-- The cells of a disk that no call made. -/
def zeroDisk : Array Value := #[.int .i64 0, .map none, .map none, .int .i64 0, .bool false, .int .i64 0]
/-- A disk that no call made: nil, or zero. -/
def NoDisk (W : World) (p : Option Addr) : Prop := p = none ∨ ∃ g, p = some ⟨g, 0, none⟩ ∧ Blk W g 56 zeroDisk
theorem NoDisk.kept {A B : World} {p : Option Addr} (h : NoDisk A p) (hk : Kept [] A B) : NoDisk B p := by
  rcases h with rfl | ⟨g, rfl, h⟩
  · exact .inl rfl
  · exact .inr ⟨g, rfl, h.kept hk (by simp)⟩
theorem made_none (p : Option Addr) (w : World) (h : NoDisk w p) :
    Calls Try.prog 10 #[.pointer p] w fun e w' => e = .returned (.bool false) ∧ w' = w := by
  rcases h with rfl | ⟨g, rfl, h⟩
  · go_enter Try.func10, Try.ntmps10
    go_wp2
    go_ret
    exact ⟨rfl, rfl⟩
  · have c0 : w.cell? ⟨g, 0, none⟩ = some (.int .i64 0) := h.cell 0
    go_enter Try.func10, Try.ntmps10
    go_wp2
    go_ret
    exact ⟨rfl, rfl⟩
/-- Size, Ops, Broken, find, Flush, Cached, Copy, Fuse, Crash of such a disk -/
theorem size_none (p : Option Addr) (w : World) (h : NoDisk w p) :
    Calls Try.prog 23 #[.pointer p] w fun e w' => e = .returned (.int .i64 0) ∧ w' = w := by
  have q := made_none p w h
  go_enter Try.func23, Try.ntmps23
  go_wp2_with (go_at_call 10; refine q.mono ?_; rintro e w ⟨rfl, rfl⟩)
  go_ret
  exact ⟨rfl, rfl⟩
theorem ops_none (p : Option Addr) (w : World) (h : NoDisk w p) :
    Calls Try.prog 21 #[.pointer p] w fun e w' => e = .returned (.int .i64 0) ∧ w' = w := by
  have q := made_none p w h
  go_enter Try.func21, Try.ntmps21
  go_wp2_with (go_at_call 10; refine q.mono ?_; rintro e w ⟨rfl, rfl⟩)
  go_ret
  exact ⟨rfl, rfl⟩
theorem broken_none (p : Option Addr) (w : World) (h : NoDisk w p) :
    Calls Try.prog 20 #[.pointer p] w fun e w' => e = .returned (.bool false) ∧ w' = w := by
  have q := made_none p w h
  go_enter Try.func20, Try.ntmps20
  go_wp2_with (go_at_call 10; refine q.mono ?_; rintro e w ⟨rfl, rfl⟩)
  go_ret
  exact ⟨rfl, rfl⟩
theorem find_none (p : Option Addr) (k : Int) (w : World) (h : NoDisk w p) :
    Calls Try.prog 30 #[.pointer p, .int .i64 k] w fun e w' => e = .returned (.int .i64 1) ∧ w' = w := by
  have q := made_none p w h
  go_enter Try.func30, Try.ntmps30
  go_wp2_with (go_at_call 10; refine q.mono ?_; rintro e w ⟨rfl, rfl⟩)
  go_ret
  exact ⟨rfl, rfl⟩
theorem flush_none (p : Option Addr) (w : World) (h : NoDisk w p) :
    Calls Try.prog 15 #[.pointer p] w fun e w' => e = .returned (.int .i64 1) ∧ w' = w := by
  have q := made_none p w h
  go_enter Try.func15, Try.ntmps15
  go_wp2_with (go_at_call 10; refine q.mono ?_; rintro e w ⟨rfl, rfl⟩)
  go_ret
  exact ⟨rfl, rfl⟩
theorem cached_none (p : Option Addr) (w : World) (h : NoDisk w p) :
    Calls Try.prog 19 #[.pointer p] w fun e w' => e = .returned (.slice none 0 0) ∧ w' = w := by
  have q := made_none p w h
  go_enter Try.func19, Try.ntmps19
  go_wp2_with (go_at_call 10; refine q.mono ?_; rintro e w ⟨rfl, rfl⟩)
  go_ret
  exact ⟨rfl, rfl⟩
theorem copy_none (p : Option Addr) (w : World) (h : NoDisk w p) :
    Calls Try.prog 12 #[.pointer p] w fun e w' => e = .returned (.pointer none) ∧ w' = w := by
  have q := made_none p w h
  go_enter Try.func12, Try.ntmps12
  go_wp2_with (go_at_call 10; refine q.mono ?_; rintro e w ⟨rfl, rfl⟩)
  go_ret
  exact ⟨rfl, rfl⟩
theorem fuse_none (p : Option Addr) (k : Int) (w : World) (h : NoDisk w p) :
    Calls Try.prog 16 #[.pointer p, .int .i64 k] w fun e w' => e = .returned (.tuple #[]) ∧ w' = w := by
  have q := made_none p w h
  go_enter Try.func16, Try.ntmps16
  go_wp2_with (go_at_call 10; refine q.mono ?_; rintro e w ⟨rfl, rfl⟩)
  go_end0
  exact ⟨rfl, rfl⟩
theorem crash_none (p : Option Addr) (m : Int) (w : World) (h : NoDisk w p) :
    Calls Try.prog 17 #[.pointer p, .int .u64 m] w fun e w' => e = .returned (.tuple #[]) ∧ w' = w := by
  have q := made_none p w h
  go_enter Try.func17, Try.ntmps17
  go_wp2_with (go_at_call 10; refine q.mono ?_; rintro e w ⟨rfl, rfl⟩)
  refine bodyPost_ret (results_none rfl _ _ _) rfl ?_
  exact ⟨rfl, rfl⟩
set_option maxRecDepth 100000 in
theorem durable_none (p : Option Addr) (k : Int) (w : World) (h : NoDisk w p) :
    Calls Try.prog 18 #[.pointer p, .int .i64 k] w fun e w' => e = .returned (arr nought) ∧ Kept [] w w' := by
  have q := made_none p _ (h.kept (kept_alloc [] w (.cells #[.int .u8 0, .int .u8 0, .int .u8 0, .int .u8 0, .int .u8 0, .int .u8 0, .int .u8 0, .int .u8 0, .int .u8 0, .int .u8 0, .int .u8 0, .int .u8 0, .int .u8 0, .int .u8 0, .int .u8 0, .int .u8 0] 32)))
  have hN : Arr (w.alloc (.cells #[.int .u8 0, .int .u8 0, .int .u8 0, .int .u8 0, .int .u8 0, .int .u8 0, .int .u8 0, .int .u8 0, .int .u8 0, .int .u8 0, .int .u8 0, .int .u8 0, .int .u8 0, .int .u8 0, .int .u8 0, .int .u8 0] 32)) w.heap.size 32 nought := arr_new w 32 nought
  go_enter Try.func18, Try.ntmps18
  go_wp2_with (first
    | (go_at_call 10; refine q.mono ?_; rintro e w' ⟨rfl, rfl⟩)
    | (refine wpList_store_arr rfl 32 _ _ rfl _ 32 _ nought rfl rfl hN rfl Try.size32 ?_; intro w2 hA2 hk2 hz2; replace hz2 : Hid _ := hz2))
  refine bodyPost_ret (v := arr nought) (results_cell_row rfl _ _ _ 32 (nought.map enc).toArray (0, 0) _ rfl hA2 Try.underlying32 rfl Try.size32) rfl ⟨rfl, ?_⟩
  exact (kept_alloc _ _ _).young hk2 (Nat.le_refl _)
set_option maxRecDepth 100000 in
theorem read_none (p : Option Addr) (k : Int) (w : World) (h : NoDisk w p) :
    Calls Try.prog 22 #[.pointer p, .int .i64 k] w fun e w' => e = .returned (.tuple #[arr nought, .int .i64 1]) ∧ Kept [] w w' := by
  have q := find_none p k _ (h.kept (kept_alloc [] w (.cells #[.int .u8 0, .int .u8 0, .int .u8 0, .int .u8 0, .int .u8 0, .int .u8 0, .int .u8 0, .int .u8 0, .int .u8 0, .int .u8 0, .int .u8 0, .int .u8 0, .int .u8 0, .int .u8 0, .int .u8 0, .int .u8 0] 32)))
  have hN : Arr (w.alloc (.cells #[.int .u8 0, .int .u8 0, .int .u8 0, .int .u8 0, .int .u8 0, .int .u8 0, .int .u8 0, .int .u8 0, .int .u8 0, .int .u8 0, .int .u8 0, .int .u8 0, .int .u8 0, .int .u8 0, .int .u8 0, .int .u8 0] 32)) w.heap.size 32 nought := arr_new w 32 nought
  go_enter Try.func22, Try.ntmps22
  go_wp2_with (first
    | (go_at_call 30; refine q.mono ?_; rintro e w' ⟨rfl, rfl⟩)
    | (refine wpList_store_arr rfl 32 _ _ rfl w.heap.size 32 _ nought rfl rfl hN rfl Try.size32 ?_; intro w3 hB3 hk3 hz3; replace hz3 : Hid _ := hz3))
  refine bodyPost_ret (results_arr rfl _ _ w.heap.size nought (.int .i64 1) rfl rfl hB3 rfl) rfl ⟨rfl, ?_⟩
  exact (kept_alloc _ _ _).young hk3 (Nat.le_refl _)
theorem write_none (p : Option Addr) (k : Int) (x : List Nat) (w : World) (h : NoDisk w p) :
    Calls Try.prog 13 #[.pointer p, .int .i64 k, arr x] w fun e w' => e = .returned (.int .i64 1) ∧ Kept [] w w' := by
  have q := find_none p k _ (h.kept (kept_alloc [] w (.cells (x.map enc).toArray 32)))
  simp only [arr] at ⊢
  go_enter Try.func13, Try.ntmps13
  go_wp2_with (first
    | (go_at_call 30; refine q.mono ?_; rintro e w' ⟨rfl, rfl⟩))
  go_ret
  exact ⟨rfl, kept_alloc _ _ _⟩
theorem neqs_same (x : List Nat) (hx : Sec x) (w : World) : (binOp .neq 32 (arr x) (arr x)).run Try.prog w = .ok (.bool false) w := by
  have := neq_arr 32 16 Try.underlying32 x x hx.1 hx.1 hx.2 hx.2 w
  simpa using this

set_option maxRecDepth 100000 in
set_option maxHeartbeats 4000000 in
/-- DiskNone -/
theorem none_walk (a : Ac) (ha : a.Ok) (w : World) :
    Calls Try.prog 6 #[.agg a.cells.toArray] w fun e w' => e = .returned (.bool true) ∧ Kept [] w w' := by
  have q7 := lives_any
  obtain ⟨n, hn⟩ : ∃ n, w.heap.size = n := ⟨_, rfl⟩
  have HN : Hid (w.heap.size = n) := hn
  have b1 : Blk (w.alloc (.cells a.cells.toArray 35)) n 35 a.cells.toArray := hn ▸ blk_new w 35 _
  have b2 : Blk ((w.alloc (.cells a.cells.toArray 35)).alloc (.cells zeroDisk 56)) (n + 1) 56 zeroDisk := by
    have := blk_new (w.alloc (.cells a.cells.toArray 35)) 56 zeroDisk
    rwa [World.size_alloc, hn] at this
  have b3 : Blk (((w.alloc (.cells a.cells.toArray 35)).alloc (.cells zeroDisk 56)).alloc (.cells #[.pointer none, .pointer (some ⟨n + 1, 0, none⟩)] 24)) (n + 2) 24 #[.pointer none, .pointer (some ⟨n + 1, 0, none⟩)] := by
    have := blk_new ((w.alloc (.cells a.cells.toArray 35)).alloc (.cells zeroDisk 56)) 24 #[.pointer none, .pointer (some ⟨n + 1, 0, none⟩)]
    rwa [World.size_alloc, World.size_alloc, hn] at this
  replace b1 : Blk (((w.alloc (.cells a.cells.toArray 35)).alloc (.cells zeroDisk 56)).alloc (.cells #[.pointer none, .pointer (some ⟨n + 1, 0, none⟩)] 24)) n 35 a.cells.toArray := (b1.kept (kept_alloc [] _ _) (by simp)).kept (kept_alloc [] _ _) (by simp)
  replace b2 : Blk (((w.alloc (.cells a.cells.toArray 35)).alloc (.cells zeroDisk 56)).alloc (.cells #[.pointer none, .pointer (some ⟨n + 1, 0, none⟩)] 24)) (n + 1) 56 zeroDisk := b2.kept (kept_alloc [] _ _) (by simp)
  have hk0 : Kept [] w (((w.alloc (.cells a.cells.toArray 35)).alloc (.cells zeroDisk 56)).alloc (.cells #[.pointer none, .pointer (some ⟨n + 1, 0, none⟩)] 24)) := ((kept_alloc [] _ _).trans (kept_alloc [] _ _)).trans (kept_alloc [] _ _)
  have f1 : Blk (((w.alloc (.cells a.cells.toArray 35)).alloc (.cells #[.int .i64 0, .map none, .map none, .int .i64 0, .bool false, .int .i64 0] 56)).alloc (.cells #[.pointer none, .pointer (some ⟨w.heap.size + 1, 0, none⟩)] 24)) w.heap.size 35 a.cells.toArray := by rw [hn]; exact b1
  have f2 : Blk (((w.alloc (.cells a.cells.toArray 35)).alloc (.cells #[.int .i64 0, .map none, .map none, .int .i64 0, .bool false, .int .i64 0] 56)).alloc (.cells #[.pointer none, .pointer (some ⟨w.heap.size + 1, 0, none⟩)] 24)) (w.heap.size + 1) 56 zeroDisk := by rw [hn]; exact b2
  have f3 : Blk (((w.alloc (.cells a.cells.toArray 35)).alloc (.cells #[.int .i64 0, .map none, .map none, .int .i64 0, .bool false, .int .i64 0] 56)).alloc (.cells #[.pointer none, .pointer (some ⟨w.heap.size + 1, 0, none⟩)] 24)) (w.heap.size + 2) 24 #[.pointer none, .pointer (some ⟨w.heap.size + 1, 0, none⟩)] := by rw [hn]; exact b3
  have hkw : Kept [] w (((w.alloc (.cells a.cells.toArray 35)).alloc (.cells #[.int .i64 0, .map none, .map none, .int .i64 0, .bool false, .int .i64 0] 56)).alloc (.cells #[.pointer none, .pointer (some ⟨w.heap.size + 1, 0, none⟩)] 24)) := by rw [hn]; exact hk0
  clear b1 b2 b3 hk0 HN hn
  have hz := neqs_same nought sec_nought
  have hg := fun op a b w => guard32 op a b nought nought w
  simp only [z16] at hz hg
  go_enter Try.func6, Try.ntmps6
  go_wp2
  generalize (((w.alloc (.cells a.cells.toArray 35)).alloc (.cells #[.int .i64 0, .map none, .map none, .int .i64 0, .bool false, .int .i64 0] 56)).alloc (.cells #[.pointer none, .pointer (some ⟨w.heap.size + 1, 0, none⟩)] 24)) = w0 at *
  go_loopw [13] (fun i wr => ∃ j : Nat, j ≤ 2 ∧ i = .int .i64 j ∧ Kept [] w0 wr) (fun i _ => 2 - (RowKit.intOf i).toNat)
  case atStart => exact ⟨0, by omega, rfl, Kept.refl _ _⟩
  case round =>
    obtain ⟨j, hj, rfl, hK⟩ := hrel
    by_cases hlt : j < 2
    · have kk : (j : Int) < 2 := by omega
      have hm1 : Hid (2 - (j + 1) < 2 - j) := by show _ < _; omega
      have g3 := f3.kept hK (by simp)
      obtain ⟨p, hc, hno⟩ : ∃ p, wr.cell? ⟨w.heap.size + 1 + 1, j, none⟩ = some (.pointer p) ∧ NoDisk wr p := by
        rcases (show j = 0 ∨ j = 1 by omega) with rfl | rfl
        · exact ⟨none, g3.cell 0, .inl rfl⟩
        · exact ⟨_, g3.cell 1, .inr ⟨_, rfl, f2.kept hK (by simp)⟩⟩
      obtain ⟨-, c1, -, c3⟩ := act_range (f1.kept hK (by simp)) ha
      have HB : Hid (Blk wr w.heap.size 35 a.cells.toArray) := f1.kept hK (by simp)
      have hN : ∀ W : World, Arr (W.alloc (.cells #[.int .u8 0, .int .u8 0, .int .u8 0, .int .u8 0, .int .u8 0, .int .u8 0, .int .u8 0, .int .u8 0, .int .u8 0, .int .u8 0, .int .u8 0, .int .u8 0, .int .u8 0, .int .u8 0, .int .u8 0, .int .u8 0] 32)) W.heap.size 32 nought := fun W => arr_new W 32 nought
      have qR := read_none p a.at_ wr hno
      have qD := fun W (h : NoDisk W p) => durable_none p a.at_ W h
      simp only [z16] at qR qD
      clear f1 f2 f3 g3
      go_wp2_with (first
        | (go_at_call 22; refine qR.mono ?_; rintro e w1 ⟨rfl, hk1⟩; clear qR)
        | (refine wpList_store_arr rfl 32 _ _ rfl w1.heap.size 32 _ nought rfl rfl (hN w1) rfl Try.size32 ?_; intro w2 hA2 hk2 hz2; replace hz2 : Hid _ := hz2; have hk02 : Kept [] wr w2 := (hk1.trans (kept_alloc [] w1 (.cells #[.int .u8 0, .int .u8 0, .int .u8 0, .int .u8 0, .int .u8 0, .int .u8 0, .int .u8 0, .int .u8 0, .int .u8 0, .int .u8 0, .int .u8 0, .int .u8 0, .int .u8 0, .int .u8 0, .int .u8 0, .int .u8 0] 32))).young hk2 hk1.size; have hno2 := hno.kept hk02; obtain ⟨-, c1', cS, c3'⟩ := act_range (HB.out.kept hk02 (by simp)) ha; replace cS : Hid _ := cS)
        | (go_at_call 16; refine (fuse_none p _ _ hno2).mono ?_; rintro e w2 ⟨rfl, rfl⟩)
        | (go_at_call 17; refine (crash_none p _ _ hno2).mono ?_; rintro e w2 ⟨rfl, rfl⟩)
        | refine wpList_load_wanted rfl 32 _ rfl w.heap.size 2 rfl (a.s.map enc) _ cS.out Try.underlying32 rfl (by rw [List.length_map, ha.sec.1]; exact Try.size32) ?_
        | (go_at_call 13; refine (write_none p _ a.s _ hno2).mono ?_; rintro e w3 ⟨rfl, hk3⟩; have hno3 := hno2.kept hk3; obtain ⟨-, c1'', -, -⟩ := act_range ((HB.out.kept hk02 (by simp)).kept hk3 (by simp)) ha)
        | (go_at_call 15; refine (flush_none p _ hno3).mono ?_; rintro e w3 ⟨rfl, rfl⟩)
        | (go_at_call 10; refine (made_none p _ hno3).mono ?_; rintro e w3 ⟨rfl, rfl⟩)
        | (go_at_call 20; refine (broken_none p _ hno3).mono ?_; rintro e w3 ⟨rfl, rfl⟩)
        | (go_at_call 23; refine (size_none p _ hno3).mono ?_; rintro e w3 ⟨rfl, rfl⟩)
        | (go_at_call 21; refine (ops_none p _ hno3).mono ?_; rintro e w3 ⟨rfl, rfl⟩)
        | (go_at_call 19; refine (cached_none p _ hno3).mono ?_; rintro e w3 ⟨rfl, rfl⟩)
        | (go_at_call 18; refine (qD _ hno3).mono ?_; rintro e w4 ⟨rfl, hk4⟩; have hno4 := hno3.kept hk4)
        | (go_at_call 12; refine (copy_none p _ hno4).mono ?_; rintro e w4 ⟨rfl, rfl⟩))
      go_roundw
      case rel => exact ⟨j + 1, by omega, rfl, ((hK.trans hk02).trans hk3).trans hk4⟩
      case measure => simpa [RowKit.intOf] using hm1.out
    · obtain rfl : j = 2 := by omega
      go_wp2_with (first
        | (go_at_call 7; refine (q7 _).mono ?_; rintro e w5 ⟨rfl, hk5⟩))
      go_ret
      exact ⟨rfl, (hkw.trans hK).trans hk5⟩
end Go.Proofs.Ytidgjhgeminelaa
