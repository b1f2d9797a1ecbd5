/-
  A disk that no call made: each call tells so, and nothing is done; the walk of DiskNone.
-/
import Derived.Test.YtekjlmnnaaodjaaGreatWalksH
namespace Go.Proofs.YtekjlmnnaaodjaaGreat
open Go.RowKit Go.Maps Go.Shelf
open Math

set_option maxRecDepth 100000 in
/-- A load whose guard is met. -/
theorem wpList_load_wanted {ops : Array Oper} {rest : List Oper} {op : Oper} {a : Act} {w : World} {Q : Exit → Act → World → Prop} (hw : Region.wanted op (yielded ops a.tmps) = true) (ty : TypeId) (x : Operand) (ho : op.op = .load ty x)
    (b o : Nat) (hx : a.eval x = .pointer (some ⟨b, o, none⟩)) (cs : List Value) (d : TypeDesc) (hc : w.rangeAt b o cs)
    (hu : Tryz.prog.underlying ty = some d) (hd : d.isRow = true) (hi : (Tryz.prog.info? ty).map (·.size) = some cs.length)
    (h : wpList Tryz.prog ops Q rest (a.put op.dst (.agg cs.toArray)) w) : wpList Tryz.prog ops Q (op :: rest) a w := by
  unfold wpList
  rw [if_pos hw]
  exact .inl (wp_load_mid ty x ho b o hx cs d hc hu hd hi h)

/-- The cells of a disk that no call made. -/
def zeroDisk : Array Value := #[.int .i64 0, .map none, .map none, .int .i64 0, .bool false, .int .i64 0]
/-- A disk that no call made: nil, or zero. -/
def NoDisk (W : World) (p : Option Addr) : Prop := p = none ∨ ∃ g, p = some ⟨g, 0, none⟩ ∧ Blk W g 50 zeroDisk
theorem NoDisk.kept {A B : World} {p : Option Addr} (h : NoDisk A p) (hk : Kept [] A B) : NoDisk B p := by
  rcases h with rfl | ⟨g, rfl, h⟩
  · exact .inl rfl
  · exact .inr ⟨g, rfl, h.kept hk (by simp)⟩
set_option maxRecDepth 100000 in
theorem made_none (p : Option Addr) (w : World) (h : NoDisk w p) :
    Calls Tryz.prog 18 #[.pointer p] w fun e w' => e = .returned (.bool false) ∧ w' = w := by
  rcases h with rfl | ⟨g, rfl, h⟩
  · go_enter Tryz.func18, Tryz.ntmps18
    go_wp2
    go_ret
    exact ⟨rfl, rfl⟩
  · have c0 : w.cell? ⟨g, 0, none⟩ = some (.int .i64 0) := h.cell 0
    go_enter Tryz.func18, Tryz.ntmps18
    go_wp2
    go_ret
    exact ⟨rfl, rfl⟩
set_option maxRecDepth 100000 in
/-- Size, Ops, Broken, find, Flush, Cached, Copy, Fuse, Crash of such a disk -/
theorem size_none (p : Option Addr) (w : World) (h : NoDisk w p) :
    Calls Tryz.prog 46 #[.pointer p] w fun e w' => e = .returned (.int .i64 0) ∧ w' = w := by
  have q := made_none p w h
  go_enter Tryz.func46, Tryz.ntmps46
  go_wp2_with (go_at_call 18; refine q.mono ?_; rintro e w ⟨rfl, rfl⟩)
  go_ret
  exact ⟨rfl, rfl⟩
set_option maxRecDepth 100000 in
theorem ops_none (p : Option Addr) (w : World) (h : NoDisk w p) :
    Calls Tryz.prog 17 #[.pointer p] w fun e w' => e = .returned (.int .i64 0) ∧ w' = w := by
  have q := made_none p w h
  go_enter Tryz.func17, Tryz.ntmps17
  go_wp2_with (go_at_call 18; refine q.mono ?_; rintro e w ⟨rfl, rfl⟩)
  go_ret
  exact ⟨rfl, rfl⟩
set_option maxRecDepth 100000 in
theorem broken_none (p : Option Addr) (w : World) (h : NoDisk w p) :
    Calls Tryz.prog 19 #[.pointer p] w fun e w' => e = .returned (.bool false) ∧ w' = w := by
  have q := made_none p w h
  go_enter Tryz.func19, Tryz.ntmps19
  go_wp2_with (go_at_call 18; refine q.mono ?_; rintro e w ⟨rfl, rfl⟩)
  go_ret
  exact ⟨rfl, rfl⟩
set_option maxRecDepth 100000 in
theorem find_none (p : Option Addr) (k : Int) (w : World) (h : NoDisk w p) :
    Calls Tryz.prog 49 #[.pointer p, .int .i64 k] w fun e w' => e = .returned (.int .i64 1) ∧ w' = w := by
  have q := made_none p w h
  go_enter Tryz.func49, Tryz.ntmps49
  go_wp2_with (go_at_call 18; refine q.mono ?_; rintro e w ⟨rfl, rfl⟩)
  go_ret
  exact ⟨rfl, rfl⟩
set_option maxRecDepth 100000 in
theorem flush_none (p : Option Addr) (w : World) (h : NoDisk w p) :
    Calls Tryz.prog 35 #[.pointer p] w fun e w' => e = .returned (.int .i64 1) ∧ w' = w := by
  have q := made_none p w h
  go_enter Tryz.func35, Tryz.ntmps35
  go_wp2_with (go_at_call 18; refine q.mono ?_; rintro e w ⟨rfl, rfl⟩)
  go_ret
  exact ⟨rfl, rfl⟩
set_option maxRecDepth 100000 in
theorem cached_none (p : Option Addr) (w : World) (h : NoDisk w p) :
    Calls Tryz.prog 41 #[.pointer p] w fun e w' => e = .returned (.slice none 0 0) ∧ w' = w := by
  have q := made_none p w h
  go_enter Tryz.func41, Tryz.ntmps41
  go_wp2_with (go_at_call 18; refine q.mono ?_; rintro e w ⟨rfl, rfl⟩)
  go_ret
  exact ⟨rfl, rfl⟩
set_option maxRecDepth 100000 in
theorem fuse_none (p : Option Addr) (k : Int) (w : World) (h : NoDisk w p) :
    Calls Tryz.prog 11 #[.pointer p, .int .i64 k] w fun e w' => e = .returned (.tuple #[]) ∧ w' = w := by
  have q := made_none p w h
  go_enter Tryz.func11, Tryz.ntmps11
  go_wp2_with (go_at_call 18; refine q.mono ?_; rintro e w ⟨rfl, rfl⟩)
  go_end0
  exact ⟨rfl, rfl⟩
set_option maxRecDepth 100000 in
theorem crash_none (p : Option Addr) (m : Int) (w : World) (h : NoDisk w p) :
    Calls Tryz.prog 9 #[.pointer p, .int .u64 m] w fun e w' => e = .returned (.tuple #[]) ∧ w' = w := by
  have q := made_none p w h
  go_enter Tryz.func9, Tryz.ntmps9
  go_wp2_with (go_at_call 18; refine q.mono ?_; rintro e w ⟨rfl, rfl⟩)
  refine bodyPost_ret (results_none rfl _ _ _) rfl ?_
  exact ⟨rfl, rfl⟩
set_option maxRecDepth 100000 in
theorem read_none (p : Option Addr) (k : Int) (w : World) (h : NoDisk w p) :
    Calls Tryz.prog 63 #[.pointer p, .int .i64 k] w fun e w' => e = .returned (.tuple #[arr nought, .int .i64 1]) ∧ Kept [] w w' := by
  have q := find_none p k _ (h.kept (kept_alloc [] w (.cells #[.int .u8 0, .int .u8 0, .int .u8 0, .int .u8 0, .int .u8 0, .int .u8 0, .int .u8 0, .int .u8 0, .int .u8 0, .int .u8 0, .int .u8 0, .int .u8 0, .int .u8 0, .int .u8 0, .int .u8 0, .int .u8 0] 52)))
  have hN : Arr (w.alloc (.cells #[.int .u8 0, .int .u8 0, .int .u8 0, .int .u8 0, .int .u8 0, .int .u8 0, .int .u8 0, .int .u8 0, .int .u8 0, .int .u8 0, .int .u8 0, .int .u8 0, .int .u8 0, .int .u8 0, .int .u8 0, .int .u8 0] 52)) w.heap.size 52 nought := arr_new w 52 nought
  go_enter Tryz.func63, Tryz.ntmps63
  go_wp2_with (first
    | (go_at_call 49; refine q.mono ?_; rintro e w' ⟨rfl, rfl⟩)
    | (refine wpList_store_arr rfl 52 _ _ rfl w.heap.size 52 _ nought rfl rfl hN rfl Tryz.size52 ?_; intro w3 hB3 hk3 hz3; replace hz3 : Hid _ := hz3))
  refine bodyPost_ret (results_arr rfl _ _ w.heap.size nought (.int .i64 1) rfl rfl hB3 rfl) rfl ⟨rfl, ?_⟩
  exact (kept_alloc _ _ _).young hk3 (Nat.le_refl _)
set_option maxRecDepth 100000 in
theorem write_none (p : Option Addr) (k : Int) (x : List Nat) (w : World) (h : NoDisk w p) :
    Calls Tryz.prog 32 #[.pointer p, .int .i64 k, arr x] w fun e w' => e = .returned (.int .i64 1) ∧ Kept [] w w' := by
  have q := find_none p k _ (h.kept (kept_alloc [] w (.cells (x.map enc).toArray 52)))
  simp only [arr] at ⊢
  go_enter Tryz.func32, Tryz.ntmps32
  go_wp2_with (first
    | (go_at_call 49; refine q.mono ?_; rintro e w' ⟨rfl, rfl⟩))
  go_ret
  exact ⟨rfl, kept_alloc _ _ _⟩
set_option maxRecDepth 100000 in
theorem neqs_same (x : List Nat) (hx : Sec x) (w : World) : (binOp .neq 52 (arr x) (arr x)).run Tryz.prog w = .ok (.bool false) w := by
  have := neq_arr 52 16 Tryz.underlying52 x x hx.1 hx.1 hx.2 hx.2 w
  simpa using this

end Go.Proofs.YtekjlmnnaaodjaaGreat
