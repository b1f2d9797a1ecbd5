/-
  A disk that no call made: each call tells so, and nothing is done; the walk of DiskNone.
-/
import Derived.Test.YtekjlmnnaaodjaaWalksH
namespace Go.Proofs.Ytekjlmnnaaodjaa
open Go.RowKit Go.Maps Go.Shelf
open Math

set_option maxRecDepth 100000 in
/-- A load whose guard is met. -/
theorem wpList_load_wanted {ops : Array Oper} {rest : List Oper} {op : Oper} {a : Act} {w : World} {Q : Exit → Act → World → Prop} (hw : Region.wanted op (yielded ops a.tmps) = true) (ty : TypeId) (x : Operand) (ho : op.op = .load ty x)
    (b o : Nat) (hx : a.eval x = .pointer (some ⟨b, o, none⟩)) (cs : List Value) (d : TypeDesc) (hc : w.rangeAt b o cs)
    (hu : Try.prog.underlying ty = some d) (hd : d.isRow = true) (hi : (Try.prog.info? ty).map (·.size) = some cs.length)
    (h : wpList Try.prog ops Q rest (a.put op.dst (.agg cs.toArray)) w) : wpList Try.prog ops Q (op :: rest) a w := by
  unfold wpList
  rw [if_pos hw]
  exact .inl (wp_load_mid ty x ho b o hx cs d hc hu hd hi h)

/-- The cells of a disk that no call made. -/
def zeroDisk : Array Value := #[.int .i64 0, .map none, .map none, .int .i64 0, .bool false, .int .i64 0]
/-- A disk that no call made: nil, or zero. -/
def NoDisk (W : World) (p : Option Addr) : Prop := p = none ∨ ∃ g, p = some ⟨g, 0, none⟩ ∧ Blk W g 41 zeroDisk
theorem NoDisk.kept {A B : World} {p : Option Addr} (h : NoDisk A p) (hk : Kept [] A B) : NoDisk B p := by
  rcases h with rfl | ⟨g, rfl, h⟩
  · exact .inl rfl
  · exact .inr ⟨g, rfl, h.kept hk (by simp)⟩
set_option maxRecDepth 100000 in
theorem made_none (p : Option Addr) (w : World) (h : NoDisk w p) :
    Calls Try.prog 13 #[.pointer p] w fun e w' => e = .returned (.bool false) ∧ w' = w := by
  rcases h with rfl | ⟨g, rfl, h⟩
  · go_enter Try.func13, Try.ntmps13
    go_wp2
    go_ret
    exact ⟨rfl, rfl⟩
  · have c0 : w.cell? ⟨g, 0, none⟩ = some (.int .i64 0) := h.cell 0
    go_enter Try.func13, Try.ntmps13
    go_wp2
    go_ret
    exact ⟨rfl, rfl⟩
set_option maxRecDepth 100000 in
/-- Size, Ops, Broken, find, Flush, Cached, Copy, Fuse, Crash of such a disk -/
theorem size_none (p : Option Addr) (w : World) (h : NoDisk w p) :
    Calls Try.prog 31 #[.pointer p] w fun e w' => e = .returned (.int .i64 0) ∧ w' = w := by
  have q := made_none p w h
  go_enter Try.func31, Try.ntmps31
  go_wp2_with (go_at_call 13; refine q.mono ?_; rintro e w ⟨rfl, rfl⟩)
  go_ret
  exact ⟨rfl, rfl⟩
set_option maxRecDepth 100000 in
theorem ops_none (p : Option Addr) (w : World) (h : NoDisk w p) :
    Calls Try.prog 8 #[.pointer p] w fun e w' => e = .returned (.int .i64 0) ∧ w' = w := by
  have q := made_none p w h
  go_enter Try.func8, Try.ntmps8
  go_wp2_with (go_at_call 13; refine q.mono ?_; rintro e w ⟨rfl, rfl⟩)
  go_ret
  exact ⟨rfl, rfl⟩
set_option maxRecDepth 100000 in
theorem broken_none (p : Option Addr) (w : World) (h : NoDisk w p) :
    Calls Try.prog 14 #[.pointer p] w fun e w' => e = .returned (.bool false) ∧ w' = w := by
  have q := made_none p w h
  go_enter Try.func14, Try.ntmps14
  go_wp2_with (go_at_call 13; refine q.mono ?_; rintro e w ⟨rfl, rfl⟩)
  go_ret
  exact ⟨rfl, rfl⟩
set_option maxRecDepth 100000 in
theorem find_none (p : Option Addr) (k : Int) (w : World) (h : NoDisk w p) :
    Calls Try.prog 34 #[.pointer p, .int .i64 k] w fun e w' => e = .returned (.int .i64 1) ∧ w' = w := by
  have q := made_none p w h
  go_enter Try.func34, Try.ntmps34
  go_wp2_with (go_at_call 13; refine q.mono ?_; rintro e w ⟨rfl, rfl⟩)
  go_ret
  exact ⟨rfl, rfl⟩
set_option maxRecDepth 100000 in
theorem flush_none (p : Option Addr) (w : World) (h : NoDisk w p) :
    Calls Try.prog 27 #[.pointer p] w fun e w' => e = .returned (.int .i64 1) ∧ w' = w := by
  have q := made_none p w h
  go_enter Try.func27, Try.ntmps27
  go_wp2_with (go_at_call 13; refine q.mono ?_; rintro e w ⟨rfl, rfl⟩)
  go_ret
  exact ⟨rfl, rfl⟩
set_option maxRecDepth 100000 in
theorem cached_none (p : Option Addr) (w : World) (h : NoDisk w p) :
    Calls Try.prog 28 #[.pointer p] w fun e w' => e = .returned (.slice none 0 0) ∧ w' = w := by
  have q := made_none p w h
  go_enter Try.func28, Try.ntmps28
  go_wp2_with (go_at_call 13; refine q.mono ?_; rintro e w ⟨rfl, rfl⟩)
  go_ret
  exact ⟨rfl, rfl⟩
set_option maxRecDepth 100000 in
theorem fuse_none (p : Option Addr) (k : Int) (w : World) (h : NoDisk w p) :
    Calls Try.prog 9 #[.pointer p, .int .i64 k] w fun e w' => e = .returned (.tuple #[]) ∧ w' = w := by
  have q := made_none p w h
  go_enter Try.func9, Try.ntmps9
  go_wp2_with (go_at_call 13; refine q.mono ?_; rintro e w ⟨rfl, rfl⟩)
  go_end0
  exact ⟨rfl, rfl⟩
set_option maxRecDepth 100000 in
theorem crash_none (p : Option Addr) (m : Int) (w : World) (h : NoDisk w p) :
    Calls Try.prog 10 #[.pointer p, .int .u64 m] w fun e w' => e = .returned (.tuple #[]) ∧ w' = w := by
  have q := made_none p w h
  go_enter Try.func10, Try.ntmps10
  go_wp2_with (go_at_call 13; refine q.mono ?_; rintro e w ⟨rfl, rfl⟩)
  refine bodyPost_ret (results_none rfl _ _ _) rfl ?_
  exact ⟨rfl, rfl⟩
set_option maxRecDepth 100000 in
theorem read_none (p : Option Addr) (k : Int) (w : World) (h : NoDisk w p) :
    Calls Try.prog 41 #[.pointer p, .int .i64 k] w fun e w' => e = .returned (.tuple #[arr nought, .int .i64 1]) ∧ Kept [] w w' := by
  have q := find_none p k _ (h.kept (kept_alloc [] w (.cells #[.int .u8 0, .int .u8 0, .int .u8 0, .int .u8 0, .int .u8 0, .int .u8 0, .int .u8 0, .int .u8 0, .int .u8 0, .int .u8 0, .int .u8 0, .int .u8 0, .int .u8 0, .int .u8 0, .int .u8 0, .int .u8 0] 56)))
  have hN : Arr (w.alloc (.cells #[.int .u8 0, .int .u8 0, .int .u8 0, .int .u8 0, .int .u8 0, .int .u8 0, .int .u8 0, .int .u8 0, .int .u8 0, .int .u8 0, .int .u8 0, .int .u8 0, .int .u8 0, .int .u8 0, .int .u8 0, .int .u8 0] 56)) w.heap.size 56 nought := arr_new w 56 nought
  go_enter Try.func41, Try.ntmps41
  go_wp2_with (first
    | (go_at_call 34; refine q.mono ?_; rintro e w' ⟨rfl, rfl⟩)
    | (refine wpList_store_arr rfl 56 _ _ rfl w.heap.size 56 _ nought rfl rfl hN rfl Try.size56 ?_; intro w3 hB3 hk3 hz3; replace hz3 : Hid _ := hz3))
  refine bodyPost_ret (results_arr rfl _ _ w.heap.size nought (.int .i64 1) rfl rfl hB3 rfl) rfl ⟨rfl, ?_⟩
  exact (kept_alloc _ _ _).young hk3 (Nat.le_refl _)
set_option maxRecDepth 100000 in
theorem write_none (p : Option Addr) (k : Int) (x : List Nat) (w : World) (h : NoDisk w p) :
    Calls Try.prog 24 #[.pointer p, .int .i64 k, arr x] w fun e w' => e = .returned (.int .i64 1) ∧ Kept [] w w' := by
  have q := find_none p k _ (h.kept (kept_alloc [] w (.cells (x.map enc).toArray 56)))
  simp only [arr] at ⊢
  go_enter Try.func24, Try.ntmps24
  go_wp2_with (first
    | (go_at_call 34; refine q.mono ?_; rintro e w' ⟨rfl, rfl⟩))
  go_ret
  exact ⟨rfl, kept_alloc _ _ _⟩
set_option maxRecDepth 100000 in
theorem neqs_same (x : List Nat) (hx : Sec x) (w : World) : (binOp .neq 56 (arr x) (arr x)).run Try.prog w = .ok (.bool false) w := by
  have := neq_arr 56 16 Try.underlying56 x x hx.1 hx.1 hx.2 hx.2 w
  simpa using this

end Go.Proofs.Ytekjlmnnaaodjaa
