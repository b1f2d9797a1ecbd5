import Derived.Test.YtfiofdmefgkloaaGreatSuper1
import Derived.Test.YtfiofdmefgkloaaGreatAct1
import Derived.Test.YtfiofdmefgkloaaGreatDirtyA
import Derived.Test.YtfiofdmefgkloaaGreatMetaM
/-
  The walks of meta's functions: Look, Start, Mine, Retire and its steps; of a disk that no call made.
-/
namespace Go.Proofs.YtfiofdmefgkloaaGreat
open Go.RowKit Go.Maps Go.Shelf
open Math

set_option maxRecDepth 100000 in
theorem Tryz.size78 : (Tryz.prog.info? 78).map (·.size) = some 3 := by kernel_rfl
set_option maxRecDepth 100000 in
theorem Tryz.struct78 : Tryz.prog.underlying 78 = some (.struct (Tryz.prog.fieldsOf 78)) := by kernel_rfl
set_option maxRecDepth 100000 in
theorem Tryz.stood78 : Tryz.prog.stoodInHeld 78 = false := by kernel_rfl
set_option maxRecDepth 100000 in
/-- Two of them, compared -/
theorem eql_meta (b l m b' l' m' : Int) (w : World) :
    (binOp .eql 78 (.agg #[.int .u32 b, .int .u64 l, .int .u64 m]) (.agg #[.int .u32 b', .int .u64 l', .int .u64 m'])).run Tryz.prog w = .ok (.bool (b == b' && (l == l' && m == m'))) w := by
  rw [run_eql_struct, run_equalIn_agg w 9999 78 _ _ Tryz.struct78 Tryz.stood78]
  simp [Program.fieldsOf, Tryz.underlying78, go_sem]
  by_cases h1 : b = b' <;> by_cases h2 : l = l' <;> by_cases h3 : m = m' <;> simp [h1, h2, h3]
set_option maxRecDepth 100000 in
theorem neq_meta (b l m b' l' m' : Int) (w : World) :
    (binOp .neq 78 (.agg #[.int .u32 b, .int .u64 l, .int .u64 m]) (.agg #[.int .u32 b', .int .u64 l', .int .u64 m'])).run Tryz.prog w = .ok (.bool (!(b == b' && (l == l' && m == m')))) w := by
  rw [run_neq_struct, run_equalIn_agg w 9999 78 _ _ Tryz.struct78 Tryz.stood78]
  simp [Program.fieldsOf, Tryz.underlying78, go_sem]
  by_cases h1 : b = b' <;> by_cases h2 : l = l' <;> by_cases h3 : m = m' <;> simp [h1, h2, h3]
set_option maxRecDepth 100000 in
theorem same_meta (b l m : Int) (w : World) :
    (binOp .eql 78 (.agg #[.int .u32 b, .int .u64 l, .int .u64 m]) (.agg #[.int .u32 b, .int .u64 l, .int .u64 m])).run Tryz.prog w = .ok (.bool true) w := by
  rw [eql_meta]
  simp
set_option maxRecDepth 100000 in
theorem differ_meta (b l m : Int) (w : World) :
    (binOp .neq 78 (.agg #[.int .u32 b, .int .u64 l, .int .u64 m]) (.agg #[.int .u32 b, .int .u64 l, .int .u64 m])).run Tryz.prog w = .ok (.bool false) w := by
  rw [neq_meta]
  simp

set_option maxRecDepth 100000 in
/-- Mine -/
theorem mine_any (b l m : Nat) (hl : l < 18446744073709551616) (hm : m < 18446744073709551616) (w : World) :
    Calls Tryz.prog 30 #[.agg #[.int .u32 (b : Int), .int .u64 (l : Int), .int .u64 (m : Int)]] w fun e w' => e = .returned (.int .u64 ((l ||| m : Nat) : Int)) ∧ Kept [] w w' := by
  have hor := u64_or_nat l m hl hm
  have q := fun W => eql_meta (b : Int) l m b 0 0 W
  by_cases h0 : l = 0 ∧ m = 0
  · obtain ⟨rfl, rfl⟩ := h0
    clear hor hl hm
    go_enter Tryz.func30, Tryz.ntmps30
    go_wp2
    go_ret
    exact ⟨rfl, kept_alloc [] w _⟩
  · have e0 : ((l : Int) == 0 && (m : Int) == 0) = false := by simp; omega
    rw [e0] at q
    clear h0 e0 hl hm
    go_enter Tryz.func30, Tryz.ntmps30
    go_wp2
    go_ret
    exact ⟨rfl, kept_alloc [] w _⟩

set_option maxRecDepth 100000 in
set_option maxHeartbeats 1000000 in
/-- Look, at a disk or at none (what its three parts tell is handed in) -/
theorem look_of (p : Option Addr) (b l m : Nat) (w : World)
    (q1 : ∀ W, Kept [] w W → Calls Tryz.prog 67 #[.pointer p] W fun e w' => e = .returned (.int .u32 (b : Int)) ∧ Kept [] W w')
    (q2 : ∀ W, Kept [] w W → Calls Tryz.prog 68 #[.pointer p] W fun e w' => e = .returned (.int .u64 (l : Int)) ∧ Kept [] W w')
    (q3 : ∀ W, Kept [] w W → Calls Tryz.prog 22 #[.pointer p] W fun e w' => e = .returned (.int .u64 (m : Int)) ∧ Kept [] W w') :
    Calls Tryz.prog 31 #[.pointer p] w fun e w' => e = .returned (.agg #[.int .u32 (b : Int), .int .u64 (l : Int), .int .u64 (m : Int)]) ∧ Kept [] w w' := by
  have hk0 := kept_alloc [] w (.cells #[.int .u32 0, .int .u64 0, .int .u64 0] 78)
  have hB0 : Blk (w.alloc (.cells #[.int .u32 0, .int .u64 0, .int .u64 0] 78)) w.heap.size 78 #[.int .u32 0, .int .u64 0, .int .u64 0] := blk_new w 78 _
  go_enter Tryz.func31, Tryz.ntmps31
  go_wp2_with (first
    | (go_at_call 67; refine (q1 _ hk0).mono ?_; rintro e w1 ⟨rfl, hk1⟩; have hB1 := hB0.kept hk1 (by simp))
    | (go_at_call 68; refine (q2 _ (hk0.trans hk1)).mono ?_; rintro e w2 ⟨rfl, hk2⟩; have hB2 := hB1.kept hk2 (by simp))
    | (go_at_call 22; refine (q3 _ ((hk0.trans hk1).trans hk2)).mono ?_; rintro e w3 ⟨rfl, hk3⟩; have hB3 := hB2.kept hk3 (by simp))
    | (refine wpList_store_blk rfl 78 _ _ rfl w.heap.size 78 _ [.int .u32 (b : Int), .int .u64 (l : Int), .int .u64 (m : Int)] rfl rfl hB3 rfl Tryz.size78 (by simp [Value.oneCell']) ?_; intro w4 hB4 hk4 hz4))
  have hB5 : w4.heap[w.heap.size]? = some (.cells #[.int .u32 (b : Int), .int .u64 (l : Int), .int .u64 (m : Int)] 78 (0, 0)) := hB4
  refine bodyPost_ret (v := .agg #[.int .u32 (b : Int), .int .u64 (l : Int), .int .u64 (m : Int)]) (results_cell_row rfl _ _ w.heap.size 78 _ (0, 0) _ rfl hB5 Tryz.underlying78 rfl Tryz.size78) rfl ?_
  exact ⟨rfl, (((hk0.trans hk1).trans hk2).trans hk3).young hk4 (Nat.le_refl _)⟩

set_option maxRecDepth 100000 in
/-- Look -/
theorem look_any (d b1 b2 : Nat) (s : Dk) (w : World) (h : DiskAt w d b1 b2 s) :
    Calls Tryz.prog 31 #[.pointer (some ⟨d, 0, none⟩)] w fun e w' => e = .returned (.agg #[.int .u32 (boot s : Nat), .int .u64 (latestY s 2 4 : Nat), .int .u64 (latestY s 6 2 : Nat)]) ∧ Kept [] w w' :=
  look_of _ _ _ _ w (fun W hk => boot_any d b1 b2 s W (h.kept hk (by simp) (by simp) (by simp))) (fun W hk => get_any d b1 b2 s W (h.kept hk (by simp) (by simp) (by simp))) (fun W hk => dget_any d b1 b2 s W (h.kept hk (by simp) (by simp) (by simp)))
set_option maxRecDepth 100000 in
theorem look_none (p : Option Addr) (w : World) (h : NoDisk w p) :
    Calls Tryz.prog 31 #[.pointer p] w fun e w' => e = .returned (.agg #[.int .u32 0, .int .u64 0, .int .u64 0]) ∧ Kept [] w w' :=
  look_of p 0 0 0 w (fun W hk => (boot_none p W (h.kept hk)).mono fun e w' ⟨he, hw⟩ => ⟨he, by rw [hw]; exact Kept.refl _ _⟩) (fun W hk => get_none p W (h.kept hk)) (fun W hk => dget_none p W (h.kept hk))

/-- What a start tells -/
def startB (s : Dk) : Nat := if nextE s = 0 then boot (nextS s) else 0
def startL (s : Dk) : Nat := if nextE s = 0 then latestY (nextS s) 2 4 else 0
def startD (s : Dk) : Nat := if nextE s = 0 then latestY (nextS s) 6 2 else 0

set_option maxRecDepth 100000 in
/-- A struct and a second result, handed back. -/
theorem results_meta {fn : Func} {p u : Tmp} (h : fn.results = #[.cell p 78, .tmp u]) (tmps : Array Value) (w : World) (g : Nat) (a b c : Value)
    (hp : tmps.getD p undef = .pointer (some ⟨g, 0, none⟩)) (hg : w.heap[g]? = some (.cells #[a, b, c] 78 (0, 0))) :
    (results fn tmps).run Tryz.prog w = .ok (.tuple #[.agg #[a, b, c], tmps.getD u undef]) w := by
  have hl := run_loadVar_row (P := Tryz.prog) w g 78 78 #[a, b, c] (0, 0) _ hg Tryz.underlying78 (by rfl) Tryz.size78
  rw [results_cell_tmp h, hp]
  simp [asAddr, hl, Result.andThen]

set_option maxRecDepth 100000 in
set_option maxHeartbeats 1000000 in
/-- Start -/
theorem start_any (d b1 b2 : Nat) (s : Dk) (hops : s.ops ≤ 999998) (w : World) (h : DiskAt w d b1 b2 s) :
    Calls Tryz.prog 62 #[.pointer (some ⟨d, 0, none⟩)] w fun e w' => e = .returned (.tuple #[.agg #[.int .u32 (startB s : Nat), .int .u64 (startL s : Nat), .int .u64 (startD s : Nat)], .int .i64 (nextE s : Nat)]) ∧ DiskAt w' d b1 b2 (nextS s) ∧ Kept [d, b1, b2] w w' := by
  have hk0 := kept_alloc [] w (.cells #[.int .u32 0, .int .u64 0, .int .u64 0] 78)
  have hB0 : Blk (w.alloc (.cells #[.int .u32 0, .int .u64 0, .int .u64 0] 78)) w.heap.size 78 #[.int .u32 0, .int .u64 0, .int .u64 0] := blk_new w 78 _
  have hD0 := h.kept hk0 (by simp) (by simp) (by simp)
  have q1 := next_any d b1 b2 s hops _ hD0
  have q2 := fun W (h : DiskAt W d b1 b2 (nextS s)) => look_any d b1 b2 (nextS s) W h
  have hlt := h.lt
  unfold startB startL startD
  generalize nextS s = s' at *
  generalize nextN s = nn at *
  generalize nextE s = ee at *
  clear hops
  by_cases he : ee = 0
  · subst he
    rw [if_pos rfl, if_pos rfl, if_pos rfl]
    generalize boot s' = b at *
    generalize latestY s' 2 4 = l at *
    generalize latestY s' 6 2 = m at *
    go_enter Tryz.func62, Tryz.ntmps62
    go_wp2_with (first
      | (go_at_call 110; refine q1.mono ?_; rintro e w1 ⟨rfl, hD1, hk1⟩; have hB1 := hB0.kept hk1 (by simp; omega))
      | (go_at_call 31; refine (q2 _ hD1).mono ?_; rintro e w2 ⟨rfl, hk2⟩; have hB2 := hB1.kept hk2 (by simp))
      | (refine wpList_store_blk rfl 78 _ _ rfl w.heap.size 78 _ [.int .u32 (b : Int), .int .u64 (l : Int), .int .u64 (m : Int)] rfl rfl hB2 rfl Tryz.size78 (by simp [Value.oneCell']) ?_; intro w4 hB4 hk4 hz4; replace hz4 : Hid _ := hz4))
    refine bodyPost_ret (results_meta rfl _ _ w.heap.size _ _ _ rfl hB4) rfl ⟨rfl, ?_, ?_⟩
    · exact (hD1.kept hk2 (by simp) (by simp) (by simp)).kept hk4 (by simp; omega) (by simp; omega) (by simp; omega)
    · exact (((hk0.mono (by simp)).trans hk1).trans (hk2.mono (by simp))).young (hk4.mono (by simp)) (Nat.le_refl _)
  · rw [if_neg he, if_neg he, if_neg he]
    have he' : ((ee : Int) != 0) = true := by simp; omega
    go_enter Tryz.func62, Tryz.ntmps62
    go_wp2_with (first
      | (go_at_call 110; refine q1.mono ?_; rintro e w1 ⟨rfl, hD1, hk1⟩; have hB1 := hB0.kept hk1 (by simp; omega))
      | (refine wpList_store_blk rfl 78 _ _ rfl w.heap.size 78 _ [.int .u32 0, .int .u64 0, .int .u64 0] rfl rfl hB1 rfl Tryz.size78 (by simp [Value.oneCell']) ?_; intro w4 hB4 hk4 hz4; replace hz4 : Hid _ := hz4))
    refine bodyPost_ret (results_meta rfl _ _ w.heap.size _ _ _ rfl hB4) rfl ⟨rfl, ?_, ?_⟩
    · exact hD1.kept hk4 (by simp; omega) (by simp; omega) (by simp; omega)
    · exact ((hk0.mono (by simp)).trans hk1).young (hk4.mono (by simp)) (Nat.le_refl _)

set_option maxRecDepth 100000 in
set_option maxHeartbeats 1000000 in
theorem start_none (p : Option Addr) (w : World) (h : NoDisk w p) :
    Calls Tryz.prog 62 #[.pointer p] w fun e w' => e = .returned (.tuple #[.agg #[.int .u32 0, .int .u64 0, .int .u64 0], .int .i64 1]) ∧ Kept [] w w' := by
  have hk0 := kept_alloc [] w (.cells #[.int .u32 0, .int .u64 0, .int .u64 0] 78)
  have hB0 : Blk (w.alloc (.cells #[.int .u32 0, .int .u64 0, .int .u64 0] 78)) w.heap.size 78 #[.int .u32 0, .int .u64 0, .int .u64 0] := blk_new w 78 _
  have q1 := next_none p _ (h.kept hk0)
  go_enter Tryz.func62, Tryz.ntmps62
  go_wp2_with (first
    | (go_at_call 110; refine q1.mono ?_; rintro e w1 ⟨rfl, rfl⟩)
    | (refine wpList_store_blk rfl 78 _ _ rfl w.heap.size 78 _ [.int .u32 0, .int .u64 0, .int .u64 0] rfl rfl hB0 rfl Tryz.size78 (by simp [Value.oneCell']) ?_; intro w4 hB4 hk4 hz4; replace hz4 : Hid _ := hz4))
  refine bodyPost_ret (results_meta rfl _ _ w.heap.size _ _ _ rfl hB4) rfl ⟨rfl, ?_⟩
  exact hk0.young hk4 (Nat.le_refl _)

set_option maxRecDepth 100000 in
/-- The steps of a Retire: the bitmap's Put, and the log's (what each does is handed in) -/
theorem step1_of (p : Option Addr) (a b m e1 : Nat) (ta tb : TypeId) (P : World → Prop) (L : List Nat) (w : World) (ha : Blk w a ta #[.pointer p]) (hb : Blk w b tb #[.int .u64 (m : Int)])
    (q : Calls Tryz.prog 63 #[.pointer p, .int .u64 (m : Int)] w fun e w' => e = .returned (.int .i64 (e1 : Int)) ∧ P w' ∧ Kept L w w') :
    Calls Tryz.prog 72 #[.pointer (some ⟨a, 0, none⟩), .pointer (some ⟨b, 0, none⟩)] w fun e w' => e = .returned (.int .i64 (e1 : Int)) ∧ P w' ∧ Kept L w w' := by
  have c0 := ha.cell 0
  have c1 := hb.cell 0
  simp at c0 c1
  go_enter Tryz.func72, Tryz.ntmps72
  go_wp2_with (first
    | (go_at_call 63; refine q.mono ?_; rintro e w1 ⟨rfl, hP, hk1⟩))
  go_ret
  exact ⟨rfl, hP, hk1⟩
set_option maxRecDepth 100000 in
theorem step2_of (p : Option Addr) (a e2 : Nat) (ta : TypeId) (P : World → Prop) (L : List Nat) (w : World) (ha : Blk w a ta #[.pointer p])
    (q : Calls Tryz.prog 74 #[.pointer p, .int .u64 0] w fun e w' => e = .returned (.int .i64 (e2 : Int)) ∧ P w' ∧ Kept L w w') :
    Calls Tryz.prog 73 #[.pointer (some ⟨a, 0, none⟩)] w fun e w' => e = .returned (.int .i64 (e2 : Int)) ∧ P w' ∧ Kept L w w' := by
  have c0 := ha.cell 0
  simp at c0
  go_enter Tryz.func73, Tryz.ntmps73
  go_wp2_with (first
    | (go_at_call 74; refine q.mono ?_; rintro e w1 ⟨rfl, hP, hk1⟩))
  go_ret
  exact ⟨rfl, hP, hk1⟩

set_option maxRecDepth 100000 in
set_option maxHeartbeats 1000000 in
/-- inTurn, of the two steps of a Retire -/
theorem inTurn_of (a b g e1 e2 er : Nat) (tg : TypeId) (P1 P2 P : World → Prop) (L : List Nat) (hL : g ∉ L) (h0 : Hid (e1 = 0 → er = e2 ∧ ∀ W, P2 W → P W)) (h1 : Hid (e1 ≠ 0 → er = e1 ∧ ∀ W, P1 W → P W)) (w : World)
    (hg : Blk w g tg #[.func (.func 72) #[] #[.pointer (some ⟨a, 0, none⟩), .pointer (some ⟨b, 0, none⟩)], .func (.func 73) #[] #[.pointer (some ⟨a, 0, none⟩)]])
    (q1 : Calls Tryz.prog 72 #[.pointer (some ⟨a, 0, none⟩), .pointer (some ⟨b, 0, none⟩)] w fun e w' => e = .returned (.int .i64 (e1 : Int)) ∧ P1 w' ∧ Kept L w w')
    (q2 : ∀ W, P1 W → Kept L w W → Calls Tryz.prog 73 #[.pointer (some ⟨a, 0, none⟩)] W fun e w' => e = .returned (.int .i64 (e2 : Int)) ∧ P2 w' ∧ Kept L W w') :
    Calls Tryz.prog 71 #[.slice (some ⟨g, 0, none⟩) 2 2] w fun e w' => e = .returned (.int .i64 (er : Int)) ∧ P w' ∧ Kept L w w' := by
  go_enter Tryz.func71, Tryz.ntmps71
  go_wp2_with fail
  go_loopw [8] (fun i wr => ((i = .int .i64 0 ∧ wr = w) ∨ (i = .int .i64 1 ∧ Hid (e1 = 0) ∧ P1 wr ∧ Kept L w wr) ∨ (i = .int .i64 2 ∧ Hid (e1 = 0) ∧ Hid (e2 = 0) ∧ P2 wr ∧ Kept L w wr))) (fun i _ => 2 - (RowKit.intOf i).toNat)
  case atStart => exact .inl ⟨rfl, rfl⟩
  case round =>
    rcases hrel with ⟨rfl, rfl⟩ | ⟨rfl, hz, hP, hk⟩ | ⟨rfl, hz, hy, hP, hk⟩
    · have c0 := hg.cell 0
      simp at c0
      by_cases he : e1 = 0
      · have he' : ((e1 : Int) != 0) = false := by simp; omega
        have hz : Hid (e1 = 0) := he
        clear he
        go_wp2_with (first
          | (go_at_call 72; refine q1.mono ?_; rintro e w1 ⟨rfl, hP1, hk1⟩))
        go_roundw
        case rel => exact .inr (.inl ⟨rfl, hz, hP1, hk1⟩)
        case measure => simp [RowKit.intOf]
      · have he' : ((e1 : Int) != 0) = true := by simp; omega
        have hz : Hid (e1 ≠ 0) := he
        clear he
        go_wp2_with (first
          | (go_at_call 72; refine q1.mono ?_; rintro e w1 ⟨rfl, hP1, hk1⟩))
        go_ret
        rw [(h1.out hz.out).1]
        exact ⟨rfl, (h1.out hz.out).2 _ hP1, hk1⟩
    · have c0 := (hg.kept hk hL).cell 1
      simp at c0
      by_cases he : e2 = 0
      · have he' : ((e2 : Int) != 0) = false := by simp; omega
        have hy : Hid (e2 = 0) := he
        clear he
        go_wp2_with (first
          | (go_at_call 73; refine (q2 _ hP hk).mono ?_; rintro e w1 ⟨rfl, hP1, hk1⟩))
        go_roundw
        case rel => exact .inr (.inr ⟨rfl, hz, hy, hP1, hk.trans hk1⟩)
        case measure => simp [RowKit.intOf]
      · have he' : ((e2 : Int) != 0) = true := by simp; omega
        clear he
        go_wp2_with (first
          | (go_at_call 73; refine (q2 _ hP hk).mono ?_; rintro e w1 ⟨rfl, hP1, hk1⟩))
        go_ret
        rw [(h0.out hz.out).1]
        exact ⟨rfl, (h0.out hz.out).2 _ hP1, hk.trans hk1⟩
    · go_wp2_with fail
      go_ret
      have e0 := h0.out hz.out
      rw [e0.1, hy.out]
      exact ⟨rfl, e0.2 _ hP, hk⟩

set_option maxRecDepth 100000 in
set_option maxHeartbeats 1000000 in
/-- Retire, at a disk or at none (what the two Puts do is handed in) -/
theorem retire_of (p : Option Addr) (m e1 e2 er : Nat) (P1 P2 P : World → Prop) (L : List Nat) (h0 : Hid (e1 = 0 → er = e2 ∧ ∀ W, P2 W → P W)) (h1 : Hid (e1 ≠ 0 → er = e1 ∧ ∀ W, P1 W → P W)) (w : World) (hL : ∀ k ∈ L, k < w.heap.size)
    (q1 : ∀ W, Kept [] w W → Calls Tryz.prog 63 #[.pointer p, .int .u64 (m : Int)] W fun e w' => e = .returned (.int .i64 (e1 : Int)) ∧ P1 w' ∧ Kept L W w')
    (q2 : ∀ W, P1 W → Calls Tryz.prog 74 #[.pointer p, .int .u64 0] W fun e w' => e = .returned (.int .i64 (e2 : Int)) ∧ P2 w' ∧ Kept L W w') :
    Calls Tryz.prog 35 #[.pointer p, .int .u64 (m : Int)] w fun e w' => e = .returned (.int .i64 (er : Int)) ∧ P w' ∧ Kept L w w' := by
  have k1 := kept_alloc [] w (.cells #[.pointer p] 30)
  have x1 := blk_new w 30 #[.pointer p]
  generalize e1' : w.alloc (.cells #[.pointer p] 30) = wa at *
  have z1 : wa.heap.size = w.heap.size + 1 := by rw [← e1']; simp
  have k2 := kept_alloc [] wa (.cells #[.int .u64 (m : Int)] 23)
  have x2 := blk_new wa 23 #[.int .u64 (m : Int)]
  generalize e2' : wa.alloc (.cells #[.int .u64 (m : Int)] 23) = wb at *
  have z2 : wb.heap.size = w.heap.size + 1 + 1 := by rw [← e2', ← z1]; simp
  have k3 := fun o => kept_alloc [] wb o
  have x3 := fun t => blk_new wb t #[.func (.func 72) #[] #[.pointer (some ⟨w.heap.size, 0, none⟩), .pointer (some ⟨w.heap.size + 1, 0, none⟩)], .func (.func 73) #[] #[.pointer (some ⟨w.heap.size, 0, none⟩)]]
  have q3 := fun t => inTurn_of w.heap.size (w.heap.size + 1) (w.heap.size + 1 + 1) e1 e2 er t P1 P2 P L (fun hm => by have := hL _ hm; omega) h0 h1 _ (z2 ▸ x3 t)
    (step1_of p w.heap.size (w.heap.size + 1) m e1 30 23 P1 L _ ((x1.kept k2 (by simp)).kept (k3 _) (by simp)) ((z1 ▸ x2).kept (k3 _) (by simp)) (q1 _ ((k1.trans k2).trans (k3 _))))
    (fun W hP hk => step2_of p w.heap.size e2 30 P2 L W (((x1.kept k2 (by simp)).kept (k3 _) (by simp)).kept hk (fun hm => by have := hL _ hm; omega)) (q2 W hP))
  subst e2'
  subst e1'
  have kA := fun o => ((k1.trans k2).trans (k3 o)).mono (L' := L) (by simp)
  clear x1 x2 x3 z1 z2 k1 k2 k3 q1 q2
  go_enter Tryz.func35, Tryz.ntmps35
  go_wp2_with (first
    | (go_at_call 71; refine (q3 _).mono ?_; rintro e w4 ⟨rfl, hP, hk4⟩))
  go_ret
  exact ⟨rfl, hP, (kA _).trans hk4⟩

set_option maxRecDepth 100000 in
/-- Retire -/
theorem retire_any (d b1 b2 : Nat) (s : Dk) (m : Nat) (hm : m < 18446744073709551616) (hops : s.ops ≤ 999996) (w : World) (h : DiskAt w d b1 b2 s) :
    Calls Tryz.prog 35 #[.pointer (some ⟨d, 0, none⟩), .int .u64 (m : Int)] w fun e w' => e = .returned (.int .i64 (retE s m : Nat)) ∧ DiskAt w' d b1 b2 (retS s m) ∧ Kept [d, b1, b2] w w' := by
  have ho := map_ops s m
  have hlt := h.lt
  refine retire_of _ m (mapE s m) (logE (mapS s m) 0) (retE s m) (fun W => DiskAt W d b1 b2 (mapS s m)) (fun W => DiskAt W d b1 b2 (logS (mapS s m) 0)) (fun W => DiskAt W d b1 b2 (retS s m)) [d, b1, b2] ?_ ?_ w (by simp; omega)
    (fun W hk => mapPut_any d b1 b2 s m hm (by omega) W (h.kept hk (by simp) (by simp) (by simp))) (fun W hW => logPut_any d b1 b2 (mapS s m) 0 (by decide) (by omega) W hW)
  · intro he
    unfold retE retS
    rw [if_pos he, if_pos he]
    exact ⟨rfl, fun _ h => h⟩
  · intro he
    unfold retE retS
    rw [if_neg he, if_neg he]
    exact ⟨rfl, fun _ h => h⟩
set_option maxRecDepth 100000 in
theorem retire_none (p : Option Addr) (m : Nat) (w : World) (h : NoDisk w p) :
    Calls Tryz.prog 35 #[.pointer p, .int .u64 (m : Int)] w fun e w' => e = .returned (.int .i64 1) ∧ Kept [] w w' :=
  (retire_of p m 1 1 1 (fun W => NoDisk W p) (fun _ => True) (fun _ => True) [] (fun h => absurd h (by decide)) (fun _ => ⟨rfl, fun _ _ => trivial⟩) w (by simp)
    (fun W hk => (mapPut_none p m W (h.kept hk)).mono fun e w' ⟨he, hk'⟩ => ⟨he, (h.kept hk).kept hk', hk'⟩)
    (fun W hW => (logPut_none p 0 W hW).mono fun e w' ⟨he, hw⟩ => ⟨he, trivial, by rw [hw]; exact Kept.refl _ _⟩)).mono fun e w' ⟨he, _, hk⟩ => ⟨he, hk⟩
end Go.Proofs.YtfiofdmefgkloaaGreat

