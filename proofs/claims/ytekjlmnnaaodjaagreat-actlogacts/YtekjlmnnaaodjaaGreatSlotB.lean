/-
  The walks of slots.home and slots.Latest.
-/
import Derived.Test.YtekjlmnnaaodjaaGreatSlotA
namespace Go.Proofs.YtekjlmnnaaodjaaGreat
open Go.RowKit Go.Maps Go.Shelf
open Math

set_option maxRecDepth 100000 in
set_option maxHeartbeats 1000000 in
/-- home -/
theorem home_any (n y : Nat) (hn : n < 4294967296) (k base r : Int) (w : World) :
    Calls Tryz.prog 48 #[.agg #[.int .u32 n, .int .u64 y, .int .i64 k], .int .i64 base, .int .i64 r] w fun e w' => e = .returned (.agg #[.int .u32 n, .int .u64 y, .int .i64 (placeOf n base r)]) ∧ Kept [] w w' := by
  have q1 := fun W => place_any n hn base r W
  generalize placeOf n base r = p at *
  go_enter Tryz.func48, Tryz.ntmps48
  go_wp2_with (first
    | (go_at_call 33; refine (q1 _).mono ?_; rintro e w1 ⟨rfl, rfl⟩))
  have hB5 : ((w.alloc (.cells #[.int .u32 n, .int .u64 y, .int .i64 p] 84)).alloc (.cells #[.int .u32 n, .int .u64 y, .int .i64 p] 84)).heap[w.heap.size + 1]? = some (.cells #[.int .u32 n, .int .u64 y, .int .i64 p] 84 (0, 0)) := by
    have := blk_new (w.alloc (.cells #[.int .u32 n, .int .u64 y, .int .i64 p] 84)) 84 #[.int .u32 n, .int .u64 y, .int .i64 p]
    rw [World.size_alloc] at this
    exact this
  refine bodyPost_ret (v := .agg #[.int .u32 n, .int .u64 y, .int .i64 p]) (results_cell_row rfl _ _ (w.heap.size + 1) 84 _ (0, 0) _ rfl hB5 Tryz.underlying84 rfl Tryz.size84) rfl ?_
  exact ⟨rfl, (kept_alloc [] w _).trans (kept_alloc [] _ _)⟩

set_option maxRecDepth 100000 in
set_option maxHeartbeats 1000000 in
/-- Latest, of a ring that is none -/
theorem latest_out (d b1 b2 : Nat) (s : Dk) (base r : Int) (w : World) (h : DiskAt w d b1 b2 s) (hh : hasRing s base r = false) :
    Calls Tryz.prog 31 #[.pointer (some ⟨d, 0, none⟩), .int .i64 base, .int .i64 r] w fun e w' => e = .returned (.tuple #[.int .u32 0, .int .u64 0]) ∧ w' = w := by
  have q1 := holds_any d b1 b2 s base r w h
  rw [hh] at q1
  go_enter Tryz.func31, Tryz.ntmps31
  go_wp2_with (first
    | (go_at_call 30; refine q1.mono ?_; rintro e w ⟨rfl, rfl⟩))
  go_ret2
  exact ⟨rfl, rfl⟩

set_option maxRecDepth 100000 in
set_option maxHeartbeats 4000000 in
/-- Latest, of a ring -/
theorem latest_in (d b1 b2 : Nat) (s : Dk) (B R : Nat) (w : World) (h : DiskAt w d b1 b2 s) (hh : hasRing s (B : Int) (R : Int) = true) :
    Calls Tryz.prog 31 #[.pointer (some ⟨d, 0, none⟩), .int .i64 (B : Int), .int .i64 (R : Int)] w fun e w' => e = .returned (.tuple #[.int .u32 ((latest s B R).1 : Nat), .int .u64 ((latest s B R).2 : Nat)]) ∧ Kept [] w w' := by
  have q1 := holds_any d b1 b2 s B R w h
  rw [hh] at q1
  have v1 := h.valid
  have v2 := v1.top
  simp only [hasRing, Bool.and_eq_true, decide_eq_true_eq] at hh
  obtain ⟨⟨⟨h1, h2⟩, h3⟩, h4⟩ := hh
  have hlt0 := h.lt
  have hsec : ∀ i : Nat, Sec (ringOf s B i) := fun i => sec_read v1 _
  have hk0 := kept_alloc [] w (.cells #[.int .u32 0, .int .u64 0, .int .i64 0] 84)
  have hB0 : Blk (w.alloc (.cells #[.int .u32 0, .int .u64 0, .int .i64 0] 84)) w.heap.size 84 #[.int .u32 0, .int .u64 0, .int .i64 0] := blk_new w 84 _
  have hD0 := h.kept hk0 (by simp) (by simp) (by simp)
  go_enter Tryz.func31, Tryz.ntmps31
  go_wp2_with (first
    | (go_at_call 30; refine q1.mono ?_; rintro e w ⟨rfl, rfl⟩))
  go_loopw [17] (fun i wr => ∃ (k : Nat) (a : Int), k ≤ R ∧ i = .int .i64 k ∧ Blk wr w.heap.size 84 #[.int .u32 ((search (ringOf s B) R k).1 : Nat), .int .u64 ((search (ringOf s B) R k).2 : Nat), .int .i64 a] ∧ DiskAt wr d b1 b2 s ∧ Kept [] w wr) (fun i _ => R - (RowKit.intOf i).toNat)
  case atStart => exact ⟨0, 0, by omega, rfl, hB0, hD0, hk0⟩
  case round =>
    obtain ⟨k, a, hk, rfl, hB, hD, hK⟩ := hrel
    clear hB0 hD0 hk0 q1
    have hl := search_lt (ringOf s B) R hsec k
    by_cases hlt : k < R
    · have hm1 : Hid (R - (k + 1) < R - k) := by show _ < _; omega
      have kk : (k : Int) < (R : Int) := by omega
      have q2 := sfind_any d b1 b2 s ((B : Int) + (k : Int)) (by omega) (by omega) wr hD
      have ex : readL s ((B : Int) + (k : Int)) = ringOf s B k := by unfold ringOf; rw [Int.natCast_add]
      rw [ex] at q2
      have hx := hsec k
      have en : search (ringOf s B) R (k + 1) = better R k (ringOf s B k) (search (ringOf s B) R k) := rfl
      generalize ringOf s B k = x at *
      have hn := num_lt hx
      have hp : placeOf (num x) B R = (B : Int) + (num x : Int) % (R : Int) := by
        rw [placeOf, if_pos]
        simp [isRing]
        omega
      have q3 := fun W => home_any (num x) (word x) hn ((B : Int) + (k : Int)) B R W
      rw [hp] at q3
      replace en : Hid (search (ringOf s B) R (k + 1) = better R k x (search (ringOf s B) R k)) := en
      generalize hL : search (ringOf s B) R k = l at *
      obtain ⟨l1, l2⟩ := l
      simp only [] at hB hl
      have HF : Hid (∀ W1 : World, Kept [] wr W1 → DiskAt (W1.alloc (.cells #[.int .u32 (num x : Nat), .int .u64 (word x : Nat), .int .i64 ((B : Int) + (k : Int))] 84)).drew d b1 b2 s ∧ Kept [] w (W1.alloc (.cells #[.int .u32 (num x : Nat), .int .u64 (word x : Nat), .int .i64 ((B : Int) + (k : Int))] 84)).drew ∧
          Blk (W1.alloc (.cells #[.int .u32 (num x : Nat), .int .u64 (word x : Nat), .int .i64 ((B : Int) + (k : Int))] 84)).drew w.heap.size 84 #[.int .u32 (l1 : Nat), .int .u64 (l2 : Nat), .int .i64 a] ∧
          Blk (W1.alloc (.cells #[.int .u32 (num x : Nat), .int .u64 (word x : Nat), .int .i64 ((B : Int) + (k : Int))] 84)).drew W1.heap.size 84 #[.int .u32 (num x : Nat), .int .u64 (word x : Nat), .int .i64 ((B : Int) + (k : Int))]) := fun W1 h => by
        have k2 := (h.trans (kept_alloc [] W1 (.cells #[.int .u32 (num x : Nat), .int .u64 (word x : Nat), .int .i64 ((B : Int) + (k : Int))] 84))).trans (kept_drew [] _)
        exact ⟨hD.kept k2 (by simp) (by simp) (by simp), hK.trans k2, hB.kept k2 (by simp), (blk_new W1 84 _).kept (kept_drew [] _) (by simp)⟩
      have hLlt : w.heap.size < wr.heap.size := hB.lt
      by_cases hc : num x % R = k
      · have ei : (num x : Int) % (R : Int) = (k : Int) := by omega
        rw [ei] at q3
        by_cases hg : l1 < num x
        · have es : Hid (search (ringOf s B) R (k + 1) = (num x, word x)) := en.out.trans (if_pos ⟨hc, hg⟩)
          have hg' : (l1 : Int) < (num x : Int) := by omega
          go_wp2_with (first
            | (go_at_call 47; refine q2.mono ?_; rintro e w1 ⟨rfl, hk1⟩; obtain ⟨D2, K2, L2, N2⟩ := HF.out _ hk1))
          go_region_held3 (fun W => W.cell? ⟨w1.heap.size, 0, none⟩ = some (.int .u32 (num x : Nat)) ∧ W.cell? ⟨w1.heap.size, 1, none⟩ = some (.int .u64 (word x : Nat)) ∧ W.cell? ⟨w1.heap.size, 2, none⟩ = some (.int .i64 ((B : Int) + (k : Int))) ∧ W.cell? ⟨w.heap.size, 0, none⟩ = some (.int .u32 (l1 : Nat))) (exact ⟨N2.cell 0, N2.cell 1, N2.cell 2, L2.cell 0⟩) (first
            | (go_at_call 48; refine (q3 _).mono ?_; rintro e w2 ⟨rfl, hk2⟩; replace D2 := D2.kept hk2 (by simp) (by simp) (by simp); replace K2 := K2.trans hk2; replace L2 := L2.kept hk2 (by simp); replace N2 := N2.kept hk2 (by simp); clear hk2))
          have n0 : w2.cell? ⟨w1.heap.size, 0, none⟩ = some (.int .u32 (num x : Nat)) := N2.cell 0
          have n1 : w2.cell? ⟨w1.heap.size, 1, none⟩ = some (.int .u64 (word x : Nat)) := N2.cell 1
          have n2 : w2.cell? ⟨w1.heap.size, 2, none⟩ = some (.int .i64 ((B : Int) + (k : Int))) := N2.cell 2
          go_wp2_with (first
            | (refine wpList_store_blk rfl 84 _ _ rfl w.heap.size 84 _ [.int .u32 (num x : Nat), .int .u64 (word x : Nat), .int .i64 ((B : Int) + (k : Int))] rfl rfl L2 rfl Tryz.size84 (by simp [Value.oneCell']) ?_; intro w3 hB3 hk3 hz3))
          go_roundw
          case rel =>
            refine ⟨k + 1, (B : Int) + (k : Int), by omega, rfl, ?_, D2.kept hk3 (by simp; omega) (by simp; omega) (by simp; omega), K2.young hk3 (Nat.le_refl _)⟩
            rw [es.out]
            exact hB3
          case measure => simpa [RowKit.intOf] using hm1.out
        · have es : Hid (search (ringOf s B) R (k + 1) = (l1, l2)) := en.out.trans (if_neg (fun h => hg h.2))
          have hg' : ¬ ((l1 : Int) < (num x : Int)) := by omega
          go_wp2_with (first
            | (go_at_call 47; refine q2.mono ?_; rintro e w1 ⟨rfl, hk1⟩; obtain ⟨D2, K2, L2, N2⟩ := HF.out _ hk1))
          go_region_held3 (fun W => W.cell? ⟨w1.heap.size, 0, none⟩ = some (.int .u32 (num x : Nat)) ∧ W.cell? ⟨w1.heap.size, 1, none⟩ = some (.int .u64 (word x : Nat)) ∧ W.cell? ⟨w1.heap.size, 2, none⟩ = some (.int .i64 ((B : Int) + (k : Int))) ∧ W.cell? ⟨w.heap.size, 0, none⟩ = some (.int .u32 (l1 : Nat))) (exact ⟨N2.cell 0, N2.cell 1, N2.cell 2, L2.cell 0⟩) (first
            | (go_at_call 48; refine (q3 _).mono ?_; rintro e w2 ⟨rfl, hk2⟩; replace D2 := D2.kept hk2 (by simp) (by simp) (by simp); replace K2 := K2.trans hk2; replace L2 := L2.kept hk2 (by simp); replace N2 := N2.kept hk2 (by simp); clear hk2))
          go_wp2_with fail
          go_roundw
          case rel =>
            refine ⟨k + 1, a, by omega, rfl, ?_, D2, K2⟩
            rw [es.out]
            exact L2
          case measure => simpa [RowKit.intOf] using hm1.out
      · have es : Hid (search (ringOf s B) R (k + 1) = (l1, l2)) := en.out.trans (if_neg (fun h => hc h.1))
        have hne : ¬ ((k : Int) = (num x : Int) % (R : Int)) := by omega
        go_wp2_with (first
          | (go_at_call 47; refine q2.mono ?_; rintro e w1 ⟨rfl, hk1⟩; obtain ⟨D2, K2, L2, N2⟩ := HF.out _ hk1))
        have HS : Hid (∀ W, Kept [] (w1.alloc (.cells #[.int .u32 (num x : Nat), .int .u64 (word x : Nat), .int .i64 ((B : Int) + (k : Int))] 84)).drew W → (W.cell? ⟨w1.heap.size, 0, none⟩ = some (.int .u32 (num x : Nat)) ∧ W.cell? ⟨w1.heap.size, 1, none⟩ = some (.int .u64 (word x : Nat)) ∧ W.cell? ⟨w1.heap.size, 2, none⟩ = some (.int .i64 ((B : Int) + (k : Int))) ∧ W.cell? ⟨w.heap.size, 0, none⟩ = some (.int .u32 (l1 : Nat)))) := fun W hk2 => ⟨(N2.kept hk2 (by simp)).cell 0, (N2.kept hk2 (by simp)).cell 1, (N2.kept hk2 (by simp)).cell 2, (L2.kept hk2 (by simp)).cell 0⟩
        refine wp_region_held_drew (S := fun W => W.cell? ⟨w1.heap.size, 0, none⟩ = some (.int .u32 (num x : Nat)) ∧ W.cell? ⟨w1.heap.size, 1, none⟩ = some (.int .u64 (word x : Nat)) ∧ W.cell? ⟨w1.heap.size, 2, none⟩ = some (.int .i64 ((B : Int) + (k : Int))) ∧ W.cell? ⟨w.heap.size, 0, none⟩ = some (.int .u32 (l1 : Nat))) (by kernel_rfl) ⟨N2.cell 0, N2.cell 1, N2.cell 2, L2.cell 0⟩ (fun hP => ?_)
        refine wpAnyH_take (i := 0) (oi := { dst := some 25, op := Op.load 84 (Operand.tmp 10), type := 84, pos := "slots.go:41", after := #[], guard := none }) (v := .agg #[.int .u32 (num x : Nat), .int .u64 (word x : Nat), .int .i64 ((B : Int) + (k : Int))]) rfl (by kernel_rfl) (by kernel_rfl) (by kernel_rfl) (fun _ _ _ h => h) (Or.inl ⟨by rfl, fun W hW => by obtain ⟨hW1, hW2, hW3, hW4⟩ := hW; go_simp⟩) hP ?_
        try simp only [Act.put, List.setIfInBounds_toArray, List.set_cons_zero, List.set_cons_succ]
        refine wpAnyH_take (i := 1) (oi := { dst := some 26, op := Op.load 84 (Operand.tmp 10), type := 84, pos := "slots.go:41", after := #[], guard := none }) (v := .agg #[.int .u32 (num x : Nat), .int .u64 (word x : Nat), .int .i64 ((B : Int) + (k : Int))]) rfl (by kernel_rfl) (by kernel_rfl) (by kernel_rfl) (fun _ _ _ h => h) (Or.inl ⟨by rfl, fun W hW => by obtain ⟨hW1, hW2, hW3, hW4⟩ := hW; go_simp⟩) hP ?_
        try simp only [Act.put, List.setIfInBounds_toArray, List.set_cons_zero, List.set_cons_succ]
        refine wpAnyH_take (i := 2) (oi := { dst := some 27, op := Op.move (Operand.tmp 1), type := 3, pos := "slots.go:41", after := #[], guard := none }) (v := .int .i64 (B : Int)) rfl (by kernel_rfl) (by kernel_rfl) (by kernel_rfl) (fun _ _ _ h => h) (Or.inl ⟨by rfl, fun W hW => by obtain ⟨hW1, hW2, hW3, hW4⟩ := hW; go_simp⟩) hP ?_
        try simp only [Act.put, List.setIfInBounds_toArray, List.set_cons_zero, List.set_cons_succ]
        refine wpAnyH_take (i := 3) (oi := { dst := some 28, op := Op.move (Operand.tmp 2), type := 3, pos := "slots.go:41", after := #[], guard := none }) (v := .int .i64 (R : Int)) rfl (by kernel_rfl) (by kernel_rfl) (by kernel_rfl) (fun _ _ _ h => h) (Or.inl ⟨by rfl, fun W hW => by obtain ⟨hW1, hW2, hW3, hW4⟩ := hW; go_simp⟩) hP ?_
        try simp only [Act.put, List.setIfInBounds_toArray, List.set_cons_zero, List.set_cons_succ]
        refine wpAnyH_ready (rs := [4]) (by kernel_rfl) (by simp) ?_
        refine AllReadyH.cons (o := { dst := some 29, op := Op.call { callee := Callee.value (Operand.func 48), args := #[Operand.tmp 26, Operand.tmp 27, Operand.tmp 28], argTypes := #[84, 3, 3] }, type := 84, pos := "slots.go:41", after := #[{ on := 1, ground := Ground.data }, { on := 2, ground := Ground.data }, { on := 3, ground := Ground.data }], guard := none }) rfl (fun K hK => ?_) AllReadyH.nil
        go_simp
        refine (q3 _).mono ?_
        rintro e w2 ⟨rfl, hk2⟩
        go_wp2_with fail
        replace hP := HS.out _ hk2
        refine hK.out _ _ hP (fun _ => ?_)
        clear hK K
        try simp only [Act.put, List.setIfInBounds_toArray, List.set_cons_zero, List.set_cons_succ]
        refine wpAnyH_take (i := 5) (oi := { dst := some 30, op := Op.binOp BinOp.eql 84 (Operand.tmp 25) (Operand.tmp 29) 84, type := 4, pos := "slots.go:41", after := #[{ on := 0, ground := Ground.data }, { on := 4, ground := Ground.data }], guard := none }) (v := .bool false) rfl (by kernel_rfl) (by kernel_rfl) (by kernel_rfl) (fun _ _ _ h => h) (Or.inl ⟨by rfl, fun W hW => by obtain ⟨hW1, hW2, hW3, hW4⟩ := hW; go_simp⟩) hP ?_
        try simp only [Act.put, List.setIfInBounds_toArray, List.set_cons_zero, List.set_cons_succ]
        refine wpAnyH_take (i := 6) (oi := { dst := some 31, op := Op.move (Operand.tmp 30), type := 4, pos := "slots.go:41", after := #[{ on := 5, ground := Ground.data }, { on := 4, ground := Ground.chain }], guard := none }) (v := .bool false) rfl (by kernel_rfl) (by kernel_rfl) (by kernel_rfl) (fun _ _ _ h => h) (Or.inl ⟨by rfl, fun W hW => by obtain ⟨hW1, hW2, hW3, hW4⟩ := hW; go_simp⟩) hP ?_
        try simp only [Act.put, List.setIfInBounds_toArray, List.set_cons_zero, List.set_cons_succ]
        refine wpAnyH_take (i := 7) (oi := { dst := some 32, op := Op.fieldAddr 84 (Operand.tmp 10) 0, type := 0, pos := "slots.go:41", after := #[{ on := 6, ground := Ground.guard }], guard := some (6, true) }) (v := undef) rfl (by kernel_rfl) (by kernel_rfl) (by kernel_rfl) (fun _ _ _ h => h) (Or.inr ⟨by rfl, rfl⟩) hP ?_
        try simp only [Act.put, List.setIfInBounds_toArray, List.set_cons_zero, List.set_cons_succ]
        refine wpAnyH_take (i := 8) (oi := { dst := some 33, op := Op.load 40 (Operand.tmp 32), type := 40, pos := "slots.go:41", after := #[{ on := 7, ground := Ground.data }, { on := 6, ground := Ground.guard }], guard := some (6, true) }) (v := undef) rfl (by kernel_rfl) (by kernel_rfl) (by kernel_rfl) (fun _ _ _ h => h) (Or.inr ⟨by rfl, rfl⟩) hP ?_
        try simp only [Act.put, List.setIfInBounds_toArray, List.set_cons_zero, List.set_cons_succ]
        refine wpAnyH_take (i := 9) (oi := { dst := some 34, op := Op.fieldAddr 84 (Operand.tmp 8) 0, type := 0, pos := "slots.go:41", after := #[{ on := 6, ground := Ground.guard }], guard := some (6, true) }) (v := undef) rfl (by kernel_rfl) (by kernel_rfl) (by kernel_rfl) (fun _ _ _ h => h) (Or.inr ⟨by rfl, rfl⟩) hP ?_
        try simp only [Act.put, List.setIfInBounds_toArray, List.set_cons_zero, List.set_cons_succ]
        refine wpAnyH_take (i := 10) (oi := { dst := some 35, op := Op.load 40 (Operand.tmp 34), type := 40, pos := "slots.go:41", after := #[{ on := 9, ground := Ground.data }, { on := 6, ground := Ground.guard }], guard := some (6, true) }) (v := undef) rfl (by kernel_rfl) (by kernel_rfl) (by kernel_rfl) (fun _ _ _ h => h) (Or.inr ⟨by rfl, rfl⟩) hP ?_
        try simp only [Act.put, List.setIfInBounds_toArray, List.set_cons_zero, List.set_cons_succ]
        refine wpAnyH_take (i := 11) (oi := { dst := some 36, op := Op.binOp BinOp.gtr 40 (Operand.tmp 33) (Operand.tmp 35) 40, type := 4, pos := "slots.go:41", after := #[{ on := 8, ground := Ground.data }, { on := 10, ground := Ground.data }, { on := 6, ground := Ground.guard }], guard := some (6, true) }) (v := undef) rfl (by kernel_rfl) (by kernel_rfl) (by kernel_rfl) (fun _ _ _ h => h) (Or.inr ⟨by rfl, rfl⟩) hP ?_
        try simp only [Act.put, List.setIfInBounds_toArray, List.set_cons_zero, List.set_cons_succ]
        refine wpAnyH_take (i := 12) (oi := { dst := some 37, op := Op.pick (Operand.tmp 31) (Operand.tmp 36) (Operand.const (Value.bool false)), type := 4, pos := "slots.go:41", after := #[{ on := 6, ground := Ground.data }, { on := 11, ground := Ground.data }], guard := none }) (v := .bool false) rfl (by kernel_rfl) (by kernel_rfl) (by kernel_rfl) (fun _ _ _ h => h) (Or.inl ⟨by rfl, fun W hW => by obtain ⟨hW1, hW2, hW3, hW4⟩ := hW; go_simp⟩) hP ?_
        try simp only [Act.put, List.setIfInBounds_toArray, List.set_cons_zero, List.set_cons_succ]
        refine wpAnyH_done (by kernel_rfl) ?_ _
        replace D2 := D2.kept hk2 (by simp) (by simp) (by simp)
        replace K2 := K2.trans hk2
        replace L2 := L2.kept hk2 (by simp)
        clear hk2
        go_wp2_with fail
        go_roundw
        case rel =>
          refine ⟨k + 1, a, by omega, rfl, ?_, D2, K2⟩
          rw [es.out]
          exact L2
        case measure => simpa [RowKit.intOf] using hm1.out
    · obtain rfl : k = R := by omega
      have n0 := hB.cell 0
      have n1 := hB.cell 1
      simp at n0 n1
      go_wp2_with fail
      go_quiet (fail)
      go_wp2_with fail
      go_ret2
      exact ⟨rfl, hK.trans (kept_drewN [] _ _)⟩
set_option maxRecDepth 100000 in
/-- Latest -/
theorem latest_any (d b1 b2 : Nat) (s : Dk) (base r : Int) (w : World) (h : DiskAt w d b1 b2 s) :
    Calls Tryz.prog 31 #[.pointer (some ⟨d, 0, none⟩), .int .i64 base, .int .i64 r] w fun e w' => e = .returned (.tuple #[.int .u32 (latestN s base r : Nat), .int .u64 (latestY s base r : Nat)]) ∧ Kept [] w w' := by
  by_cases hh : hasRing s base r = true
  · have hh' := hh
    simp only [hasRing, Bool.and_eq_true, decide_eq_true_eq] at hh'
    obtain ⟨B, rfl⟩ := Int.eq_ofNat_of_zero_le (show 0 ≤ base by omega)
    obtain ⟨R, rfl⟩ := Int.eq_ofNat_of_zero_le (show 0 ≤ r by omega)
    have := latest_in d b1 b2 s B R w h hh
    rw [latestN, latestY, if_pos hh, if_pos hh]
    exact this
  · rw [latestN, latestY, if_neg hh, if_neg hh]
    exact (latest_out d b1 b2 s base r w h (by simpa using hh)).mono (fun _ _ ⟨he, hw⟩ => ⟨he, hw ▸ Kept.refl _ _⟩)
end Go.Proofs.YtekjlmnnaaodjaaGreat
