/-
  The walk of the law SpanTurns.
-/
import Derived.Test.YtakljofmnpagpaaWalksE
import Derived.Deep.RegionHeld3
import Derived.Deep.CutRange
namespace Go.Proofs.Ytakljofmnpagpaa
open Go.RowKit
open Math
namespace spanTurns

theorem Pair.drew {w W : World} {o l p m : Int} (h : Pair w o l p m W) : Pair w o l p m W.drew := ⟨h.below.drew, h.room, h.one, h.two⟩

set_option maxHeartbeats 1000000 in
theorem walk0 (o l p m a : Int) (w : World) (ov : Bool) (h1 : over o l p m = ov) (h2 : over p m o l = ov) (hh : holds o l p m = true → ov = true) :
    Calls Try.prog 5 #[.agg #[.int .i64 o, .int .i64 l], .agg #[.int .i64 p, .int .i64 m], .int .i64 a] w fun e w' => e = .returned (.bool true) ∧ Below w.heap.size w w' := by
  have hP := pair_new w o l p m
  go_enter Try.func5, Try.ntmps5
  go_upto_region 1 with fail
  go_cut [29] from 12 to 29 (fun r W => r = .bool false ∧ Pair w o l p m W)
  case first =>
    replace hP := Pair.drew hP
    cases h3 : holds o l p m with
    | true =>
      obtain rfl := hh h3
      go_region_held3 (fun W => W.cell? ⟨w.heap.size, 0, none⟩ = some (.int .i64 o) ∧ W.cell? ⟨w.heap.size, 1, none⟩ = some (.int .i64 l) ∧ W.cell? ⟨w.heap.size + 1, 0, none⟩ = some (.int .i64 p) ∧ W.cell? ⟨w.heap.size + 1, 1, none⟩ = some (.int .i64 m)) (exact hP.cells)
        (first
        | (go_at_call 19; refine (overlap_any _ _ _ _ _).mono ?_; rintro e w1 ⟨rfl, hB⟩; replace hP := hP.after hB; clear hB)
        | (go_at_call 20; refine (holds_any _ _ _ _ _).mono ?_; rintro e w1 ⟨rfl, hB⟩; replace hP := hP.after hB; clear hB))
      all_goals (try go_wp2_with fail)
      all_goals go_meet
      all_goals exact ⟨rfl, hP⟩
    | false =>
      have oc := overlap_any o l p m
      have oc' := overlap_any p m o l
      have hc := holds_any o l p m
      rw [h1] at oc
      rw [h2] at oc'
      rw [h3] at hc
      clear h1 h2 h3 hh
      refine wp_region_held_drew (S := Pair w o l p m) (by kernel_rfl) hP (fun _ => ?_)
      refine wpAnyH_take (i := 0) (oi := { dst := some 12, op := Op.load 23 (Operand.tmp 3), type := 23, pos := "law.go:29", after := #[], guard := none }) (v := .agg #[.int .i64 o, .int .i64 l]) rfl (by kernel_rfl) (by kernel_rfl) (by kernel_rfl) (fun _ _ _ h => h) (Or.inl ⟨by rfl, fun W hW => by obtain ⟨c1, c2, c3, c4⟩ := hW.cells; go_simp⟩) hP ?_
      try simp only [Act.put, List.setIfInBounds_toArray, List.set_cons_zero, List.set_cons_succ]
      refine wpAnyH_take (i := 1) (oi := { dst := some 13, op := Op.load 23 (Operand.tmp 4), type := 23, pos := "law.go:29", after := #[], guard := none }) (v := .agg #[.int .i64 p, .int .i64 m]) rfl (by kernel_rfl) (by kernel_rfl) (by kernel_rfl) (fun _ _ _ h => h) (Or.inl ⟨by rfl, fun W hW => by obtain ⟨c1, c2, c3, c4⟩ := hW.cells; go_simp⟩) hP ?_
      try simp only [Act.put, List.setIfInBounds_toArray, List.set_cons_zero, List.set_cons_succ]
      refine wpAnyH_take (i := 3) (oi := { dst := some 15, op := Op.load 23 (Operand.tmp 4), type := 23, pos := "law.go:29", after := #[], guard := none }) (v := .agg #[.int .i64 p, .int .i64 m]) rfl (by kernel_rfl) (by kernel_rfl) (by kernel_rfl) (fun _ _ _ h => h) (Or.inl ⟨by rfl, fun W hW => by obtain ⟨c1, c2, c3, c4⟩ := hW.cells; go_simp⟩) hP ?_
      try simp only [Act.put, List.setIfInBounds_toArray, List.set_cons_zero, List.set_cons_succ]
      refine wpAnyH_take (i := 4) (oi := { dst := some 16, op := Op.load 23 (Operand.tmp 3), type := 23, pos := "law.go:29", after := #[], guard := none }) (v := .agg #[.int .i64 o, .int .i64 l]) rfl (by kernel_rfl) (by kernel_rfl) (by kernel_rfl) (fun _ _ _ h => h) (Or.inl ⟨by rfl, fun W hW => by obtain ⟨c1, c2, c3, c4⟩ := hW.cells; go_simp⟩) hP ?_
      try simp only [Act.put, List.setIfInBounds_toArray, List.set_cons_zero, List.set_cons_succ]
      refine wpAnyH_ready (rs := [2]) (by kernel_rfl) (by simp) ?_
      refine AllReadyH.cons (o := { dst := some 14, op := Op.call { callee := Callee.value (Operand.func 19), args := #[Operand.tmp 12, Operand.tmp 13], argTypes := #[23, 23] }, type := 4, pos := "law.go:29", after := #[{ on := 0, ground := Ground.data }, { on := 1, ground := Ground.data }], guard := none }) rfl (fun K hK => ?_) AllReadyH.nil
      go_simp
      (refine (oc _).mono ?_; rintro e w1 ⟨rfl, hB⟩; replace hP := hP.after hB; clear hB)
      go_wp2_with fail
      refine hK.out _ _ hP (fun _ => ?_)
      clear hK K
      try simp only [Act.put, List.setIfInBounds_toArray, List.set_cons_zero, List.set_cons_succ]
      refine wpAnyH_ready (rs := [5]) (by kernel_rfl) (by simp) ?_
      refine AllReadyH.cons (o := { dst := some 17, op := Op.call { callee := Callee.value (Operand.func 19), args := #[Operand.tmp 15, Operand.tmp 16], argTypes := #[23, 23] }, type := 4, pos := "law.go:29", after := #[{ on := 3, ground := Ground.data }, { on := 4, ground := Ground.data }, { on := 2, ground := Ground.chain }], guard := none }) rfl (fun K hK => ?_) AllReadyH.nil
      go_simp
      (refine (oc' _).mono ?_; rintro e w1 ⟨rfl, hB⟩; replace hP := hP.after hB; clear hB)
      go_wp2_with fail
      refine hK.out _ _ hP (fun _ => ?_)
      clear hK K
      try simp only [Act.put, List.setIfInBounds_toArray, List.set_cons_zero, List.set_cons_succ]
      refine wpAnyH_take (i := 6) (oi := { dst := some 18, op := Op.binOp BinOp.neq 4 (Operand.tmp 14) (Operand.tmp 17) 4, type := 4, pos := "law.go:29", after := #[{ on := 2, ground := Ground.data }, { on := 5, ground := Ground.data }], guard := none }) (v := .bool false) rfl (by kernel_rfl) (by kernel_rfl) (by kernel_rfl) (fun _ _ _ h => h) (Or.inl ⟨by rfl, fun W hW => by obtain ⟨c1, c2, c3, c4⟩ := hW.cells; go_simp⟩) hP ?_
      try simp only [Act.put, List.setIfInBounds_toArray, List.set_cons_zero, List.set_cons_succ]
      refine wpAnyH_take (i := 7) (oi := { dst := some 19, op := Op.move (Operand.tmp 18), type := 4, pos := "law.go:29", after := #[{ on := 6, ground := Ground.data }, { on := 5, ground := Ground.chain }], guard := none }) (v := .bool false) rfl (by kernel_rfl) (by kernel_rfl) (by kernel_rfl) (fun _ _ _ h => h) (Or.inl ⟨by rfl, fun W hW => by obtain ⟨c1, c2, c3, c4⟩ := hW.cells; go_simp⟩) hP ?_
      try simp only [Act.put, List.setIfInBounds_toArray, List.set_cons_zero, List.set_cons_succ]
      refine wpAnyH_take (i := 8) (oi := { dst := some 20, op := Op.load 23 (Operand.tmp 3), type := 23, pos := "law.go:29", after := #[{ on := 7, ground := Ground.guard }], guard := some (7, false) }) (v := .agg #[.int .i64 o, .int .i64 l]) rfl (by kernel_rfl) (by kernel_rfl) (by kernel_rfl) (fun _ _ _ h => h) (Or.inl ⟨by rfl, fun W hW => by obtain ⟨c1, c2, c3, c4⟩ := hW.cells; go_simp⟩) hP ?_
      try simp only [Act.put, List.setIfInBounds_toArray, List.set_cons_zero, List.set_cons_succ]
      refine wpAnyH_take (i := 9) (oi := { dst := some 21, op := Op.load 23 (Operand.tmp 4), type := 23, pos := "law.go:29", after := #[{ on := 7, ground := Ground.guard }], guard := some (7, false) }) (v := .agg #[.int .i64 p, .int .i64 m]) rfl (by kernel_rfl) (by kernel_rfl) (by kernel_rfl) (fun _ _ _ h => h) (Or.inl ⟨by rfl, fun W hW => by obtain ⟨c1, c2, c3, c4⟩ := hW.cells; go_simp⟩) hP ?_
      try simp only [Act.put, List.setIfInBounds_toArray, List.set_cons_zero, List.set_cons_succ]
      refine wpAnyH_ready (rs := [10]) (by kernel_rfl) (by simp) ?_
      refine AllReadyH.cons (o := { dst := some 22, op := Op.call { callee := Callee.value (Operand.func 20), args := #[Operand.tmp 20, Operand.tmp 21], argTypes := #[23, 23] }, type := 4, pos := "law.go:29", after := #[{ on := 8, ground := Ground.data }, { on := 9, ground := Ground.data }, { on := 7, ground := Ground.chain }, { on := 7, ground := Ground.guard }], guard := some (7, false) }) rfl (fun K hK => ?_) AllReadyH.nil
      go_simp
      (refine (hc _).mono ?_; rintro e w1 ⟨rfl, hB⟩; replace hP := hP.after hB; clear hB)
      go_wp2_with fail
      refine hK.out _ _ hP (fun _ => ?_)
      clear hK K
      try simp only [Act.put, List.setIfInBounds_toArray, List.set_cons_zero, List.set_cons_succ]
      refine wpAnyH_take (i := 11) (oi := { dst := some 23, op := Op.move (Operand.tmp 22), type := 4, pos := "law.go:29", after := #[{ on := 10, ground := Ground.data }, { on := 10, ground := Ground.chain }, { on := 7, ground := Ground.guard }], guard := some (7, false) }) (v := .bool false) rfl (by kernel_rfl) (by kernel_rfl) (by kernel_rfl) (fun _ _ _ h => h) (Or.inl ⟨by rfl, fun W hW => by obtain ⟨c1, c2, c3, c4⟩ := hW.cells; go_simp⟩) hP ?_
      try simp only [Act.put, List.setIfInBounds_toArray, List.set_cons_zero, List.set_cons_succ]
      refine wpAnyH_take (i := 12) (oi := { dst := some 24, op := Op.load 23 (Operand.tmp 3), type := 23, pos := "law.go:29", after := #[{ on := 11, ground := Ground.guard }], guard := some (11, true) }) (v := undef) rfl (by kernel_rfl) (by kernel_rfl) (by kernel_rfl) (fun _ _ _ h => h) (Or.inr ⟨by rfl, rfl⟩) hP ?_
      try simp only [Act.put, List.setIfInBounds_toArray, List.set_cons_zero, List.set_cons_succ]
      refine wpAnyH_take (i := 13) (oi := { dst := some 25, op := Op.load 23 (Operand.tmp 4), type := 23, pos := "law.go:29", after := #[{ on := 11, ground := Ground.guard }], guard := some (11, true) }) (v := undef) rfl (by kernel_rfl) (by kernel_rfl) (by kernel_rfl) (fun _ _ _ h => h) (Or.inr ⟨by rfl, rfl⟩) hP ?_
      try simp only [Act.put, List.setIfInBounds_toArray, List.set_cons_zero, List.set_cons_succ]
      refine wpAnyH_take (i := 14) (oi := { dst := some 26, op := Op.call { callee := Callee.value (Operand.func 19), args := #[Operand.tmp 24, Operand.tmp 25], argTypes := #[23, 23] }, type := 4, pos := "law.go:29", after := #[{ on := 12, ground := Ground.data }, { on := 13, ground := Ground.data }, { on := 11, ground := Ground.chain }, { on := 11, ground := Ground.guard }], guard := some (11, true) }) (v := undef) rfl (by kernel_rfl) (by kernel_rfl) (by kernel_rfl) (fun _ _ _ h => h) (Or.inr ⟨by rfl, rfl⟩) hP ?_
      try simp only [Act.put, List.setIfInBounds_toArray, List.set_cons_zero, List.set_cons_succ]
      refine wpAnyH_take (i := 15) (oi := { dst := some 27, op := Op.unOp UnOp.not 4 (Operand.tmp 26), type := 4, pos := "law.go:29", after := #[{ on := 14, ground := Ground.data }, { on := 11, ground := Ground.guard }], guard := some (11, true) }) (v := undef) rfl (by kernel_rfl) (by kernel_rfl) (by kernel_rfl) (fun _ _ _ h => h) (Or.inr ⟨by rfl, rfl⟩) hP ?_
      try simp only [Act.put, List.setIfInBounds_toArray, List.set_cons_zero, List.set_cons_succ]
      refine wpAnyH_take (i := 16) (oi := { dst := some 28, op := Op.pick (Operand.tmp 23) (Operand.tmp 27) (Operand.const (Value.bool false)), type := 4, pos := "law.go:29", after := #[{ on := 11, ground := Ground.data }, { on := 15, ground := Ground.data }, { on := 7, ground := Ground.guard }], guard := some (7, false) }) (v := .bool false) rfl (by kernel_rfl) (by kernel_rfl) (by kernel_rfl) (fun _ _ _ h => h) (Or.inl ⟨by rfl, fun W hW => by obtain ⟨c1, c2, c3, c4⟩ := hW.cells; go_simp⟩) hP ?_
      try simp only [Act.put, List.setIfInBounds_toArray, List.set_cons_zero, List.set_cons_succ]
      refine wpAnyH_take (i := 17) (oi := { dst := some 29, op := Op.pick (Operand.tmp 19) (Operand.const (Value.bool true)) (Operand.tmp 28), type := 4, pos := "law.go:29", after := #[{ on := 7, ground := Ground.data }, { on := 16, ground := Ground.data }], guard := none }) (v := .bool false) rfl (by kernel_rfl) (by kernel_rfl) (by kernel_rfl) (fun _ _ _ h => h) (Or.inl ⟨by rfl, fun W hW => by obtain ⟨c1, c2, c3, c4⟩ := hW.cells; go_simp⟩) hP ?_
      try simp only [Act.put, List.setIfInBounds_toArray, List.set_cons_zero, List.set_cons_succ]
      refine wpAnyH_done (by kernel_rfl) ?_ _
      go_wp2_with fail
      go_meet
      exact ⟨rfl, hP⟩
  case rest =>
    obtain ⟨rfl, hP⟩ := hcut
    have mc := meet_any o l p m
    have mc' := meet_any p m o l
    rw [mOff_comm p m o l, mLen_comm p m o l] at mc'
    generalize mOff o l p m = A at mc mc'
    generalize mLen o l p m = B at mc mc'
    clear h1 h2 hh
    obtain ⟨c1, c2, c3, c4⟩ := hP.cells
    by_cases hat : 255 < a
    · go_wp2_with (first
        | (go_at_call_of 17 (#[Value.agg #[Value.int IntKind.i64 o, Value.int IntKind.i64 l], Value.agg #[Value.int IntKind.i64 p, Value.int IntKind.i64 m]] : Array Value); refine (mc _).mono ?_; rintro e w1 ⟨rfl, hB⟩; replace hP := hP.after hB; have f1 := fun x => (hP.after (below_new w1 x)).cells.1; have f2 := fun x => (hP.after (below_new w1 x)).cells.2.1; have f3 := fun x => (hP.after (below_new w1 x)).cells.2.2.1; have f4 := fun x => (hP.after (below_new w1 x)).cells.2.2.2; clear hB mc)
        | (go_at_call_of 17 (#[Value.agg #[Value.int IntKind.i64 p, Value.int IntKind.i64 m], Value.agg #[Value.int IntKind.i64 o, Value.int IntKind.i64 l]] : Array Value); refine (mc' _).mono ?_; rintro e w2 ⟨rfl, hB⟩; have hx := (box_new w1 _ _ 23).below hB (by simp); have hl : w1.heap.size < w2.heap.size := (by have := hB.size; simp at this; omega); replace hP := (hP.after (below_new _ _)).after hB; have g1 := fun x => (hx.below (below_new w2 x) hl).1; have g2 := fun x => (hx.below (below_new w2 x) hl).2; have k1 := fun x y => ((hP.after (below_new w2 x)).after (below_new _ y)).cells.1; have k2 := fun x y => ((hP.after (below_new w2 x)).after (below_new _ y)).cells.2.1; clear hB mc' f1 f2 f3 f4)
        | (go_at_call 16; refine (lives_any _).mono ?_; rintro e w9 ⟨rfl, hB⟩; first | replace hP := hP.after hB | replace hP := ((hP.after (below_new _ _)).after (below_new _ _)).after hB))
      go_ret
      exact ⟨rfl, hP.below⟩
    · have hc := holds_any o l a 1
      cases h3 : holds o l a 1 with
      | false =>
        rw [h3] at hc
        go_wp2_with (first
          | (go_at_call_of 17 (#[Value.agg #[Value.int IntKind.i64 o, Value.int IntKind.i64 l], Value.agg #[Value.int IntKind.i64 p, Value.int IntKind.i64 m]] : Array Value); refine (mc _).mono ?_; rintro e w1 ⟨rfl, hB⟩; replace hP := hP.after hB; have f1 := fun x => (hP.after (below_new w1 x)).cells.1; have f2 := fun x => (hP.after (below_new w1 x)).cells.2.1; have f3 := fun x => (hP.after (below_new w1 x)).cells.2.2.1; have f4 := fun x => (hP.after (below_new w1 x)).cells.2.2.2; clear hB mc)
          | (go_at_call_of 17 (#[Value.agg #[Value.int IntKind.i64 p, Value.int IntKind.i64 m], Value.agg #[Value.int IntKind.i64 o, Value.int IntKind.i64 l]] : Array Value); refine (mc' _).mono ?_; rintro e w2 ⟨rfl, hB⟩; have hx := (box_new w1 _ _ 23).below hB (by simp); have hl : w1.heap.size < w2.heap.size := (by have := hB.size; simp at this; omega); replace hP := (hP.after (below_new _ _)).after hB; have g1 := fun x => (hx.below (below_new w2 x) hl).1; have g2 := fun x => (hx.below (below_new w2 x) hl).2; have k1 := fun x y => ((hP.after (below_new w2 x)).after (below_new _ y)).cells.1; have k2 := fun x y => ((hP.after (below_new w2 x)).after (below_new _ y)).cells.2.1; clear hB mc' f1 f2 f3 f4)
          | (go_at_call 20; refine (hc _).mono ?_; rintro e w3 ⟨rfl, hB⟩; have hl : w2.heap.size + 1 < w3.heap.size := (by have := hB.size; simp at this; omega); have hz := (box_new (w2.alloc _) (.int .i64 a) (.int .i64 1) 23).below hB (by simp); replace hP := ((hP.after (below_new _ _)).after (below_new _ _)).after hB;  clear hB hc k1 k2 g1 g2)
          | (go_at_call 16; refine (lives_any _).mono ?_; rintro e w9 ⟨rfl, hB⟩; first | replace hP := hP.after hB | replace hP := ((hP.after (below_new _ _)).after (below_new _ _)).after hB))
        go_ret
        exact ⟨rfl, hP.below⟩
      | true =>
        rw [h3] at hc
        have hx := ext_one h3 (by omega)
        clear h3
        obtain ⟨hne, hand⟩ := hx
        have hl1 := ext_lt o l
        have hl2 := ext_lt a 1
        have xa := extents_any o l
        have xb := extents_any a 1
        generalize ext o l = X at xa hand hl1
        generalize ext a 1 = Y at xb hand hne hl2
        have hne' : ((Y : Int) == 0) = false := by simpa using hne
        have hn1 : ((Y : Int) != 0) = true := by simpa using hne
        have hn3 : ¬ ((Y : Int) = 0) := by omega
        have hand' := u64_and_nat X Y hl1 hl2
        rw [hand] at hand'
        clear hne hand
        go_upto_region 10 with (first
          | (go_at_call_of 17 (#[Value.agg #[Value.int IntKind.i64 o, Value.int IntKind.i64 l], Value.agg #[Value.int IntKind.i64 p, Value.int IntKind.i64 m]] : Array Value); refine (mc _).mono ?_; rintro e w1 ⟨rfl, hB⟩; replace hP := hP.after hB; have f1 := fun x => (hP.after (below_new w1 x)).cells.1; have f2 := fun x => (hP.after (below_new w1 x)).cells.2.1; have f3 := fun x => (hP.after (below_new w1 x)).cells.2.2.1; have f4 := fun x => (hP.after (below_new w1 x)).cells.2.2.2; clear hB mc)
          | (go_at_call_of 17 (#[Value.agg #[Value.int IntKind.i64 p, Value.int IntKind.i64 m], Value.agg #[Value.int IntKind.i64 o, Value.int IntKind.i64 l]] : Array Value); refine (mc' _).mono ?_; rintro e w2 ⟨rfl, hB⟩; have hx := (box_new w1 _ _ 23).below hB (by simp); have hl : w1.heap.size < w2.heap.size := (by have := hB.size; simp at this; omega); replace hP := (hP.after (below_new _ _)).after hB; have g1 := fun x => (hx.below (below_new w2 x) hl).1; have g2 := fun x => (hx.below (below_new w2 x) hl).2; have k1 := fun x y => ((hP.after (below_new w2 x)).after (below_new _ y)).cells.1; have k2 := fun x y => ((hP.after (below_new w2 x)).after (below_new _ y)).cells.2.1; clear hB mc' f1 f2 f3 f4)
          | (go_at_call 20; refine (hc _).mono ?_; rintro e w3 ⟨rfl, hB⟩; have hl : w2.heap.size + 1 < w3.heap.size := (by have := hB.size; simp at this; omega); have hz := (box_new (w2.alloc _) (.int .i64 a) (.int .i64 1) 23).below hB (by simp); replace hP := ((hP.after (below_new _ _)).after (below_new _ _)).after hB;  clear hB hc k1 k2 g1 g2))
        have hP := Pair.drew hP
        rw [show (w2.alloc (.cells #[.int .i64 A, .int .i64 B] 23)).heap.size = w2.heap.size + 1 from by simp] at hz
        have hz : Box w3.drew (w2.heap.size + 1) (.int .i64 a) (.int .i64 1) := hz
        have hl : w2.heap.size + 1 < w3.drew.heap.size := hl
        go_region_held3 (fun W => W.cell? ⟨w.heap.size, 0, none⟩ = some (.int .i64 o) ∧ W.cell? ⟨w.heap.size, 1, none⟩ = some (.int .i64 l) ∧ W.cell? ⟨w2.heap.size + 1, 0, none⟩ = some (.int .i64 a) ∧ W.cell? ⟨w2.heap.size + 1, 1, none⟩ = some (.int .i64 1)) (exact ⟨hP.cells.1, hP.cells.2.1, hz.1, hz.2⟩)
          (first
          | (go_at_call_of 12 (#[Value.agg #[Value.int IntKind.i64 o, Value.int IntKind.i64 l]] : Array Value); refine (xa _).mono ?_; rintro e w4 ⟨rfl, hB⟩; replace hP := hP.after hB; replace hz := hz.below hB (by omega); replace hl := Nat.lt_of_lt_of_le hl hB.size; clear hB)
          | (go_at_call_of 12 (#[Value.agg #[Value.int IntKind.i64 a, Value.int IntKind.i64 1]] : Array Value); refine (xb _).mono ?_; rintro e w4 ⟨rfl, hB⟩; replace hP := hP.after hB; replace hz := hz.below hB (by omega); replace hl := Nat.lt_of_lt_of_le hl hB.size; clear hB)
          | (go_at_call 16; refine (lives_any _).mono ?_; rintro e w9 ⟨rfl, hB⟩; replace hP := hP.after hB; replace hz := hz.below hB (by omega); clear hB))
        go_wp2_with fail
        go_ret
        exact ⟨rfl, hP.below⟩
end spanTurns
end Go.Proofs.Ytakljofmnpagpaa
