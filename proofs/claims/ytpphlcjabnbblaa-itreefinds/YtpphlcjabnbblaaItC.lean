import Derived.Test.YtpphlcjabnbblaaItB
/-
  The walks of Insert and Delete of twainref14.
-/
namespace Go.Proofs.Ytpphlcjabnbblaa.Itree
open Go.RowKit

theorem items_one (w : World) (x : It) : ItemsAt (w.alloc (.cells #[.int .i64 x.o, .int .i64 x.l, .int .i64 x.i] 66)) (.slice (some ⟨w.heap.size, 0, none⟩) 1 1) (some w.heap.size) [x] := by
  have hb := blk_new w 66 #[.int .i64 x.o, .int .i64 x.l, .int .i64 x.i]
  refine ⟨_, 1, rfl, Nat.le_refl _, by unfold maxLen; omega, .inr ⟨w.heap.size, 0, rfl, rfl, hb.lt, fun j y hy k v hv => ?_⟩⟩
  have hj : j = 0 := by
    have := (List.getElem?_eq_some_iff.1 hy).1
    simpa using this
  subst hj
  simp at hy
  subst hy
  rw [hb.cell]
  simpa [It.cells] using hv
theorem ItemsAt.take {W : World} {b off cap : Nat} {ob : Option Nat} {L : List It} (h : ItemsAt W (.slice (some ⟨b, off, none⟩) L.length cap) ob L) (n : Nat) (hn : n ≤ L.length) : ItemsAt W (.slice (some ⟨b, off, none⟩) n cap) ob (L.take n) := by
  obtain ⟨a, cap', he, hc, hm, ⟨h1, h2, h3, h4⟩ | ⟨b', off', h1, h2, h3, h4⟩⟩ := h
  · subst h1
    simp at he
  · subst h1
    simp at he
    obtain ⟨⟨rfl, rfl⟩, rfl⟩ := he
    refine ⟨_, cap, by rw [List.length_take, Nat.min_eq_left hn], by rw [List.length_take, Nat.min_eq_left hn]; omega, hm, .inr ⟨b, off, rfl, h2, h3, fun j y hy => ?_⟩⟩
    rw [List.getElem?_take] at hy
    split at hy
    · exact h4 j y hy
    · cases hy
theorem ItemsAt.drop_all {W : World} {b off cap : Nat} {ob : Option Nat} {L : List It} (h : ItemsAt W (.slice (some ⟨b, off, none⟩) L.length cap) ob L) (n : Nat) (hn : L.length ≤ n) : ItemsAt W (.slice (some ⟨b, off, none⟩) 0 0) ob (L.drop n) := by
  rw [List.drop_eq_nil_of_le hn]
  obtain ⟨a, cap', he, hc, hm, ⟨h1, h2, h3, h4⟩ | ⟨b', off', h1, h2, h3, h4⟩⟩ := h
  · subst h1
    simp at he
  · subst h1
    simp at he
    obtain ⟨⟨rfl, rfl⟩, rfl⟩ := he
    exact ⟨_, 0, rfl, Nat.le_refl _, by omega, .inr ⟨b, off, rfl, h2, h3, fun j y hy => by simp at hy⟩⟩
theorem ItemsAt.drop {W : World} {b off cap : Nat} {ob : Option Nat} {L : List It} (h : ItemsAt W (.slice (some ⟨b, off, none⟩) L.length cap) ob L) (n : Nat) (hn : n ≤ L.length) : ItemsAt W (.slice (some ⟨b, off + n * 3, none⟩) (L.length - n) (cap - n)) ob (L.drop n) := by
  obtain ⟨a, cap', he, hc, hm, ⟨h1, h2, h3, h4⟩ | ⟨b', off', h1, h2, h3, h4⟩⟩ := h
  · subst h1
    simp at he
  · subst h1
    simp at he
    obtain ⟨⟨rfl, rfl⟩, rfl⟩ := he
    refine ⟨_, cap - n, by rw [List.length_drop], by rw [List.length_drop]; omega, by omega, .inr ⟨b, off + n * 3, rfl, h2, h3, fun j y hy => ?_⟩⟩
    rw [List.getElem?_drop] at hy
    have := h4 (n + j) y hy
    rwa [show off + (n + j) * 3 = off + n * 3 + j * 3 by omega] at this

set_option maxRecDepth 100000 in
set_option maxHeartbeats 4000000 in
/-- Insert -/
theorem rInsert_any (r : Nat) (ob : Option Nat) (L : List It) (x : It) (w : World) (h : RT w r ob L) (hfew : L.length ≤ 999999) :
    Calls Try.prog 12 #[.pointer (some ⟨r, 0, none⟩), .agg #[.int .i64 x.o, .int .i64 x.l], .int .i64 x.i] w fun e w' => e = .returned (.bool (insOk L x)) ∧ (∃ ob', RT w' r ob' (insL L x) ∧ (∀ k, ob' = some k → ob = some k ∨ w.heap.size ≤ k)) ∧ Kept [r] w w' := by
  have hka := kept_alloc [] w (.cells #[.int .i64 x.o, .int .i64 x.l] 24)
  have hsa := blk_new w 24 #[.int .i64 x.o, .int .i64 x.l]
  have hkb := kept_alloc [] (w.alloc (.cells #[.int .i64 x.o, .int .i64 x.l] 24)) (.cells #[.int .i64 x.o, .int .i64 x.l, .int .i64 x.i] 66)
  have hxb := blk_new (w.alloc (.cells #[.int .i64 x.o, .int .i64 x.l] 24)) 66 #[.int .i64 x.o, .int .i64 x.l, .int .i64 x.i]
  rw [show (w.alloc (.cells #[.int .i64 x.o, .int .i64 x.l] 24)).heap.size = w.heap.size + 1 by simp] at hxb
  have hrt := (h.kept hka (by simp) (by simp)).kept hkb (by simp) (by simp)
  have hrlt : r < w.heap.size := by
    obtain ⟨v, h1, _⟩ := h.row
    exact h1.lt
  have qpl := rplace_any r ob L x _ hrt
  unfold It.val at qpl
  have hpl := place_le L x
  have hth : Hid (there L x = decide (L[place L x]? = some x)) := rfl
  have hinL : Hid (insL L x = if insOk L x then L.take (place L x) ++ x :: L.drop (place L x) else L) := rfl
  generalize place L x = n at *
  go_enter Try.func12, Try.ntmps12
  go_upto_region 3 with (first
    | (go_at_call 29; refine qpl.mono ?_; rintro e w1 ⟨rfl, hk1⟩))
  have hk01 := (hka.trans hkb).trans hk1
  have hs1 := (hsa.kept hkb (by simp)).kept hk1 (by simp)
  have hx1 := hxb.kept hk1 (by simp)
  have ht1 := hrt.kept hk1 (by simp) (by simp)
  clear qpl hrt hka hkb hsa hxb hk1
  have fO : ∀ W, Kept [] w1 W → W.cell? ⟨w.heap.size, 0, none⟩ = some (.int .i64 x.o) := fun W hk => ((hs1.kept hk (by simp)).cell 0).trans rfl
  have fL : ∀ W, Kept [] w1 W → W.cell? ⟨w.heap.size, 1, none⟩ = some (.int .i64 x.l) := fun W hk => ((hs1.kept hk (by simp)).cell 1).trans rfl
  have fX : ∀ W, Kept [] w1 W → W.cell? ⟨w.heap.size + 1, 0, none⟩ = some (.int .i64 x.o) ∧ W.cell? ⟨w.heap.size + 1, 1, none⟩ = some (.int .i64 x.l) ∧ W.cell? ⟨w.heap.size + 1, 2, none⟩ = some (.int .i64 x.i) := fun W hk => ⟨((hx1.kept hk (by simp)).cell 0).trans rfl, ((hx1.kept hk (by simp)).cell 1).trans rfl, ((hx1.kept hk (by simp)).cell 2).trans rfl⟩
  go_cut [43] from 16 to 44 (fun v W => v = .bool (!insOk L x) ∧ Kept [] w1 W)
  case first =>
    obtain ⟨v, hr1, hit⟩ := ht1.row
    obtain ⟨a, cap, rfl, hc, hm, hrow⟩ := hit
    have fR : ∀ W, Kept [] w1 W → W.cell? ⟨r, 0, none⟩ = some (.slice a L.length cap) := fun W hk => ((hr1.kept hk (by simp)).cell 0).trans rfl
    have qp := fun W => Span.refPlain_any x.o x.l W
    have hins : insOk L x = (good x && !there L x) := rfl
    have hgood : good x = (Span.Math.plain x.o x.l && decide (1 ≤ x.l)) := rfl
    replace hth := hth.out
    obtain ⟨len, hlen⟩ : ∃ len, L.length = len := ⟨_, rfl⟩
    rw [hlen] at fR hpl hc
    by_cases hp : Span.Math.plain x.o x.l = true
    · rw [hp] at qp
      by_cases hl1 : x.l < 1
      · have hz : Hid (insOk L x = false) := by
          show insOk L x = false
          rw [hins, hgood]
          have : decide (1 ≤ x.l) = false := by simp; omega
          simp [this]
        clear hins hgood hth hlen hrow hc hpl ht1 h
        refine wp_region_held_drew (S := fun W => Kept [] w1 W) (by kernel_rfl) (kept_drew [] w1) (fun hP => ?_)
        have hH := hP
        clear hP
        refine wpAnyH_take (i := 0) (oi := { dst := some 16, op := Op.load 24 (Operand.tmp 4), type := 24, pos := "ref.go:42", after := #[], guard := none }) (v := (.agg #[.int .i64 x.o, .int .i64 x.l])) rfl (by kernel_rfl) (by kernel_rfl) (by kernel_rfl) (fun _ _ _ h => h) (Or.inl ⟨by rfl, fun W hSw => by have c0 := fO W hSw; have c1 := fL W hSw; go_simp⟩) hH ?_
        try simp only [Act.put, List.setIfInBounds_toArray, List.set_cons_zero, List.set_cons_succ]
        refine wpAnyH_ready (rs := [1]) (by kernel_rfl) (by simp) ?_
        refine AllReadyH.cons (o := { dst := some 17, op := Op.call { callee := Callee.value (Operand.func 31), args := #[Operand.tmp 16], argTypes := #[24] }, type := 4, pos := "ref.go:42", after := #[{ on := 0, ground := Ground.data }], guard := none }) rfl (fun K hK => ?_) AllReadyH.nil
        go_simp
        refine (qp _).mono ?_
        rintro e w2 ⟨rfl, hB2⟩
        go_wp2_with fail
        have hH1 := hH.trans (Kept.of_below hB2 [])
        refine hK.out _ _ hH1 (fun _ => ?_)
        replace hH := hH1
        clear hK K hH1
        try simp only [Act.put, List.setIfInBounds_toArray, List.set_cons_zero, List.set_cons_succ]
        refine wpAnyH_take (i := 2) (oi := { dst := some 18, op := Op.unOp UnOp.not 4 (Operand.tmp 17), type := 4, pos := "ref.go:42", after := #[{ on := 1, ground := Ground.data }], guard := none }) (v := (.bool false)) rfl (by kernel_rfl) (by kernel_rfl) (by kernel_rfl) (fun _ _ _ h => h) (Or.inl ⟨by rfl, fun W hSw => by go_simp⟩) hH ?_
        try simp only [Act.put, List.setIfInBounds_toArray, List.set_cons_zero, List.set_cons_succ]
        refine wpAnyH_take (i := 3) (oi := { dst := some 19, op := Op.move (Operand.tmp 18), type := 4, pos := "ref.go:42", after := #[{ on := 2, ground := Ground.data }, { on := 1, ground := Ground.chain }], guard := none }) (v := (.bool false)) rfl (by kernel_rfl) (by kernel_rfl) (by kernel_rfl) (fun _ _ _ h => h) (Or.inl ⟨by rfl, fun W hSw => by go_simp⟩) hH ?_
        try simp only [Act.put, List.setIfInBounds_toArray, List.set_cons_zero, List.set_cons_succ]
        refine wpAnyH_take (i := 4) (oi := { dst := some 20, op := Op.fieldAddr 24 (Operand.tmp 4) 1, type := 0, pos := "ref.go:42", after := #[{ on := 3, ground := Ground.guard }], guard := some (3, false) }) (v := (.pointer (some ⟨w.heap.size, 1, none⟩))) rfl (by kernel_rfl) (by kernel_rfl) (by kernel_rfl) (fun _ _ _ h => h) (Or.inl ⟨by rfl, fun W hSw => by go_simp⟩) hH ?_
        try simp only [Act.put, List.setIfInBounds_toArray, List.set_cons_zero, List.set_cons_succ]
        refine wpAnyH_take (i := 5) (oi := { dst := some 21, op := Op.load 3 (Operand.tmp 20), type := 3, pos := "ref.go:42", after := #[{ on := 4, ground := Ground.data }, { on := 3, ground := Ground.guard }], guard := some (3, false) }) (v := (.int .i64 x.l)) rfl (by kernel_rfl) (by kernel_rfl) (by kernel_rfl) (fun _ _ _ h => h) (Or.inl ⟨by rfl, fun W hSw => by have c1 := fL W hSw; go_simp⟩) hH ?_
        try simp only [Act.put, List.setIfInBounds_toArray, List.set_cons_zero, List.set_cons_succ]
        refine wpAnyH_take (i := 6) (oi := { dst := some 22, op := Op.binOp BinOp.lss 3 (Operand.tmp 21) (Operand.const (Value.int IntKind.i64 1)) 3, type := 4, pos := "ref.go:42", after := #[{ on := 5, ground := Ground.data }, { on := 3, ground := Ground.guard }], guard := some (3, false) }) (v := (.bool true)) rfl (by kernel_rfl) (by kernel_rfl) (by kernel_rfl) (fun _ _ _ h => h) (Or.inl ⟨by rfl, fun W hSw => by go_simp⟩) hH ?_
        try simp only [Act.put, List.setIfInBounds_toArray, List.set_cons_zero, List.set_cons_succ]
        refine wpAnyH_take (i := 7) (oi := { dst := some 23, op := Op.pick (Operand.tmp 19) (Operand.const (Value.bool true)) (Operand.tmp 22), type := 4, pos := "ref.go:42", after := #[{ on := 3, ground := Ground.data }, { on := 6, ground := Ground.data }], guard := none }) (v := (.bool true)) rfl (by kernel_rfl) (by kernel_rfl) (by kernel_rfl) (fun _ _ _ h => h) (Or.inl ⟨by rfl, fun W hSw => by go_simp⟩) hH ?_
        try simp only [Act.put, List.setIfInBounds_toArray, List.set_cons_zero, List.set_cons_succ]
        refine wpAnyH_take (i := 8) (oi := { dst := some 24, op := Op.move (Operand.tmp 23), type := 4, pos := "ref.go:42", after := #[{ on := 7, ground := Ground.data }, { on := 3, ground := Ground.chain }], guard := none }) (v := (.bool true)) rfl (by kernel_rfl) (by kernel_rfl) (by kernel_rfl) (fun _ _ _ h => h) (Or.inl ⟨by rfl, fun W hSw => by go_simp⟩) hH ?_
        try simp only [Act.put, List.setIfInBounds_toArray, List.set_cons_zero, List.set_cons_succ]
        refine wpAnyH_take (i := 9) (oi := { dst := some 25, op := Op.move (Operand.tmp 8), type := 3, pos := "ref.go:42", after := #[{ on := 8, ground := Ground.guard }], guard := some (8, false) }) (v := undef) rfl (by kernel_rfl) (by kernel_rfl) (by kernel_rfl) (fun _ _ _ h => h) (Or.inr ⟨by rfl, rfl⟩) hH ?_
        try simp only [Act.put, List.setIfInBounds_toArray, List.set_cons_zero, List.set_cons_succ]
        refine wpAnyH_take (i := 10) (oi := { dst := some 26, op := Op.move (Operand.tmp 0), type := 28, pos := "ref.go:42", after := #[{ on := 8, ground := Ground.guard }], guard := some (8, false) }) (v := undef) rfl (by kernel_rfl) (by kernel_rfl) (by kernel_rfl) (fun _ _ _ h => h) (Or.inr ⟨by rfl, rfl⟩) hH ?_
        try simp only [Act.put, List.setIfInBounds_toArray, List.set_cons_zero, List.set_cons_succ]
        refine wpAnyH_take (i := 11) (oi := { dst := some 27, op := Op.nilCheck (Operand.tmp 26), type := 0, pos := "ref.go:42", after := #[{ on := 10, ground := Ground.data }, { on := 8, ground := Ground.guard }], guard := some (8, false) }) (v := undef) rfl (by kernel_rfl) (by kernel_rfl) (by kernel_rfl) (fun _ _ _ h => h) (Or.inr ⟨by rfl, rfl⟩) hH ?_
        try simp only [Act.put, List.setIfInBounds_toArray, List.set_cons_zero, List.set_cons_succ]
        refine wpAnyH_take (i := 12) (oi := { dst := some 28, op := Op.fieldAddr 31 (Operand.tmp 27) 0, type := 0, pos := "ref.go:42", after := #[{ on := 11, ground := Ground.data }, { on := 8, ground := Ground.guard }], guard := some (8, false) }) (v := undef) rfl (by kernel_rfl) (by kernel_rfl) (by kernel_rfl) (fun _ _ _ h => h) (Or.inr ⟨by rfl, rfl⟩) hH ?_
        try simp only [Act.put, List.setIfInBounds_toArray, List.set_cons_zero, List.set_cons_succ]
        refine wpAnyH_take (i := 13) (oi := { dst := some 29, op := Op.load 29 (Operand.tmp 28), type := 29, pos := "ref.go:42", after := #[{ on := 12, ground := Ground.data }, { on := 8, ground := Ground.guard }], guard := some (8, false) }) (v := undef) rfl (by kernel_rfl) (by kernel_rfl) (by kernel_rfl) (fun _ _ _ h => h) (Or.inr ⟨by rfl, rfl⟩) hH ?_
        try simp only [Act.put, List.setIfInBounds_toArray, List.set_cons_zero, List.set_cons_succ]
        refine wpAnyH_take (i := 14) (oi := { dst := some 30, op := Op.call { callee := Callee.builtin Builtin.len, args := #[Operand.tmp 29], argTypes := #[29] }, type := 3, pos := "ref.go:42", after := #[{ on := 13, ground := Ground.data }, { on := 8, ground := Ground.guard }], guard := some (8, false) }) (v := undef) rfl (by kernel_rfl) (by kernel_rfl) (by kernel_rfl) (fun _ _ _ h => h) (Or.inr ⟨by rfl, rfl⟩) hH ?_
        try simp only [Act.put, List.setIfInBounds_toArray, List.set_cons_zero, List.set_cons_succ]
        refine wpAnyH_take (i := 15) (oi := { dst := some 31, op := Op.binOp BinOp.lss 3 (Operand.tmp 25) (Operand.tmp 30) 3, type := 4, pos := "ref.go:42", after := #[{ on := 9, ground := Ground.data }, { on := 14, ground := Ground.data }, { on := 8, ground := Ground.guard }], guard := some (8, false) }) (v := undef) rfl (by kernel_rfl) (by kernel_rfl) (by kernel_rfl) (fun _ _ _ h => h) (Or.inr ⟨by rfl, rfl⟩) hH ?_
        try simp only [Act.put, List.setIfInBounds_toArray, List.set_cons_zero, List.set_cons_succ]
        refine wpAnyH_take (i := 16) (oi := { dst := some 32, op := Op.move (Operand.tmp 31), type := 4, pos := "ref.go:42", after := #[{ on := 15, ground := Ground.data }, { on := 8, ground := Ground.chain }, { on := 8, ground := Ground.guard }], guard := some (8, false) }) (v := undef) rfl (by kernel_rfl) (by kernel_rfl) (by kernel_rfl) (fun _ _ _ h => h) (Or.inr ⟨by rfl, rfl⟩) hH ?_
        try simp only [Act.put, List.setIfInBounds_toArray, List.set_cons_zero, List.set_cons_succ]
        refine wpAnyH_take (i := 17) (oi := { dst := some 33, op := Op.move (Operand.tmp 0), type := 28, pos := "ref.go:42", after := #[{ on := 16, ground := Ground.guard }], guard := some (16, true) }) (v := undef) rfl (by kernel_rfl) (by kernel_rfl) (by kernel_rfl) (fun _ _ _ h => h) (Or.inr ⟨by rfl, rfl⟩) hH ?_
        try simp only [Act.put, List.setIfInBounds_toArray, List.set_cons_zero, List.set_cons_succ]
        refine wpAnyH_take (i := 18) (oi := { dst := some 34, op := Op.nilCheck (Operand.tmp 33), type := 0, pos := "ref.go:42", after := #[{ on := 17, ground := Ground.data }, { on := 16, ground := Ground.guard }], guard := some (16, true) }) (v := undef) rfl (by kernel_rfl) (by kernel_rfl) (by kernel_rfl) (fun _ _ _ h => h) (Or.inr ⟨by rfl, rfl⟩) hH ?_
        try simp only [Act.put, List.setIfInBounds_toArray, List.set_cons_zero, List.set_cons_succ]
        refine wpAnyH_take (i := 19) (oi := { dst := some 35, op := Op.fieldAddr 31 (Operand.tmp 34) 0, type := 0, pos := "ref.go:42", after := #[{ on := 18, ground := Ground.data }, { on := 16, ground := Ground.guard }], guard := some (16, true) }) (v := undef) rfl (by kernel_rfl) (by kernel_rfl) (by kernel_rfl) (fun _ _ _ h => h) (Or.inr ⟨by rfl, rfl⟩) hH ?_
        try simp only [Act.put, List.setIfInBounds_toArray, List.set_cons_zero, List.set_cons_succ]
        refine wpAnyH_take (i := 20) (oi := { dst := some 36, op := Op.load 29 (Operand.tmp 35), type := 29, pos := "ref.go:42", after := #[{ on := 19, ground := Ground.data }, { on := 16, ground := Ground.guard }], guard := some (16, true) }) (v := undef) rfl (by kernel_rfl) (by kernel_rfl) (by kernel_rfl) (fun _ _ _ h => h) (Or.inr ⟨by rfl, rfl⟩) hH ?_
        try simp only [Act.put, List.setIfInBounds_toArray, List.set_cons_zero, List.set_cons_succ]
        refine wpAnyH_take (i := 21) (oi := { dst := some 37, op := Op.move (Operand.tmp 8), type := 3, pos := "ref.go:42", after := #[{ on := 16, ground := Ground.guard }], guard := some (16, true) }) (v := undef) rfl (by kernel_rfl) (by kernel_rfl) (by kernel_rfl) (fun _ _ _ h => h) (Or.inr ⟨by rfl, rfl⟩) hH ?_
        try simp only [Act.put, List.setIfInBounds_toArray, List.set_cons_zero, List.set_cons_succ]
        refine wpAnyH_take (i := 22) (oi := { dst := some 38, op := Op.indexAddr 29 (Operand.tmp 36) (Operand.tmp 37), type := 0, pos := "ref.go:42", after := #[{ on := 20, ground := Ground.data }, { on := 21, ground := Ground.data }, { on := 16, ground := Ground.guard }], guard := some (16, true) }) (v := undef) rfl (by kernel_rfl) (by kernel_rfl) (by kernel_rfl) (fun _ _ _ h => h) (Or.inr ⟨by rfl, rfl⟩) hH ?_
        try simp only [Act.put, List.setIfInBounds_toArray, List.set_cons_zero, List.set_cons_succ]
        refine wpAnyH_take (i := 23) (oi := { dst := some 39, op := Op.load 66 (Operand.tmp 38), type := 66, pos := "ref.go:42", after := #[{ on := 22, ground := Ground.data }, { on := 16, ground := Ground.guard }], guard := some (16, true) }) (v := undef) rfl (by kernel_rfl) (by kernel_rfl) (by kernel_rfl) (fun _ _ _ h => h) (Or.inr ⟨by rfl, rfl⟩) hH ?_
        try simp only [Act.put, List.setIfInBounds_toArray, List.set_cons_zero, List.set_cons_succ]
        refine wpAnyH_take (i := 24) (oi := { dst := some 40, op := Op.load 66 (Operand.tmp 7), type := 66, pos := "ref.go:42", after := #[{ on := 16, ground := Ground.guard }], guard := some (16, true) }) (v := undef) rfl (by kernel_rfl) (by kernel_rfl) (by kernel_rfl) (fun _ _ _ h => h) (Or.inr ⟨by rfl, rfl⟩) hH ?_
        try simp only [Act.put, List.setIfInBounds_toArray, List.set_cons_zero, List.set_cons_succ]
        refine wpAnyH_take (i := 25) (oi := { dst := some 41, op := Op.binOp BinOp.eql 66 (Operand.tmp 39) (Operand.tmp 40) 66, type := 4, pos := "ref.go:42", after := #[{ on := 23, ground := Ground.data }, { on := 24, ground := Ground.data }, { on := 16, ground := Ground.guard }], guard := some (16, true) }) (v := undef) rfl (by kernel_rfl) (by kernel_rfl) (by kernel_rfl) (fun _ _ _ h => h) (Or.inr ⟨by rfl, rfl⟩) hH ?_
        try simp only [Act.put, List.setIfInBounds_toArray, List.set_cons_zero, List.set_cons_succ]
        refine wpAnyH_take (i := 26) (oi := { dst := some 42, op := Op.pick (Operand.tmp 32) (Operand.tmp 41) (Operand.const (Value.bool false)), type := 4, pos := "ref.go:42", after := #[{ on := 16, ground := Ground.data }, { on := 25, ground := Ground.data }, { on := 8, ground := Ground.guard }], guard := some (8, false) }) (v := undef) rfl (by kernel_rfl) (by kernel_rfl) (by kernel_rfl) (fun _ _ _ h => h) (Or.inr ⟨by rfl, rfl⟩) hH ?_
        try simp only [Act.put, List.setIfInBounds_toArray, List.set_cons_zero, List.set_cons_succ]
        refine wpAnyH_take (i := 27) (oi := { dst := some 43, op := Op.pick (Operand.tmp 24) (Operand.const (Value.bool true)) (Operand.tmp 42), type := 4, pos := "ref.go:42", after := #[{ on := 8, ground := Ground.data }, { on := 26, ground := Ground.data }], guard := none }) (v := (.bool true)) rfl (by kernel_rfl) (by kernel_rfl) (by kernel_rfl) (fun _ _ _ h => h) (Or.inl ⟨by rfl, fun W hSw => by go_simp⟩) hH ?_
        try simp only [Act.put, List.setIfInBounds_toArray, List.set_cons_zero, List.set_cons_succ]
        refine wpAnyH_done (by kernel_rfl) ?_ _
        go_wp2_with fail
        go_meet
        exact ⟨by rw [hz.out]; rfl, hH⟩
      · by_cases hnl : n < len
        · obtain ⟨-, -, -, h4⟩ | ⟨b, off, rfl, -, hb, hcs⟩ := hrow
          · rw [h4] at hlen
            simp at hlen
            omega
          obtain ⟨y, hy⟩ : ∃ y, L[n]? = some y := ⟨_, List.getElem?_eq_getElem (by rw [hlen]; exact hnl)⟩
          have hry := hcs n y hy
          have fY : ∀ W, Kept [] w1 W → W.cell? ⟨b, off + n * 3, none⟩ = some (.int .i64 y.o) ∧ W.cell? ⟨b, off + n * 3 + 1, none⟩ = some (.int .i64 y.l) ∧ W.cell? ⟨b, off + n * 3 + 2, none⟩ = some (.int .i64 y.i) := fun W hk =>
            have cy := fun k v (hv : y.cells[k]? = some v) => (show W.cell? ⟨b, off + n * 3 + k, none⟩ = some v from (World.cell?_of_block (by exact hk.block b hb (by simp))).trans (hry k v hv))
            ⟨cy 0 _ rfl, cy 1 _ rfl, cy 2 _ rfl⟩
          have qe := fun W => eql_item y x W
          unfold It.val at qe
          have i1 : (n : Int) < (len : Int) := by omega
          have i2 : (n : Int) < (cap : Int) := by omega
          have i3 : (len : Int) ≤ (cap : Int) := by omega
          have hg1 : good x = true := by
            rw [hgood, hp]
            simp
            omega
          by_cases hyx : y = x
          · have hz : Hid (insOk L x = false) := by
              show insOk L x = false
              rw [hins, hth, hy, hyx]
              simp
            rw [decide_eq_true hyx] at qe
            clear hins hgood hth hlen hcs hry hy hyx hg1 hpl ht1 h
            refine wp_region_held_drew (S := fun W => Kept [] w1 W) (by kernel_rfl) (kept_drew [] w1) (fun hP => ?_)
            have hH := hP
            clear hP
            refine wpAnyH_take (i := 0) (oi := { dst := some 16, op := Op.load 24 (Operand.tmp 4), type := 24, pos := "ref.go:42", after := #[], guard := none }) (v := (.agg #[.int .i64 x.o, .int .i64 x.l])) rfl (by kernel_rfl) (by kernel_rfl) (by kernel_rfl) (fun _ _ _ h => h) (Or.inl ⟨by rfl, fun W hSw => by have c0 := fO W hSw; have c1 := fL W hSw; go_simp⟩) hH ?_
            try simp only [Act.put, List.setIfInBounds_toArray, List.set_cons_zero, List.set_cons_succ]
            refine wpAnyH_ready (rs := [1]) (by kernel_rfl) (by simp) ?_
            refine AllReadyH.cons (o := { dst := some 17, op := Op.call { callee := Callee.value (Operand.func 31), args := #[Operand.tmp 16], argTypes := #[24] }, type := 4, pos := "ref.go:42", after := #[{ on := 0, ground := Ground.data }], guard := none }) rfl (fun K hK => ?_) AllReadyH.nil
            go_simp
            refine (qp _).mono ?_
            rintro e w2 ⟨rfl, hB2⟩
            go_wp2_with fail
            have hH1 := hH.trans (Kept.of_below hB2 [])
            refine hK.out _ _ hH1 (fun _ => ?_)
            replace hH := hH1
            clear hK K hH1
            try simp only [Act.put, List.setIfInBounds_toArray, List.set_cons_zero, List.set_cons_succ]
            refine wpAnyH_take (i := 2) (oi := { dst := some 18, op := Op.unOp UnOp.not 4 (Operand.tmp 17), type := 4, pos := "ref.go:42", after := #[{ on := 1, ground := Ground.data }], guard := none }) (v := (.bool false)) rfl (by kernel_rfl) (by kernel_rfl) (by kernel_rfl) (fun _ _ _ h => h) (Or.inl ⟨by rfl, fun W hSw => by go_simp⟩) hH ?_
            try simp only [Act.put, List.setIfInBounds_toArray, List.set_cons_zero, List.set_cons_succ]
            refine wpAnyH_take (i := 3) (oi := { dst := some 19, op := Op.move (Operand.tmp 18), type := 4, pos := "ref.go:42", after := #[{ on := 2, ground := Ground.data }, { on := 1, ground := Ground.chain }], guard := none }) (v := (.bool false)) rfl (by kernel_rfl) (by kernel_rfl) (by kernel_rfl) (fun _ _ _ h => h) (Or.inl ⟨by rfl, fun W hSw => by go_simp⟩) hH ?_
            try simp only [Act.put, List.setIfInBounds_toArray, List.set_cons_zero, List.set_cons_succ]
            refine wpAnyH_take (i := 4) (oi := { dst := some 20, op := Op.fieldAddr 24 (Operand.tmp 4) 1, type := 0, pos := "ref.go:42", after := #[{ on := 3, ground := Ground.guard }], guard := some (3, false) }) (v := (.pointer (some ⟨w.heap.size, 1, none⟩))) rfl (by kernel_rfl) (by kernel_rfl) (by kernel_rfl) (fun _ _ _ h => h) (Or.inl ⟨by rfl, fun W hSw => by go_simp⟩) hH ?_
            try simp only [Act.put, List.setIfInBounds_toArray, List.set_cons_zero, List.set_cons_succ]
            refine wpAnyH_take (i := 5) (oi := { dst := some 21, op := Op.load 3 (Operand.tmp 20), type := 3, pos := "ref.go:42", after := #[{ on := 4, ground := Ground.data }, { on := 3, ground := Ground.guard }], guard := some (3, false) }) (v := (.int .i64 x.l)) rfl (by kernel_rfl) (by kernel_rfl) (by kernel_rfl) (fun _ _ _ h => h) (Or.inl ⟨by rfl, fun W hSw => by have c1 := fL W hSw; go_simp⟩) hH ?_
            try simp only [Act.put, List.setIfInBounds_toArray, List.set_cons_zero, List.set_cons_succ]
            refine wpAnyH_take (i := 6) (oi := { dst := some 22, op := Op.binOp BinOp.lss 3 (Operand.tmp 21) (Operand.const (Value.int IntKind.i64 1)) 3, type := 4, pos := "ref.go:42", after := #[{ on := 5, ground := Ground.data }, { on := 3, ground := Ground.guard }], guard := some (3, false) }) (v := (.bool false)) rfl (by kernel_rfl) (by kernel_rfl) (by kernel_rfl) (fun _ _ _ h => h) (Or.inl ⟨by rfl, fun W hSw => by go_simp⟩) hH ?_
            try simp only [Act.put, List.setIfInBounds_toArray, List.set_cons_zero, List.set_cons_succ]
            refine wpAnyH_take (i := 7) (oi := { dst := some 23, op := Op.pick (Operand.tmp 19) (Operand.const (Value.bool true)) (Operand.tmp 22), type := 4, pos := "ref.go:42", after := #[{ on := 3, ground := Ground.data }, { on := 6, ground := Ground.data }], guard := none }) (v := (.bool false)) rfl (by kernel_rfl) (by kernel_rfl) (by kernel_rfl) (fun _ _ _ h => h) (Or.inl ⟨by rfl, fun W hSw => by go_simp⟩) hH ?_
            try simp only [Act.put, List.setIfInBounds_toArray, List.set_cons_zero, List.set_cons_succ]
            refine wpAnyH_take (i := 8) (oi := { dst := some 24, op := Op.move (Operand.tmp 23), type := 4, pos := "ref.go:42", after := #[{ on := 7, ground := Ground.data }, { on := 3, ground := Ground.chain }], guard := none }) (v := (.bool false)) rfl (by kernel_rfl) (by kernel_rfl) (by kernel_rfl) (fun _ _ _ h => h) (Or.inl ⟨by rfl, fun W hSw => by go_simp⟩) hH ?_
            try simp only [Act.put, List.setIfInBounds_toArray, List.set_cons_zero, List.set_cons_succ]
            refine wpAnyH_take (i := 9) (oi := { dst := some 25, op := Op.move (Operand.tmp 8), type := 3, pos := "ref.go:42", after := #[{ on := 8, ground := Ground.guard }], guard := some (8, false) }) (v := (.int .i64 (n : Int))) rfl (by kernel_rfl) (by kernel_rfl) (by kernel_rfl) (fun _ _ _ h => h) (Or.inl ⟨by rfl, fun W hSw => by go_simp⟩) hH ?_
            try simp only [Act.put, List.setIfInBounds_toArray, List.set_cons_zero, List.set_cons_succ]
            refine wpAnyH_take (i := 10) (oi := { dst := some 26, op := Op.move (Operand.tmp 0), type := 28, pos := "ref.go:42", after := #[{ on := 8, ground := Ground.guard }], guard := some (8, false) }) (v := (.pointer (some ⟨r, 0, none⟩))) rfl (by kernel_rfl) (by kernel_rfl) (by kernel_rfl) (fun _ _ _ h => h) (Or.inl ⟨by rfl, fun W hSw => by go_simp⟩) hH ?_
            try simp only [Act.put, List.setIfInBounds_toArray, List.set_cons_zero, List.set_cons_succ]
            refine wpAnyH_take (i := 11) (oi := { dst := some 27, op := Op.nilCheck (Operand.tmp 26), type := 0, pos := "ref.go:42", after := #[{ on := 10, ground := Ground.data }, { on := 8, ground := Ground.guard }], guard := some (8, false) }) (v := (.pointer (some ⟨r, 0, none⟩))) rfl (by kernel_rfl) (by kernel_rfl) (by kernel_rfl) (fun _ _ _ h => h) (Or.inl ⟨by rfl, fun W hSw => by go_simp⟩) hH ?_
            try simp only [Act.put, List.setIfInBounds_toArray, List.set_cons_zero, List.set_cons_succ]
            refine wpAnyH_take (i := 12) (oi := { dst := some 28, op := Op.fieldAddr 31 (Operand.tmp 27) 0, type := 0, pos := "ref.go:42", after := #[{ on := 11, ground := Ground.data }, { on := 8, ground := Ground.guard }], guard := some (8, false) }) (v := (.pointer (some ⟨r, 0, none⟩))) rfl (by kernel_rfl) (by kernel_rfl) (by kernel_rfl) (fun _ _ _ h => h) (Or.inl ⟨by rfl, fun W hSw => by go_simp⟩) hH ?_
            try simp only [Act.put, List.setIfInBounds_toArray, List.set_cons_zero, List.set_cons_succ]
            refine wpAnyH_take (i := 13) (oi := { dst := some 29, op := Op.load 29 (Operand.tmp 28), type := 29, pos := "ref.go:42", after := #[{ on := 12, ground := Ground.data }, { on := 8, ground := Ground.guard }], guard := some (8, false) }) (v := (.slice (some ⟨b, off, none⟩) len cap)) rfl (by kernel_rfl) (by kernel_rfl) (by kernel_rfl) (fun _ _ _ h => h) (Or.inl ⟨by rfl, fun W hSw => by have c2 := fR W hSw; go_simp⟩) hH ?_
            try simp only [Act.put, List.setIfInBounds_toArray, List.set_cons_zero, List.set_cons_succ]
            refine wpAnyH_take (i := 14) (oi := { dst := some 30, op := Op.call { callee := Callee.builtin Builtin.len, args := #[Operand.tmp 29], argTypes := #[29] }, type := 3, pos := "ref.go:42", after := #[{ on := 13, ground := Ground.data }, { on := 8, ground := Ground.guard }], guard := some (8, false) }) (v := (.int .i64 (len : Int))) rfl (by kernel_rfl) (by kernel_rfl) (by kernel_rfl) (fun _ _ _ h => h) (Or.inl ⟨by rfl, fun W hSw => by go_simp⟩) hH ?_
            try simp only [Act.put, List.setIfInBounds_toArray, List.set_cons_zero, List.set_cons_succ]
            refine wpAnyH_take (i := 15) (oi := { dst := some 31, op := Op.binOp BinOp.lss 3 (Operand.tmp 25) (Operand.tmp 30) 3, type := 4, pos := "ref.go:42", after := #[{ on := 9, ground := Ground.data }, { on := 14, ground := Ground.data }, { on := 8, ground := Ground.guard }], guard := some (8, false) }) (v := (.bool true)) rfl (by kernel_rfl) (by kernel_rfl) (by kernel_rfl) (fun _ _ _ h => h) (Or.inl ⟨by rfl, fun W hSw => by go_simp⟩) hH ?_
            try simp only [Act.put, List.setIfInBounds_toArray, List.set_cons_zero, List.set_cons_succ]
            refine wpAnyH_take (i := 16) (oi := { dst := some 32, op := Op.move (Operand.tmp 31), type := 4, pos := "ref.go:42", after := #[{ on := 15, ground := Ground.data }, { on := 8, ground := Ground.chain }, { on := 8, ground := Ground.guard }], guard := some (8, false) }) (v := (.bool true)) rfl (by kernel_rfl) (by kernel_rfl) (by kernel_rfl) (fun _ _ _ h => h) (Or.inl ⟨by rfl, fun W hSw => by go_simp⟩) hH ?_
            try simp only [Act.put, List.setIfInBounds_toArray, List.set_cons_zero, List.set_cons_succ]
            refine wpAnyH_take (i := 17) (oi := { dst := some 33, op := Op.move (Operand.tmp 0), type := 28, pos := "ref.go:42", after := #[{ on := 16, ground := Ground.guard }], guard := some (16, true) }) (v := (.pointer (some ⟨r, 0, none⟩))) rfl (by kernel_rfl) (by kernel_rfl) (by kernel_rfl) (fun _ _ _ h => h) (Or.inl ⟨by rfl, fun W hSw => by go_simp⟩) hH ?_
            try simp only [Act.put, List.setIfInBounds_toArray, List.set_cons_zero, List.set_cons_succ]
            refine wpAnyH_take (i := 18) (oi := { dst := some 34, op := Op.nilCheck (Operand.tmp 33), type := 0, pos := "ref.go:42", after := #[{ on := 17, ground := Ground.data }, { on := 16, ground := Ground.guard }], guard := some (16, true) }) (v := (.pointer (some ⟨r, 0, none⟩))) rfl (by kernel_rfl) (by kernel_rfl) (by kernel_rfl) (fun _ _ _ h => h) (Or.inl ⟨by rfl, fun W hSw => by go_simp⟩) hH ?_
            try simp only [Act.put, List.setIfInBounds_toArray, List.set_cons_zero, List.set_cons_succ]
            refine wpAnyH_take (i := 19) (oi := { dst := some 35, op := Op.fieldAddr 31 (Operand.tmp 34) 0, type := 0, pos := "ref.go:42", after := #[{ on := 18, ground := Ground.data }, { on := 16, ground := Ground.guard }], guard := some (16, true) }) (v := (.pointer (some ⟨r, 0, none⟩))) rfl (by kernel_rfl) (by kernel_rfl) (by kernel_rfl) (fun _ _ _ h => h) (Or.inl ⟨by rfl, fun W hSw => by go_simp⟩) hH ?_
            try simp only [Act.put, List.setIfInBounds_toArray, List.set_cons_zero, List.set_cons_succ]
            refine wpAnyH_take (i := 20) (oi := { dst := some 36, op := Op.load 29 (Operand.tmp 35), type := 29, pos := "ref.go:42", after := #[{ on := 19, ground := Ground.data }, { on := 16, ground := Ground.guard }], guard := some (16, true) }) (v := (.slice (some ⟨b, off, none⟩) len cap)) rfl (by kernel_rfl) (by kernel_rfl) (by kernel_rfl) (fun _ _ _ h => h) (Or.inl ⟨by rfl, fun W hSw => by have c2 := fR W hSw; go_simp⟩) hH ?_
            try simp only [Act.put, List.setIfInBounds_toArray, List.set_cons_zero, List.set_cons_succ]
            refine wpAnyH_take (i := 21) (oi := { dst := some 37, op := Op.move (Operand.tmp 8), type := 3, pos := "ref.go:42", after := #[{ on := 16, ground := Ground.guard }], guard := some (16, true) }) (v := (.int .i64 (n : Int))) rfl (by kernel_rfl) (by kernel_rfl) (by kernel_rfl) (fun _ _ _ h => h) (Or.inl ⟨by rfl, fun W hSw => by go_simp⟩) hH ?_
            try simp only [Act.put, List.setIfInBounds_toArray, List.set_cons_zero, List.set_cons_succ]
            refine wpAnyH_take (i := 22) (oi := { dst := some 38, op := Op.indexAddr 29 (Operand.tmp 36) (Operand.tmp 37), type := 0, pos := "ref.go:42", after := #[{ on := 20, ground := Ground.data }, { on := 21, ground := Ground.data }, { on := 16, ground := Ground.guard }], guard := some (16, true) }) (v := (.pointer (some ⟨b, off + n * 3, none⟩))) rfl (by kernel_rfl) (by kernel_rfl) (by kernel_rfl) (fun _ _ _ h => h) (Or.inl ⟨by rfl, fun W hSw => by go_simp⟩) hH ?_
            try simp only [Act.put, List.setIfInBounds_toArray, List.set_cons_zero, List.set_cons_succ]
            refine wpAnyH_take (i := 23) (oi := { dst := some 39, op := Op.load 66 (Operand.tmp 38), type := 66, pos := "ref.go:42", after := #[{ on := 22, ground := Ground.data }, { on := 16, ground := Ground.guard }], guard := some (16, true) }) (v := (.agg #[.int .i64 y.o, .int .i64 y.l, .int .i64 y.i])) rfl (by kernel_rfl) (by kernel_rfl) (by kernel_rfl) (fun _ _ _ h => h) (Or.inl ⟨by rfl, fun W hSw => by obtain ⟨d0, d1, d2⟩ := fY W hSw; go_simp⟩) hH ?_
            try simp only [Act.put, List.setIfInBounds_toArray, List.set_cons_zero, List.set_cons_succ]
            refine wpAnyH_take (i := 24) (oi := { dst := some 40, op := Op.load 66 (Operand.tmp 7), type := 66, pos := "ref.go:42", after := #[{ on := 16, ground := Ground.guard }], guard := some (16, true) }) (v := (.agg #[.int .i64 x.o, .int .i64 x.l, .int .i64 x.i])) rfl (by kernel_rfl) (by kernel_rfl) (by kernel_rfl) (fun _ _ _ h => h) (Or.inl ⟨by rfl, fun W hSw => by obtain ⟨d0, d1, d2⟩ := fX W hSw; go_simp⟩) hH ?_
            try simp only [Act.put, List.setIfInBounds_toArray, List.set_cons_zero, List.set_cons_succ]
            refine wpAnyH_take (i := 25) (oi := { dst := some 41, op := Op.binOp BinOp.eql 66 (Operand.tmp 39) (Operand.tmp 40) 66, type := 4, pos := "ref.go:42", after := #[{ on := 23, ground := Ground.data }, { on := 24, ground := Ground.data }, { on := 16, ground := Ground.guard }], guard := some (16, true) }) (v := (.bool true)) rfl (by kernel_rfl) (by kernel_rfl) (by kernel_rfl) (fun _ _ _ h => h) (Or.inl ⟨by rfl, fun W hSw => by have e1 := qe W; go_simp⟩) hH ?_
            try simp only [Act.put, List.setIfInBounds_toArray, List.set_cons_zero, List.set_cons_succ]
            refine wpAnyH_take (i := 26) (oi := { dst := some 42, op := Op.pick (Operand.tmp 32) (Operand.tmp 41) (Operand.const (Value.bool false)), type := 4, pos := "ref.go:42", after := #[{ on := 16, ground := Ground.data }, { on := 25, ground := Ground.data }, { on := 8, ground := Ground.guard }], guard := some (8, false) }) (v := (.bool true)) rfl (by kernel_rfl) (by kernel_rfl) (by kernel_rfl) (fun _ _ _ h => h) (Or.inl ⟨by rfl, fun W hSw => by go_simp⟩) hH ?_
            try simp only [Act.put, List.setIfInBounds_toArray, List.set_cons_zero, List.set_cons_succ]
            refine wpAnyH_take (i := 27) (oi := { dst := some 43, op := Op.pick (Operand.tmp 24) (Operand.const (Value.bool true)) (Operand.tmp 42), type := 4, pos := "ref.go:42", after := #[{ on := 8, ground := Ground.data }, { on := 26, ground := Ground.data }], guard := none }) (v := (.bool true)) rfl (by kernel_rfl) (by kernel_rfl) (by kernel_rfl) (fun _ _ _ h => h) (Or.inl ⟨by rfl, fun W hSw => by go_simp⟩) hH ?_
            try simp only [Act.put, List.setIfInBounds_toArray, List.set_cons_zero, List.set_cons_succ]
            refine wpAnyH_done (by kernel_rfl) ?_ _
            go_wp2_with fail
            go_meet
            exact ⟨by rw [hz.out]; rfl, hH⟩
          · have hz : Hid (insOk L x = true) := by
              show insOk L x = true
              rw [hins, hth, hy, hg1]
              simp [hyx]
            rw [decide_eq_false hyx] at qe
            clear hins hgood hth hlen hcs hry hy hyx hg1 hpl ht1 h
            refine wp_region_held_drew (S := fun W => Kept [] w1 W) (by kernel_rfl) (kept_drew [] w1) (fun hP => ?_)
            have hH := hP
            clear hP
            refine wpAnyH_take (i := 0) (oi := { dst := some 16, op := Op.load 24 (Operand.tmp 4), type := 24, pos := "ref.go:42", after := #[], guard := none }) (v := (.agg #[.int .i64 x.o, .int .i64 x.l])) rfl (by kernel_rfl) (by kernel_rfl) (by kernel_rfl) (fun _ _ _ h => h) (Or.inl ⟨by rfl, fun W hSw => by have c0 := fO W hSw; have c1 := fL W hSw; go_simp⟩) hH ?_
            try simp only [Act.put, List.setIfInBounds_toArray, List.set_cons_zero, List.set_cons_succ]
            refine wpAnyH_ready (rs := [1]) (by kernel_rfl) (by simp) ?_
            refine AllReadyH.cons (o := { dst := some 17, op := Op.call { callee := Callee.value (Operand.func 31), args := #[Operand.tmp 16], argTypes := #[24] }, type := 4, pos := "ref.go:42", after := #[{ on := 0, ground := Ground.data }], guard := none }) rfl (fun K hK => ?_) AllReadyH.nil
            go_simp
            refine (qp _).mono ?_
            rintro e w2 ⟨rfl, hB2⟩
            go_wp2_with fail
            have hH1 := hH.trans (Kept.of_below hB2 [])
            refine hK.out _ _ hH1 (fun _ => ?_)
            replace hH := hH1
            clear hK K hH1
            try simp only [Act.put, List.setIfInBounds_toArray, List.set_cons_zero, List.set_cons_succ]
            refine wpAnyH_take (i := 2) (oi := { dst := some 18, op := Op.unOp UnOp.not 4 (Operand.tmp 17), type := 4, pos := "ref.go:42", after := #[{ on := 1, ground := Ground.data }], guard := none }) (v := (.bool false)) rfl (by kernel_rfl) (by kernel_rfl) (by kernel_rfl) (fun _ _ _ h => h) (Or.inl ⟨by rfl, fun W hSw => by go_simp⟩) hH ?_
            try simp only [Act.put, List.setIfInBounds_toArray, List.set_cons_zero, List.set_cons_succ]
            refine wpAnyH_take (i := 3) (oi := { dst := some 19, op := Op.move (Operand.tmp 18), type := 4, pos := "ref.go:42", after := #[{ on := 2, ground := Ground.data }, { on := 1, ground := Ground.chain }], guard := none }) (v := (.bool false)) rfl (by kernel_rfl) (by kernel_rfl) (by kernel_rfl) (fun _ _ _ h => h) (Or.inl ⟨by rfl, fun W hSw => by go_simp⟩) hH ?_
            try simp only [Act.put, List.setIfInBounds_toArray, List.set_cons_zero, List.set_cons_succ]
            refine wpAnyH_take (i := 4) (oi := { dst := some 20, op := Op.fieldAddr 24 (Operand.tmp 4) 1, type := 0, pos := "ref.go:42", after := #[{ on := 3, ground := Ground.guard }], guard := some (3, false) }) (v := (.pointer (some ⟨w.heap.size, 1, none⟩))) rfl (by kernel_rfl) (by kernel_rfl) (by kernel_rfl) (fun _ _ _ h => h) (Or.inl ⟨by rfl, fun W hSw => by go_simp⟩) hH ?_
            try simp only [Act.put, List.setIfInBounds_toArray, List.set_cons_zero, List.set_cons_succ]
            refine wpAnyH_take (i := 5) (oi := { dst := some 21, op := Op.load 3 (Operand.tmp 20), type := 3, pos := "ref.go:42", after := #[{ on := 4, ground := Ground.data }, { on := 3, ground := Ground.guard }], guard := some (3, false) }) (v := (.int .i64 x.l)) rfl (by kernel_rfl) (by kernel_rfl) (by kernel_rfl) (fun _ _ _ h => h) (Or.inl ⟨by rfl, fun W hSw => by have c1 := fL W hSw; go_simp⟩) hH ?_
            try simp only [Act.put, List.setIfInBounds_toArray, List.set_cons_zero, List.set_cons_succ]
            refine wpAnyH_take (i := 6) (oi := { dst := some 22, op := Op.binOp BinOp.lss 3 (Operand.tmp 21) (Operand.const (Value.int IntKind.i64 1)) 3, type := 4, pos := "ref.go:42", after := #[{ on := 5, ground := Ground.data }, { on := 3, ground := Ground.guard }], guard := some (3, false) }) (v := (.bool false)) rfl (by kernel_rfl) (by kernel_rfl) (by kernel_rfl) (fun _ _ _ h => h) (Or.inl ⟨by rfl, fun W hSw => by go_simp⟩) hH ?_
            try simp only [Act.put, List.setIfInBounds_toArray, List.set_cons_zero, List.set_cons_succ]
            refine wpAnyH_take (i := 7) (oi := { dst := some 23, op := Op.pick (Operand.tmp 19) (Operand.const (Value.bool true)) (Operand.tmp 22), type := 4, pos := "ref.go:42", after := #[{ on := 3, ground := Ground.data }, { on := 6, ground := Ground.data }], guard := none }) (v := (.bool false)) rfl (by kernel_rfl) (by kernel_rfl) (by kernel_rfl) (fun _ _ _ h => h) (Or.inl ⟨by rfl, fun W hSw => by go_simp⟩) hH ?_
            try simp only [Act.put, List.setIfInBounds_toArray, List.set_cons_zero, List.set_cons_succ]
            refine wpAnyH_take (i := 8) (oi := { dst := some 24, op := Op.move (Operand.tmp 23), type := 4, pos := "ref.go:42", after := #[{ on := 7, ground := Ground.data }, { on := 3, ground := Ground.chain }], guard := none }) (v := (.bool false)) rfl (by kernel_rfl) (by kernel_rfl) (by kernel_rfl) (fun _ _ _ h => h) (Or.inl ⟨by rfl, fun W hSw => by go_simp⟩) hH ?_
            try simp only [Act.put, List.setIfInBounds_toArray, List.set_cons_zero, List.set_cons_succ]
            refine wpAnyH_take (i := 9) (oi := { dst := some 25, op := Op.move (Operand.tmp 8), type := 3, pos := "ref.go:42", after := #[{ on := 8, ground := Ground.guard }], guard := some (8, false) }) (v := (.int .i64 (n : Int))) rfl (by kernel_rfl) (by kernel_rfl) (by kernel_rfl) (fun _ _ _ h => h) (Or.inl ⟨by rfl, fun W hSw => by go_simp⟩) hH ?_
            try simp only [Act.put, List.setIfInBounds_toArray, List.set_cons_zero, List.set_cons_succ]
            refine wpAnyH_take (i := 10) (oi := { dst := some 26, op := Op.move (Operand.tmp 0), type := 28, pos := "ref.go:42", after := #[{ on := 8, ground := Ground.guard }], guard := some (8, false) }) (v := (.pointer (some ⟨r, 0, none⟩))) rfl (by kernel_rfl) (by kernel_rfl) (by kernel_rfl) (fun _ _ _ h => h) (Or.inl ⟨by rfl, fun W hSw => by go_simp⟩) hH ?_
            try simp only [Act.put, List.setIfInBounds_toArray, List.set_cons_zero, List.set_cons_succ]
            refine wpAnyH_take (i := 11) (oi := { dst := some 27, op := Op.nilCheck (Operand.tmp 26), type := 0, pos := "ref.go:42", after := #[{ on := 10, ground := Ground.data }, { on := 8, ground := Ground.guard }], guard := some (8, false) }) (v := (.pointer (some ⟨r, 0, none⟩))) rfl (by kernel_rfl) (by kernel_rfl) (by kernel_rfl) (fun _ _ _ h => h) (Or.inl ⟨by rfl, fun W hSw => by go_simp⟩) hH ?_
            try simp only [Act.put, List.setIfInBounds_toArray, List.set_cons_zero, List.set_cons_succ]
            refine wpAnyH_take (i := 12) (oi := { dst := some 28, op := Op.fieldAddr 31 (Operand.tmp 27) 0, type := 0, pos := "ref.go:42", after := #[{ on := 11, ground := Ground.data }, { on := 8, ground := Ground.guard }], guard := some (8, false) }) (v := (.pointer (some ⟨r, 0, none⟩))) rfl (by kernel_rfl) (by kernel_rfl) (by kernel_rfl) (fun _ _ _ h => h) (Or.inl ⟨by rfl, fun W hSw => by go_simp⟩) hH ?_
            try simp only [Act.put, List.setIfInBounds_toArray, List.set_cons_zero, List.set_cons_succ]
            refine wpAnyH_take (i := 13) (oi := { dst := some 29, op := Op.load 29 (Operand.tmp 28), type := 29, pos := "ref.go:42", after := #[{ on := 12, ground := Ground.data }, { on := 8, ground := Ground.guard }], guard := some (8, false) }) (v := (.slice (some ⟨b, off, none⟩) len cap)) rfl (by kernel_rfl) (by kernel_rfl) (by kernel_rfl) (fun _ _ _ h => h) (Or.inl ⟨by rfl, fun W hSw => by have c2 := fR W hSw; go_simp⟩) hH ?_
            try simp only [Act.put, List.setIfInBounds_toArray, List.set_cons_zero, List.set_cons_succ]
            refine wpAnyH_take (i := 14) (oi := { dst := some 30, op := Op.call { callee := Callee.builtin Builtin.len, args := #[Operand.tmp 29], argTypes := #[29] }, type := 3, pos := "ref.go:42", after := #[{ on := 13, ground := Ground.data }, { on := 8, ground := Ground.guard }], guard := some (8, false) }) (v := (.int .i64 (len : Int))) rfl (by kernel_rfl) (by kernel_rfl) (by kernel_rfl) (fun _ _ _ h => h) (Or.inl ⟨by rfl, fun W hSw => by go_simp⟩) hH ?_
            try simp only [Act.put, List.setIfInBounds_toArray, List.set_cons_zero, List.set_cons_succ]
            refine wpAnyH_take (i := 15) (oi := { dst := some 31, op := Op.binOp BinOp.lss 3 (Operand.tmp 25) (Operand.tmp 30) 3, type := 4, pos := "ref.go:42", after := #[{ on := 9, ground := Ground.data }, { on := 14, ground := Ground.data }, { on := 8, ground := Ground.guard }], guard := some (8, false) }) (v := (.bool true)) rfl (by kernel_rfl) (by kernel_rfl) (by kernel_rfl) (fun _ _ _ h => h) (Or.inl ⟨by rfl, fun W hSw => by go_simp⟩) hH ?_
            try simp only [Act.put, List.setIfInBounds_toArray, List.set_cons_zero, List.set_cons_succ]
            refine wpAnyH_take (i := 16) (oi := { dst := some 32, op := Op.move (Operand.tmp 31), type := 4, pos := "ref.go:42", after := #[{ on := 15, ground := Ground.data }, { on := 8, ground := Ground.chain }, { on := 8, ground := Ground.guard }], guard := some (8, false) }) (v := (.bool true)) rfl (by kernel_rfl) (by kernel_rfl) (by kernel_rfl) (fun _ _ _ h => h) (Or.inl ⟨by rfl, fun W hSw => by go_simp⟩) hH ?_
            try simp only [Act.put, List.setIfInBounds_toArray, List.set_cons_zero, List.set_cons_succ]
            refine wpAnyH_take (i := 17) (oi := { dst := some 33, op := Op.move (Operand.tmp 0), type := 28, pos := "ref.go:42", after := #[{ on := 16, ground := Ground.guard }], guard := some (16, true) }) (v := (.pointer (some ⟨r, 0, none⟩))) rfl (by kernel_rfl) (by kernel_rfl) (by kernel_rfl) (fun _ _ _ h => h) (Or.inl ⟨by rfl, fun W hSw => by go_simp⟩) hH ?_
            try simp only [Act.put, List.setIfInBounds_toArray, List.set_cons_zero, List.set_cons_succ]
            refine wpAnyH_take (i := 18) (oi := { dst := some 34, op := Op.nilCheck (Operand.tmp 33), type := 0, pos := "ref.go:42", after := #[{ on := 17, ground := Ground.data }, { on := 16, ground := Ground.guard }], guard := some (16, true) }) (v := (.pointer (some ⟨r, 0, none⟩))) rfl (by kernel_rfl) (by kernel_rfl) (by kernel_rfl) (fun _ _ _ h => h) (Or.inl ⟨by rfl, fun W hSw => by go_simp⟩) hH ?_
            try simp only [Act.put, List.setIfInBounds_toArray, List.set_cons_zero, List.set_cons_succ]
            refine wpAnyH_take (i := 19) (oi := { dst := some 35, op := Op.fieldAddr 31 (Operand.tmp 34) 0, type := 0, pos := "ref.go:42", after := #[{ on := 18, ground := Ground.data }, { on := 16, ground := Ground.guard }], guard := some (16, true) }) (v := (.pointer (some ⟨r, 0, none⟩))) rfl (by kernel_rfl) (by kernel_rfl) (by kernel_rfl) (fun _ _ _ h => h) (Or.inl ⟨by rfl, fun W hSw => by go_simp⟩) hH ?_
            try simp only [Act.put, List.setIfInBounds_toArray, List.set_cons_zero, List.set_cons_succ]
            refine wpAnyH_take (i := 20) (oi := { dst := some 36, op := Op.load 29 (Operand.tmp 35), type := 29, pos := "ref.go:42", after := #[{ on := 19, ground := Ground.data }, { on := 16, ground := Ground.guard }], guard := some (16, true) }) (v := (.slice (some ⟨b, off, none⟩) len cap)) rfl (by kernel_rfl) (by kernel_rfl) (by kernel_rfl) (fun _ _ _ h => h) (Or.inl ⟨by rfl, fun W hSw => by have c2 := fR W hSw; go_simp⟩) hH ?_
            try simp only [Act.put, List.setIfInBounds_toArray, List.set_cons_zero, List.set_cons_succ]
            refine wpAnyH_take (i := 21) (oi := { dst := some 37, op := Op.move (Operand.tmp 8), type := 3, pos := "ref.go:42", after := #[{ on := 16, ground := Ground.guard }], guard := some (16, true) }) (v := (.int .i64 (n : Int))) rfl (by kernel_rfl) (by kernel_rfl) (by kernel_rfl) (fun _ _ _ h => h) (Or.inl ⟨by rfl, fun W hSw => by go_simp⟩) hH ?_
            try simp only [Act.put, List.setIfInBounds_toArray, List.set_cons_zero, List.set_cons_succ]
            refine wpAnyH_take (i := 22) (oi := { dst := some 38, op := Op.indexAddr 29 (Operand.tmp 36) (Operand.tmp 37), type := 0, pos := "ref.go:42", after := #[{ on := 20, ground := Ground.data }, { on := 21, ground := Ground.data }, { on := 16, ground := Ground.guard }], guard := some (16, true) }) (v := (.pointer (some ⟨b, off + n * 3, none⟩))) rfl (by kernel_rfl) (by kernel_rfl) (by kernel_rfl) (fun _ _ _ h => h) (Or.inl ⟨by rfl, fun W hSw => by go_simp⟩) hH ?_
            try simp only [Act.put, List.setIfInBounds_toArray, List.set_cons_zero, List.set_cons_succ]
            refine wpAnyH_take (i := 23) (oi := { dst := some 39, op := Op.load 66 (Operand.tmp 38), type := 66, pos := "ref.go:42", after := #[{ on := 22, ground := Ground.data }, { on := 16, ground := Ground.guard }], guard := some (16, true) }) (v := (.agg #[.int .i64 y.o, .int .i64 y.l, .int .i64 y.i])) rfl (by kernel_rfl) (by kernel_rfl) (by kernel_rfl) (fun _ _ _ h => h) (Or.inl ⟨by rfl, fun W hSw => by obtain ⟨d0, d1, d2⟩ := fY W hSw; go_simp⟩) hH ?_
            try simp only [Act.put, List.setIfInBounds_toArray, List.set_cons_zero, List.set_cons_succ]
            refine wpAnyH_take (i := 24) (oi := { dst := some 40, op := Op.load 66 (Operand.tmp 7), type := 66, pos := "ref.go:42", after := #[{ on := 16, ground := Ground.guard }], guard := some (16, true) }) (v := (.agg #[.int .i64 x.o, .int .i64 x.l, .int .i64 x.i])) rfl (by kernel_rfl) (by kernel_rfl) (by kernel_rfl) (fun _ _ _ h => h) (Or.inl ⟨by rfl, fun W hSw => by obtain ⟨d0, d1, d2⟩ := fX W hSw; go_simp⟩) hH ?_
            try simp only [Act.put, List.setIfInBounds_toArray, List.set_cons_zero, List.set_cons_succ]
            refine wpAnyH_take (i := 25) (oi := { dst := some 41, op := Op.binOp BinOp.eql 66 (Operand.tmp 39) (Operand.tmp 40) 66, type := 4, pos := "ref.go:42", after := #[{ on := 23, ground := Ground.data }, { on := 24, ground := Ground.data }, { on := 16, ground := Ground.guard }], guard := some (16, true) }) (v := (.bool false)) rfl (by kernel_rfl) (by kernel_rfl) (by kernel_rfl) (fun _ _ _ h => h) (Or.inl ⟨by rfl, fun W hSw => by have e1 := qe W; go_simp⟩) hH ?_
            try simp only [Act.put, List.setIfInBounds_toArray, List.set_cons_zero, List.set_cons_succ]
            refine wpAnyH_take (i := 26) (oi := { dst := some 42, op := Op.pick (Operand.tmp 32) (Operand.tmp 41) (Operand.const (Value.bool false)), type := 4, pos := "ref.go:42", after := #[{ on := 16, ground := Ground.data }, { on := 25, ground := Ground.data }, { on := 8, ground := Ground.guard }], guard := some (8, false) }) (v := (.bool false)) rfl (by kernel_rfl) (by kernel_rfl) (by kernel_rfl) (fun _ _ _ h => h) (Or.inl ⟨by rfl, fun W hSw => by go_simp⟩) hH ?_
            try simp only [Act.put, List.setIfInBounds_toArray, List.set_cons_zero, List.set_cons_succ]
            refine wpAnyH_take (i := 27) (oi := { dst := some 43, op := Op.pick (Operand.tmp 24) (Operand.const (Value.bool true)) (Operand.tmp 42), type := 4, pos := "ref.go:42", after := #[{ on := 8, ground := Ground.data }, { on := 26, ground := Ground.data }], guard := none }) (v := (.bool false)) rfl (by kernel_rfl) (by kernel_rfl) (by kernel_rfl) (fun _ _ _ h => h) (Or.inl ⟨by rfl, fun W hSw => by go_simp⟩) hH ?_
            try simp only [Act.put, List.setIfInBounds_toArray, List.set_cons_zero, List.set_cons_succ]
            refine wpAnyH_done (by kernel_rfl) ?_ _
            go_wp2_with fail
            go_meet
            exact ⟨by rw [hz.out]; rfl, hH⟩
        · have hz : Hid (insOk L x = true) := by
            show insOk L x = true
            rw [hins, hgood, hp, hth, List.getElem?_eq_none (by omega)]
            simp
            omega
          have i1 : ¬ ((n : Int) < (len : Int)) := by omega
          clear hins hgood hth hlen hrow hc hpl ht1 h
          refine wp_region_held_drew (S := fun W => Kept [] w1 W) (by kernel_rfl) (kept_drew [] w1) (fun hP => ?_)
          have hH := hP
          clear hP
          refine wpAnyH_take (i := 0) (oi := { dst := some 16, op := Op.load 24 (Operand.tmp 4), type := 24, pos := "ref.go:42", after := #[], guard := none }) (v := (.agg #[.int .i64 x.o, .int .i64 x.l])) rfl (by kernel_rfl) (by kernel_rfl) (by kernel_rfl) (fun _ _ _ h => h) (Or.inl ⟨by rfl, fun W hSw => by have c0 := fO W hSw; have c1 := fL W hSw; go_simp⟩) hH ?_
          try simp only [Act.put, List.setIfInBounds_toArray, List.set_cons_zero, List.set_cons_succ]
          refine wpAnyH_ready (rs := [1]) (by kernel_rfl) (by simp) ?_
          refine AllReadyH.cons (o := { dst := some 17, op := Op.call { callee := Callee.value (Operand.func 31), args := #[Operand.tmp 16], argTypes := #[24] }, type := 4, pos := "ref.go:42", after := #[{ on := 0, ground := Ground.data }], guard := none }) rfl (fun K hK => ?_) AllReadyH.nil
          go_simp
          refine (qp _).mono ?_
          rintro e w2 ⟨rfl, hB2⟩
          go_wp2_with fail
          have hH1 := hH.trans (Kept.of_below hB2 [])
          refine hK.out _ _ hH1 (fun _ => ?_)
          replace hH := hH1
          clear hK K hH1
          try simp only [Act.put, List.setIfInBounds_toArray, List.set_cons_zero, List.set_cons_succ]
          refine wpAnyH_take (i := 2) (oi := { dst := some 18, op := Op.unOp UnOp.not 4 (Operand.tmp 17), type := 4, pos := "ref.go:42", after := #[{ on := 1, ground := Ground.data }], guard := none }) (v := (.bool false)) rfl (by kernel_rfl) (by kernel_rfl) (by kernel_rfl) (fun _ _ _ h => h) (Or.inl ⟨by rfl, fun W hSw => by go_simp⟩) hH ?_
          try simp only [Act.put, List.setIfInBounds_toArray, List.set_cons_zero, List.set_cons_succ]
          refine wpAnyH_take (i := 3) (oi := { dst := some 19, op := Op.move (Operand.tmp 18), type := 4, pos := "ref.go:42", after := #[{ on := 2, ground := Ground.data }, { on := 1, ground := Ground.chain }], guard := none }) (v := (.bool false)) rfl (by kernel_rfl) (by kernel_rfl) (by kernel_rfl) (fun _ _ _ h => h) (Or.inl ⟨by rfl, fun W hSw => by go_simp⟩) hH ?_
          try simp only [Act.put, List.setIfInBounds_toArray, List.set_cons_zero, List.set_cons_succ]
          refine wpAnyH_take (i := 4) (oi := { dst := some 20, op := Op.fieldAddr 24 (Operand.tmp 4) 1, type := 0, pos := "ref.go:42", after := #[{ on := 3, ground := Ground.guard }], guard := some (3, false) }) (v := (.pointer (some ⟨w.heap.size, 1, none⟩))) rfl (by kernel_rfl) (by kernel_rfl) (by kernel_rfl) (fun _ _ _ h => h) (Or.inl ⟨by rfl, fun W hSw => by go_simp⟩) hH ?_
          try simp only [Act.put, List.setIfInBounds_toArray, List.set_cons_zero, List.set_cons_succ]
          refine wpAnyH_take (i := 5) (oi := { dst := some 21, op := Op.load 3 (Operand.tmp 20), type := 3, pos := "ref.go:42", after := #[{ on := 4, ground := Ground.data }, { on := 3, ground := Ground.guard }], guard := some (3, false) }) (v := (.int .i64 x.l)) rfl (by kernel_rfl) (by kernel_rfl) (by kernel_rfl) (fun _ _ _ h => h) (Or.inl ⟨by rfl, fun W hSw => by have c1 := fL W hSw; go_simp⟩) hH ?_
          try simp only [Act.put, List.setIfInBounds_toArray, List.set_cons_zero, List.set_cons_succ]
          refine wpAnyH_take (i := 6) (oi := { dst := some 22, op := Op.binOp BinOp.lss 3 (Operand.tmp 21) (Operand.const (Value.int IntKind.i64 1)) 3, type := 4, pos := "ref.go:42", after := #[{ on := 5, ground := Ground.data }, { on := 3, ground := Ground.guard }], guard := some (3, false) }) (v := (.bool false)) rfl (by kernel_rfl) (by kernel_rfl) (by kernel_rfl) (fun _ _ _ h => h) (Or.inl ⟨by rfl, fun W hSw => by go_simp⟩) hH ?_
          try simp only [Act.put, List.setIfInBounds_toArray, List.set_cons_zero, List.set_cons_succ]
          refine wpAnyH_take (i := 7) (oi := { dst := some 23, op := Op.pick (Operand.tmp 19) (Operand.const (Value.bool true)) (Operand.tmp 22), type := 4, pos := "ref.go:42", after := #[{ on := 3, ground := Ground.data }, { on := 6, ground := Ground.data }], guard := none }) (v := (.bool false)) rfl (by kernel_rfl) (by kernel_rfl) (by kernel_rfl) (fun _ _ _ h => h) (Or.inl ⟨by rfl, fun W hSw => by go_simp⟩) hH ?_
          try simp only [Act.put, List.setIfInBounds_toArray, List.set_cons_zero, List.set_cons_succ]
          refine wpAnyH_take (i := 8) (oi := { dst := some 24, op := Op.move (Operand.tmp 23), type := 4, pos := "ref.go:42", after := #[{ on := 7, ground := Ground.data }, { on := 3, ground := Ground.chain }], guard := none }) (v := (.bool false)) rfl (by kernel_rfl) (by kernel_rfl) (by kernel_rfl) (fun _ _ _ h => h) (Or.inl ⟨by rfl, fun W hSw => by go_simp⟩) hH ?_
          try simp only [Act.put, List.setIfInBounds_toArray, List.set_cons_zero, List.set_cons_succ]
          refine wpAnyH_take (i := 9) (oi := { dst := some 25, op := Op.move (Operand.tmp 8), type := 3, pos := "ref.go:42", after := #[{ on := 8, ground := Ground.guard }], guard := some (8, false) }) (v := (.int .i64 (n : Int))) rfl (by kernel_rfl) (by kernel_rfl) (by kernel_rfl) (fun _ _ _ h => h) (Or.inl ⟨by rfl, fun W hSw => by go_simp⟩) hH ?_
          try simp only [Act.put, List.setIfInBounds_toArray, List.set_cons_zero, List.set_cons_succ]
          refine wpAnyH_take (i := 10) (oi := { dst := some 26, op := Op.move (Operand.tmp 0), type := 28, pos := "ref.go:42", after := #[{ on := 8, ground := Ground.guard }], guard := some (8, false) }) (v := (.pointer (some ⟨r, 0, none⟩))) rfl (by kernel_rfl) (by kernel_rfl) (by kernel_rfl) (fun _ _ _ h => h) (Or.inl ⟨by rfl, fun W hSw => by go_simp⟩) hH ?_
          try simp only [Act.put, List.setIfInBounds_toArray, List.set_cons_zero, List.set_cons_succ]
          refine wpAnyH_take (i := 11) (oi := { dst := some 27, op := Op.nilCheck (Operand.tmp 26), type := 0, pos := "ref.go:42", after := #[{ on := 10, ground := Ground.data }, { on := 8, ground := Ground.guard }], guard := some (8, false) }) (v := (.pointer (some ⟨r, 0, none⟩))) rfl (by kernel_rfl) (by kernel_rfl) (by kernel_rfl) (fun _ _ _ h => h) (Or.inl ⟨by rfl, fun W hSw => by go_simp⟩) hH ?_
          try simp only [Act.put, List.setIfInBounds_toArray, List.set_cons_zero, List.set_cons_succ]
          refine wpAnyH_take (i := 12) (oi := { dst := some 28, op := Op.fieldAddr 31 (Operand.tmp 27) 0, type := 0, pos := "ref.go:42", after := #[{ on := 11, ground := Ground.data }, { on := 8, ground := Ground.guard }], guard := some (8, false) }) (v := (.pointer (some ⟨r, 0, none⟩))) rfl (by kernel_rfl) (by kernel_rfl) (by kernel_rfl) (fun _ _ _ h => h) (Or.inl ⟨by rfl, fun W hSw => by go_simp⟩) hH ?_
          try simp only [Act.put, List.setIfInBounds_toArray, List.set_cons_zero, List.set_cons_succ]
          refine wpAnyH_take (i := 13) (oi := { dst := some 29, op := Op.load 29 (Operand.tmp 28), type := 29, pos := "ref.go:42", after := #[{ on := 12, ground := Ground.data }, { on := 8, ground := Ground.guard }], guard := some (8, false) }) (v := (.slice a len cap)) rfl (by kernel_rfl) (by kernel_rfl) (by kernel_rfl) (fun _ _ _ h => h) (Or.inl ⟨by rfl, fun W hSw => by have c2 := fR W hSw; go_simp⟩) hH ?_
          try simp only [Act.put, List.setIfInBounds_toArray, List.set_cons_zero, List.set_cons_succ]
          refine wpAnyH_take (i := 14) (oi := { dst := some 30, op := Op.call { callee := Callee.builtin Builtin.len, args := #[Operand.tmp 29], argTypes := #[29] }, type := 3, pos := "ref.go:42", after := #[{ on := 13, ground := Ground.data }, { on := 8, ground := Ground.guard }], guard := some (8, false) }) (v := (.int .i64 (len : Int))) rfl (by kernel_rfl) (by kernel_rfl) (by kernel_rfl) (fun _ _ _ h => h) (Or.inl ⟨by rfl, fun W hSw => by go_simp⟩) hH ?_
          try simp only [Act.put, List.setIfInBounds_toArray, List.set_cons_zero, List.set_cons_succ]
          refine wpAnyH_take (i := 15) (oi := { dst := some 31, op := Op.binOp BinOp.lss 3 (Operand.tmp 25) (Operand.tmp 30) 3, type := 4, pos := "ref.go:42", after := #[{ on := 9, ground := Ground.data }, { on := 14, ground := Ground.data }, { on := 8, ground := Ground.guard }], guard := some (8, false) }) (v := (.bool false)) rfl (by kernel_rfl) (by kernel_rfl) (by kernel_rfl) (fun _ _ _ h => h) (Or.inl ⟨by rfl, fun W hSw => by go_simp⟩) hH ?_
          try simp only [Act.put, List.setIfInBounds_toArray, List.set_cons_zero, List.set_cons_succ]
          refine wpAnyH_take (i := 16) (oi := { dst := some 32, op := Op.move (Operand.tmp 31), type := 4, pos := "ref.go:42", after := #[{ on := 15, ground := Ground.data }, { on := 8, ground := Ground.chain }, { on := 8, ground := Ground.guard }], guard := some (8, false) }) (v := (.bool false)) rfl (by kernel_rfl) (by kernel_rfl) (by kernel_rfl) (fun _ _ _ h => h) (Or.inl ⟨by rfl, fun W hSw => by go_simp⟩) hH ?_
          try simp only [Act.put, List.setIfInBounds_toArray, List.set_cons_zero, List.set_cons_succ]
          refine wpAnyH_take (i := 17) (oi := { dst := some 33, op := Op.move (Operand.tmp 0), type := 28, pos := "ref.go:42", after := #[{ on := 16, ground := Ground.guard }], guard := some (16, true) }) (v := undef) rfl (by kernel_rfl) (by kernel_rfl) (by kernel_rfl) (fun _ _ _ h => h) (Or.inr ⟨by rfl, rfl⟩) hH ?_
          try simp only [Act.put, List.setIfInBounds_toArray, List.set_cons_zero, List.set_cons_succ]
          refine wpAnyH_take (i := 18) (oi := { dst := some 34, op := Op.nilCheck (Operand.tmp 33), type := 0, pos := "ref.go:42", after := #[{ on := 17, ground := Ground.data }, { on := 16, ground := Ground.guard }], guard := some (16, true) }) (v := undef) rfl (by kernel_rfl) (by kernel_rfl) (by kernel_rfl) (fun _ _ _ h => h) (Or.inr ⟨by rfl, rfl⟩) hH ?_
          try simp only [Act.put, List.setIfInBounds_toArray, List.set_cons_zero, List.set_cons_succ]
          refine wpAnyH_take (i := 19) (oi := { dst := some 35, op := Op.fieldAddr 31 (Operand.tmp 34) 0, type := 0, pos := "ref.go:42", after := #[{ on := 18, ground := Ground.data }, { on := 16, ground := Ground.guard }], guard := some (16, true) }) (v := undef) rfl (by kernel_rfl) (by kernel_rfl) (by kernel_rfl) (fun _ _ _ h => h) (Or.inr ⟨by rfl, rfl⟩) hH ?_
          try simp only [Act.put, List.setIfInBounds_toArray, List.set_cons_zero, List.set_cons_succ]
          refine wpAnyH_take (i := 20) (oi := { dst := some 36, op := Op.load 29 (Operand.tmp 35), type := 29, pos := "ref.go:42", after := #[{ on := 19, ground := Ground.data }, { on := 16, ground := Ground.guard }], guard := some (16, true) }) (v := undef) rfl (by kernel_rfl) (by kernel_rfl) (by kernel_rfl) (fun _ _ _ h => h) (Or.inr ⟨by rfl, rfl⟩) hH ?_
          try simp only [Act.put, List.setIfInBounds_toArray, List.set_cons_zero, List.set_cons_succ]
          refine wpAnyH_take (i := 21) (oi := { dst := some 37, op := Op.move (Operand.tmp 8), type := 3, pos := "ref.go:42", after := #[{ on := 16, ground := Ground.guard }], guard := some (16, true) }) (v := undef) rfl (by kernel_rfl) (by kernel_rfl) (by kernel_rfl) (fun _ _ _ h => h) (Or.inr ⟨by rfl, rfl⟩) hH ?_
          try simp only [Act.put, List.setIfInBounds_toArray, List.set_cons_zero, List.set_cons_succ]
          refine wpAnyH_take (i := 22) (oi := { dst := some 38, op := Op.indexAddr 29 (Operand.tmp 36) (Operand.tmp 37), type := 0, pos := "ref.go:42", after := #[{ on := 20, ground := Ground.data }, { on := 21, ground := Ground.data }, { on := 16, ground := Ground.guard }], guard := some (16, true) }) (v := undef) rfl (by kernel_rfl) (by kernel_rfl) (by kernel_rfl) (fun _ _ _ h => h) (Or.inr ⟨by rfl, rfl⟩) hH ?_
          try simp only [Act.put, List.setIfInBounds_toArray, List.set_cons_zero, List.set_cons_succ]
          refine wpAnyH_take (i := 23) (oi := { dst := some 39, op := Op.load 66 (Operand.tmp 38), type := 66, pos := "ref.go:42", after := #[{ on := 22, ground := Ground.data }, { on := 16, ground := Ground.guard }], guard := some (16, true) }) (v := undef) rfl (by kernel_rfl) (by kernel_rfl) (by kernel_rfl) (fun _ _ _ h => h) (Or.inr ⟨by rfl, rfl⟩) hH ?_
          try simp only [Act.put, List.setIfInBounds_toArray, List.set_cons_zero, List.set_cons_succ]
          refine wpAnyH_take (i := 24) (oi := { dst := some 40, op := Op.load 66 (Operand.tmp 7), type := 66, pos := "ref.go:42", after := #[{ on := 16, ground := Ground.guard }], guard := some (16, true) }) (v := undef) rfl (by kernel_rfl) (by kernel_rfl) (by kernel_rfl) (fun _ _ _ h => h) (Or.inr ⟨by rfl, rfl⟩) hH ?_
          try simp only [Act.put, List.setIfInBounds_toArray, List.set_cons_zero, List.set_cons_succ]
          refine wpAnyH_take (i := 25) (oi := { dst := some 41, op := Op.binOp BinOp.eql 66 (Operand.tmp 39) (Operand.tmp 40) 66, type := 4, pos := "ref.go:42", after := #[{ on := 23, ground := Ground.data }, { on := 24, ground := Ground.data }, { on := 16, ground := Ground.guard }], guard := some (16, true) }) (v := undef) rfl (by kernel_rfl) (by kernel_rfl) (by kernel_rfl) (fun _ _ _ h => h) (Or.inr ⟨by rfl, rfl⟩) hH ?_
          try simp only [Act.put, List.setIfInBounds_toArray, List.set_cons_zero, List.set_cons_succ]
          refine wpAnyH_take (i := 26) (oi := { dst := some 42, op := Op.pick (Operand.tmp 32) (Operand.tmp 41) (Operand.const (Value.bool false)), type := 4, pos := "ref.go:42", after := #[{ on := 16, ground := Ground.data }, { on := 25, ground := Ground.data }, { on := 8, ground := Ground.guard }], guard := some (8, false) }) (v := (.bool false)) rfl (by kernel_rfl) (by kernel_rfl) (by kernel_rfl) (fun _ _ _ h => h) (Or.inl ⟨by rfl, fun W hSw => by go_simp⟩) hH ?_
          try simp only [Act.put, List.setIfInBounds_toArray, List.set_cons_zero, List.set_cons_succ]
          refine wpAnyH_take (i := 27) (oi := { dst := some 43, op := Op.pick (Operand.tmp 24) (Operand.const (Value.bool true)) (Operand.tmp 42), type := 4, pos := "ref.go:42", after := #[{ on := 8, ground := Ground.data }, { on := 26, ground := Ground.data }], guard := none }) (v := (.bool false)) rfl (by kernel_rfl) (by kernel_rfl) (by kernel_rfl) (fun _ _ _ h => h) (Or.inl ⟨by rfl, fun W hSw => by go_simp⟩) hH ?_
          try simp only [Act.put, List.setIfInBounds_toArray, List.set_cons_zero, List.set_cons_succ]
          refine wpAnyH_done (by kernel_rfl) ?_ _
          go_wp2_with fail
          go_meet
          exact ⟨by rw [hz.out]; rfl, hH⟩
    · have hp' : Span.Math.plain x.o x.l = false := by simpa using hp
      rw [hp'] at qp
      have hz : Hid (insOk L x = false) := by
        show insOk L x = false
        rw [hins, hgood, hp']
        rfl
      clear hins hgood hth hlen hrow hc hpl ht1 h hp hp'
      refine wp_region_held_drew (S := fun W => Kept [] w1 W) (by kernel_rfl) (kept_drew [] w1) (fun hP => ?_)
      have hH := hP
      clear hP
      refine wpAnyH_take (i := 0) (oi := { dst := some 16, op := Op.load 24 (Operand.tmp 4), type := 24, pos := "ref.go:42", after := #[], guard := none }) (v := (.agg #[.int .i64 x.o, .int .i64 x.l])) rfl (by kernel_rfl) (by kernel_rfl) (by kernel_rfl) (fun _ _ _ h => h) (Or.inl ⟨by rfl, fun W hSw => by have c0 := fO W hSw; have c1 := fL W hSw; go_simp⟩) hH ?_
      try simp only [Act.put, List.setIfInBounds_toArray, List.set_cons_zero, List.set_cons_succ]
      refine wpAnyH_ready (rs := [1]) (by kernel_rfl) (by simp) ?_
      refine AllReadyH.cons (o := { dst := some 17, op := Op.call { callee := Callee.value (Operand.func 31), args := #[Operand.tmp 16], argTypes := #[24] }, type := 4, pos := "ref.go:42", after := #[{ on := 0, ground := Ground.data }], guard := none }) rfl (fun K hK => ?_) AllReadyH.nil
      go_simp
      refine (qp _).mono ?_
      rintro e w2 ⟨rfl, hB2⟩
      go_wp2_with fail
      have hH1 := hH.trans (Kept.of_below hB2 [])
      refine hK.out _ _ hH1 (fun _ => ?_)
      replace hH := hH1
      clear hK K hH1
      try simp only [Act.put, List.setIfInBounds_toArray, List.set_cons_zero, List.set_cons_succ]
      refine wpAnyH_take (i := 2) (oi := { dst := some 18, op := Op.unOp UnOp.not 4 (Operand.tmp 17), type := 4, pos := "ref.go:42", after := #[{ on := 1, ground := Ground.data }], guard := none }) (v := (.bool true)) rfl (by kernel_rfl) (by kernel_rfl) (by kernel_rfl) (fun _ _ _ h => h) (Or.inl ⟨by rfl, fun W hSw => by go_simp⟩) hH ?_
      try simp only [Act.put, List.setIfInBounds_toArray, List.set_cons_zero, List.set_cons_succ]
      refine wpAnyH_take (i := 3) (oi := { dst := some 19, op := Op.move (Operand.tmp 18), type := 4, pos := "ref.go:42", after := #[{ on := 2, ground := Ground.data }, { on := 1, ground := Ground.chain }], guard := none }) (v := (.bool true)) rfl (by kernel_rfl) (by kernel_rfl) (by kernel_rfl) (fun _ _ _ h => h) (Or.inl ⟨by rfl, fun W hSw => by go_simp⟩) hH ?_
      try simp only [Act.put, List.setIfInBounds_toArray, List.set_cons_zero, List.set_cons_succ]
      refine wpAnyH_take (i := 4) (oi := { dst := some 20, op := Op.fieldAddr 24 (Operand.tmp 4) 1, type := 0, pos := "ref.go:42", after := #[{ on := 3, ground := Ground.guard }], guard := some (3, false) }) (v := undef) rfl (by kernel_rfl) (by kernel_rfl) (by kernel_rfl) (fun _ _ _ h => h) (Or.inr ⟨by rfl, rfl⟩) hH ?_
      try simp only [Act.put, List.setIfInBounds_toArray, List.set_cons_zero, List.set_cons_succ]
      refine wpAnyH_take (i := 5) (oi := { dst := some 21, op := Op.load 3 (Operand.tmp 20), type := 3, pos := "ref.go:42", after := #[{ on := 4, ground := Ground.data }, { on := 3, ground := Ground.guard }], guard := some (3, false) }) (v := undef) rfl (by kernel_rfl) (by kernel_rfl) (by kernel_rfl) (fun _ _ _ h => h) (Or.inr ⟨by rfl, rfl⟩) hH ?_
      try simp only [Act.put, List.setIfInBounds_toArray, List.set_cons_zero, List.set_cons_succ]
      refine wpAnyH_take (i := 6) (oi := { dst := some 22, op := Op.binOp BinOp.lss 3 (Operand.tmp 21) (Operand.const (Value.int IntKind.i64 1)) 3, type := 4, pos := "ref.go:42", after := #[{ on := 5, ground := Ground.data }, { on := 3, ground := Ground.guard }], guard := some (3, false) }) (v := undef) rfl (by kernel_rfl) (by kernel_rfl) (by kernel_rfl) (fun _ _ _ h => h) (Or.inr ⟨by rfl, rfl⟩) hH ?_
      try simp only [Act.put, List.setIfInBounds_toArray, List.set_cons_zero, List.set_cons_succ]
      refine wpAnyH_take (i := 7) (oi := { dst := some 23, op := Op.pick (Operand.tmp 19) (Operand.const (Value.bool true)) (Operand.tmp 22), type := 4, pos := "ref.go:42", after := #[{ on := 3, ground := Ground.data }, { on := 6, ground := Ground.data }], guard := none }) (v := (.bool true)) rfl (by kernel_rfl) (by kernel_rfl) (by kernel_rfl) (fun _ _ _ h => h) (Or.inl ⟨by rfl, fun W hSw => by go_simp⟩) hH ?_
      try simp only [Act.put, List.setIfInBounds_toArray, List.set_cons_zero, List.set_cons_succ]
      refine wpAnyH_take (i := 8) (oi := { dst := some 24, op := Op.move (Operand.tmp 23), type := 4, pos := "ref.go:42", after := #[{ on := 7, ground := Ground.data }, { on := 3, ground := Ground.chain }], guard := none }) (v := (.bool true)) rfl (by kernel_rfl) (by kernel_rfl) (by kernel_rfl) (fun _ _ _ h => h) (Or.inl ⟨by rfl, fun W hSw => by go_simp⟩) hH ?_
      try simp only [Act.put, List.setIfInBounds_toArray, List.set_cons_zero, List.set_cons_succ]
      refine wpAnyH_take (i := 9) (oi := { dst := some 25, op := Op.move (Operand.tmp 8), type := 3, pos := "ref.go:42", after := #[{ on := 8, ground := Ground.guard }], guard := some (8, false) }) (v := undef) rfl (by kernel_rfl) (by kernel_rfl) (by kernel_rfl) (fun _ _ _ h => h) (Or.inr ⟨by rfl, rfl⟩) hH ?_
      try simp only [Act.put, List.setIfInBounds_toArray, List.set_cons_zero, List.set_cons_succ]
      refine wpAnyH_take (i := 10) (oi := { dst := some 26, op := Op.move (Operand.tmp 0), type := 28, pos := "ref.go:42", after := #[{ on := 8, ground := Ground.guard }], guard := some (8, false) }) (v := undef) rfl (by kernel_rfl) (by kernel_rfl) (by kernel_rfl) (fun _ _ _ h => h) (Or.inr ⟨by rfl, rfl⟩) hH ?_
      try simp only [Act.put, List.setIfInBounds_toArray, List.set_cons_zero, List.set_cons_succ]
      refine wpAnyH_take (i := 11) (oi := { dst := some 27, op := Op.nilCheck (Operand.tmp 26), type := 0, pos := "ref.go:42", after := #[{ on := 10, ground := Ground.data }, { on := 8, ground := Ground.guard }], guard := some (8, false) }) (v := undef) rfl (by kernel_rfl) (by kernel_rfl) (by kernel_rfl) (fun _ _ _ h => h) (Or.inr ⟨by rfl, rfl⟩) hH ?_
      try simp only [Act.put, List.setIfInBounds_toArray, List.set_cons_zero, List.set_cons_succ]
      refine wpAnyH_take (i := 12) (oi := { dst := some 28, op := Op.fieldAddr 31 (Operand.tmp 27) 0, type := 0, pos := "ref.go:42", after := #[{ on := 11, ground := Ground.data }, { on := 8, ground := Ground.guard }], guard := some (8, false) }) (v := undef) rfl (by kernel_rfl) (by kernel_rfl) (by kernel_rfl) (fun _ _ _ h => h) (Or.inr ⟨by rfl, rfl⟩) hH ?_
      try simp only [Act.put, List.setIfInBounds_toArray, List.set_cons_zero, List.set_cons_succ]
      refine wpAnyH_take (i := 13) (oi := { dst := some 29, op := Op.load 29 (Operand.tmp 28), type := 29, pos := "ref.go:42", after := #[{ on := 12, ground := Ground.data }, { on := 8, ground := Ground.guard }], guard := some (8, false) }) (v := undef) rfl (by kernel_rfl) (by kernel_rfl) (by kernel_rfl) (fun _ _ _ h => h) (Or.inr ⟨by rfl, rfl⟩) hH ?_
      try simp only [Act.put, List.setIfInBounds_toArray, List.set_cons_zero, List.set_cons_succ]
      refine wpAnyH_take (i := 14) (oi := { dst := some 30, op := Op.call { callee := Callee.builtin Builtin.len, args := #[Operand.tmp 29], argTypes := #[29] }, type := 3, pos := "ref.go:42", after := #[{ on := 13, ground := Ground.data }, { on := 8, ground := Ground.guard }], guard := some (8, false) }) (v := undef) rfl (by kernel_rfl) (by kernel_rfl) (by kernel_rfl) (fun _ _ _ h => h) (Or.inr ⟨by rfl, rfl⟩) hH ?_
      try simp only [Act.put, List.setIfInBounds_toArray, List.set_cons_zero, List.set_cons_succ]
      refine wpAnyH_take (i := 15) (oi := { dst := some 31, op := Op.binOp BinOp.lss 3 (Operand.tmp 25) (Operand.tmp 30) 3, type := 4, pos := "ref.go:42", after := #[{ on := 9, ground := Ground.data }, { on := 14, ground := Ground.data }, { on := 8, ground := Ground.guard }], guard := some (8, false) }) (v := undef) rfl (by kernel_rfl) (by kernel_rfl) (by kernel_rfl) (fun _ _ _ h => h) (Or.inr ⟨by rfl, rfl⟩) hH ?_
      try simp only [Act.put, List.setIfInBounds_toArray, List.set_cons_zero, List.set_cons_succ]
      refine wpAnyH_take (i := 16) (oi := { dst := some 32, op := Op.move (Operand.tmp 31), type := 4, pos := "ref.go:42", after := #[{ on := 15, ground := Ground.data }, { on := 8, ground := Ground.chain }, { on := 8, ground := Ground.guard }], guard := some (8, false) }) (v := undef) rfl (by kernel_rfl) (by kernel_rfl) (by kernel_rfl) (fun _ _ _ h => h) (Or.inr ⟨by rfl, rfl⟩) hH ?_
      try simp only [Act.put, List.setIfInBounds_toArray, List.set_cons_zero, List.set_cons_succ]
      refine wpAnyH_take (i := 17) (oi := { dst := some 33, op := Op.move (Operand.tmp 0), type := 28, pos := "ref.go:42", after := #[{ on := 16, ground := Ground.guard }], guard := some (16, true) }) (v := undef) rfl (by kernel_rfl) (by kernel_rfl) (by kernel_rfl) (fun _ _ _ h => h) (Or.inr ⟨by rfl, rfl⟩) hH ?_
      try simp only [Act.put, List.setIfInBounds_toArray, List.set_cons_zero, List.set_cons_succ]
      refine wpAnyH_take (i := 18) (oi := { dst := some 34, op := Op.nilCheck (Operand.tmp 33), type := 0, pos := "ref.go:42", after := #[{ on := 17, ground := Ground.data }, { on := 16, ground := Ground.guard }], guard := some (16, true) }) (v := undef) rfl (by kernel_rfl) (by kernel_rfl) (by kernel_rfl) (fun _ _ _ h => h) (Or.inr ⟨by rfl, rfl⟩) hH ?_
      try simp only [Act.put, List.setIfInBounds_toArray, List.set_cons_zero, List.set_cons_succ]
      refine wpAnyH_take (i := 19) (oi := { dst := some 35, op := Op.fieldAddr 31 (Operand.tmp 34) 0, type := 0, pos := "ref.go:42", after := #[{ on := 18, ground := Ground.data }, { on := 16, ground := Ground.guard }], guard := some (16, true) }) (v := undef) rfl (by kernel_rfl) (by kernel_rfl) (by kernel_rfl) (fun _ _ _ h => h) (Or.inr ⟨by rfl, rfl⟩) hH ?_
      try simp only [Act.put, List.setIfInBounds_toArray, List.set_cons_zero, List.set_cons_succ]
      refine wpAnyH_take (i := 20) (oi := { dst := some 36, op := Op.load 29 (Operand.tmp 35), type := 29, pos := "ref.go:42", after := #[{ on := 19, ground := Ground.data }, { on := 16, ground := Ground.guard }], guard := some (16, true) }) (v := undef) rfl (by kernel_rfl) (by kernel_rfl) (by kernel_rfl) (fun _ _ _ h => h) (Or.inr ⟨by rfl, rfl⟩) hH ?_
      try simp only [Act.put, List.setIfInBounds_toArray, List.set_cons_zero, List.set_cons_succ]
      refine wpAnyH_take (i := 21) (oi := { dst := some 37, op := Op.move (Operand.tmp 8), type := 3, pos := "ref.go:42", after := #[{ on := 16, ground := Ground.guard }], guard := some (16, true) }) (v := undef) rfl (by kernel_rfl) (by kernel_rfl) (by kernel_rfl) (fun _ _ _ h => h) (Or.inr ⟨by rfl, rfl⟩) hH ?_
      try simp only [Act.put, List.setIfInBounds_toArray, List.set_cons_zero, List.set_cons_succ]
      refine wpAnyH_take (i := 22) (oi := { dst := some 38, op := Op.indexAddr 29 (Operand.tmp 36) (Operand.tmp 37), type := 0, pos := "ref.go:42", after := #[{ on := 20, ground := Ground.data }, { on := 21, ground := Ground.data }, { on := 16, ground := Ground.guard }], guard := some (16, true) }) (v := undef) rfl (by kernel_rfl) (by kernel_rfl) (by kernel_rfl) (fun _ _ _ h => h) (Or.inr ⟨by rfl, rfl⟩) hH ?_
      try simp only [Act.put, List.setIfInBounds_toArray, List.set_cons_zero, List.set_cons_succ]
      refine wpAnyH_take (i := 23) (oi := { dst := some 39, op := Op.load 66 (Operand.tmp 38), type := 66, pos := "ref.go:42", after := #[{ on := 22, ground := Ground.data }, { on := 16, ground := Ground.guard }], guard := some (16, true) }) (v := undef) rfl (by kernel_rfl) (by kernel_rfl) (by kernel_rfl) (fun _ _ _ h => h) (Or.inr ⟨by rfl, rfl⟩) hH ?_
      try simp only [Act.put, List.setIfInBounds_toArray, List.set_cons_zero, List.set_cons_succ]
      refine wpAnyH_take (i := 24) (oi := { dst := some 40, op := Op.load 66 (Operand.tmp 7), type := 66, pos := "ref.go:42", after := #[{ on := 16, ground := Ground.guard }], guard := some (16, true) }) (v := undef) rfl (by kernel_rfl) (by kernel_rfl) (by kernel_rfl) (fun _ _ _ h => h) (Or.inr ⟨by rfl, rfl⟩) hH ?_
      try simp only [Act.put, List.setIfInBounds_toArray, List.set_cons_zero, List.set_cons_succ]
      refine wpAnyH_take (i := 25) (oi := { dst := some 41, op := Op.binOp BinOp.eql 66 (Operand.tmp 39) (Operand.tmp 40) 66, type := 4, pos := "ref.go:42", after := #[{ on := 23, ground := Ground.data }, { on := 24, ground := Ground.data }, { on := 16, ground := Ground.guard }], guard := some (16, true) }) (v := undef) rfl (by kernel_rfl) (by kernel_rfl) (by kernel_rfl) (fun _ _ _ h => h) (Or.inr ⟨by rfl, rfl⟩) hH ?_
      try simp only [Act.put, List.setIfInBounds_toArray, List.set_cons_zero, List.set_cons_succ]
      refine wpAnyH_take (i := 26) (oi := { dst := some 42, op := Op.pick (Operand.tmp 32) (Operand.tmp 41) (Operand.const (Value.bool false)), type := 4, pos := "ref.go:42", after := #[{ on := 16, ground := Ground.data }, { on := 25, ground := Ground.data }, { on := 8, ground := Ground.guard }], guard := some (8, false) }) (v := undef) rfl (by kernel_rfl) (by kernel_rfl) (by kernel_rfl) (fun _ _ _ h => h) (Or.inr ⟨by rfl, rfl⟩) hH ?_
      try simp only [Act.put, List.setIfInBounds_toArray, List.set_cons_zero, List.set_cons_succ]
      refine wpAnyH_take (i := 27) (oi := { dst := some 43, op := Op.pick (Operand.tmp 24) (Operand.const (Value.bool true)) (Operand.tmp 42), type := 4, pos := "ref.go:42", after := #[{ on := 8, ground := Ground.data }, { on := 26, ground := Ground.data }], guard := none }) (v := (.bool true)) rfl (by kernel_rfl) (by kernel_rfl) (by kernel_rfl) (fun _ _ _ h => h) (Or.inl ⟨by rfl, fun W hSw => by go_simp⟩) hH ?_
      try simp only [Act.put, List.setIfInBounds_toArray, List.set_cons_zero, List.set_cons_succ]
      refine wpAnyH_done (by kernel_rfl) ?_ _
      go_wp2_with fail
      go_meet
      exact ⟨by rw [hz.out]; rfl, hH⟩
  case rest =>
    obtain ⟨rfl, hk2⟩ := hcut
    clear fO fL hs1 hth
    have hr2 := ht1.kept hk2 (by simp) (by simp)
    by_cases hok : insOk L x = true
    · have e1 : (!insOk L x) = false := by rw [hok]; rfl
      have hinL' : insL L x = L.take n ++ x :: L.drop n := by rw [hinL.out, if_pos hok]
      rw [e1]
      obtain ⟨v, hrr, a, cap, rfl, hc, hm, hrow⟩ := hr2.row
      have hoff := hr2.off
      obtain ⟨len, hlen⟩ : ∃ len, L.length = len := ⟨_, rfl⟩
      rw [hlen] at hrr hc hpl hfew
      have hnle : (n : Int) ≤ (cap : Int) := by omega
      have hnll : (n : Int) ≤ (len : Int) := by omega
      have hlc : (len : Int) ≤ (cap : Int) := by omega
      have fR : ∀ W, Kept [] wc W → W.cell? ⟨r, 0, none⟩ = some (.slice a len cap) := fun W hk => ((hrr.kept hk (by simp)).cell 0).trans rfl
      have ka := kept_alloc [] wc (.cells #[] 66)
      have r0 : Hid ((wc.alloc (.cells #[] 66)).ownsRow wc.heap.size 66 3 (.slice (some ⟨wc.heap.size, 0, none⟩) 0 0) ([] : List It).length (rowC [])) := World.ownsRow_made wc #[] 0 (Nat.le_refl _) (by unfold maxLen; omega) rfl
      have cR0 := fR _ ka
      have hbig : Hid (wc.heap.size ≤ wc.heap.size) := Nat.le_refl _
      rcases hrow with ⟨rfl, rfl, rfl, rfl⟩ | ⟨b, off, rfl, rfl, hbl, hcs⟩
      · simp at hlen
        subst hlen
        obtain rfl : n = 0 := by omega
        have hN : ∀ W, ItemsAt W (.slice none 0 0) none [] := fun W => ⟨none, 0, rfl, Nat.le_refl _, by unfold maxLen; omega, .inl ⟨rfl, rfl, rfl, rfl⟩⟩
        obtain ⟨x0, x1, x2⟩ := fX _ (hk2.trans ka)
        have hlt1 := hk01.size
        have hlt2 := hk2.size
        have ka3 := kept_alloc [] (wc.alloc (.cells #[] 66)) (.cells #[.int .i64 x.o, .int .i64 x.l, .int .i64 x.i] 66)
        have hu2 := items_one (wc.alloc (.cells #[] 66)) x
        rw [show (wc.alloc (.cells #[] 66)).heap.size = wc.heap.size + 1 by simp] at hu2
        replace hu2 : Hid _ := hu2
        replace hN : Hid _ := hN
        clear hbig
        go_wp2_with (first
          | (at_builtin; refine wpList_append_items rfl _ _ rfl wc.heap.size _ _ (some (wc.heap.size + 1)) [] [x] rfl (r0.out.alloc _) rfl hu2.out (by simp) (by simp; omega) ?_; intro v4 w4 hr4 hg4; have hk4 : Kept [] wc w4 := kept_grown (n := wc.heap.size) (r0.out.alloc _) hg4 wc (ka.trans ka3) (Nat.le_refl _) rfl; have cR4 := fR w4 hk4; have hu3 : Hid (ItemsAt w4 (.slice none 0 0) none []) := hN.out w4; clear hg4 hu2)
          | (at_builtin; refine wpList_append_items rfl _ _ rfl wc.heap.size _ _ none [x] [] rfl hr4 rfl hu3.out (by simp) hk4.size ?_; intro v5 w5 hr5 hg5; have hk5 : Kept [] wc w5 := kept_grown (n := wc.heap.size) hr4 hg5 wc hk4 (Nat.le_refl _) rfl; have hrr5 := hrr.kept hk5 (by simp); have cR5 := fR w5 hk5; have f5 := hrr5.frozen 0; have n5 := items_of_owns hr5; obtain ⟨a5, cap5, e5, -⟩ := id n5; obtain ⟨m5, hm5⟩ : ∃ m5, ([x] ++ [] : List It).length = m5 := ⟨_, rfl⟩; rw [hm5] at e5; subst e5; replace hm5 : Hid _ := hm5; clear hg5 hu3))
        go_ret
        have hrow5 := hrr5.set 0 (.slice a5 m5 cap5)
        have eL : List.take 0 ([] : List It) ++ x :: List.drop 0 [] = [x] ++ [] := rfl
        rw [hok, hinL', eL]
        have hown5 : w.heap.size ≤ wc.heap.size := Nat.le_trans hlt1 hlt2
        have hob := hr5.lt
        have hne : ∃ k, (Value.slice a5 m5 cap5).ownBlock = some k := by
          rcases hr5.2 with ⟨e, _⟩ | ⟨g, cp, cur, e, _⟩
          · injection e with _ e2 _
            have := hm5.out
            rw [e2] at this
            simp at this
          · injection e with e1 _ _
            rw [e1]
            exact ⟨g, rfl⟩
        obtain ⟨k, hk⟩ := hne
        have hkk := (hob k hk).1
        have hkept := kept_set (L := [r]) (g := r) (by simp) w5 0 (.slice a5 m5 cap5)
        refine ⟨rfl, ⟨some k, ⟨⟨_, hrow5, ?_⟩, ?_, by simp⟩, fun k' e => by injection e with e; omega⟩, (((hk01.trans hk2).trans hk5).mono (by simp)).trans hkept⟩
        · rw [hk] at n5
          exact n5.kept hkept (fun b' e => by simp at e; subst e; simp; omega)
        · intro e
          injection e with e
          omega
      · have hI : ItemsAt wc (.slice (some ⟨b, off, none⟩) L.length cap) (some b) L := ⟨_, cap, rfl, by omega, hm, .inr ⟨b, off, rfl, rfl, hbl, hcs⟩⟩
        have hu1 : Hid (ItemsAt (wc.alloc (.cells #[] 66)) (.slice (some ⟨b, off, none⟩) n cap) (some b) (L.take n)) := (hI.take n (by omega)).kept ka (by simp)
        have hX := fun W (hk : Kept [] wc W) => fX W (hk2.trans hk)
        have hlt1 := hk01.size
        have hlt2 := hk2.size
        clear hcs hbig
        by_cases hcn : cap = n
        · obtain rfl : len = n := by omega
          subst hcn
          go_wp2_with (first
            | (at_builtin; refine wpList_append_items rfl _ _ rfl wc.heap.size _ _ (some b) [] (L.take cap) rfl r0.out rfl hu1.out (by simp; omega) (by simp) ?_; intro v3 w3 hr3 hg3; have hk3 : Kept [] wc w3 := kept_grown (n := wc.heap.size) r0.out hg3 wc ka (Nat.le_refl _) rfl; obtain ⟨x0, x1, x2⟩ := hX w3 hk3; have ka3 := kept_alloc [] w3 (.cells #[.int .i64 x.o, .int .i64 x.l, .int .i64 x.i] 66); have hu2 : Hid (ItemsAt (w3.alloc (.cells #[.int .i64 x.o, .int .i64 x.l, .int .i64 x.i] 66)) (.slice (some ⟨w3.heap.size, 0, none⟩) 1 1) (some w3.heap.size) [x]) := items_one w3 x; clear hg3 hu1)
            | (at_builtin; refine wpList_append_items rfl _ _ rfl wc.heap.size _ _ (some w3.heap.size) (L.take cap) [x] rfl (hr3.alloc _) rfl hu2.out (by simp; omega) (Nat.le_trans hk3.size ka3.size) ?_; intro v4 w4 hr4 hg4; have hk4 : Kept [] wc w4 := kept_grown (n := wc.heap.size) (hr3.alloc _) hg4 wc (hk3.trans ka3) (Nat.le_refl _) rfl; have cR4 := fR w4 hk4; have hu3 : Hid (ItemsAt w4 (.slice (some ⟨b, off, none⟩) 0 0) (some b) (L.drop cap)) := (hI.drop_all cap (by omega)).kept hk4 (by simp); clear hg4 hu2)
            | (at_builtin; refine wpList_append_items rfl _ _ rfl wc.heap.size _ _ (some b) (L.take cap ++ [x]) (L.drop cap) rfl hr4 rfl hu3.out (by simp; omega) hk4.size ?_; intro v5 w5 hr5 hg5; have hk5 : Kept [] wc w5 := kept_grown (n := wc.heap.size) hr4 hg5 wc hk4 (Nat.le_refl _) rfl; have hrr5 := hrr.kept hk5 (by simp); have cR5 := fR w5 hk5; have f5 := hrr5.frozen 0; have n5 := items_of_owns hr5; obtain ⟨a5, cap5, e5, -⟩ := id n5; obtain ⟨m5, hm5⟩ : ∃ m5, (L.take cap ++ [x] ++ L.drop cap).length = m5 := ⟨_, rfl⟩; rw [hm5] at e5; subst e5; replace hm5 : Hid _ := hm5; clear hg5 hu3))
          go_ret
          have hrow5 := hrr5.set 0 (.slice a5 m5 cap5)
          have eL : L.take cap ++ [x] ++ L.drop cap = L.take cap ++ x :: L.drop cap := by simp
          rw [hok, hinL', ← eL]
          have hown5 : w.heap.size ≤ wc.heap.size := Nat.le_trans hlt1 hlt2
          have hob := hr5.lt
          have hne : ∃ k, (Value.slice a5 m5 cap5).ownBlock = some k := by
            rcases hr5.2 with ⟨e, _⟩ | ⟨g, cp, cur, e, _⟩
            · injection e with _ e2 _
              have := hm5.out
              rw [e2] at this
              simp at this
            · injection e with e1 _ _
              rw [e1]
              exact ⟨g, rfl⟩
          obtain ⟨k, hk⟩ := hne
          have hkk := (hob k hk).1
          have hkept := kept_set (L := [r]) (g := r) (by simp) w5 0 (.slice a5 m5 cap5)
          refine ⟨rfl, ⟨some k, ⟨⟨_, hrow5, ?_⟩, ?_, by simp; omega⟩, fun k' e => by injection e with e; omega⟩, (((hk01.trans hk2).trans hk5).mono (by simp)).trans hkept⟩
          · rw [hk] at n5
            exact n5.kept hkept (fun b' e => by simp at e; subst e; simp; omega)
          · intro e
            injection e with e
            omega
        · go_wp2_with (first
            | (at_builtin; refine wpList_append_items rfl _ _ rfl wc.heap.size _ _ (some b) [] (L.take n) rfl r0.out rfl hu1.out (by simp; omega) (by simp) ?_; intro v3 w3 hr3 hg3; have hk3 : Kept [] wc w3 := kept_grown (n := wc.heap.size) r0.out hg3 wc ka (Nat.le_refl _) rfl; obtain ⟨x0, x1, x2⟩ := hX w3 hk3; have ka3 := kept_alloc [] w3 (.cells #[.int .i64 x.o, .int .i64 x.l, .int .i64 x.i] 66); have hu2 : Hid (ItemsAt (w3.alloc (.cells #[.int .i64 x.o, .int .i64 x.l, .int .i64 x.i] 66)) (.slice (some ⟨w3.heap.size, 0, none⟩) 1 1) (some w3.heap.size) [x]) := items_one w3 x; clear hg3 hu1)
            | (at_builtin; refine wpList_append_items rfl _ _ rfl wc.heap.size _ _ (some w3.heap.size) (L.take n) [x] rfl (hr3.alloc _) rfl hu2.out (by simp; omega) (Nat.le_trans hk3.size ka3.size) ?_; intro v4 w4 hr4 hg4; have hk4 : Kept [] wc w4 := kept_grown (n := wc.heap.size) (hr3.alloc _) hg4 wc (hk3.trans ka3) (Nat.le_refl _) rfl; have cR4 := fR w4 hk4; have hu3 : Hid (ItemsAt w4 (.slice (some ⟨b, off + n * 3, none⟩) (L.length - n) (cap - n)) (some b) (L.drop n)) := (hI.drop n (by omega)).kept hk4 (by simp); rw [hlen] at hu3; clear hg4 hu2)
            | (at_builtin; refine wpList_append_items rfl _ _ rfl wc.heap.size _ _ (some b) (L.take n ++ [x]) (L.drop n) rfl hr4 rfl hu3.out (by simp; omega) hk4.size ?_; intro v5 w5 hr5 hg5; have hk5 : Kept [] wc w5 := kept_grown (n := wc.heap.size) hr4 hg5 wc hk4 (Nat.le_refl _) rfl; have hrr5 := hrr.kept hk5 (by simp); have cR5 := fR w5 hk5; have f5 := hrr5.frozen 0; have n5 := items_of_owns hr5; obtain ⟨a5, cap5, e5, -⟩ := id n5; obtain ⟨m5, hm5⟩ : ∃ m5, (L.take n ++ [x] ++ L.drop n).length = m5 := ⟨_, rfl⟩; rw [hm5] at e5; subst e5; replace hm5 : Hid _ := hm5; clear hg5 hu3))
          go_ret
          have hrow5 := hrr5.set 0 (.slice a5 m5 cap5)
          have eL : L.take n ++ [x] ++ L.drop n = L.take n ++ x :: L.drop n := by simp
          rw [hok, hinL', ← eL]
          have hown5 : w.heap.size ≤ wc.heap.size := Nat.le_trans hlt1 hlt2
          have hob := hr5.lt
          have hne : ∃ k, (Value.slice a5 m5 cap5).ownBlock = some k := by
            rcases hr5.2 with ⟨e, _⟩ | ⟨g, cp, cur, e, _⟩
            · injection e with _ e2 _
              have := hm5.out
              rw [e2] at this
              simp at this
            · injection e with e1 _ _
              rw [e1]
              exact ⟨g, rfl⟩
          obtain ⟨k, hk⟩ := hne
          have hkk := (hob k hk).1
          have hkept := kept_set (L := [r]) (g := r) (by simp) w5 0 (.slice a5 m5 cap5)
          refine ⟨rfl, ⟨some k, ⟨⟨_, hrow5, ?_⟩, ?_, by simp; omega⟩, fun k' e => by injection e with e; omega⟩, (((hk01.trans hk2).trans hk5).mono (by simp)).trans hkept⟩
          · rw [hk] at n5
            exact n5.kept hkept (fun b' e => by simp at e; subst e; simp; omega)
          · intro e
            injection e with e
            omega
    · have hb : insOk L x = false := by simpa using hok
      have e1 : (!insOk L x) = true := by rw [hb]; rfl
      rw [e1]
      clear hok e1
      go_wp2_with fail
      go_ret
      rw [hinL.out, hb, if_neg (by decide)]
      exact ⟨rfl, ⟨ob, hr2, fun k e => .inl (by first | exact e | simpa using e)⟩, (hk01.trans hk2).mono (by simp)⟩
end Go.Proofs.Ytpphlcjabnbblaa.Itree

