import Derived.Test.YtpphlcjabnbblaaItF
/-
  The walk of ItreeActs, of any tree that does what is asked (Spec).
-/
namespace Go.Proofs.Ytpphlcjabnbblaa.Itree
open Go.RowKit

/-- An act. -/
structure Sa where
  del : Bool
  x : It
structure Sa.Ok (a : Sa) : Prop where
  x_ : a.x.Ok
def Sa.cells (a : Sa) : List Value := [.bool a.del, .int .i64 a.x.o, .int .i64 a.x.l, .int .i64 a.x.i]
/-- The acts of a slice, in a block below n₀ where there is one. -/
def ActsAt (n₀ : Nat) (W : World) (a : Option Addr) (len cap : Nat) (acts : List Sa) : Prop :=
  acts.length = len ∧ (∀ x ∈ acts, x.Ok) ∧ (acts = [] ∨ ∃ b off, a = some ⟨b, off, none⟩ ∧ len ≤ cap ∧ b < n₀ ∧ ∀ j x, acts[j]? = some x → W.rangeAt b (off + j * 4) x.cells)
theorem ActsAt.below {n₀ : Nat} {A B : World} (h : Below n₀ A B) {a : Option Addr} {len cap : Nat} {acts : List Sa} : ActsAt n₀ A a len cap acts → ActsAt n₀ B a len cap acts
  | ⟨h1, h2, .inl r⟩ => ⟨h1, h2, .inl r⟩
  | ⟨h1, h2, .inr ⟨b, off, e, hl, hb, hc⟩⟩ => ⟨h1, h2, .inr ⟨b, off, e, hl, hb, fun j x hx i v hv => (h.cell (p := ⟨b, off + j * 4 + i, none⟩) hb).trans (hc j x hx i v hv)⟩⟩
set_option maxRecDepth 100000 in
theorem Try.size33 : (Try.prog.info? 33).map (·.size) = some 4 := by kernel_rfl
theorem Sa.range {W : World} {g : Nat} {a : Sa} (h : Blk W g 33 a.cells.toArray) :
    W.cell? ⟨g, 0, none⟩ = some (.bool a.del) ∧ W.cell? ⟨g, 1, none⟩ = some (.int .i64 a.x.o) ∧ W.cell? ⟨g, 2, none⟩ = some (.int .i64 a.x.l) ∧ W.cell? ⟨g, 3, none⟩ = some (.int .i64 a.x.i) := by
  refine ⟨by rw [h.cell]; rfl, by rw [h.cell]; rfl, by rw [h.cell]; rfl, by rw [h.cell]; rfl⟩
theorem Sa.one (a : Sa) : ∀ v ∈ a.cells, v.oneCell' = true := by
  intro v hv
  simp only [Sa.cells, List.mem_cons, List.not_mem_nil, or_false] at hv
  rcases hv with rfl | rfl | rfl | rfl <;> rfl
/-- What an act does. -/
def actL (L : List It) (a : Sa) : List It := if a.del then delL L a.x else insL L a.x
def actB (L : List It) (a : Sa) : Bool := if a.del then there L a.x else insOk L a.x
theorem act_sorted {L : List It} (h : Sorted L) (a : Sa) : Sorted (actL L a) := by
  unfold actL
  split
  · exact del_sorted h _
  · exact ins_sorted h _
theorem act_length (L : List It) (a : Sa) : (actL L a).length ≤ L.length + 1 := by
  unfold actL
  split
  · have := del_length L a.x
    omega
  · have := ins_length L a.x
    split at this <;> omega

set_option maxRecDepth 100000 in
set_option maxHeartbeats 1000000 in
/-- ItreeActs, of what is let go -/
theorem acts_early (hlives : ∀ w, Calls Try.prog 7 #[] w fun e w' => e = .returned (.bool true) ∧ Kept [] w w') (so sl : Int) (a0 : Option Addr) (len cap : Nat) (hno : 150 < len) (w : World) :
    Calls Try.prog 3 #[.slice a0 len cap, .agg #[.int .i64 so, .int .i64 sl]] w fun e w' => e = .returned (.bool true) ∧ Kept [] w w' := by
  have g1 : (150 : Int) < (len : Int) := by omega
  have hk0 := kept_alloc [] w (.cells #[.int .i64 so, .int .i64 sl] 24)
  go_enter Try.func3, Try.ntmps3
  go_wp2_with (first
    | (go_at_call 7; refine (hlives _).mono ?_; rintro e w3 ⟨rfl, hk3⟩))
  go_ret
  exact ⟨rfl, hk0.trans hk3⟩

set_option maxRecDepth 100000 in
set_option maxHeartbeats 8000000 in
/-- ItreeActs, of a play -/
theorem acts_play {T : World → Nat → List Nat → List It → Prop} (hS : Spec T) (hlives : ∀ w, Calls Try.prog 7 #[] w fun e w' => e = .returned (.bool true) ∧ Kept [] w w') (so sl : Int) (hsp : (It.mk so sl 0).Ok)
    (a0 : Option Addr) (len cap0 : Nat) (acts : List Sa) (hlen : len ≤ 150) (w : World) (hacts : ActsAt w.heap.size w a0 len cap0 acts) :
    Calls Try.prog 3 #[.slice a0 len cap0, .agg #[.int .i64 so, .int .i64 sl]] w fun e w' => e = .returned (.bool true) ∧ Kept [] w w' := by
  have hk0 := kept_alloc [] w (.cells #[.int .i64 so, .int .i64 sl] 24)
  have hs0 := blk_new w 24 #[.int .i64 so, .int .i64 sl]
  have g2 : ¬ ((150 : Int) < (len : Int)) := by omega
  have qm := hS.make (w.alloc (.cells #[.int .i64 so, .int .i64 sl] 24))
  go_enter Try.func3, Try.ntmps3
  go_wp2_with (first
    | (go_at_call 8; refine qm.mono ?_; rintro e w4 ⟨p, F, rfl, hT, hF, hk4⟩))
  have hk5 := kept_alloc [] w4 (.cells #[.slice none 0 0] 31)
  have hR : RT (w4.alloc (.cells #[.slice none 0 0] 31)) w4.heap.size none [] := ⟨⟨_, blk_new w4 31 _, ⟨none, 0, rfl, Nat.le_refl _, by unfold maxLen; omega, .inl ⟨rfl, rfl, rfl, rfl⟩⟩⟩, by simp, by simp⟩
  have hs4 := hk4.size
  have hFlt := hS.lt hT
  have hDuo : Duo T (w4.alloc (.cells #[.slice none 0 0] 31)) (w.heap.size + 1) p F w4.heap.size none [] := ⟨hS.kept hT hk5 (by simp), hR, Sorted.nil, ⟨fun hm => by have := hFlt _ hm; omega, by simp⟩, ⟨fun k hk => by have := hF k hk; simp at this; omega, by simp at hs4; omega, by simp⟩⟩
  have hK5 := hk4.trans hk5
  have hbase : w.heap.size + 1 ≤ w4.heap.size := by simpa using hs4
  obtain ⟨r, hr⟩ : ∃ r, w4.heap.size = r := ⟨_, rfl⟩
  rw [hr] at hDuo
  rw [hr]
  generalize w4.alloc (.cells #[.slice none 0 0] 31) = w5 at *
  clear hr hT hF hFlt hR hk4 hk5 hs4 qm hbase
  go_wp2_with fail
  go_loopw [21] (fun i wr => ∃ (j : Nat) (F : List Nat) (ob : Option Nat) (L : List It), j ≤ len ∧ i = .int .i64 j ∧ Duo T wr (w.heap.size + 1) p F r ob L ∧ L.length ≤ j ∧ Kept [] (w.alloc (.cells #[.int .i64 so, .int .i64 sl] 24)) wr) (fun i _ => len - (RowKit.intOf i).toNat)
  case atStart => exact ⟨0, F, none, [], by omega, rfl, hDuo, by simp, hK5⟩
  case round =>
    obtain ⟨j, F, ob, L, hj, rfl, hD, hLj, hK⟩ := hrel
    clear hDuo hK5
    by_cases hlt : j < len
    · obtain ⟨hal, haok, hnil | ⟨blk, off, rfl, hcap, hblk, hcs⟩⟩ := hacts.below ((hk0.trans hK).below (Nat.le_refl _) (by simp))
      · rw [hnil] at hal
        simp at hal
        omega
      obtain ⟨a, ha⟩ : ∃ a, acts[j]? = some a := ⟨_, List.getElem?_eq_getElem (by rw [hal]; exact hlt)⟩
      have hok := haok a (List.mem_of_getElem? ha)
      have hr : Hid (wr.rangeAt blk (off + j * 4) a.cells) := hcs j a ha
      have kk4 : (j : Int) < (len : Int) := by omega
      have kcap : (j : Int) < (cap0 : Int) := by omega
      have hm1 : Hid (len - (j + 1) < len - j) := by show _ < _; omega
      have hz0 : Blk (wr.alloc (.cells #[.bool false, .int .i64 0, .int .i64 0, .int .i64 0] 33)) wr.heap.size 33 #[.bool false, .int .i64 0, .int .i64 0, .int .i64 0] := blk_new wr 33 _
      have hsz : Hid (a.cells.length = 4) := rfl
      clear hcs hal haok hacts ha
      go_upto_region 8 with (first
        | refine wpList_load_mid rfl 33 _ rfl blk (off + j * 4) rfl a.cells _ hr.out Try.underlying33 rfl (by rw [hsz.out]; exact Try.size33) ?_
        | (refine wpList_store_blk rfl 33 _ _ rfl wr.heap.size 33 _ a.cells rfl rfl hz0 hsz.out (by rw [hsz.out]; exact Try.size33) a.one ?_; intro w7 hB7 hk7 hz7; have hk07 : Kept [] wr w7 := (kept_alloc [] wr _).young hk7 (Nat.le_refl _); replace hz7 : Hid _ := hz7))
      have hD7 := hD.kept hS hk07
      have hK7 := hK.trans hk07
      have hgF : wr.heap.size ∉ F := fun hm => by have := hS.lt hD.tree _ hm; omega
      have hrl := hD.ref.lt.1
      have hyg : ∀ x ∈ r :: F, x ∈ ([] : List Nat) ∨ (w.alloc (.cells #[.int .i64 so, .int .i64 sl] 24)).heap.size ≤ x := by
        intro x hx
        right
        have h1 := hD.young
        rcases List.mem_cons.1 hx with rfl | hx
        · simpa using h1.2.1
        · simpa using h1.1 x hx
      have hbs : w.heap.size + 1 ≤ w7.drew.heap.size := by
        have h1 := hK7.size
        simp at h1
        exact h1
      clear hD hr hz0 hk7
      cases hdel : a.del with
      | true =>
        have q9 := fun W (h : T W p F L) => hS.delete W p F L a.x h hD7.sorted (by omega) hok.x_
        have q10 := fun W (h : RT W r ob L) => rDelete_any r ob L a.x W h
        have hL1 : Hid ((delL L a.x).length ≤ j + 1) := by
          have := act_length L a
          unfold actL at this
          rw [hdel] at this
          show _ ≤ _
          simp at this
          omega
        have hs1 : Sorted (delL L a.x) := del_sorted hD7.sorted _
        generalize delL L a.x = L1 at *
        generalize there L a.x = res at *
        obtain ⟨c0, c1, c2, c3⟩ := Sa.range hB7
        rw [hdel] at c0
        have hDD := hD7.kept hS (kept_drew [] w7)
        have hBD := hB7.kept (kept_drew [] w7) (by simp)
        obtain ⟨-, x1, x2, x3⟩ := Sa.range hBD
        go_wp2_with fail
        clear c0 c1 c2 c3
        go_region_held3 (fun W => W.cell? ⟨wr.heap.size, 1, none⟩ = some (.int .i64 a.x.o) ∧ W.cell? ⟨wr.heap.size, 2, none⟩ = some (.int .i64 a.x.l) ∧ W.cell? ⟨wr.heap.size, 3, none⟩ = some (.int .i64 a.x.i)) (exact ⟨x1, x2, x3⟩) (first
          | (go_at_call 9; refine (q9 _ hDD.tree).mono ?_; rintro e w8 ⟨F', rfl, hT8, hF8, hk8⟩; have hB8 := hBD.kept hk8 hgF; replace x1 := (Sa.range hB8).2.1; replace x2 := (Sa.range hB8).2.2.1; replace x3 := (Sa.range hB8).2.2.2)
          | (go_at_call 10; refine (q10 _ (hDD.ref_kept hk8)).mono ?_; rintro e w9 ⟨rfl, ⟨ob', hR9, hob9⟩, hk9⟩; have hB9 := hB8.kept hk9 (by simp; omega); replace x1 := (Sa.range hB9).2.1; replace x2 := (Sa.range hB9).2.2.1; replace x3 := (Sa.range hB9).2.2.2))
        obtain ⟨hD9, hkk9⟩ := hDD.turned hS hbs hT8 hF8 hk8 hR9 hob9 hk9 hs1
        have hK9 := kept_youngs (hK7.trans (kept_drew [] w7)) hkk9 hyg
        have hs9 := hs0.kept hK9 (by simp)
        have o9 := (hs9.cell 0).trans (show _ = some (Value.int .i64 so) from rfl)
        have l9 := (hs9.cell 1).trans (show _ = some (Value.int .i64 sl) from rfl)
        have qf := rOverlaps_any r ob' L1 so sl w9 hD9.ref
        clear q9 q10 x1 x2 x3 hDD hBD hT8 hF8 hk8 hR9 hob9 hk9 hkk9 hB8 hB9 hB7 hD7
        go_wp2_with (first
          | (go_at_call 13; refine qf.mono ?_; rintro e w10 ⟨fv, rfl, hIf, hk10⟩; obtain ⟨fa, fcap, rfl⟩ := id hIf.slice))
        have hD10 := hD9.kept hS hk10
        have hK10 := hK9.trans hk10
        have hs10 := hs9.kept hk10 (by simp)
        obtain ⟨rv, hrb, ra, rcap, rfl, -⟩ := id hD10.ref.row
        have hL1' := hL1.out
        have fO : ∀ W, Kept [] w10 W → W.cell? ⟨w.heap.size, 0, none⟩ = some (.int .i64 so) := fun W hk => ((hs10.kept hk (by simp)).cell 0).trans rfl
        have fL : ∀ W, Kept [] w10 W → W.cell? ⟨w.heap.size, 1, none⟩ = some (.int .i64 sl) := fun W hk => ((hs10.kept hk (by simp)).cell 1).trans rfl
        have fR : ∀ W, Kept [] w10 W → W.cell? ⟨r, 0, none⟩ = some (.slice ra L1.length rcap) := fun W hk => ((hrb.kept hk (by simp)).cell 0).trans rfl
        have qlen := fun W (hk : Kept [] w10 W) => hS.len W p F' L1 (hD10.kept hS hk).tree (by omega)
        have qov := fun W (hk : Kept [] w10 W) => hS.overlaps W p F' L1 so sl (hD10.kept hS hk).tree hs1 (by omega) hsp
        have qany := fun W (hk : Kept [] w10 W) => hS.any W p F' L1 so sl (hD10.kept hS hk).tree hs1 (by omega) hsp
        have hfl : Hid ((ovL L1 so sl).length ≤ 9223372036854775807) := by
          show _ ≤ _
          have h1 : (ovL L1 so sl).length ≤ L1.length := by
            unfold ovL
            rw [List.length_map]
            exact List.length_filter_le _ _
          omega
        have fI : ∀ W, Kept [] w10 W → Bits.IntsAt W.heap.size W (.slice fa (ovL L1 so sl).length fcap) (ovL L1 so sl) := fun W hk => (IdsAt.kept hIf hk (by simp)).ints
        obtain ⟨flen, hflen⟩ : ∃ flen, (ovL L1 so sl).length = flen := ⟨_, rfl⟩
        rw [hflen] at fI qany
        clear hIf
        rw [hflen]
        have hdec : decide (0 < flen) = decide (0 < (flen : Int)) := by simp
        rw [hdec] at qany
        obtain ⟨len1, hlen1⟩ : ∃ len1, L1.length = len1 := ⟨_, rfl⟩
        rw [hlen1] at qlen fR
        clear hdec hflen hlen1 qf hs9 o9 l9 hrb hs10 hk10 hD9
        refine wp_region_held_drew (S := fun W => Kept [] w10 W) (by kernel_rfl) (kept_drew [] w10) (fun hP => ?_)
        have hH := hP
        clear hP
        refine wpAnyH_take (i := 0) (oi := { dst := some 54, op := Op.move (Operand.tmp 9), type := 4, pos := "law.go:48", after := #[], guard := none }) (v := (.bool res)) rfl (by kernel_rfl) (by kernel_rfl) (by kernel_rfl) (fun _ _ _ h => h) (Or.inl ⟨by rfl, fun W hSw => by go_simp⟩) hH ?_
        try simp only [Act.put, List.setIfInBounds_toArray, List.set_cons_zero, List.set_cons_succ]
        refine wpAnyH_take (i := 1) (oi := { dst := some 55, op := Op.move (Operand.tmp 10), type := 4, pos := "law.go:48", after := #[], guard := none }) (v := (.bool res)) rfl (by kernel_rfl) (by kernel_rfl) (by kernel_rfl) (fun _ _ _ h => h) (Or.inl ⟨by rfl, fun W hSw => by go_simp⟩) hH ?_
        try simp only [Act.put, List.setIfInBounds_toArray, List.set_cons_zero, List.set_cons_succ]
        refine wpAnyH_take (i := 2) (oi := { dst := some 56, op := Op.binOp BinOp.neq 4 (Operand.tmp 54) (Operand.tmp 55) 4, type := 4, pos := "law.go:48", after := #[{ on := 0, ground := Ground.data }, { on := 1, ground := Ground.data }], guard := none }) (v := (.bool false)) rfl (by kernel_rfl) (by kernel_rfl) (by kernel_rfl) (fun _ _ _ h => h) (Or.inl ⟨by rfl, fun W hSw => by go_simp⟩) hH ?_
        try simp only [Act.put, List.setIfInBounds_toArray, List.set_cons_zero, List.set_cons_succ]
        refine wpAnyH_take (i := 3) (oi := { dst := some 57, op := Op.move (Operand.tmp 56), type := 4, pos := "law.go:48", after := #[{ on := 2, ground := Ground.data }], guard := none }) (v := (.bool false)) rfl (by kernel_rfl) (by kernel_rfl) (by kernel_rfl) (fun _ _ _ h => h) (Or.inl ⟨by rfl, fun W hSw => by go_simp⟩) hH ?_
        try simp only [Act.put, List.setIfInBounds_toArray, List.set_cons_zero, List.set_cons_succ]
        refine wpAnyH_take (i := 4) (oi := { dst := some 58, op := Op.move (Operand.tmp 5), type := 26, pos := "law.go:48", after := #[{ on := 3, ground := Ground.guard }], guard := some (3, false) }) (v := (.pointer (some ⟨p, 0, none⟩))) rfl (by kernel_rfl) (by kernel_rfl) (by kernel_rfl) (fun _ _ _ h => h) (Or.inl ⟨by rfl, fun W hSw => by go_simp⟩) hH ?_
        try simp only [Act.put, List.setIfInBounds_toArray, List.set_cons_zero, List.set_cons_succ]
        refine wpAnyH_take (i := 6) (oi := { dst := some 60, op := Op.move (Operand.tmp 6), type := 28, pos := "law.go:48", after := #[{ on := 3, ground := Ground.guard }], guard := some (3, false) }) (v := (.pointer (some ⟨r, 0, none⟩))) rfl (by kernel_rfl) (by kernel_rfl) (by kernel_rfl) (fun _ _ _ h => h) (Or.inl ⟨by rfl, fun W hSw => by go_simp⟩) hH ?_
        try simp only [Act.put, List.setIfInBounds_toArray, List.set_cons_zero, List.set_cons_succ]
        refine wpAnyH_take (i := 7) (oi := { dst := some 61, op := Op.nilCheck (Operand.tmp 60), type := 0, pos := "law.go:48", after := #[{ on := 6, ground := Ground.data }, { on := 3, ground := Ground.guard }], guard := some (3, false) }) (v := (.pointer (some ⟨r, 0, none⟩))) rfl (by kernel_rfl) (by kernel_rfl) (by kernel_rfl) (fun _ _ _ h => h) (Or.inl ⟨by rfl, fun W hSw => by go_simp⟩) hH ?_
        try simp only [Act.put, List.setIfInBounds_toArray, List.set_cons_zero, List.set_cons_succ]
        refine wpAnyH_take (i := 8) (oi := { dst := some 62, op := Op.fieldAddr 31 (Operand.tmp 61) 0, type := 0, pos := "law.go:48", after := #[{ on := 7, ground := Ground.data }, { on := 3, ground := Ground.guard }], guard := some (3, false) }) (v := (.pointer (some ⟨r, 0, none⟩))) rfl (by kernel_rfl) (by kernel_rfl) (by kernel_rfl) (fun _ _ _ h => h) (Or.inl ⟨by rfl, fun W hSw => by go_simp⟩) hH ?_
        try simp only [Act.put, List.setIfInBounds_toArray, List.set_cons_zero, List.set_cons_succ]
        refine wpAnyH_take (i := 9) (oi := { dst := some 63, op := Op.load 29 (Operand.tmp 62), type := 29, pos := "law.go:48", after := #[{ on := 8, ground := Ground.data }, { on := 3, ground := Ground.guard }], guard := some (3, false) }) (v := (.slice ra len1 rcap)) rfl (by kernel_rfl) (by kernel_rfl) (by kernel_rfl) (fun _ _ _ h => h) (Or.inl ⟨by rfl, fun W hSw => by have c1 := fR W hSw; go_simp⟩) hH ?_
        try simp only [Act.put, List.setIfInBounds_toArray, List.set_cons_zero, List.set_cons_succ]
        refine wpAnyH_take (i := 10) (oi := { dst := some 64, op := Op.call { callee := Callee.builtin Builtin.len, args := #[Operand.tmp 63], argTypes := #[29] }, type := 3, pos := "law.go:48", after := #[{ on := 9, ground := Ground.data }, { on := 3, ground := Ground.guard }], guard := some (3, false) }) (v := (.int .i64 (len1 : Int))) rfl (by kernel_rfl) (by kernel_rfl) (by kernel_rfl) (fun _ _ _ h => h) (Or.inl ⟨by rfl, fun W hSw => by go_simp⟩) hH ?_
        try simp only [Act.put, List.setIfInBounds_toArray, List.set_cons_zero, List.set_cons_succ]
        refine wpAnyH_ready (rs := [5]) (by kernel_rfl) (by simp) ?_
        refine AllReadyH.cons (o := { dst := some 59, op := Op.call { callee := Callee.value (Operand.func 14), args := #[Operand.tmp 58], argTypes := #[26] }, type := 3, pos := "law.go:48", after := #[{ on := 4, ground := Ground.data }, { on := 3, ground := Ground.chain }, { on := 3, ground := Ground.guard }], guard := some (3, false) }) rfl (fun K hK => ?_) AllReadyH.nil
        go_simp
        refine (qlen _ hH).mono ?_
        rintro e w11 ⟨rfl, hk⟩
        go_wp2_with fail
        have hH1 := hH.trans hk
        refine hK.out _ _ hH1 (fun _ => ?_)
        replace hH := hH1
        clear hK K hH1
        clear hk
        try simp only [Act.put, List.setIfInBounds_toArray, List.set_cons_zero, List.set_cons_succ]
        refine wpAnyH_take (i := 11) (oi := { dst := some 65, op := Op.binOp BinOp.neq 3 (Operand.tmp 59) (Operand.tmp 64) 3, type := 4, pos := "law.go:48", after := #[{ on := 5, ground := Ground.data }, { on := 10, ground := Ground.data }, { on := 3, ground := Ground.guard }], guard := some (3, false) }) (v := (.bool false)) rfl (by kernel_rfl) (by kernel_rfl) (by kernel_rfl) (fun _ _ _ h => h) (Or.inl ⟨by rfl, fun W hSw => by go_simp⟩) hH ?_
        try simp only [Act.put, List.setIfInBounds_toArray, List.set_cons_zero, List.set_cons_succ]
        refine wpAnyH_take (i := 12) (oi := { dst := some 66, op := Op.pick (Operand.tmp 57) (Operand.const (Value.bool true)) (Operand.tmp 65), type := 4, pos := "law.go:48", after := #[{ on := 3, ground := Ground.data }, { on := 11, ground := Ground.data }], guard := none }) (v := (.bool false)) rfl (by kernel_rfl) (by kernel_rfl) (by kernel_rfl) (fun _ _ _ h => h) (Or.inl ⟨by rfl, fun W hSw => by go_simp⟩) hH ?_
        try simp only [Act.put, List.setIfInBounds_toArray, List.set_cons_zero, List.set_cons_succ]
        refine wpAnyH_take (i := 13) (oi := { dst := some 67, op := Op.move (Operand.tmp 66), type := 4, pos := "law.go:48", after := #[{ on := 12, ground := Ground.data }, { on := 5, ground := Ground.chain }], guard := none }) (v := (.bool false)) rfl (by kernel_rfl) (by kernel_rfl) (by kernel_rfl) (fun _ _ _ h => h) (Or.inl ⟨by rfl, fun W hSw => by go_simp⟩) hH ?_
        try simp only [Act.put, List.setIfInBounds_toArray, List.set_cons_zero, List.set_cons_succ]
        refine wpAnyH_take (i := 14) (oi := { dst := some 68, op := Op.move (Operand.tmp 5), type := 26, pos := "law.go:48", after := #[{ on := 13, ground := Ground.guard }], guard := some (13, false) }) (v := (.pointer (some ⟨p, 0, none⟩))) rfl (by kernel_rfl) (by kernel_rfl) (by kernel_rfl) (fun _ _ _ h => h) (Or.inl ⟨by rfl, fun W hSw => by go_simp⟩) hH ?_
        try simp only [Act.put, List.setIfInBounds_toArray, List.set_cons_zero, List.set_cons_succ]
        refine wpAnyH_take (i := 15) (oi := { dst := some 69, op := Op.load 24 (Operand.tmp 3), type := 24, pos := "law.go:48", after := #[{ on := 13, ground := Ground.guard }], guard := some (13, false) }) (v := (.agg #[.int .i64 so, .int .i64 sl])) rfl (by kernel_rfl) (by kernel_rfl) (by kernel_rfl) (fun _ _ _ h => h) (Or.inl ⟨by rfl, fun W hSw => by have c1 := fO W hSw; have c2 := fL W hSw; go_simp⟩) hH ?_
        try simp only [Act.put, List.setIfInBounds_toArray, List.set_cons_zero, List.set_cons_succ]
        refine wpAnyH_take (i := 17) (oi := { dst := some 71, op := Op.move (Operand.tmp 11), type := 35, pos := "law.go:48", after := #[{ on := 13, ground := Ground.guard }], guard := some (13, false) }) (v := (.slice fa flen fcap)) rfl (by kernel_rfl) (by kernel_rfl) (by kernel_rfl) (fun _ _ _ h => h) (Or.inl ⟨by rfl, fun W hSw => by go_simp⟩) hH ?_
        try simp only [Act.put, List.setIfInBounds_toArray, List.set_cons_zero, List.set_cons_succ]
        refine wpAnyH_ready (rs := [16]) (by kernel_rfl) (by simp) ?_
        refine AllReadyH.cons (o := { dst := some 70, op := Op.call { callee := Callee.value (Operand.func 16), args := #[Operand.tmp 68, Operand.tmp 69], argTypes := #[26, 24] }, type := 35, pos := "law.go:48", after := #[{ on := 14, ground := Ground.data }, { on := 15, ground := Ground.data }, { on := 13, ground := Ground.chain }, { on := 13, ground := Ground.guard }], guard := some (13, false) }) rfl (fun K hK => ?_) AllReadyH.nil
        go_simp
        refine (qov _ hH).mono ?_
        rintro e w12 ⟨v12, rfl, hI12, hk⟩
        go_wp2_with fail
        have hH1 := hH.trans hk
        refine hK.out _ _ hH1 (fun _ => ?_)
        replace hH := hH1
        clear hK K hH1
        have hk12 := hH
        clear hk
        try simp only [Act.put, List.setIfInBounds_toArray, List.set_cons_zero, List.set_cons_succ]
        refine wpAnyH_ready (rs := [18]) (by kernel_rfl) (by simp) ?_
        refine AllReadyH.cons (o := { dst := some 72, op := Op.call { callee := Callee.value (Operand.func 15), args := #[Operand.tmp 70, Operand.tmp 71], argTypes := #[35, 35] }, type := 4, pos := "law.go:48", after := #[{ on := 16, ground := Ground.data }, { on := 17, ground := Ground.data }, { on := 16, ground := Ground.chain }, { on := 13, ground := Ground.guard }], guard := some (13, false) }) rfl (fun K hK => ?_) AllReadyH.nil
        go_simp
        refine (Bits.ints_any v12 (.slice fa flen fcap) (ovL L1 so sl) _ hfl.out hI12 (fI _ hH)).mono ?_
        rintro e w13 ⟨rfl, nn, rfl⟩
        go_wp2_with fail
        have hH1 := hH.trans (kept_drewN [] _ nn)
        refine hK.out _ _ hH1 (fun _ => ?_)
        replace hH := hH1
        clear hK K hH1
        try simp only [Act.put, List.setIfInBounds_toArray, List.set_cons_zero, List.set_cons_succ]
        refine wpAnyH_take (i := 19) (oi := { dst := some 73, op := Op.unOp UnOp.not 4 (Operand.tmp 72), type := 4, pos := "law.go:48", after := #[{ on := 18, ground := Ground.data }, { on := 13, ground := Ground.guard }], guard := some (13, false) }) (v := (.bool false)) rfl (by kernel_rfl) (by kernel_rfl) (by kernel_rfl) (fun _ _ _ h => h) (Or.inl ⟨by rfl, fun W hSw => by go_simp⟩) hH ?_
        try simp only [Act.put, List.setIfInBounds_toArray, List.set_cons_zero, List.set_cons_succ]
        refine wpAnyH_take (i := 20) (oi := { dst := some 74, op := Op.pick (Operand.tmp 67) (Operand.const (Value.bool true)) (Operand.tmp 73), type := 4, pos := "law.go:48", after := #[{ on := 13, ground := Ground.data }, { on := 19, ground := Ground.data }], guard := none }) (v := (.bool false)) rfl (by kernel_rfl) (by kernel_rfl) (by kernel_rfl) (fun _ _ _ h => h) (Or.inl ⟨by rfl, fun W hSw => by go_simp⟩) hH ?_
        try simp only [Act.put, List.setIfInBounds_toArray, List.set_cons_zero, List.set_cons_succ]
        refine wpAnyH_take (i := 21) (oi := { dst := some 75, op := Op.move (Operand.tmp 74), type := 4, pos := "law.go:48", after := #[{ on := 20, ground := Ground.data }, { on := 18, ground := Ground.chain }], guard := none }) (v := (.bool false)) rfl (by kernel_rfl) (by kernel_rfl) (by kernel_rfl) (fun _ _ _ h => h) (Or.inl ⟨by rfl, fun W hSw => by go_simp⟩) hH ?_
        try simp only [Act.put, List.setIfInBounds_toArray, List.set_cons_zero, List.set_cons_succ]
        refine wpAnyH_take (i := 22) (oi := { dst := some 76, op := Op.move (Operand.tmp 5), type := 26, pos := "law.go:48", after := #[{ on := 21, ground := Ground.guard }], guard := some (21, false) }) (v := (.pointer (some ⟨p, 0, none⟩))) rfl (by kernel_rfl) (by kernel_rfl) (by kernel_rfl) (fun _ _ _ h => h) (Or.inl ⟨by rfl, fun W hSw => by go_simp⟩) hH ?_
        try simp only [Act.put, List.setIfInBounds_toArray, List.set_cons_zero, List.set_cons_succ]
        refine wpAnyH_take (i := 23) (oi := { dst := some 77, op := Op.load 24 (Operand.tmp 3), type := 24, pos := "law.go:48", after := #[{ on := 21, ground := Ground.guard }], guard := some (21, false) }) (v := (.agg #[.int .i64 so, .int .i64 sl])) rfl (by kernel_rfl) (by kernel_rfl) (by kernel_rfl) (fun _ _ _ h => h) (Or.inl ⟨by rfl, fun W hSw => by have c1 := fO W hSw; have c2 := fL W hSw; go_simp⟩) hH ?_
        try simp only [Act.put, List.setIfInBounds_toArray, List.set_cons_zero, List.set_cons_succ]
        refine wpAnyH_take (i := 25) (oi := { dst := some 79, op := Op.move (Operand.tmp 11), type := 35, pos := "law.go:48", after := #[{ on := 21, ground := Ground.guard }], guard := some (21, false) }) (v := (.slice fa flen fcap)) rfl (by kernel_rfl) (by kernel_rfl) (by kernel_rfl) (fun _ _ _ h => h) (Or.inl ⟨by rfl, fun W hSw => by go_simp⟩) hH ?_
        try simp only [Act.put, List.setIfInBounds_toArray, List.set_cons_zero, List.set_cons_succ]
        refine wpAnyH_take (i := 26) (oi := { dst := some 80, op := Op.call { callee := Callee.builtin Builtin.len, args := #[Operand.tmp 79], argTypes := #[35] }, type := 3, pos := "law.go:48", after := #[{ on := 25, ground := Ground.data }, { on := 21, ground := Ground.guard }], guard := some (21, false) }) (v := (.int .i64 (flen : Int))) rfl (by kernel_rfl) (by kernel_rfl) (by kernel_rfl) (fun _ _ _ h => h) (Or.inl ⟨by rfl, fun W hSw => by go_simp⟩) hH ?_
        try simp only [Act.put, List.setIfInBounds_toArray, List.set_cons_zero, List.set_cons_succ]
        refine wpAnyH_take (i := 27) (oi := { dst := some 81, op := Op.binOp BinOp.gtr 3 (Operand.tmp 80) (Operand.const (Value.int IntKind.i64 0)) 3, type := 4, pos := "law.go:48", after := #[{ on := 26, ground := Ground.data }, { on := 21, ground := Ground.guard }], guard := some (21, false) }) (v := (.bool (decide (0 < (flen : Int))))) rfl (by kernel_rfl) (by kernel_rfl) (by kernel_rfl) (fun _ _ _ h => h) (Or.inl ⟨by rfl, fun W hSw => by go_simp⟩) hH ?_
        try simp only [Act.put, List.setIfInBounds_toArray, List.set_cons_zero, List.set_cons_succ]
        refine wpAnyH_ready (rs := [24]) (by kernel_rfl) (by simp) ?_
        refine AllReadyH.cons (o := { dst := some 78, op := Op.call { callee := Callee.value (Operand.func 17), args := #[Operand.tmp 76, Operand.tmp 77], argTypes := #[26, 24] }, type := 4, pos := "law.go:48", after := #[{ on := 22, ground := Ground.data }, { on := 23, ground := Ground.data }, { on := 21, ground := Ground.chain }, { on := 21, ground := Ground.guard }], guard := some (21, false) }) rfl (fun K hK => ?_) AllReadyH.nil
        go_simp
        refine (qany _ hH).mono ?_
        rintro e w14 ⟨rfl, hk⟩
        go_wp2_with fail
        have hH1 := hH.trans hk
        refine hK.out _ _ hH1 (fun _ => ?_)
        replace hH := hH1
        clear hK K hH1
        clear hk
        try simp only [Act.put, List.setIfInBounds_toArray, List.set_cons_zero, List.set_cons_succ]
        refine wpAnyH_take (i := 28) (oi := { dst := some 82, op := Op.binOp BinOp.neq 4 (Operand.tmp 78) (Operand.tmp 81) 4, type := 4, pos := "law.go:48", after := #[{ on := 24, ground := Ground.data }, { on := 27, ground := Ground.data }, { on := 21, ground := Ground.guard }], guard := some (21, false) }) (v := (.bool false)) rfl (by kernel_rfl) (by kernel_rfl) (by kernel_rfl) (fun _ _ _ h => h) (Or.inl ⟨by rfl, fun W hSw => by go_simp⟩) hH ?_
        try simp only [Act.put, List.setIfInBounds_toArray, List.set_cons_zero, List.set_cons_succ]
        refine wpAnyH_take (i := 29) (oi := { dst := some 83, op := Op.pick (Operand.tmp 75) (Operand.const (Value.bool true)) (Operand.tmp 82), type := 4, pos := "law.go:48", after := #[{ on := 21, ground := Ground.data }, { on := 28, ground := Ground.data }], guard := none }) (v := (.bool false)) rfl (by kernel_rfl) (by kernel_rfl) (by kernel_rfl) (fun _ _ _ h => h) (Or.inl ⟨by rfl, fun W hSw => by go_simp⟩) hH ?_
        try simp only [Act.put, List.setIfInBounds_toArray, List.set_cons_zero, List.set_cons_succ]
        refine wpAnyH_done (by kernel_rfl) ?_ _
        go_wp2_with fail
        go_roundw
        case rel => exact ⟨j + 1, F', ob', L1, by omega, rfl, hD10.kept hS hH, hL1.out, hK10.trans hH⟩
        case measure => simpa [RowKit.intOf] using hm1.out
      | false =>
        have q9 := fun W (h : T W p F L) => hS.insert W p F L a.x h hD7.sorted (by omega) hok.x_
        have q10 := fun W (h : RT W r ob L) => rInsert_any r ob L a.x W h (by omega)
        have hL1 : Hid ((insL L a.x).length ≤ j + 1) := by
          have := act_length L a
          unfold actL at this
          rw [hdel] at this
          show _ ≤ _
          simp at this
          omega
        have hs1 : Sorted (insL L a.x) := ins_sorted hD7.sorted _
        generalize insL L a.x = L1 at *
        generalize insOk L a.x = res at *
        obtain ⟨c0, c1, c2, c3⟩ := Sa.range hB7
        rw [hdel] at c0
        have hDD := hD7.kept hS (kept_drew [] w7)
        have hBD := hB7.kept (kept_drew [] w7) (by simp)
        obtain ⟨-, x1, x2, x3⟩ := Sa.range hBD
        go_wp2_with fail
        clear c0 c1 c2 c3
        go_region_held3 (fun W => W.cell? ⟨wr.heap.size, 1, none⟩ = some (.int .i64 a.x.o) ∧ W.cell? ⟨wr.heap.size, 2, none⟩ = some (.int .i64 a.x.l) ∧ W.cell? ⟨wr.heap.size, 3, none⟩ = some (.int .i64 a.x.i)) (exact ⟨x1, x2, x3⟩) (first
          | (go_at_call 11; refine (q9 _ hDD.tree).mono ?_; rintro e w8 ⟨F', rfl, hT8, hF8, hk8⟩; have hB8 := hBD.kept hk8 hgF; replace x1 := (Sa.range hB8).2.1; replace x2 := (Sa.range hB8).2.2.1; replace x3 := (Sa.range hB8).2.2.2)
          | (go_at_call 12; refine (q10 _ (hDD.ref_kept hk8)).mono ?_; rintro e w9 ⟨rfl, ⟨ob', hR9, hob9⟩, hk9⟩; have hB9 := hB8.kept hk9 (by simp; omega); replace x1 := (Sa.range hB9).2.1; replace x2 := (Sa.range hB9).2.2.1; replace x3 := (Sa.range hB9).2.2.2))
        obtain ⟨hD9, hkk9⟩ := hDD.turned hS hbs hT8 hF8 hk8 hR9 hob9 hk9 hs1
        have hK9 := kept_youngs (hK7.trans (kept_drew [] w7)) hkk9 hyg
        have hs9 := hs0.kept hK9 (by simp)
        have o9 := (hs9.cell 0).trans (show _ = some (Value.int .i64 so) from rfl)
        have l9 := (hs9.cell 1).trans (show _ = some (Value.int .i64 sl) from rfl)
        have qf := rOverlaps_any r ob' L1 so sl w9 hD9.ref
        clear q9 q10 x1 x2 x3 hDD hBD hT8 hF8 hk8 hR9 hob9 hk9 hkk9 hB8 hB9 hB7 hD7
        go_wp2_with (first
          | (go_at_call 13; refine qf.mono ?_; rintro e w10 ⟨fv, rfl, hIf, hk10⟩; obtain ⟨fa, fcap, rfl⟩ := id hIf.slice))
        have hD10 := hD9.kept hS hk10
        have hK10 := hK9.trans hk10
        have hs10 := hs9.kept hk10 (by simp)
        obtain ⟨rv, hrb, ra, rcap, rfl, -⟩ := id hD10.ref.row
        have hL1' := hL1.out
        have fO : ∀ W, Kept [] w10 W → W.cell? ⟨w.heap.size, 0, none⟩ = some (.int .i64 so) := fun W hk => ((hs10.kept hk (by simp)).cell 0).trans rfl
        have fL : ∀ W, Kept [] w10 W → W.cell? ⟨w.heap.size, 1, none⟩ = some (.int .i64 sl) := fun W hk => ((hs10.kept hk (by simp)).cell 1).trans rfl
        have fR : ∀ W, Kept [] w10 W → W.cell? ⟨r, 0, none⟩ = some (.slice ra L1.length rcap) := fun W hk => ((hrb.kept hk (by simp)).cell 0).trans rfl
        have qlen := fun W (hk : Kept [] w10 W) => hS.len W p F' L1 (hD10.kept hS hk).tree (by omega)
        have qov := fun W (hk : Kept [] w10 W) => hS.overlaps W p F' L1 so sl (hD10.kept hS hk).tree hs1 (by omega) hsp
        have qany := fun W (hk : Kept [] w10 W) => hS.any W p F' L1 so sl (hD10.kept hS hk).tree hs1 (by omega) hsp
        have hfl : Hid ((ovL L1 so sl).length ≤ 9223372036854775807) := by
          show _ ≤ _
          have h1 : (ovL L1 so sl).length ≤ L1.length := by
            unfold ovL
            rw [List.length_map]
            exact List.length_filter_le _ _
          omega
        have fI : ∀ W, Kept [] w10 W → Bits.IntsAt W.heap.size W (.slice fa (ovL L1 so sl).length fcap) (ovL L1 so sl) := fun W hk => (IdsAt.kept hIf hk (by simp)).ints
        obtain ⟨flen, hflen⟩ : ∃ flen, (ovL L1 so sl).length = flen := ⟨_, rfl⟩
        rw [hflen] at fI qany
        clear hIf
        rw [hflen]
        have hdec : decide (0 < flen) = decide (0 < (flen : Int)) := by simp
        rw [hdec] at qany
        obtain ⟨len1, hlen1⟩ : ∃ len1, L1.length = len1 := ⟨_, rfl⟩
        rw [hlen1] at qlen fR
        clear hdec hflen hlen1 qf hs9 o9 l9 hrb hs10 hk10 hD9
        refine wp_region_held_drew (S := fun W => Kept [] w10 W) (by kernel_rfl) (kept_drew [] w10) (fun hP => ?_)
        have hH := hP
        clear hP
        refine wpAnyH_take (i := 0) (oi := { dst := some 54, op := Op.move (Operand.tmp 9), type := 4, pos := "law.go:48", after := #[], guard := none }) (v := (.bool res)) rfl (by kernel_rfl) (by kernel_rfl) (by kernel_rfl) (fun _ _ _ h => h) (Or.inl ⟨by rfl, fun W hSw => by go_simp⟩) hH ?_
        try simp only [Act.put, List.setIfInBounds_toArray, List.set_cons_zero, List.set_cons_succ]
        refine wpAnyH_take (i := 1) (oi := { dst := some 55, op := Op.move (Operand.tmp 10), type := 4, pos := "law.go:48", after := #[], guard := none }) (v := (.bool res)) rfl (by kernel_rfl) (by kernel_rfl) (by kernel_rfl) (fun _ _ _ h => h) (Or.inl ⟨by rfl, fun W hSw => by go_simp⟩) hH ?_
        try simp only [Act.put, List.setIfInBounds_toArray, List.set_cons_zero, List.set_cons_succ]
        refine wpAnyH_take (i := 2) (oi := { dst := some 56, op := Op.binOp BinOp.neq 4 (Operand.tmp 54) (Operand.tmp 55) 4, type := 4, pos := "law.go:48", after := #[{ on := 0, ground := Ground.data }, { on := 1, ground := Ground.data }], guard := none }) (v := (.bool false)) rfl (by kernel_rfl) (by kernel_rfl) (by kernel_rfl) (fun _ _ _ h => h) (Or.inl ⟨by rfl, fun W hSw => by go_simp⟩) hH ?_
        try simp only [Act.put, List.setIfInBounds_toArray, List.set_cons_zero, List.set_cons_succ]
        refine wpAnyH_take (i := 3) (oi := { dst := some 57, op := Op.move (Operand.tmp 56), type := 4, pos := "law.go:48", after := #[{ on := 2, ground := Ground.data }], guard := none }) (v := (.bool false)) rfl (by kernel_rfl) (by kernel_rfl) (by kernel_rfl) (fun _ _ _ h => h) (Or.inl ⟨by rfl, fun W hSw => by go_simp⟩) hH ?_
        try simp only [Act.put, List.setIfInBounds_toArray, List.set_cons_zero, List.set_cons_succ]
        refine wpAnyH_take (i := 4) (oi := { dst := some 58, op := Op.move (Operand.tmp 5), type := 26, pos := "law.go:48", after := #[{ on := 3, ground := Ground.guard }], guard := some (3, false) }) (v := (.pointer (some ⟨p, 0, none⟩))) rfl (by kernel_rfl) (by kernel_rfl) (by kernel_rfl) (fun _ _ _ h => h) (Or.inl ⟨by rfl, fun W hSw => by go_simp⟩) hH ?_
        try simp only [Act.put, List.setIfInBounds_toArray, List.set_cons_zero, List.set_cons_succ]
        refine wpAnyH_take (i := 6) (oi := { dst := some 60, op := Op.move (Operand.tmp 6), type := 28, pos := "law.go:48", after := #[{ on := 3, ground := Ground.guard }], guard := some (3, false) }) (v := (.pointer (some ⟨r, 0, none⟩))) rfl (by kernel_rfl) (by kernel_rfl) (by kernel_rfl) (fun _ _ _ h => h) (Or.inl ⟨by rfl, fun W hSw => by go_simp⟩) hH ?_
        try simp only [Act.put, List.setIfInBounds_toArray, List.set_cons_zero, List.set_cons_succ]
        refine wpAnyH_take (i := 7) (oi := { dst := some 61, op := Op.nilCheck (Operand.tmp 60), type := 0, pos := "law.go:48", after := #[{ on := 6, ground := Ground.data }, { on := 3, ground := Ground.guard }], guard := some (3, false) }) (v := (.pointer (some ⟨r, 0, none⟩))) rfl (by kernel_rfl) (by kernel_rfl) (by kernel_rfl) (fun _ _ _ h => h) (Or.inl ⟨by rfl, fun W hSw => by go_simp⟩) hH ?_
        try simp only [Act.put, List.setIfInBounds_toArray, List.set_cons_zero, List.set_cons_succ]
        refine wpAnyH_take (i := 8) (oi := { dst := some 62, op := Op.fieldAddr 31 (Operand.tmp 61) 0, type := 0, pos := "law.go:48", after := #[{ on := 7, ground := Ground.data }, { on := 3, ground := Ground.guard }], guard := some (3, false) }) (v := (.pointer (some ⟨r, 0, none⟩))) rfl (by kernel_rfl) (by kernel_rfl) (by kernel_rfl) (fun _ _ _ h => h) (Or.inl ⟨by rfl, fun W hSw => by go_simp⟩) hH ?_
        try simp only [Act.put, List.setIfInBounds_toArray, List.set_cons_zero, List.set_cons_succ]
        refine wpAnyH_take (i := 9) (oi := { dst := some 63, op := Op.load 29 (Operand.tmp 62), type := 29, pos := "law.go:48", after := #[{ on := 8, ground := Ground.data }, { on := 3, ground := Ground.guard }], guard := some (3, false) }) (v := (.slice ra len1 rcap)) rfl (by kernel_rfl) (by kernel_rfl) (by kernel_rfl) (fun _ _ _ h => h) (Or.inl ⟨by rfl, fun W hSw => by have c1 := fR W hSw; go_simp⟩) hH ?_
        try simp only [Act.put, List.setIfInBounds_toArray, List.set_cons_zero, List.set_cons_succ]
        refine wpAnyH_take (i := 10) (oi := { dst := some 64, op := Op.call { callee := Callee.builtin Builtin.len, args := #[Operand.tmp 63], argTypes := #[29] }, type := 3, pos := "law.go:48", after := #[{ on := 9, ground := Ground.data }, { on := 3, ground := Ground.guard }], guard := some (3, false) }) (v := (.int .i64 (len1 : Int))) rfl (by kernel_rfl) (by kernel_rfl) (by kernel_rfl) (fun _ _ _ h => h) (Or.inl ⟨by rfl, fun W hSw => by go_simp⟩) hH ?_
        try simp only [Act.put, List.setIfInBounds_toArray, List.set_cons_zero, List.set_cons_succ]
        refine wpAnyH_ready (rs := [5]) (by kernel_rfl) (by simp) ?_
        refine AllReadyH.cons (o := { dst := some 59, op := Op.call { callee := Callee.value (Operand.func 14), args := #[Operand.tmp 58], argTypes := #[26] }, type := 3, pos := "law.go:48", after := #[{ on := 4, ground := Ground.data }, { on := 3, ground := Ground.chain }, { on := 3, ground := Ground.guard }], guard := some (3, false) }) rfl (fun K hK => ?_) AllReadyH.nil
        go_simp
        refine (qlen _ hH).mono ?_
        rintro e w11 ⟨rfl, hk⟩
        go_wp2_with fail
        have hH1 := hH.trans hk
        refine hK.out _ _ hH1 (fun _ => ?_)
        replace hH := hH1
        clear hK K hH1
        clear hk
        try simp only [Act.put, List.setIfInBounds_toArray, List.set_cons_zero, List.set_cons_succ]
        refine wpAnyH_take (i := 11) (oi := { dst := some 65, op := Op.binOp BinOp.neq 3 (Operand.tmp 59) (Operand.tmp 64) 3, type := 4, pos := "law.go:48", after := #[{ on := 5, ground := Ground.data }, { on := 10, ground := Ground.data }, { on := 3, ground := Ground.guard }], guard := some (3, false) }) (v := (.bool false)) rfl (by kernel_rfl) (by kernel_rfl) (by kernel_rfl) (fun _ _ _ h => h) (Or.inl ⟨by rfl, fun W hSw => by go_simp⟩) hH ?_
        try simp only [Act.put, List.setIfInBounds_toArray, List.set_cons_zero, List.set_cons_succ]
        refine wpAnyH_take (i := 12) (oi := { dst := some 66, op := Op.pick (Operand.tmp 57) (Operand.const (Value.bool true)) (Operand.tmp 65), type := 4, pos := "law.go:48", after := #[{ on := 3, ground := Ground.data }, { on := 11, ground := Ground.data }], guard := none }) (v := (.bool false)) rfl (by kernel_rfl) (by kernel_rfl) (by kernel_rfl) (fun _ _ _ h => h) (Or.inl ⟨by rfl, fun W hSw => by go_simp⟩) hH ?_
        try simp only [Act.put, List.setIfInBounds_toArray, List.set_cons_zero, List.set_cons_succ]
        refine wpAnyH_take (i := 13) (oi := { dst := some 67, op := Op.move (Operand.tmp 66), type := 4, pos := "law.go:48", after := #[{ on := 12, ground := Ground.data }, { on := 5, ground := Ground.chain }], guard := none }) (v := (.bool false)) rfl (by kernel_rfl) (by kernel_rfl) (by kernel_rfl) (fun _ _ _ h => h) (Or.inl ⟨by rfl, fun W hSw => by go_simp⟩) hH ?_
        try simp only [Act.put, List.setIfInBounds_toArray, List.set_cons_zero, List.set_cons_succ]
        refine wpAnyH_take (i := 14) (oi := { dst := some 68, op := Op.move (Operand.tmp 5), type := 26, pos := "law.go:48", after := #[{ on := 13, ground := Ground.guard }], guard := some (13, false) }) (v := (.pointer (some ⟨p, 0, none⟩))) rfl (by kernel_rfl) (by kernel_rfl) (by kernel_rfl) (fun _ _ _ h => h) (Or.inl ⟨by rfl, fun W hSw => by go_simp⟩) hH ?_
        try simp only [Act.put, List.setIfInBounds_toArray, List.set_cons_zero, List.set_cons_succ]
        refine wpAnyH_take (i := 15) (oi := { dst := some 69, op := Op.load 24 (Operand.tmp 3), type := 24, pos := "law.go:48", after := #[{ on := 13, ground := Ground.guard }], guard := some (13, false) }) (v := (.agg #[.int .i64 so, .int .i64 sl])) rfl (by kernel_rfl) (by kernel_rfl) (by kernel_rfl) (fun _ _ _ h => h) (Or.inl ⟨by rfl, fun W hSw => by have c1 := fO W hSw; have c2 := fL W hSw; go_simp⟩) hH ?_
        try simp only [Act.put, List.setIfInBounds_toArray, List.set_cons_zero, List.set_cons_succ]
        refine wpAnyH_take (i := 17) (oi := { dst := some 71, op := Op.move (Operand.tmp 11), type := 35, pos := "law.go:48", after := #[{ on := 13, ground := Ground.guard }], guard := some (13, false) }) (v := (.slice fa flen fcap)) rfl (by kernel_rfl) (by kernel_rfl) (by kernel_rfl) (fun _ _ _ h => h) (Or.inl ⟨by rfl, fun W hSw => by go_simp⟩) hH ?_
        try simp only [Act.put, List.setIfInBounds_toArray, List.set_cons_zero, List.set_cons_succ]
        refine wpAnyH_ready (rs := [16]) (by kernel_rfl) (by simp) ?_
        refine AllReadyH.cons (o := { dst := some 70, op := Op.call { callee := Callee.value (Operand.func 16), args := #[Operand.tmp 68, Operand.tmp 69], argTypes := #[26, 24] }, type := 35, pos := "law.go:48", after := #[{ on := 14, ground := Ground.data }, { on := 15, ground := Ground.data }, { on := 13, ground := Ground.chain }, { on := 13, ground := Ground.guard }], guard := some (13, false) }) rfl (fun K hK => ?_) AllReadyH.nil
        go_simp
        refine (qov _ hH).mono ?_
        rintro e w12 ⟨v12, rfl, hI12, hk⟩
        go_wp2_with fail
        have hH1 := hH.trans hk
        refine hK.out _ _ hH1 (fun _ => ?_)
        replace hH := hH1
        clear hK K hH1
        have hk12 := hH
        clear hk
        try simp only [Act.put, List.setIfInBounds_toArray, List.set_cons_zero, List.set_cons_succ]
        refine wpAnyH_ready (rs := [18]) (by kernel_rfl) (by simp) ?_
        refine AllReadyH.cons (o := { dst := some 72, op := Op.call { callee := Callee.value (Operand.func 15), args := #[Operand.tmp 70, Operand.tmp 71], argTypes := #[35, 35] }, type := 4, pos := "law.go:48", after := #[{ on := 16, ground := Ground.data }, { on := 17, ground := Ground.data }, { on := 16, ground := Ground.chain }, { on := 13, ground := Ground.guard }], guard := some (13, false) }) rfl (fun K hK => ?_) AllReadyH.nil
        go_simp
        refine (Bits.ints_any v12 (.slice fa flen fcap) (ovL L1 so sl) _ hfl.out hI12 (fI _ hH)).mono ?_
        rintro e w13 ⟨rfl, nn, rfl⟩
        go_wp2_with fail
        have hH1 := hH.trans (kept_drewN [] _ nn)
        refine hK.out _ _ hH1 (fun _ => ?_)
        replace hH := hH1
        clear hK K hH1
        try simp only [Act.put, List.setIfInBounds_toArray, List.set_cons_zero, List.set_cons_succ]
        refine wpAnyH_take (i := 19) (oi := { dst := some 73, op := Op.unOp UnOp.not 4 (Operand.tmp 72), type := 4, pos := "law.go:48", after := #[{ on := 18, ground := Ground.data }, { on := 13, ground := Ground.guard }], guard := some (13, false) }) (v := (.bool false)) rfl (by kernel_rfl) (by kernel_rfl) (by kernel_rfl) (fun _ _ _ h => h) (Or.inl ⟨by rfl, fun W hSw => by go_simp⟩) hH ?_
        try simp only [Act.put, List.setIfInBounds_toArray, List.set_cons_zero, List.set_cons_succ]
        refine wpAnyH_take (i := 20) (oi := { dst := some 74, op := Op.pick (Operand.tmp 67) (Operand.const (Value.bool true)) (Operand.tmp 73), type := 4, pos := "law.go:48", after := #[{ on := 13, ground := Ground.data }, { on := 19, ground := Ground.data }], guard := none }) (v := (.bool false)) rfl (by kernel_rfl) (by kernel_rfl) (by kernel_rfl) (fun _ _ _ h => h) (Or.inl ⟨by rfl, fun W hSw => by go_simp⟩) hH ?_
        try simp only [Act.put, List.setIfInBounds_toArray, List.set_cons_zero, List.set_cons_succ]
        refine wpAnyH_take (i := 21) (oi := { dst := some 75, op := Op.move (Operand.tmp 74), type := 4, pos := "law.go:48", after := #[{ on := 20, ground := Ground.data }, { on := 18, ground := Ground.chain }], guard := none }) (v := (.bool false)) rfl (by kernel_rfl) (by kernel_rfl) (by kernel_rfl) (fun _ _ _ h => h) (Or.inl ⟨by rfl, fun W hSw => by go_simp⟩) hH ?_
        try simp only [Act.put, List.setIfInBounds_toArray, List.set_cons_zero, List.set_cons_succ]
        refine wpAnyH_take (i := 22) (oi := { dst := some 76, op := Op.move (Operand.tmp 5), type := 26, pos := "law.go:48", after := #[{ on := 21, ground := Ground.guard }], guard := some (21, false) }) (v := (.pointer (some ⟨p, 0, none⟩))) rfl (by kernel_rfl) (by kernel_rfl) (by kernel_rfl) (fun _ _ _ h => h) (Or.inl ⟨by rfl, fun W hSw => by go_simp⟩) hH ?_
        try simp only [Act.put, List.setIfInBounds_toArray, List.set_cons_zero, List.set_cons_succ]
        refine wpAnyH_take (i := 23) (oi := { dst := some 77, op := Op.load 24 (Operand.tmp 3), type := 24, pos := "law.go:48", after := #[{ on := 21, ground := Ground.guard }], guard := some (21, false) }) (v := (.agg #[.int .i64 so, .int .i64 sl])) rfl (by kernel_rfl) (by kernel_rfl) (by kernel_rfl) (fun _ _ _ h => h) (Or.inl ⟨by rfl, fun W hSw => by have c1 := fO W hSw; have c2 := fL W hSw; go_simp⟩) hH ?_
        try simp only [Act.put, List.setIfInBounds_toArray, List.set_cons_zero, List.set_cons_succ]
        refine wpAnyH_take (i := 25) (oi := { dst := some 79, op := Op.move (Operand.tmp 11), type := 35, pos := "law.go:48", after := #[{ on := 21, ground := Ground.guard }], guard := some (21, false) }) (v := (.slice fa flen fcap)) rfl (by kernel_rfl) (by kernel_rfl) (by kernel_rfl) (fun _ _ _ h => h) (Or.inl ⟨by rfl, fun W hSw => by go_simp⟩) hH ?_
        try simp only [Act.put, List.setIfInBounds_toArray, List.set_cons_zero, List.set_cons_succ]
        refine wpAnyH_take (i := 26) (oi := { dst := some 80, op := Op.call { callee := Callee.builtin Builtin.len, args := #[Operand.tmp 79], argTypes := #[35] }, type := 3, pos := "law.go:48", after := #[{ on := 25, ground := Ground.data }, { on := 21, ground := Ground.guard }], guard := some (21, false) }) (v := (.int .i64 (flen : Int))) rfl (by kernel_rfl) (by kernel_rfl) (by kernel_rfl) (fun _ _ _ h => h) (Or.inl ⟨by rfl, fun W hSw => by go_simp⟩) hH ?_
        try simp only [Act.put, List.setIfInBounds_toArray, List.set_cons_zero, List.set_cons_succ]
        refine wpAnyH_take (i := 27) (oi := { dst := some 81, op := Op.binOp BinOp.gtr 3 (Operand.tmp 80) (Operand.const (Value.int IntKind.i64 0)) 3, type := 4, pos := "law.go:48", after := #[{ on := 26, ground := Ground.data }, { on := 21, ground := Ground.guard }], guard := some (21, false) }) (v := (.bool (decide (0 < (flen : Int))))) rfl (by kernel_rfl) (by kernel_rfl) (by kernel_rfl) (fun _ _ _ h => h) (Or.inl ⟨by rfl, fun W hSw => by go_simp⟩) hH ?_
        try simp only [Act.put, List.setIfInBounds_toArray, List.set_cons_zero, List.set_cons_succ]
        refine wpAnyH_ready (rs := [24]) (by kernel_rfl) (by simp) ?_
        refine AllReadyH.cons (o := { dst := some 78, op := Op.call { callee := Callee.value (Operand.func 17), args := #[Operand.tmp 76, Operand.tmp 77], argTypes := #[26, 24] }, type := 4, pos := "law.go:48", after := #[{ on := 22, ground := Ground.data }, { on := 23, ground := Ground.data }, { on := 21, ground := Ground.chain }, { on := 21, ground := Ground.guard }], guard := some (21, false) }) rfl (fun K hK => ?_) AllReadyH.nil
        go_simp
        refine (qany _ hH).mono ?_
        rintro e w14 ⟨rfl, hk⟩
        go_wp2_with fail
        have hH1 := hH.trans hk
        refine hK.out _ _ hH1 (fun _ => ?_)
        replace hH := hH1
        clear hK K hH1
        clear hk
        try simp only [Act.put, List.setIfInBounds_toArray, List.set_cons_zero, List.set_cons_succ]
        refine wpAnyH_take (i := 28) (oi := { dst := some 82, op := Op.binOp BinOp.neq 4 (Operand.tmp 78) (Operand.tmp 81) 4, type := 4, pos := "law.go:48", after := #[{ on := 24, ground := Ground.data }, { on := 27, ground := Ground.data }, { on := 21, ground := Ground.guard }], guard := some (21, false) }) (v := (.bool false)) rfl (by kernel_rfl) (by kernel_rfl) (by kernel_rfl) (fun _ _ _ h => h) (Or.inl ⟨by rfl, fun W hSw => by go_simp⟩) hH ?_
        try simp only [Act.put, List.setIfInBounds_toArray, List.set_cons_zero, List.set_cons_succ]
        refine wpAnyH_take (i := 29) (oi := { dst := some 83, op := Op.pick (Operand.tmp 75) (Operand.const (Value.bool true)) (Operand.tmp 82), type := 4, pos := "law.go:48", after := #[{ on := 21, ground := Ground.data }, { on := 28, ground := Ground.data }], guard := none }) (v := (.bool false)) rfl (by kernel_rfl) (by kernel_rfl) (by kernel_rfl) (fun _ _ _ h => h) (Or.inl ⟨by rfl, fun W hSw => by go_simp⟩) hH ?_
        try simp only [Act.put, List.setIfInBounds_toArray, List.set_cons_zero, List.set_cons_succ]
        refine wpAnyH_done (by kernel_rfl) ?_ _
        go_wp2_with fail
        go_roundw
        case rel => exact ⟨j + 1, F', ob', L1, by omega, rfl, hD10.kept hS hH, hL1.out, hK10.trans hH⟩
        case measure => simpa [RowKit.intOf] using hm1.out
    · obtain rfl : j = len := by omega
      clear hacts
      have qi := hS.ids wr p F L hD.tree hD.sorted (by omega)
      have qj := fun W (h : RT W r ob L) => rIds_any r ob L W h
      have hil : (idsL L).length ≤ 9223372036854775807 := by
        unfold idsL
        rw [List.length_map]
        omega
      replace hil : Hid _ := hil
      go_wp2_with (first
        | (go_at_call 18; refine qi.mono ?_; rintro e w10 ⟨v10, rfl, hI10, hk10⟩)
        | (go_at_call 19; refine (qj _ (hD.kept hS hk10).ref).mono ?_; rintro e w11 ⟨v11, rfl, hI11, hk11⟩; have hI10' : Hid _ := (hI10.below (hk11.below (Nat.le_refl _) (by simp))).mono hk11.size; have hI11' : Hid _ := hI11.ints)
        | (go_at_call 15; refine (Bits.ints_any v10 v11 (idsL L) _ hil.out hI10'.out hI11'.out).mono ?_; rintro e w12 ⟨rfl, nn, rfl⟩)
        | (go_at_call 7; refine (hlives _).mono ?_; rintro e w13 ⟨rfl, hk13⟩))
      go_ret
      exact ⟨rfl, ((((hk0.trans hK).trans hk10).trans hk11).trans (kept_drewN [] _ nn)).trans hk13⟩
end Go.Proofs.Ytpphlcjabnbblaa.Itree

