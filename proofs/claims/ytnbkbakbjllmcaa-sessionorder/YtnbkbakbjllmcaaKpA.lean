import Derived.Test.YtnbkbakbjllmcaaBase
/-
  The walks of the program's keep: New, made, Heard, Tick with its closure, Alive, Age; of a Keep that no call made.
-/
namespace Go.Proofs.Ytnbkbakbjllmcaa.Keep
open Go.RowKit

theorem ret_int {k : IntKind} {a b : Int} (h : a = b) : Ending.returned (.int k a) = .returned (.int k b) := by rw [h]
theorem ret_bool {a b : Bool} (h : a = b) : Ending.returned (.bool a) = .returned (.bool b) := by rw [h]
/-- The age behind a tick. -/
def tickN (P a : Nat) : Nat := if a < P then a + 1 else P
theorem tickN_le (P a : Nat) : tickN P a ≤ P := by unfold tickN; split <;> omega
/-- A Keep in its block: P its patience, a the age. -/
def KpAt (W : World) (o P a : Nat) : Prop := Blk W o 84 #[.int .i64 (P : Int), .int .i64 (a : Int)] ∧ 1 ≤ P ∧ P ≤ 100 ∧ a ≤ P
theorem KpAt.kept {K : List Nat} {A B : World} {o P a : Nat} (h : KpAt A o P a) (hk : Kept K A B) (ho : o ∉ K) : KpAt B o P a := ⟨h.1.kept hk ho, h.2⟩
theorem KpAt.two {W : World} {o P a : Nat} (h : KpAt W o P a) : W.cell? ⟨o, 0, none⟩ = some (.int .i64 (P : Int)) ∧ W.cell? ⟨o, 1, none⟩ = some (.int .i64 (a : Int)) := ⟨(Blk.cell h.1 0).trans rfl, (Blk.cell h.1 1).trans rfl⟩
set_option maxRecDepth 100000 in
/-- New, of a patience that may be -/
theorem new_good (P : Nat) (h1 : 1 ≤ P) (h2 : P ≤ 100) (w : World) :
    Calls Try.prog 18 #[.int .i64 (P : Int)] w fun e w' => e = .returned (.tuple #[.pointer (some ⟨w.heap.size, 0, none⟩), .int .i64 0]) ∧ KpAt w' w.heap.size P 0 ∧ Hid (w'.heap.size = w.heap.size + 1) ∧ Kept [] w w' := by
  have i1 : ¬ ((P : Int) < 1) := by omega
  have i2 : ¬ ((100 : Int) < (P : Int)) := by omega
  go_enter Try.func18, Try.ntmps18
  go_wp2
  go_ret2
  exact ⟨rfl, ⟨blk_new w 84 #[.int .i64 (P : Int), .int .i64 0], h1, h2, by omega⟩, by show _ = _; simp, kept_alloc [] _ _⟩
set_option maxRecDepth 100000 in
/-- made -/
theorem made_any {o P a : Nat} (w : World) (h : KpAt w o P a) :
    Calls Try.prog 46 #[.pointer (some ⟨o, 0, none⟩)] w fun e w' => e = .returned (.bool true) ∧ w' = w := by
  have c0 := h.two.1
  have i1 : 0 < P := h.2.1
  go_enter Try.func46, Try.ntmps46
  go_wp2
  go_ret
  exact ⟨ret_bool (by simp), rfl⟩
set_option maxRecDepth 100000 in
/-- Heard -/
theorem heard_any {o P a : Nat} (w : World) (h : KpAt w o P a) :
    Calls Try.prog 30 #[.pointer (some ⟨o, 0, none⟩)] w fun e w' => e = .returned (.tuple #[]) ∧ KpAt w' o P 0 ∧ Kept [o] w w' := by
  have hI := h
  have c1 := h.two.2
  have hf := h.1.frozen 1
  have q := made_any w h
  go_enter Try.func30, Try.ntmps30
  go_wp2_with (go_at_call 46; refine q.mono ?_; rintro e w ⟨rfl, rfl⟩)
  go_end0
  exact ⟨rfl, ⟨by have := hI.1.set 1 (.int .i64 0); simpa using this, hI.2.1, hI.2.2.1, by omega⟩, kept_set (by simp) _ _ _⟩
set_option maxRecDepth 100000 in
/-- Alive -/
theorem alive_drew {o P a : Nat} (w : World) (h : KpAt w o P a) :
    Calls Try.prog 37 #[.pointer (some ⟨o, 0, none⟩)] w fun e w' => e = .returned (.bool (decide (a < P))) ∧ ∃ n, w' = w.drewN n := by
  have c := fun n => (h.kept (kept_drewN [] w n) (by simp)).two
  have q := fun n => made_any (w.drewN n) (h.kept (kept_drewN [] w n) (by simp))
  go_enter Try.func37, Try.ntmps37
  go_wp2_with fail
  go_quiet (first | (go_at_call 46; exact Calls.quiet_of_same (q _)))
  go_wp2
  go_ret
  exact ⟨rfl, _, rfl⟩
set_option maxRecDepth 100000 in
theorem alive_any {o P a : Nat} (w : World) (h : KpAt w o P a) :
    Calls Try.prog 37 #[.pointer (some ⟨o, 0, none⟩)] w fun e w' => e = .returned (.bool (decide (a < P))) ∧ Kept [] w w' :=
  (alive_drew w h).mono fun _ _ ⟨he, n, hw⟩ => ⟨he, hw ▸ kept_drewN [] w n⟩
set_option maxRecDepth 100000 in
/-- Tick's closure: b the box of the Keep's pointer -/
theorem tick1_any {o P a b : Nat} (z : Nat) (w : World) (h : KpAt w o P a) (hb : Blk w b 54 #[.pointer (some ⟨o, 0, none⟩)]) :
    Calls Try.prog 47 #[.int .i64 (z : Int), .pointer (some ⟨b, 0, none⟩)] w fun e w' => e = .returned (.int .i64 ((min z P : Nat) : Int)) ∧ w' = w := by
  have c0 := h.two.1
  have d0 : w.cell? ⟨b, 0, none⟩ = some (.pointer (some ⟨o, 0, none⟩)) := (hb.cell 0).trans rfl
  go_enter Try.func47, Try.ntmps47
  go_wp2
  all_goals (go_ret; exact ⟨ret_int (by omega), rfl⟩)
set_option maxRecDepth 100000 in
/-- Tick -/
theorem tick_any {o P a : Nat} (w : World) (h : KpAt w o P a) :
    Calls Try.prog 24 #[.pointer (some ⟨o, 0, none⟩)] w fun e w' => e = .returned (.tuple #[]) ∧ KpAt w' o P (tickN P a) ∧ Kept [o] w w' := by
  have hlt := h.1.lt
  have kA := kept_alloc [] w (.cells #[.pointer (some ⟨o, 0, none⟩)] 54)
  have hb := blk_new w 54 #[.pointer (some ⟨o, 0, none⟩)]
  have hK := h.kept kA (by simp)
  obtain ⟨W0, hW⟩ : ∃ W0, w.alloc (.cells #[.pointer (some ⟨o, 0, none⟩)] 54) = W0 := ⟨_, rfl⟩
  rw [hW] at hb hK kA
  have d0 : W0.cell? ⟨w.heap.size, 0, none⟩ = some (.pointer (some ⟨o, 0, none⟩)) := (hb.cell 0).trans rfl
  have qm := made_any W0 hK
  go_enter Try.func24, Try.ntmps24
  go_wp2_with (go_at_call 46; refine qm.mono ?_; rintro e W0 ⟨rfl, rfl⟩)
  clear qm hW d0
  replace kA := kA.trans (kept_drew [] W0)
  replace hK := hK.kept (kept_drew [] W0) (by simp)
  replace hb := hb.kept (kept_drew [] W0) (by simp)
  have d0 : W0.drew.cell? ⟨w.heap.size, 0, none⟩ = some (.pointer (some ⟨o, 0, none⟩)) := (hb.cell 0).trans rfl
  have c1 := hK.two.2
  have hf := hK.1.frozen 1
  have hle : a ≤ 100 := by have := hK.2; omega
  have hwr : IntKind.i64.wrap ((a : Int) + 1) = (a : Int) + 1 := by rw [IntKind.wrap_i64]; omega
  have q := tick1_any (a + 1) W0.drew hK hb
  rw [show min (a + 1) P = tickN P a from by have := hK.2.2.2; unfold tickN; split <;> omega, Int.natCast_add, Int.natCast_one] at q
  have hI := hK
  have hb' := hb
  clear hK hb
  have d9 : (W0.drew.setCell ⟨o, 1, none⟩ (.int .i64 (tickN P a : Nat))).cell? ⟨w.heap.size, 0, none⟩ = some (.pointer (some ⟨o, 0, none⟩)) := (hb'.kept (kept_set (L := [o]) (by simp) W0.drew 1 (.int .i64 (tickN P a : Nat))) (by simp; omega)).cell 0 |>.trans rfl
  clear hb'
  refine wp_region_held_drew (S := fun W => W.cell? ⟨w.heap.size, 0, none⟩ = some (.pointer (some ⟨o, 0, none⟩))) (by kernel_rfl) d0 (fun hP => ?_)
  have hH := hP
  clear hP
  refine wpAnyH_take (i := 0) (oi := ⟨some 7, _, _, _, _, _⟩) (v := (.pointer (some ⟨o, 0, none⟩))) rfl (by kernel_rfl) (by kernel_rfl) (by kernel_rfl) (fun _ _ _ h => h) (Or.inl ⟨by rfl, fun W hSw => by go_simp⟩) hH ?_
  try simp only [Act.put, List.setIfInBounds_toArray, List.set_cons_zero, List.set_cons_succ]
  refine wpAnyH_take (i := 1) (oi := ⟨some 8, _, _, _, _, _⟩) (v := (.func (.func 47) #[] #[.pointer (some ⟨w.heap.size, 0, none⟩)])) rfl (by kernel_rfl) (by kernel_rfl) (by kernel_rfl) (fun _ _ _ h => h) (Or.inl ⟨by rfl, fun W hSw => by go_simp⟩) hH ?_
  try simp only [Act.put, List.setIfInBounds_toArray, List.set_cons_zero, List.set_cons_succ]
  refine wpAnyH_take (i := 2) (oi := ⟨some 9, _, _, _, _, _⟩) (v := (.pointer (some ⟨o, 0, none⟩))) rfl (by kernel_rfl) (by kernel_rfl) (by kernel_rfl) (fun _ _ _ h => h) (Or.inl ⟨by rfl, fun W hSw => by go_simp⟩) hH ?_
  try simp only [Act.put, List.setIfInBounds_toArray, List.set_cons_zero, List.set_cons_succ]
  refine wpAnyH_take (i := 3) (oi := ⟨some 10, _, _, _, _, _⟩) (v := (.pointer (some ⟨o, 0, none⟩))) rfl (by kernel_rfl) (by kernel_rfl) (by kernel_rfl) (fun _ _ _ h => h) (Or.inl ⟨by rfl, fun W hSw => by go_simp⟩) hH ?_
  try simp only [Act.put, List.setIfInBounds_toArray, List.set_cons_zero, List.set_cons_succ]
  refine wpAnyH_take (i := 4) (oi := ⟨some 11, _, _, _, _, _⟩) (v := (.pointer (some ⟨o, 1, none⟩))) rfl (by kernel_rfl) (by kernel_rfl) (by kernel_rfl) (fun _ _ _ h => h) (Or.inl ⟨by rfl, fun W hSw => by go_simp⟩) hH ?_
  try simp only [Act.put, List.setIfInBounds_toArray, List.set_cons_zero, List.set_cons_succ]
  refine wpAnyH_ready (rs := [5]) (by kernel_rfl) (by simp) ?_
  refine AllReadyH.cons (o := ⟨some 12, _, _, _, _, _⟩) rfl (fun K hK => ?_) AllReadyH.nil
  go_simp
  refine hK.out _ _ d0 (fun _ => ?_)
  clear hK K
  try simp only [Act.put, List.setIfInBounds_toArray, List.set_cons_zero, List.set_cons_succ]
  refine wpAnyH_take (i := 6) (oi := ⟨some 13, _, _, _, _, _⟩) (v := (.int .i64 ((a : Int) + 1))) rfl (by kernel_rfl) (by kernel_rfl) (by kernel_rfl) (fun _ _ _ h => h) (Or.inl ⟨by rfl, fun W hSw => by go_simp⟩) hH ?_
  try simp only [Act.put, List.setIfInBounds_toArray, List.set_cons_zero, List.set_cons_succ]
  refine wpAnyH_ready (rs := [7]) (by kernel_rfl) (by simp) ?_
  refine AllReadyH.cons (o := ⟨some 14, _, _, _, _, _⟩) rfl (fun K hK => ?_) AllReadyH.nil
  go_simp
  refine q.mono ?_
  rintro e W1 ⟨rfl, rfl⟩
  go_wp2_with fail
  refine hK.out _ _ d0 (fun _ => ?_)
  clear hK K
  try simp only [Act.put, List.setIfInBounds_toArray, List.set_cons_zero, List.set_cons_succ]
  refine wpAnyH_take (i := 8) (oi := ⟨some 15, _, _, _, _, _⟩) (v := (.pointer (some ⟨o, 0, none⟩))) rfl (by kernel_rfl) (by kernel_rfl) (by kernel_rfl) (fun _ _ _ h => h) (Or.inl ⟨by rfl, fun W hSw => by go_simp⟩) hH ?_
  try simp only [Act.put, List.setIfInBounds_toArray, List.set_cons_zero, List.set_cons_succ]
  refine wpAnyH_take (i := 9) (oi := ⟨some 16, _, _, _, _, _⟩) (v := (.pointer (some ⟨o, 1, none⟩))) rfl (by kernel_rfl) (by kernel_rfl) (by kernel_rfl) (fun _ _ _ h => h) (Or.inl ⟨by rfl, fun W hSw => by go_simp⟩) hH ?_
  try simp only [Act.put, List.setIfInBounds_toArray, List.set_cons_zero, List.set_cons_succ]
  refine wpAnyH_ready (rs := [10]) (by kernel_rfl) (by simp) ?_
  refine AllReadyH.cons (o := ⟨none, _, _, _, _, _⟩) rfl (fun K hK => ?_) AllReadyH.nil
  go_simp
  refine hK.out _ _ d9 (fun _ => ?_)
  clear hK K
  try simp only [Act.put, List.setIfInBounds_toArray, List.set_cons_zero, List.set_cons_succ]
  refine wpAnyH_done (by kernel_rfl) ?_ _
  go_wp2_with fail
  go_end0
  exact ⟨rfl, ⟨by have := hI.1.set 1 (.int .i64 (tickN P a : Nat)); simp at this; exact this, hI.2.1, hI.2.2.1, tickN_le P a⟩, (kA.mono (by simp)).trans (kept_set (by simp) _ _ _)⟩
/-- A Keep that no call made: nil, or noughts. -/
def NoKp (W : World) (p : Option Addr) : Prop := p = none ∨ ∃ o, p = some ⟨o, 0, none⟩ ∧ Blk W o 84 #[.int .i64 0, .int .i64 0]
theorem NoKp.kept {A B : World} {p : Option Addr} (h : NoKp A p) (hk : Kept [] A B) : NoKp B p := h.imp id fun ⟨o, e, hb⟩ => ⟨o, e, hb.kept hk (by simp)⟩
end Go.Proofs.Ytnbkbakbjllmcaa.Keep

