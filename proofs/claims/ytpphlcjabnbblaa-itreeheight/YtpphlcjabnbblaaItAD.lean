/-
  The example of twainlaw14 (lives); what is asked of a tree that no call made.
-/
import Derived.Test.YtpphlcjabnbblaaItAC
namespace Go.Proofs.Ytpphlcjabnbblaa.Itree
open Go.RowKit

theorem tall_two {t : Tr} (h : Good t) (hl : t.toL.length = 2) : t.tall = 2 := by
  have h1 := good_tall_le h
  cases t with
  | nil => simp [Tr.toL] at hl
  | node b x e hh l r =>
    obtain ⟨g1, g2, _, g4, _⟩ := h
    have h2 : hh ≤ 2 := by simpa [Tr.tall, hl] using h1
    show hh = 2
    have hll : l.toL.length + r.toL.length = 1 := by
      simp [Tr.toL] at hl
      omega
    have hkid : ∀ s : Tr, Good s → 0 < s.toL.length → 0 < s.tall := fun s hs hp => by
      cases s with
      | nil => simp [Tr.toL] at hp
      | node b' x' e' h' l' r' =>
        have := hs.2.2.2.1
        show 0 < h'
        omega
    rcases Nat.eq_zero_or_pos l.toL.length with e0 | e0
    · have := hkid r g2 (by omega)
      omega
    · have := hkid l g1 e0
      omega
set_option maxRecDepth 100000 in
/-- Height, of two -/
theorem height_two (w : World) (p : Nat) (F : List Nat) (L : List It) (h : TT w p F L) (hl : L.length = 2) : Calls Try.prog 20 #[.pointer (some ⟨p, 0, none⟩)] w fun e w' => e = .returned (.int .i64 2) ∧ w' = w := by
  obtain ⟨t, h1, h2, h3, rfl⟩ := h
  have q := isMade_any p _ t w h1
  have q2 := tall_any t w h1.nodes
  rw [tall_two h2 (by rw [h3]; exact hl)] at q2
  have c1 := (h1.blk.cell 1).trans (show _ = some t.ptr from rfl)
  go_enter Try.func20, Try.ntmps20
  go_wp2_with (first
    | (go_at_call 23; refine q.mono ?_; rintro e w ⟨rfl, rfl⟩)
    | (go_at_call 37; refine q2.mono ?_; rintro e w ⟨rfl, rfl⟩))
  go_ret
  exact ⟨rfl, rfl⟩
theorem ints_lit1 (W : World) (a : Int) : Bits.IntsAt (W.alloc (.cells #[.int .i64 a] 3)).heap.size (W.alloc (.cells #[.int .i64 a] 3)) (.slice (some ⟨W.heap.size, 0, none⟩) 1 1) [a] :=
  ⟨_, 1, rfl, .inr ⟨W.heap.size, 0, rfl, by simp, fun j hj => by
    have b1 := blk_new W 3 #[.int .i64 a]
    simp at hj
    subst hj
    exact (b1.cell 0).trans rfl⟩⟩
theorem ints_lit2 (W : World) (a b : Int) : Bits.IntsAt (W.alloc (.cells #[.int .i64 a, .int .i64 b] 3)).heap.size (W.alloc (.cells #[.int .i64 a, .int .i64 b] 3)) (.slice (some ⟨W.heap.size, 0, none⟩) 2 2) [a, b] :=
  ⟨_, 2, rfl, .inr ⟨W.heap.size, 0, rfl, by simp, fun j hj => by
    have b1 := blk_new W 3 #[.int .i64 a, .int .i64 b]
    simp at hj
    have : j = 0 ∨ j = 1 := by omega
    rcases this with rfl | rfl
    · exact (b1.cell 0).trans rfl
    · exact (b1.cell 1).trans rfl⟩⟩
theorem ints_kept {A B : World} {v : Value} {l : List Int} (h : Bits.IntsAt A.heap.size A v l) (hk : Kept [] A B) : Bits.IntsAt B.heap.size B v l := (h.below (hk.below (Nat.le_refl _) (by simp))).mono hk.size
set_option maxRecDepth 100000 in
set_option maxHeartbeats 4000000 in
/-- lives -/
theorem lives14_any (w : World) : Calls Try.prog 7 #[] w fun e w' => e = .returned (.bool true) ∧ Kept [] w w' := by
  have q0 := inew_any w
  have qi := fun W p F L x h hs hl hx => insert_any W p F L x h hs hl hx
  have qo := fun W p F L o l h hs hl hx => overlaps_any W p F L o l h hs hl hx
  have x1 : It.Ok ⟨0, 4, 1⟩ := by constructor <;> decide
  have x2 : It.Ok ⟨2, 4, 2⟩ := by constructor <;> decide
  have x3 : It.Ok ⟨3, 1, 0⟩ := by constructor <;> decide
  have x4 : It.Ok ⟨4, 1, 0⟩ := by constructor <;> decide
  have a1 : insOk [] ⟨0, 4, 1⟩ = true ∧ insL [] ⟨0, 4, 1⟩ = [⟨0, 4, 1⟩] := by decide
  have a2 : insOk [⟨0, 4, 1⟩] ⟨2, 4, 2⟩ = true ∧ insL [⟨0, 4, 1⟩] ⟨2, 4, 2⟩ = [⟨0, 4, 1⟩, ⟨2, 4, 2⟩] := by decide
  have a3 : ovL [⟨0, 4, 1⟩, ⟨2, 4, 2⟩] 3 1 = [1, 2] := by decide
  have a4 : ovL [⟨0, 4, 1⟩, ⟨2, 4, 2⟩] 4 1 = [2] := by decide
  have s1 : Sorted [⟨0, 4, 1⟩] := by simp [Sorted]
  have s2 : Sorted [⟨0, 4, 1⟩, ⟨2, 4, 2⟩] := by
    refine sorted_cons.2 ⟨fun b hb => ?_, by simp [Sorted]⟩
    simp at hb
    subst hb
    decide
  have qa : ∀ W p F, TT W p F [] → _ := fun W p F h => qi W p F [] ⟨0, 4, 1⟩ h Sorted.nil (by simp) x1
  have qb : ∀ W p F, TT W p F [⟨0, 4, 1⟩] → _ := fun W p F h => qi W p F [⟨0, 4, 1⟩] ⟨2, 4, 2⟩ h s1 (by simp) x2
  have qc : ∀ W p F, TT W p F [⟨0, 4, 1⟩, ⟨2, 4, 2⟩] → _ := fun W p F h => qo W p F [⟨0, 4, 1⟩, ⟨2, 4, 2⟩] 3 1 h s2 (by simp) x3
  have qd : ∀ W p F, TT W p F [⟨0, 4, 1⟩, ⟨2, 4, 2⟩] → _ := fun W p F h => qo W p F [⟨0, 4, 1⟩, ⟨2, 4, 2⟩] 4 1 h s2 (by simp) x4
  rw [a1.1, a1.2] at qa
  rw [a2.1, a2.2] at qb
  rw [a3] at qc
  rw [a4] at qd
  have qh : ∀ W p F, TT W p F [⟨0, 4, 1⟩, ⟨2, 4, 2⟩] → _ := fun W p F h => height_two W p F [⟨0, 4, 1⟩, ⟨2, 4, 2⟩] h rfl
  clear a1 a2 a3 a4 s1 s2 qi qo x1 x2 x3 x4
  go_enter Try.func7, Try.ntmps7
  go_wp2_with (first
    | (go_at_call 8; refine q0.mono ?_; clear q0; rintro e w1 ⟨p, F, rfl, hT1, hF1, k1⟩; have q1 := qa w1 p F hT1; clear qa)
    | (go_at_call 11; refine q1.mono ?_; clear q1; rintro e w2 ⟨F2, rfl, hT2, hF2, k2⟩; have q2 := qb w2 p F2 hT2; clear qb)
    | (go_at_call 11; refine q2.mono ?_; clear q2; rintro e w3 ⟨F3, rfl, hT3, hF3, k3⟩; have q3 := qc w3 p F3 hT3; clear qc)
    | (go_at_call 16; refine q3.mono ?_; clear q3; rintro e w4 ⟨v4, rfl, hI4, k4⟩; have kA := kept_alloc [] w4 (.cells #[.int .i64 1, .int .i64 2] 3); have q4 := Bits.ints_any v4 _ [1, 2] _ (by simp) (ints_kept hI4 kA) (ints_lit2 w4 1 2))
    | (go_at_call 15; refine q4.mono ?_; clear q4; rintro e w5 ⟨rfl, n5, rfl⟩; have k5 := kA.trans (kept_drewN [] _ n5); have hT5 := (hT3.kept k4 (by simp)).kept k5 (by simp); have q5 := qd _ p F3 hT5; clear qd)
    | (go_at_call 16; refine q5.mono ?_; clear q5; rintro e w6 ⟨v6, rfl, hI6, k6⟩; have kB := kept_alloc [] w6 (.cells #[.int .i64 2] 3); have q6 := Bits.ints_any v6 _ [2] _ (by simp) (ints_kept hI6 kB) (ints_lit1 w6 2))
    | (go_at_call 15; refine q6.mono ?_; clear q6; rintro e w7 ⟨rfl, n7, rfl⟩; have k7 := kB.trans (kept_drewN [] _ n7); have hT7 := (hT5.kept k6 (by simp)).kept k7 (by simp); have q7 := qh _ p F3 hT7; clear qh)
    | (go_at_call 20; refine q7.mono ?_; clear q7; rintro e w8 ⟨rfl, rfl⟩))
  go_ret
  refine ⟨rfl, ?_⟩
  have z1 := k1.size
  have e2 : Kept [] w w2 := kept_youngs k1 k2 (fun k hk => .inr (hF1 k hk))
  have hF2' : ∀ k ∈ F2, w.heap.size ≤ k := fun k hk => by
    rcases hF2 k hk with e | e
    · exact hF1 k e
    · omega
  have e3 : Kept [] w w3 := kept_youngs e2 k3 (fun k hk => .inr (hF2' k hk))
  exact (((e3.trans k4).trans k5).trans k6).trans k7
/-- A tree that no call made: none, or a zero one. -/
def Bare (W : World) (pv : Value) : Prop := pv = .pointer none ∨ ∃ p, pv = .pointer (some ⟨p, 0, none⟩) ∧ p < W.heap.size ∧ W.cell? ⟨p, 0, none⟩ = some (.bool false)
theorem Bare.kept {A B : World} {pv : Value} (h : Bare A pv) (hk : Kept [] A B) : Bare B pv := by
  rcases h with h | ⟨p, h1, h2, h3⟩
  · exact .inl h
  · exact .inr ⟨p, h1, Nat.lt_of_lt_of_le h2 hk.size, (World.cell?_of_block (by exact hk.block p h2 (by simp))).trans h3⟩
set_option maxRecDepth 100000 in
theorem isMade_bare (pv : Value) (w : World) (h : Bare w pv) : Calls Try.prog 23 #[pv] w fun e w' => e = .returned (.bool false) ∧ w' = w := by
  rcases h with rfl | ⟨p, rfl, _, h⟩
  · exact isMade_nil w
  · exact isMade_zero p w h
set_option maxRecDepth 100000 in
set_option maxHeartbeats 1000000 in
theorem insert_bare (pv : Value) (x : It) (w : World) (h : Bare w pv) : Calls Try.prog 11 #[pv, .agg #[.int .i64 x.o, .int .i64 x.l], .int .i64 x.i] w fun e w' => e = .returned (.bool false) ∧ Kept [] w w' := by
  have kA := kept_alloc [] w (.cells #[.int .i64 x.o, .int .i64 x.l] 24)
  have hb := h.kept kA
  obtain ⟨W0, hW0⟩ : ∃ W0, w.alloc (.cells #[.int .i64 x.o, .int .i64 x.l] 24) = W0 := ⟨_, rfl⟩
  rw [hW0] at kA hb
  have q := isMade_bare pv W0 hb
  go_enter Try.func11, Try.ntmps11
  go_wp2_with (first
    | (go_at_call 23; refine q.mono ?_; clear q; rintro e W0 ⟨rfl, rfl⟩))
  go_ret
  exact ⟨rfl, kA⟩
set_option maxRecDepth 100000 in
set_option maxHeartbeats 1000000 in
theorem delete_bare (pv : Value) (x : It) (w : World) (h : Bare w pv) : Calls Try.prog 9 #[pv, .agg #[.int .i64 x.o, .int .i64 x.l], .int .i64 x.i] w fun e w' => e = .returned (.bool false) ∧ Kept [] w w' := by
  have kA := kept_alloc [] w (.cells #[.int .i64 x.o, .int .i64 x.l] 24)
  have hb := h.kept kA
  obtain ⟨W0, hW0⟩ : ∃ W0, w.alloc (.cells #[.int .i64 x.o, .int .i64 x.l] 24) = W0 := ⟨_, rfl⟩
  rw [hW0] at kA hb
  have q := isMade_bare pv W0 hb
  go_enter Try.func9, Try.ntmps9
  go_wp2_with (first
    | (go_at_call 23; refine q.mono ?_; clear q; rintro e W0 ⟨rfl, rfl⟩))
  go_ret
  exact ⟨rfl, kA⟩
set_option maxRecDepth 100000 in
set_option maxHeartbeats 1000000 in
theorem any_bare (pv : Value) (x : It) (w : World) (h : Bare w pv) : Calls Try.prog 17 #[pv, .agg #[.int .i64 x.o, .int .i64 x.l]] w fun e w' => e = .returned (.bool false) ∧ Kept [] w w' := by
  have kA := kept_alloc [] w (.cells #[.int .i64 x.o, .int .i64 x.l] 24)
  have hb := h.kept kA
  obtain ⟨W0, hW0⟩ : ∃ W0, w.alloc (.cells #[.int .i64 x.o, .int .i64 x.l] 24) = W0 := ⟨_, rfl⟩
  rw [hW0] at kA hb
  have q := isMade_bare pv W0 hb
  go_enter Try.func17, Try.ntmps17
  go_wp2
  go_step3
  go_wp2_with (first
    | (go_at_call 23; refine q.mono ?_; clear q; rintro e W0 ⟨rfl, rfl⟩))
  rw [Exit.noGoto_ret]
  go_ret
  exact ⟨rfl, kA⟩
set_option maxRecDepth 100000 in
set_option maxHeartbeats 1000000 in
theorem overlaps_bare (pv : Value) (x : It) (w : World) (h : Bare w pv) : Calls Try.prog 16 #[pv, .agg #[.int .i64 x.o, .int .i64 x.l]] w fun e w' => e = .returned (.slice none 0 0) ∧ Kept [] w w' := by
  have kA := kept_alloc [] w (.cells #[.int .i64 x.o, .int .i64 x.l] 24)
  have hb := h.kept kA
  obtain ⟨W0, hW0⟩ : ∃ W0, w.alloc (.cells #[.int .i64 x.o, .int .i64 x.l] 24) = W0 := ⟨_, rfl⟩
  rw [hW0] at kA hb
  have q := isMade_bare pv W0 hb
  go_enter Try.func16, Try.ntmps16
  go_wp2_with (first
    | (go_at_call 23; refine q.mono ?_; clear q; rintro e W0 ⟨rfl, rfl⟩))
  go_ret
  exact ⟨rfl, kA⟩
set_option maxRecDepth 100000 in
set_option maxHeartbeats 1000000 in
theorem ids_bare (pv : Value) (w : World) (h : Bare w pv) : Calls Try.prog 18 #[pv] w fun e w' => e = .returned (.slice none 0 0) ∧ Kept [] w w' := by
  have q := isMade_bare pv w h
  go_enter Try.func18, Try.ntmps18
  go_wp2_with (first
    | (go_at_call 23; refine q.mono ?_; clear q; rintro e w ⟨rfl, rfl⟩))
  go_ret
  exact ⟨rfl, Kept.refl _ _⟩
set_option maxRecDepth 100000 in
set_option maxHeartbeats 1000000 in
theorem len_bare (pv : Value) (w : World) (h : Bare w pv) : Calls Try.prog 14 #[pv] w fun e w' => e = .returned (.int .i64 0) ∧ Kept [] w w' := by
  have q := isMade_bare pv w h
  go_enter Try.func14, Try.ntmps14
  go_wp2_with (first
    | (go_at_call 23; refine q.mono ?_; clear q; rintro e w ⟨rfl, rfl⟩))
  go_ret
  exact ⟨rfl, Kept.refl _ _⟩
set_option maxRecDepth 100000 in
set_option maxHeartbeats 1000000 in
theorem height_bare (pv : Value) (w : World) (h : Bare w pv) : Calls Try.prog 20 #[pv] w fun e w' => e = .returned (.int .i64 0) ∧ Kept [] w w' := by
  have q := isMade_bare pv w h
  go_enter Try.func20, Try.ntmps20
  go_wp2_with (first
    | (go_at_call 23; refine q.mono ?_; clear q; rintro e w ⟨rfl, rfl⟩))
  go_ret
  exact ⟨rfl, Kept.refl _ _⟩
set_option maxRecDepth 100000 in
set_option maxHeartbeats 8000000 in
/-- ItreeNone -/
theorem none_walk14 (d : Bool) (x : It) (w : World) : Calls Try.prog 6 #[.agg #[.bool d, .int .i64 x.o, .int .i64 x.l, .int .i64 x.i]] w fun e w' => e = .returned (.bool true) ∧ Kept [] w w' := by
  have kA := kept_alloc [] w (.cells #[.bool d, .int .i64 x.o, .int .i64 x.l, .int .i64 x.i] 33)
  have bA := blk_new w 33 #[.bool d, .int .i64 x.o, .int .i64 x.l, .int .i64 x.i]
  obtain ⟨W1, hW1⟩ : ∃ W1, w.alloc (.cells #[.bool d, .int .i64 x.o, .int .i64 x.l, .int .i64 x.i] 33) = W1 := ⟨_, rfl⟩
  have z1 : W1.heap.size = w.heap.size + 1 := by rw [← hW1]; simp
  rw [hW1] at kA bA
  have kB := kept_alloc [] W1 (.cells #[.bool false, .pointer none, .int .i64 0] 50)
  have bZ := blk_new W1 50 #[.bool false, .pointer none, .int .i64 0]
  obtain ⟨W2, hW2⟩ : ∃ W2, W1.alloc (.cells #[.bool false, .pointer none, .int .i64 0] 50) = W2 := ⟨_, rfl⟩
  have z2 : W2.heap.size = w.heap.size + 1 + 1 := by rw [← hW2]; simp; omega
  rw [hW2] at kB bZ
  rw [z1] at bZ
  have kC := kept_alloc [] W2 (.cells #[.pointer none, .pointer (some ⟨w.heap.size + 1, 0, none⟩)] 26)
  have bR := blk_new W2 26 #[.pointer none, .pointer (some ⟨w.heap.size + 1, 0, none⟩)]
  obtain ⟨W0, hW0⟩ : ∃ W0, W2.alloc (.cells #[.pointer none, .pointer (some ⟨w.heap.size + 1, 0, none⟩)] 26) = W0 := ⟨_, rfl⟩
  rw [hW0] at kC bR
  replace bA := (bA.kept kB (by simp)).kept kC (by simp)
  replace bZ := bZ.kept kC (by simp)
  rw [z2] at bR
  have k0 := (kA.trans kB).trans kC
  have fC : ∀ W, Kept [] W0 W → W.cell? ⟨w.heap.size, 1, none⟩ = some (.int .i64 x.o) ∧ W.cell? ⟨w.heap.size, 2, none⟩ = some (.int .i64 x.l) ∧ W.cell? ⟨w.heap.size, 3, none⟩ = some (.int .i64 x.i) := fun W hk => ⟨((bA.kept hk (by simp)).cell 1).trans rfl, ((bA.kept hk (by simp)).cell 2).trans rfl, ((bA.kept hk (by simp)).cell 3).trans rfl⟩
  go_enter Try.func6, Try.ntmps6
  go_wp2
  clear hW1 hW2 hW0 z1 z2
  go_loopw [11, 5] (fun i _ wr => ∃ k : Nat, i = .int .i64 k ∧ k ≤ 2 ∧ Kept [] W0 wr) (fun i _ _ => 3 - (RowKit.intOf i).toNat)
  case atStart => exact ⟨0, rfl, by omega, Kept.refl _ _⟩
  case round =>
    obtain ⟨k, rfl, hk, hkr⟩ := hrel
    have hk3 : k = 0 ∨ k = 1 ∨ k = 2 := by omega
    rcases hk3 with rfl | rfl | rfl
    · have hb : Bare wr (.pointer none) := .inl rfl
      have cR := ((bR.kept hkr (by simp)).cell 0).trans (show _ = some (Value.pointer none) from rfl)
      obtain ⟨c1, c2, c3⟩ := fC wr hkr
      have q1 := fun W (hk : Kept [] wr W) => insert_bare _ x W (hb.kept hk)
      have q2 := fun W (hk : Kept [] wr W) => delete_bare _ x W (hb.kept hk)
      have q3 := fun W (hk : Kept [] wr W) => any_bare _ x W (hb.kept hk)
      have q4 := fun W (hk : Kept [] wr W) => overlaps_bare _ x W (hb.kept hk)
      have q5 := fun W (hk : Kept [] wr W) => ids_bare _ W (hb.kept hk)
      have q6 := fun W (hk : Kept [] wr W) => len_bare _ W (hb.kept hk)
      have q7 := fun W (hk : Kept [] wr W) => height_bare _ W (hb.kept hk)
      have hkd := Kept.refl [] wr
      go_wp2_with (first
        | (go_at_call 11; refine (q1 _ hkd).mono ?_; rintro e1 w1 ⟨rfl, k1⟩; replace hkd := hkd.trans k1; obtain ⟨c1, c2, c3⟩ := fC _ (hkr.trans hkd))
        | (go_at_call 9; refine (q2 _ hkd).mono ?_; rintro e2 w2 ⟨rfl, k2⟩; replace hkd := hkd.trans k2; obtain ⟨c1, c2, c3⟩ := fC _ (hkr.trans hkd))
        | (go_at_call 17; refine (q3 _ hkd).mono ?_; rintro e3 w3 ⟨rfl, k3⟩; replace hkd := hkd.trans k3; obtain ⟨c1, c2, c3⟩ := fC _ (hkr.trans hkd))
        | (go_at_call 16; refine (q4 _ hkd).mono ?_; rintro e4 w4 ⟨rfl, k4⟩; replace hkd := hkd.trans k4; obtain ⟨c1, c2, c3⟩ := fC _ (hkr.trans hkd))
        | (go_at_call 18; refine (q5 _ hkd).mono ?_; rintro e5 w5 ⟨rfl, k5⟩; replace hkd := hkd.trans k5; obtain ⟨c1, c2, c3⟩ := fC _ (hkr.trans hkd))
        | (go_at_call 14; refine (q6 _ hkd).mono ?_; rintro e6 w6 ⟨rfl, k6⟩; replace hkd := hkd.trans k6; obtain ⟨c1, c2, c3⟩ := fC _ (hkr.trans hkd))
        | (go_at_call 20; refine (q7 _ hkd).mono ?_; rintro e7 w7 ⟨rfl, k7⟩; replace hkd := hkd.trans k7; obtain ⟨c1, c2, c3⟩ := fC _ (hkr.trans hkd)))
      go_roundw
      case rel => exact ⟨1, by go_num, by omega, hkr.trans hkd⟩
      case measure => simp [RowKit.intOf]
    · have hb : Bare wr (.pointer (some ⟨w.heap.size + 1, 0, none⟩)) := .inr ⟨w.heap.size + 1, rfl, (bZ.kept hkr (by simp)).lt, ((bZ.kept hkr (by simp)).cell 0).trans rfl⟩
      have cR := ((bR.kept hkr (by simp)).cell 1).trans (show _ = some (Value.pointer (some ⟨w.heap.size + 1, 0, none⟩)) from rfl)
      obtain ⟨c1, c2, c3⟩ := fC wr hkr
      have q1 := fun W (hk : Kept [] wr W) => insert_bare _ x W (hb.kept hk)
      have q2 := fun W (hk : Kept [] wr W) => delete_bare _ x W (hb.kept hk)
      have q3 := fun W (hk : Kept [] wr W) => any_bare _ x W (hb.kept hk)
      have q4 := fun W (hk : Kept [] wr W) => overlaps_bare _ x W (hb.kept hk)
      have q5 := fun W (hk : Kept [] wr W) => ids_bare _ W (hb.kept hk)
      have q6 := fun W (hk : Kept [] wr W) => len_bare _ W (hb.kept hk)
      have q7 := fun W (hk : Kept [] wr W) => height_bare _ W (hb.kept hk)
      have hkd := Kept.refl [] wr
      go_wp2_with (first
        | (go_at_call 11; refine (q1 _ hkd).mono ?_; rintro e1 w1 ⟨rfl, k1⟩; replace hkd := hkd.trans k1; obtain ⟨c1, c2, c3⟩ := fC _ (hkr.trans hkd))
        | (go_at_call 9; refine (q2 _ hkd).mono ?_; rintro e2 w2 ⟨rfl, k2⟩; replace hkd := hkd.trans k2; obtain ⟨c1, c2, c3⟩ := fC _ (hkr.trans hkd))
        | (go_at_call 17; refine (q3 _ hkd).mono ?_; rintro e3 w3 ⟨rfl, k3⟩; replace hkd := hkd.trans k3; obtain ⟨c1, c2, c3⟩ := fC _ (hkr.trans hkd))
        | (go_at_call 16; refine (q4 _ hkd).mono ?_; rintro e4 w4 ⟨rfl, k4⟩; replace hkd := hkd.trans k4; obtain ⟨c1, c2, c3⟩ := fC _ (hkr.trans hkd))
        | (go_at_call 18; refine (q5 _ hkd).mono ?_; rintro e5 w5 ⟨rfl, k5⟩; replace hkd := hkd.trans k5; obtain ⟨c1, c2, c3⟩ := fC _ (hkr.trans hkd))
        | (go_at_call 14; refine (q6 _ hkd).mono ?_; rintro e6 w6 ⟨rfl, k6⟩; replace hkd := hkd.trans k6; obtain ⟨c1, c2, c3⟩ := fC _ (hkr.trans hkd))
        | (go_at_call 20; refine (q7 _ hkd).mono ?_; rintro e7 w7 ⟨rfl, k7⟩; replace hkd := hkd.trans k7; obtain ⟨c1, c2, c3⟩ := fC _ (hkr.trans hkd)))
      go_roundw
      case rel => exact ⟨2, by go_num, by omega, hkr.trans hkd⟩
      case measure => simp [RowKit.intOf]
    · go_wp2_with (go_at_call 7; refine (lives14_any _).mono ?_; rintro e w9 ⟨rfl, k9⟩)
      go_ret
      exact ⟨rfl, (k0.trans hkr).trans k9⟩
end Go.Proofs.Ytpphlcjabnbblaa.Itree
