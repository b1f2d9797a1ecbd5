/-
  The data area of a disk that no call made; what the statements' example plays.
-/
import Derived.Test.YtgddpfcnngglaaaDataY
namespace Go.Proofs.Ytgddpfcnngglaaa
open Go.RowKit Go.Maps Go.Shelf
open Math

set_option maxRecDepth 100000 in
/-- Sectors, of such a disk -/
theorem dSectors_none (p : Option Addr) (w : World) (h : NoDisk w p) :
    Calls Try.prog 23 #[.pointer p] w fun e w' => e = .returned (.int .i64 0) ∧ w' = w := by
  have q := size_none p w h
  go_enter Try.func23, Try.ntmps23
  go_wp2_with (go_at_call 43; refine q.mono ?_; rintro e w ⟨rfl, rfl⟩)
  all_goals
    go_ret
    exact ⟨rfl, rfl⟩
set_option maxRecDepth 100000 in
/-- find -/
theorem dfind_none (p : Option Addr) (o l : Int) (w : World) (h : NoDisk w p) :
    Calls Try.prog 28 #[.pointer p, .agg #[.int .i64 o, .int .i64 l]] w fun e w' => e = .returned (.int .i64 1) ∧ Kept [] w w' := by
  have hk := kept_alloc [] w (.cells #[.int .i64 o, .int .i64 l] 33)
  have q := made_none p _ (h.kept hk)
  go_enter Try.func28, Try.ntmps28
  go_wp2_with (go_at_call 38; refine q.mono ?_; rintro e w' ⟨rfl, rfl⟩)
  go_ret
  exact ⟨rfl, hk⟩
/-- What a call has in memory: the disk's place, the span, and two cells. -/
structure NBox (W : World) (n : Nat) (p : Option Addr) (o l : Int) (v r : Value) : Prop where
  b0 : Blk W n 24 #[.pointer p]
  b1 : Blk W (n + 1) 33 #[.int .i64 o, .int .i64 l]
  b2 : Blk W (n + 2) 34 #[v]
  b3 : Blk W (n + 3) 25 #[r]
theorem nbox_new (w : World) (p : Option Addr) (o l : Int) (v r : Value) :
    NBox ((((w.alloc (.cells #[.pointer p] 24)).alloc (.cells #[.int .i64 o, .int .i64 l] 33)).alloc (.cells #[v] 34)).alloc (.cells #[r] 25)) w.heap.size p o l v r := by
  have a0 := blk_new w 24 #[.pointer p]
  have a1 := blk_new (w.alloc (.cells #[.pointer p] 24)) 33 #[.int .i64 o, .int .i64 l]
  have a2 := blk_new ((w.alloc (.cells #[.pointer p] 24)).alloc (.cells #[.int .i64 o, .int .i64 l] 33)) 34 #[v]
  have a3 := blk_new (((w.alloc (.cells #[.pointer p] 24)).alloc (.cells #[.int .i64 o, .int .i64 l] 33)).alloc (.cells #[v] 34)) 25 #[r]
  simp only [World.size_alloc] at a1 a2 a3
  exact ⟨((a0.alloc _).alloc _).alloc _, (a1.alloc _).alloc _, a2.alloc _, a3⟩
theorem NBox.kept {A B : World} {n : Nat} {p : Option Addr} {o l : Int} {v r : Value} (h : NBox A n p o l v r) (hk : Kept [] A B) : NBox B n p o l v r :=
  ⟨h.b0.kept hk (by simp), h.b1.kept hk (by simp), h.b2.kept hk (by simp), h.b3.kept hk (by simp)⟩
theorem NBox.cells {W : World} {n : Nat} {p : Option Addr} {o l : Int} {v r : Value} (h : NBox W n p o l v r) :
    W.cell? ⟨n + 1 + 1, 0, none⟩ = some v ∧ W.cell? ⟨n + 1 + 1 + 1, 0, none⟩ = some r ∧ W.frozen? ⟨n + 1 + 1, 0, none⟩ = false ∧ W.frozen? ⟨n + 1 + 1 + 1, 0, none⟩ = false :=
  ⟨h.b2.cell 0, h.b3.cell 0, h.b2.frozen 0, h.b3.frozen 0⟩
set_option maxRecDepth 100000 in
set_option maxHeartbeats 1000000 in
/-- Read -/
theorem dRead_none (p : Option Addr) (o l : Int) (w : World) (h : NoDisk w p) :
    Calls Try.prog 11 #[.pointer p, .agg #[.int .i64 o, .int .i64 l]] w fun e w' => e = .returned (.tuple #[.slice none 0 0, .int .i64 1]) ∧ Kept [] w w' := by
  have hb := nbox_new w p o l (.slice none 0 0) (.int .i64 0)
  have hk : Kept [] w ((((w.alloc (.cells #[.pointer p] 24)).alloc (.cells #[.int .i64 o, .int .i64 l] 33)).alloc (.cells #[.slice none 0 0] 34)).alloc (.cells #[.int .i64 0] 25)) :=
    (((kept_alloc [] _ _).trans (kept_alloc [] _ _)).trans (kept_alloc [] _ _)).trans (kept_alloc [] _ _)
  have q := dfind_none p o l _ (h.kept hk)
  go_enter Try.func11, Try.ntmps11
  go_wp2_with (go_at_call 28; refine q.mono ?_; rintro e w1 ⟨rfl, hk1⟩; have hb1 := hb.kept hk1; obtain ⟨c3, c4, f3, f4⟩ := hb1.cells)
  have hs1 := kept_set (L := [w.heap.size + 2]) (g := w.heap.size + 2) (by simp) w1 0 (.slice none 0 0)
  have hs2 := kept_set (L := [w.heap.size + 3]) (g := w.heap.size + 3) (by simp) (w1.setCell ⟨w.heap.size + 2, 0, none⟩ (.slice none 0 0)) 0 (.int .i64 1)
  refine bodyPost_ret (results_two rfl _ _ (w.heap.size + 2) (w.heap.size + 3) _ _ rfl rfl (((hb1.b2.set 0 _).kept hs2 (by simp)).cell 0) (((hb1.b3.kept hs1 (by simp)).set 0 _).cell 0)) rfl ⟨rfl, ?_⟩
  exact (hk.trans hk1).youngs (kept_tell w1 w.heap.size _ _) (by simp)
set_option maxRecDepth 100000 in
set_option maxHeartbeats 1000000 in
/-- Write -/
theorem dWrite_none (p : Option Addr) (o l : Int) (a : Option Addr) (len cap : Nat) (w : World) (h : NoDisk w p) :
    Calls Try.prog 9 #[.pointer p, .agg #[.int .i64 o, .int .i64 l], .slice a len cap] w fun e w' => e = .returned (.int .i64 1) ∧ Kept [] w w' := by
  have hb := nbox_new w p o l (.slice a len cap) (.int .i64 0)
  have hk : Kept [] w ((((w.alloc (.cells #[.pointer p] 24)).alloc (.cells #[.int .i64 o, .int .i64 l] 33)).alloc (.cells #[.slice a len cap] 34)).alloc (.cells #[.int .i64 0] 25)) :=
    (((kept_alloc [] _ _).trans (kept_alloc [] _ _)).trans (kept_alloc [] _ _)).trans (kept_alloc [] _ _)
  have q := dfind_none p o l _ (h.kept hk)
  go_enter Try.func9, Try.ntmps9
  go_wp2_with (go_at_call 28; refine q.mono ?_; rintro e w1 ⟨rfl, hk1⟩; have hb1 := hb.kept hk1; obtain ⟨c3, c4, f3, f4⟩ := hb1.cells)
  refine bodyPost_ret (results_errno rfl _ _ (w.heap.size + 3) (.int .i64 1) rfl ((hb1.b3.set 0 _).cell 0)) rfl ⟨rfl, ?_⟩
  exact (hk.trans hk1).young (g := w.heap.size + 3) (kept_set (by simp) _ _ _) (by omega)
set_option maxRecDepth 100000 in
/-- Extent -/
theorem dExtent_none (p : Option Addr) (x : Int) (w : World) (h : NoDisk w p) :
    Calls Try.prog 13 #[.pointer p, .int .i64 x] w fun e w' => e = .returned (.tuple #[.slice none 0 0, .int .i64 1]) ∧ Kept [] w w' := by
  have q1 := Span.whole_any x w
  have q2 := fun w' (hk : Kept [] w w') => dRead_none p (Span.wOff x) (Span.wLen x) w' (h.kept hk)
  go_enter Try.func13, Try.ntmps13
  go_wp2_with (first
    | (go_at_call 36; refine q1.mono ?_; rintro e w1 ⟨rfl, hB⟩; have hk1 := Kept.of_below hB [])
    | (go_at_call 11; refine (q2 _ hk1).mono ?_; rintro e w2 ⟨rfl, hk2⟩))
  go_ret2
  exact ⟨rfl, hk1.trans hk2⟩
set_option maxRecDepth 100000 in
/-- SetExtent -/
theorem dSetExtent_none (p : Option Addr) (x : Int) (a : Option Addr) (len cap : Nat) (w : World) (h : NoDisk w p) :
    Calls Try.prog 15 #[.pointer p, .int .i64 x, .slice a len cap] w fun e w' => e = .returned (.int .i64 1) ∧ Kept [] w w' := by
  have q1 := Span.whole_any x w
  have q2 := fun w' (hk : Kept [] w w') => dWrite_none p (Span.wOff x) (Span.wLen x) a len cap w' (h.kept hk)
  go_enter Try.func15, Try.ntmps15
  go_wp2_with (first
    | (go_at_call 36; refine q1.mono ?_; rintro e w1 ⟨rfl, hB⟩; have hk1 := Kept.of_below hB [])
    | (go_at_call 9; refine (q2 _ hk1).mono ?_; rintro e w2 ⟨rfl, hk2⟩))
  go_ret
  exact ⟨rfl, hk1.trans hk2⟩
set_option maxRecDepth 100000 in
/-- Image -/
theorem dImage_none (p : Option Addr) (w : World) (h : NoDisk w p) :
    Calls Try.prog 25 #[.pointer p] w fun e w' => e = .returned (.slice none 0 0) ∧ Kept [] w w' := by
  have q1 := dSectors_none p w h
  have q2 := dRead_none p 0 0 w h
  go_enter Try.func25, Try.ntmps25
  go_wp2_with (first
    | (go_at_call 23; refine q1.mono ?_; rintro e w ⟨rfl, rfl⟩)
    | (go_at_call 11; refine q2.mono ?_; rintro e w2 ⟨rfl, hk2⟩))
  go_ret
  exact ⟨rfl, hk2⟩

set_option maxRecDepth 100000 in
/-- Write, of noughts just made -/
theorem dWrite_zeros (d b1 b2 : Nat) (s : Dk) (o l : Int) (m : Nat) (w : World) (h : DiskAt w d b1 b2 s) (hops : s.ops ≤ 900000) :
    Calls Try.prog 9 #[.pointer (some ⟨d, 0, none⟩), .agg #[.int .i64 o, .int .i64 l], .slice (some ⟨w.heap.size, 0, none⟩) m m] (w.alloc (.cells ((zeros m).map enc).toArray 5)) fun e w' =>
      e = .returned (.int .i64 (putE s o l (zeros m) : Nat)) ∧ DiskAt w' d b1 b2 (putS s o l (zeros m)) ∧ Kept [d, b1, b2] w w' := by
  have hlt := h.lt
  have hr := byteRow_arr (lo := w.heap.size) (cap := m) (arr_new w 5 (zeros m)) (fun b hb => by simp [zeros, List.mem_replicate] at hb; omega) (Nat.le_refl _) (by rw [zeros_length]; exact Nat.le_refl _)
  rw [zeros_length] at hr
  refine (dWrite_any d b1 b2 s o l _ (zeros m) w.heap.size _ _ (h.alloc _) hops hr (Nat.le_refl _) (by simp; omega)).mono fun e w' ⟨he, hd, hk⟩ => ⟨he, hd, (kept_alloc _ _ _).trans hk⟩
theorem put_ok {s : Dk} (h : Math.Calm s) {o l : Int} {bs : List Nat} (hg : Span.Math.good o l (dataN s : Nat) = true) (hl : (bs.length : Int) = 16 * l) : putE s o l bs = 0 := by
  unfold putE
  rw [if_pos hg, if_pos hl, (h.wroteL _ _ _).1]
  rfl
theorem img_length {s : Dk} (hv : Valid s) (h : Math.Calm s) (h1 : 1 ≤ dataN s) : (imgL s).length = 16 * dataN s := by
  have := hv.top
  rw [img_calm h h1 (by unfold dataN; omega), flatL_length (fun i => (sec_readF hv 0 i).1)]
set_option maxRecDepth 100000 in
set_option maxHeartbeats 1000000 in
/-- lives -/
theorem lives_any (w : World) : Calls Try.prog 6 #[] w fun e w' => e = .returned (.bool true) ∧ Kept [] w w' := by
  have q1 := new_any 12 (by omega) (by omega) w
  have hc := calm_made 12
  have hv := valid_made 12 (by omega) (by omega)
  have hD0 : dataN (made 12) = 4 := rfl
  have e1 : putE (made 12) 3 1 (zeros 16) = 0 := put_ok hc (by rw [hD0]; decide) rfl
  have e2 : putE (putS (made 12) 3 1 (zeros 16)) 3 2 (zeros 32) = 13 := by
    unfold putE
    rw [if_neg]
    unfold dataN
    rw [putS_size]
    decide
  have hs2 : putS (putS (made 12) 3 1 (zeros 16)) 3 2 (zeros 32) = putS (made 12) 3 1 (zeros 16) := put_refused (hc.put _ _ _) (by rw [e2]; decide)
  have hv1 : Valid (putS (made 12) 3 1 (zeros 16)) := valid_putS hv 3 1 (fun b hb => by simp [zeros] at hb; omega)
  have hd1 : dataN (putS (made 12) 3 1 (zeros 16)) = 4 := by unfold dataN; rw [putS_size]; rfl
  have hil : (imgL (putS (made 12) 3 1 (zeros 16))).length = 64 := by rw [img_length hv1 (hc.put _ _ _) (by rw [hd1]; decide), hd1]
  have ho0 : (made 12).ops ≤ 900000 := by simp [made]
  have ho1 : (putS (made 12) 3 1 (zeros 16)).ops ≤ 900000 := Nat.le_trans (putS_ops _ (by simp [made]) _ _ _) (by simp [made])
  have q2 := fun W d b1 b2 (h : DiskAt W d b1 b2 (made 12)) => dWrite_zeros d b1 b2 (made 12) 3 1 16 W h ho0
  rw [e1] at q2
  generalize putS (made 12) 3 1 (zeros 16) = s1 at *
  have m16 : ∀ W : World, (Instr.makeSlice 34 (.int .i64 16) (.int .i64 16)).run Try.prog W = .ok (.slice (some ⟨W.heap.size, 0, none⟩) 16 16) (W.alloc (.cells ((zeros 16).map enc).toArray 5)) := fun W => make_bytes 16 (by omega) W
  have m32 : ∀ W : World, (Instr.makeSlice 34 (.int .i64 32) (.int .i64 32)).run Try.prog W = .ok (.slice (some ⟨W.heap.size, 0, none⟩) 32 32) (W.alloc (.cells ((zeros 32).map enc).toArray 5)) := fun W => make_bytes 32 (by omega) W
  have q3 := fun W d b1 b2 (h : DiskAt W d b1 b2 s1) => dWrite_zeros d b1 b2 s1 3 2 32 W h ho1
  rw [e2, hs2] at q3
  have q4 := fun W d b1 b2 (h : DiskAt W d b1 b2 s1) => dSectors_any d b1 b2 s1 W h
  rw [hd1] at q4
  have q5 := fun W d b1 b2 (h : DiskAt W d b1 b2 s1) => dImage_any d b1 b2 s1 W h
  generalize imgL s1 = im at *
  clear e1 e2 hs2 hv hc hD0 hv1 hd1 ho0 ho1
  go_enter Try.func6, Try.ntmps6
  go_wp2_with (first
    | (go_at_call 7; refine q1.mono ?_; rintro e w1 ⟨rfl, hD1, hk1⟩)
    | (go_at_call 9; refine (q2 _ _ _ _ hD1).mono ?_; clear q2; rintro e w2 ⟨rfl, hD2, hk2⟩)
    | (go_at_call 9; refine (q3 _ _ _ _ hD2).mono ?_; clear q3; rintro e w3 ⟨rfl, hD3, hk3⟩)
    | (go_at_call 23; refine (q4 _ _ _ _ hD3).mono ?_; rintro e w4 ⟨rfl, rfl⟩)
    | (go_at_call 25; refine (q5 _ _ _ _ hD3).mono ?_; rintro e w5 ⟨v, rfl, hR5, hk5⟩; obtain ⟨a5, cap5, rfl⟩ := hR5.slice))
  go_ret
  exact ⟨rfl, ((hk1.youngs hk2 (by simp)).youngs hk3 (by simp)).trans hk5⟩
end Go.Proofs.Ytgddpfcnngglaaa
