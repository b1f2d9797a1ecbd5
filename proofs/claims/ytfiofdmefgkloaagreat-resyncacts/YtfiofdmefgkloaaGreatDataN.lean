import Derived.Test.YtfiofdmefgkloaaGreatDataY
/-
  The data area of a disk that no call made; what the statements' example plays.
-/
namespace Go.Proofs.YtfiofdmefgkloaaGreat
open Go.RowKit Go.Maps Go.Shelf
open Math

set_option maxRecDepth 100000 in
/-- Sectors, of such a disk -/
theorem dSectors_none (p : Option Addr) (w : World) (h : NoDisk w p) :
    Calls Tryz.prog 59 #[.pointer p] w fun e w' => e = .returned (.int .i64 0) ∧ w' = w := by
  have q := size_none p w h
  go_enter Tryz.func59, Tryz.ntmps59
  go_wp2_with (go_at_call 108; refine q.mono ?_; rintro e w ⟨rfl, rfl⟩)
  all_goals
    go_ret
    exact ⟨rfl, rfl⟩
set_option maxRecDepth 100000 in
/-- find -/
theorem dfind_none (p : Option Addr) (o l : Int) (w : World) (h : NoDisk w p) :
    Calls Tryz.prog 104 #[.pointer p, .agg #[.int .i64 o, .int .i64 l]] w fun e w' => e = .returned (.int .i64 1) ∧ Kept [] w w' := by
  have hk := kept_alloc [] w (.cells #[.int .i64 o, .int .i64 l] 127)
  have q := made_none p _ (h.kept hk)
  go_enter Tryz.func104, Tryz.ntmps104
  go_wp2_with (go_at_call 52; refine q.mono ?_; rintro e w' ⟨rfl, rfl⟩)
  go_ret
  exact ⟨rfl, hk⟩
/-- What a call has in memory: the disk's place, the span, and two cells. -/
structure NBox (W : World) (n : Nat) (p : Option Addr) (o l : Int) (v r : Value) : Prop where
  b0 : Blk W n 30 #[.pointer p]
  b1 : Blk W (n + 1) 127 #[.int .i64 o, .int .i64 l]
  b2 : Blk W (n + 2) 24 #[v]
  b3 : Blk W (n + 3) 31 #[r]
theorem nbox_new (w : World) (p : Option Addr) (o l : Int) (v r : Value) :
    NBox ((((w.alloc (.cells #[.pointer p] 30)).alloc (.cells #[.int .i64 o, .int .i64 l] 127)).alloc (.cells #[v] 24)).alloc (.cells #[r] 31)) w.heap.size p o l v r := by
  have a0 := blk_new w 30 #[.pointer p]
  have a1 := blk_new (w.alloc (.cells #[.pointer p] 30)) 127 #[.int .i64 o, .int .i64 l]
  have a2 := blk_new ((w.alloc (.cells #[.pointer p] 30)).alloc (.cells #[.int .i64 o, .int .i64 l] 127)) 24 #[v]
  have a3 := blk_new (((w.alloc (.cells #[.pointer p] 30)).alloc (.cells #[.int .i64 o, .int .i64 l] 127)).alloc (.cells #[v] 24)) 31 #[r]
  simp only [World.size_alloc] at a1 a2 a3
  exact ⟨((a0.alloc _).alloc _).alloc _, (a1.alloc _).alloc _, a2.alloc _, a3⟩
theorem NBox.kept {A B : World} {n : Nat} {p : Option Addr} {o l : Int} {v r : Value} (h : NBox A n p o l v r) (hk : Kept [] A B) : NBox B n p o l v r :=
  ⟨h.b0.kept hk (by simp), h.b1.kept hk (by simp), h.b2.kept hk (by simp), h.b3.kept hk (by simp)⟩
theorem NBox.cells {W : World} {n : Nat} {p : Option Addr} {o l : Int} {v r : Value} (h : NBox W n p o l v r) :
    W.cell? ⟨n + 1 + 1, 0, none⟩ = some v ∧ W.cell? ⟨n + 1 + 1 + 1, 0, none⟩ = some r ∧ W.frozen? ⟨n + 1 + 1, 0, none⟩ = false ∧ W.frozen? ⟨n + 1 + 1 + 1, 0, none⟩ = false :=
  ⟨h.b2.cell 0, h.b3.cell 0, h.b2.frozen 0, h.b3.frozen 0⟩
set_option maxRecDepth 100000 in
set_option maxHeartbeats 1000000 in
/-- Read -/
theorem dRead_none (p : Option Addr) (o l : Int) (w : World) (h : NoDisk w p) :
    Calls Tryz.prog 58 #[.pointer p, .agg #[.int .i64 o, .int .i64 l]] w fun e w' => e = .returned (.tuple #[.slice none 0 0, .int .i64 1]) ∧ Kept [] w w' := by
  have hb := nbox_new w p o l (.slice none 0 0) (.int .i64 0)
  have hk : Kept [] w ((((w.alloc (.cells #[.pointer p] 30)).alloc (.cells #[.int .i64 o, .int .i64 l] 127)).alloc (.cells #[.slice none 0 0] 24)).alloc (.cells #[.int .i64 0] 31)) :=
    (((kept_alloc [] _ _).trans (kept_alloc [] _ _)).trans (kept_alloc [] _ _)).trans (kept_alloc [] _ _)
  have q := dfind_none p o l _ (h.kept hk)
  go_enter Tryz.func58, Tryz.ntmps58
  go_wp2_with (go_at_call 104; refine q.mono ?_; rintro e w1 ⟨rfl, hk1⟩; have hb1 := hb.kept hk1; obtain ⟨c3, c4, f3, f4⟩ := hb1.cells)
  have hs1 := kept_set (L := [w.heap.size + 2]) (g := w.heap.size + 2) (by simp) w1 0 (.slice none 0 0)
  have hs2 := kept_set (L := [w.heap.size + 3]) (g := w.heap.size + 3) (by simp) (w1.setCell ⟨w.heap.size + 2, 0, none⟩ (.slice none 0 0)) 0 (.int .i64 1)
  refine bodyPost_ret (results_two rfl _ _ (w.heap.size + 2) (w.heap.size + 3) _ _ rfl rfl (((hb1.b2.set 0 _).kept hs2 (by simp)).cell 0) (((hb1.b3.kept hs1 (by simp)).set 0 _).cell 0)) rfl ⟨rfl, ?_⟩
  exact (hk.trans hk1).youngs (kept_tell w1 w.heap.size _ _) (by simp)
set_option maxRecDepth 100000 in
set_option maxHeartbeats 1000000 in
/-- Write -/
theorem dWrite_none (p : Option Addr) (o l : Int) (a : Option Addr) (len cap : Nat) (w : World) (h : NoDisk w p) :
    Calls Tryz.prog 64 #[.pointer p, .agg #[.int .i64 o, .int .i64 l], .slice a len cap] w fun e w' => e = .returned (.int .i64 1) ∧ Kept [] w w' := by
  have hb := nbox_new w p o l (.slice a len cap) (.int .i64 0)
  have hk : Kept [] w ((((w.alloc (.cells #[.pointer p] 30)).alloc (.cells #[.int .i64 o, .int .i64 l] 127)).alloc (.cells #[.slice a len cap] 24)).alloc (.cells #[.int .i64 0] 31)) :=
    (((kept_alloc [] _ _).trans (kept_alloc [] _ _)).trans (kept_alloc [] _ _)).trans (kept_alloc [] _ _)
  have q := dfind_none p o l _ (h.kept hk)
  go_enter Tryz.func64, Tryz.ntmps64
  go_wp2_with (go_at_call 104; refine q.mono ?_; rintro e w1 ⟨rfl, hk1⟩; have hb1 := hb.kept hk1; obtain ⟨c3, c4, f3, f4⟩ := hb1.cells)
  refine bodyPost_ret (results_errno rfl _ _ (w.heap.size + 3) (.int .i64 1) rfl ((hb1.b3.set 0 _).cell 0)) rfl ⟨rfl, ?_⟩
  exact (hk.trans hk1).young (g := w.heap.size + 3) (kept_set (by simp) _ _ _) (by omega)
set_option maxRecDepth 100000 in
/-- Extent -/
theorem dExtent_none (p : Option Addr) (x : Int) (w : World) (h : NoDisk w p) :
    Calls Tryz.prog 66 #[.pointer p, .int .i64 x] w fun e w' => e = .returned (.tuple #[.slice none 0 0, .int .i64 1]) ∧ Kept [] w w' := by
  have q1 := Span.whole_any x w
  have q2 := fun w' (hk : Kept [] w w') => dRead_none p (Span.wOff x) (Span.wLen x) w' (h.kept hk)
  go_enter Tryz.func66, Tryz.ntmps66
  go_wp2_with (first
    | (go_at_call 115; refine q1.mono ?_; rintro e w1 ⟨rfl, hB⟩; have hk1 := Kept.of_below hB [])
    | (go_at_call 58; refine (q2 _ hk1).mono ?_; rintro e w2 ⟨rfl, hk2⟩))
  go_ret2
  exact ⟨rfl, hk1.trans hk2⟩
set_option maxRecDepth 100000 in
/-- SetExtent -/
theorem dSetExtent_none (p : Option Addr) (x : Int) (a : Option Addr) (len cap : Nat) (w : World) (h : NoDisk w p) :
    Calls Tryz.prog 162 #[.pointer p, .int .i64 x, .slice a len cap] w fun e w' => e = .returned (.int .i64 1) ∧ Kept [] w w' := by
  have q1 := Span.whole_any x w
  have q2 := fun w' (hk : Kept [] w w') => dWrite_none p (Span.wOff x) (Span.wLen x) a len cap w' (h.kept hk)
  go_enter Tryz.func162, Tryz.ntmps162
  go_wp2_with (first
    | (go_at_call 115; refine q1.mono ?_; rintro e w1 ⟨rfl, hB⟩; have hk1 := Kept.of_below hB [])
    | (go_at_call 64; refine (q2 _ hk1).mono ?_; rintro e w2 ⟨rfl, hk2⟩))
  go_ret
  exact ⟨rfl, hk1.trans hk2⟩
set_option maxRecDepth 100000 in
/-- Image -/
theorem dImage_none (p : Option Addr) (w : World) (h : NoDisk w p) :
    Calls Tryz.prog 24 #[.pointer p] w fun e w' => e = .returned (.slice none 0 0) ∧ Kept [] w w' := by
  have q1 := dSectors_none p w h
  have q2 := dRead_none p 0 0 w h
  go_enter Tryz.func24, Tryz.ntmps24
  go_wp2_with (first
    | (go_at_call 59; refine q1.mono ?_; rintro e w ⟨rfl, rfl⟩)
    | (go_at_call 58; refine q2.mono ?_; rintro e w2 ⟨rfl, hk2⟩))
  go_ret
  exact ⟨rfl, hk2⟩

set_option maxRecDepth 100000 in
/-- Write, of noughts just made -/
theorem dWrite_zeros (d b1 b2 : Nat) (s : Dk) (o l : Int) (m : Nat) (w : World) (h : DiskAt w d b1 b2 s) (hops : s.ops ≤ 900000) :
    Calls Tryz.prog 64 #[.pointer (some ⟨d, 0, none⟩), .agg #[.int .i64 o, .int .i64 l], .slice (some ⟨w.heap.size, 0, none⟩) m m] (w.alloc (.cells ((zeros m).map enc).toArray 5)) fun e w' =>
      e = .returned (.int .i64 (areaE s o l (zeros m) : Nat)) ∧ DiskAt w' d b1 b2 (areaS s o l (zeros m)) ∧ Kept [d, b1, b2] w w' := by
  have hlt := h.lt
  have hr := byteRow_arr (lo := w.heap.size) (cap := m) (arr_new w 5 (zeros m)) (fun b hb => by simp [zeros, List.mem_replicate] at hb; omega) (Nat.le_refl _) (by rw [zeros_length]; exact Nat.le_refl _)
  rw [zeros_length] at hr
  refine (dWrite_any d b1 b2 s o l _ (zeros m) w.heap.size _ _ (h.alloc _) hops hr (Nat.le_refl _) (by simp; omega)).mono fun e w' ⟨he, hd, hk⟩ => ⟨he, hd, (kept_alloc _ _ _).trans hk⟩
theorem put_ok {s : Dk} (h : Math.Calm s) {o l : Int} {bs : List Nat} (hg : Span.Math.good o l (dataN s : Nat) = true) (hl : (bs.length : Int) = 16 * l) : areaE s o l bs = 0 := by
  unfold areaE
  rw [if_pos hg, if_pos hl, (h.wroteL _ _ _).1]
  rfl
theorem img_length {s : Dk} (hv : Valid s) (h : Math.Calm s) (h1 : 1 ≤ dataN s) : (imgL s).length = 16 * dataN s := by
  have := hv.top
  rw [img_calm h h1 (by unfold dataN; omega), flatL_length (fun i => (sec_readF hv 0 i).1)]
end Go.Proofs.YtfiofdmefgkloaaGreat

