import Derived.Test.YtfiofdmefgkloaaGreatDataS
/-
  The walks of the document's Read, Extent and Image.
-/
namespace Go.Proofs.YtfiofdmefgkloaaGreat
open Go.RowKit Go.Maps Go.Shelf
open Math

set_option maxRecDepth 100000 in
set_option maxHeartbeats 1000000 in
/-- Read, of a span that the area has not -/
theorem rRead_range (r g cap : Nat) (s : Dk) (o l : Int) (w : World) (h : RefAt w r g cap s) (hg : Span.Math.good o l (dataN s : Nat) = false) :
    Calls Tryz.prog 60 #[.pointer (some ⟨r, 0, none⟩), .agg #[.int .i64 o, .int .i64 l]] w fun e w' => e = .returned (.tuple #[.slice none 0 0, .int .i64 13]) ∧ Kept [] w w' := by
  have hk := kept_alloc [] w (.cells #[.int .i64 o, .int .i64 l] 127)
  have h1 := (h.alloc (.cells #[.int .i64 o, .int .i64 l] 127)).drew
  have q1 := rSectors_any r g cap s _ h1
  have q2 := fun W => Span.refGood_any o l (dataN s : Nat) W
  rw [hg] at q2
  generalize dataN s = N at *
  go_enter Tryz.func60, Tryz.ntmps60
  go_wp2_with fail
  go_region_with (first | (go_at_call 61; refine q1.mono ?_; rintro e w' ⟨rfl, rfl⟩) | (go_at_call 109; refine (q2 _).mono ?_; rintro e w2 ⟨rfl, hB⟩))
  all_goals
    go_wp2
    go_ret2
    exact ⟨rfl, (hk.trans (kept_drew [] _)).trans (Kept.of_below hB [])⟩
set_option maxRecDepth 100000 in
set_option maxHeartbeats 4000000 in
/-- Read, sector by sector -/
theorem rRead_done (r g cap : Nat) (s : Dk) (o n : Nat) (w : World) (h : RefAt w r g cap s) (hg : Span.Math.good (o : Int) (n : Int) (dataN s : Nat) = true) :
    Calls Tryz.prog 60 #[.pointer (some ⟨r, 0, none⟩), .agg #[.int .i64 (o : Int), .int .i64 (n : Int)]] w fun e w' =>
      ∃ v, e = .returned (.tuple #[v, .int .i64 (if s.broken then 3 else 0)]) ∧ ByteRow w.heap.size w'.heap.size w' v (if s.broken then [] else flatL (readF s o) n) ∧ Kept [] w w' := by
  obtain ⟨E, hE⟩ : ∃ E : Int, (if s.broken then (3 : Int) else 0) = E := ⟨_, rfl⟩
  obtain ⟨BS, hBS⟩ : ∃ BS : List Nat, (if s.broken then [] else flatL (readF s o) n) = BS := ⟨_, rfl⟩
  rw [hE, hBS]
  replace hE : Hid _ := hE
  replace hBS : Hid _ := hBS
  have hk := kept_alloc [] w (.cells #[.int .i64 (o : Int), .int .i64 (n : Int)] 127)
  have hb := (blk_new w 127 #[.int .i64 (o : Int), .int .i64 (n : Int)]).drew
  have h1 := (h.alloc (.cells #[.int .i64 (o : Int), .int .i64 (n : Int)] 127)).drew
  have q1 := rSectors_any r g cap s _ h1
  have q2 := fun W => Span.refGood_any o n (dataN s : Nat) W
  rw [hg] at q2
  have hgo := good_of hg
  have hval := h.2
  have htop := hval.top
  have hn2 : n ≤ 1024 := by simp [dataN] at hgo; omega
  have hfl : ∀ i, (readF s o i).length = 16 := fun i => (sec_readF hval o i).1
  obtain ⟨i0, hi, hz0, hz1, hz2⟩ := info_parts Tryz.info5
  have x0 : ((w.alloc (.cells #[.int .i64 (o : Int), .int .i64 (n : Int)] 127)).drew).cell? ⟨w.heap.size, 0, none⟩ = some (.int .i64 (o : Int)) := hb.cell 0
  have x1 : ((w.alloc (.cells #[.int .i64 (o : Int), .int .i64 (n : Int)] 127)).drew).cell? ⟨w.heap.size, 1, none⟩ = some (.int .i64 (n : Int)) := hb.cell 1
  go_enter Tryz.func60, Tryz.ntmps60
  go_wp2_with fail
  go_region_held3 (fun W => W.cell? ⟨w.heap.size, 0, none⟩ = some (.int .i64 (o : Int)) ∧ W.cell? ⟨w.heap.size, 1, none⟩ = some (.int .i64 (n : Int))) (exact ⟨x0, x1⟩) (first
    | (go_at_call 61; refine q1.mono ?_; rintro e w' ⟨rfl, rfl⟩)
    | (go_at_call 109; refine (q2 _).mono ?_; rintro e w2 ⟨rfl, hB⟩; replace x0 : w2.cell? ⟨w.heap.size, 0, none⟩ = some (.int .i64 (o : Int)) := ((hb.kept (Kept.of_below hB []) (by simp)).cell 0); replace x1 : w2.cell? ⟨w.heap.size, 1, none⟩ = some (.int .i64 (n : Int)) := ((hb.kept (Kept.of_below hB []) (by simp)).cell 1)))
  have hkB := Kept.of_below hB []
  have hb2 := hb.kept hkB (by simp)
  have hk2 : Kept [] w w2 := (hk.trans (kept_drew [] _)).trans hkB
  clear q1 q2 hB hkB hb h1 hk
  go_wp2_with fail
  go_loopw [7, 6] (fun i v wr => ∃ k : Nat, k ≤ n ∧ i = .int .i64 k ∧ wr.ownsRow (w.heap.size + 1) 5 1 v (16 * k) ((flatL (readF s o) k).map enc) ∧ (1 ≤ k → s.broken = false) ∧ Kept [] w wr ∧ Blk wr w.heap.size 127 #[.int .i64 (o : Int), .int .i64 (n : Int)]) (fun i _ _ => n - (RowKit.intOf i).toNat)
  case atStart => exact ⟨0, by omega, rfl, World.ownsRow_nil _ _ _ _, by omega, hk2, hb2⟩
  case round =>
    obtain ⟨k, hkn, rfl, hown, hbr, hK, hbW⟩ := hrel
    have y0 : wr.cell? ⟨w.heap.size, 0, none⟩ = some (.int .i64 (o : Int)) := hbW.cell 0
    have y1 : wr.cell? ⟨w.heap.size, 1, none⟩ = some (.int .i64 (n : Int)) := hbW.cell 1
    clear x0 x1
    by_cases hlt : k < n
    · have kk : (k : Int) < (n : Int) := by omega
      have hm1 : Hid (n - (k + 1) < n - k) := by show _ < _; omega
      have hins : inside s (spot o k) = true := by
        have := inside_spot (s := s) hg (i := k) (by omega)
        simpa using this
      have hq := refRead_any r g cap s (spot o k) wr (h.kept hK (by simp) (by simp))
      have hre : readE s (spot o k) = if s.broken then 3 else 0 := by unfold readE; rw [if_pos hins]
      rw [hre, show readL s (spot o k) = readF s o k from rfl, show spot o k = 8 + (o : Int) + (k : Int) by simp [spot]] at hq
      have hsec := sec_readF hval o k
      have hFs : Hid (flatL (readF s o) (k + 1) = flatL (readF s o) k ++ readF s o k) := rfl
      generalize readF s o k = X at *
      simp only [arr] at hq
      have hXl : Hid (X.length = 16) := hsec.1
      clear hins hre
      by_cases hbn : s.broken = true
      · rw [if_pos hbn] at hq
        go_wp2_with (first
          | (go_at_call 101; refine hq.mono ?_; rintro e w4 ⟨rfl, hk4⟩)
          | (refine wpList_store_arr rfl 95 _ _ rfl w4.heap.size 95 nought X rfl rfl (arr_new w4 95 nought) (by rw [hXl.out]; rfl) (by rw [hXl.out]; exact Tryz.size95) ?_; intro w5 hA5 hk5 hz5; replace hz5 : Hid _ := hz5))
        go_ret2
        have hkY : Kept [] wr w5 := (hk4.trans (kept_alloc [] _ _)).young hk5 (by have := hk4.size; omega)
        refine ⟨.slice none 0 0, ?_, ?_, hK.trans hkY⟩
        · rw [← hE.out, if_pos hbn]
          rfl
        · rw [← hBS.out, if_pos hbn]
          exact byteRow_nil _ _ _
      · rw [if_neg hbn] at hq
        have hfk : Hid ((flatL (readF s o) k).length = 16 * k) := flatL_length hfl k
        have H63 : Hid (16 * k + 16 ≤ maxLen) := by show _ ≤ _; unfold maxLen; omega
        have HBY : Hid ((16 * k + 16) * 1 ≤ 140737488355328) := by show _ ≤ _; omega
        go_wp2_with (first
          | (go_at_call 101; refine hq.mono ?_; rintro e w4 ⟨rfl, hk4⟩)
          | (refine wpList_store_arr rfl 95 _ _ rfl w4.heap.size 95 nought X rfl rfl (arr_new w4 95 nought) (by rw [hXl.out]; rfl) (by rw [hXl.out]; exact Tryz.size95) ?_; intro w5 hA5 hk5 hz5; replace hz5 : Hid _ := hz5; have hkY : Kept [] wr w5 := ((hk4.trans (kept_alloc [] _ _)).young hk5 (by have := hk4.size; omega)); have hown5 := ownsRow_kept hown hkY (by simp); have HNW : Hid (∀ j u, (X.map enc)[j]? = some u → w5.cell? ((⟨w4.heap.size, 0, none⟩ : Addr).add j) = some u) := (fun j u hj => by rw [Addr.add_mid]; exact hA5.range j u hj); have HBS : Hid (w.heap.size + 1 ≤ w5.heap.size) := (by show _ ≤ _; have := hbW.lt; have := hkY.size; omega))
          | (at_builtin; refine wpList_append_own _ rfl _ _ 24 rfl (w.heap.size + 1) 5 i0 (.int .u8 0) 1 1 Tryz.underlying24 hi hz0 hz1 hz2 rfl (by decide) _ (16 * k) _ rfl hown5 ⟨w4.heap.size, 0, none⟩ 16 16 (X.map enc) rfl (by rw [List.length_map, hXl.out]) HNW.out (enc_one X) H63.out HBY.out HBS.out ?_; intro v' w9 hown9 hg9 hnil9))
        have hblk := fun b e => (hown5.lt b e).1
        go_roundw
        case rel =>
          refine ⟨k + 1, by omega, rfl, ?_, fun _ => by simpa using hbn, ?_, ?_⟩
          · rw [hFs.out, List.map_append]
            exact hown9
          · exact Kept.of_own hg9 (base := w.heap.size) (fun b e => by have := hblk b e; omega) (hK.trans hkY) rfl
          · exact (hg9.block _ (by have := hbW.lt; have := hkY.size; omega) (fun e => by have := hblk _ e.symm; omega)).trans (hbW.kept hkY (by simp))
        case measure => simpa [RowKit.intOf] using hm1.out
    · obtain rfl : k = n := by omega
      have hbf := hbr (by omega)
      have hBo := hBS.out
      have hEo := hE.out
      rw [hbf, if_neg (by simp)] at hBo hEo
      replace hEo : Hid _ := hEo
      have hr : Hid (ByteRow (w.heap.size + 1) wr.heap.size wr u6 BS) := by
        refine byteRow_owns ?_ ?_
        · rw [← hBo]
          exact flatL_byte (fun i => (sec_readF hval o i).2) k
        · rw [← hBo, flatL_length hfl]
          exact hown
      clear hBo hown
      go_wp2
      go_ret2
      refine ⟨u6, ?_, hr.out.mono (by omega) (Nat.le_refl _), hK⟩
      rw [← hEo.out]
      rfl
set_option maxRecDepth 100000 in
/-- Read -/
theorem rRead_any (r g cap : Nat) (s : Dk) (o l : Int) (w : World) (h : RefAt w r g cap s) :
    Calls Tryz.prog 60 #[.pointer (some ⟨r, 0, none⟩), .agg #[.int .i64 o, .int .i64 l]] w fun e w' => ∃ v, e = .returned (.tuple #[v, .int .i64 (gotE s o l : Nat)]) ∧ ByteRow w.heap.size w'.heap.size w' v (gotL s o l) ∧ Kept [] w w' := by
  unfold gotE gotL
  cases hg : Span.Math.good o l (dataN s : Nat) with
  | false =>
    simp only [Bool.false_eq_true, if_false]
    exact (rRead_range r g cap s o l w h hg).mono fun e w' ⟨he, hk⟩ => ⟨_, he, byteRow_nil _ _ _, hk⟩
  | true =>
    simp only [if_true]
    have hgo := good_of hg
    obtain ⟨p, rfl⟩ : ∃ p : Nat, o = p := ⟨o.toNat, by omega⟩
    obtain ⟨n, rfl⟩ : ∃ n : Nat, l = n := ⟨l.toNat, by omega⟩
    refine (rRead_done r g cap s p n w h hg).mono ?_
    rintro e w' ⟨v, rfl, hr, hk⟩
    refine ⟨v, ?_, by simpa using hr, hk⟩
    by_cases hq : s.broken = true <;> simp [hq]
set_option maxRecDepth 100000 in
/-- Extent -/
theorem rExtent_any (r g cap : Nat) (s : Dk) (x : Int) (w : World) (h : RefAt w r g cap s) :
    Calls Tryz.prog 86 #[.pointer (some ⟨r, 0, none⟩), .int .i64 x] w fun e w' => ∃ v, e = .returned (.tuple #[v, .int .i64 (gotE s (Span.wOff x) (Span.wLen x) : Nat)]) ∧ ByteRow w.heap.size w'.heap.size w' v (gotL s (Span.wOff x) (Span.wLen x)) ∧ Kept [] w w' := by
  have q1 := Span.refWhole_any x w
  have q2 := fun w' (hk : Kept [] w w') => rRead_any r g cap s (Span.wOff x) (Span.wLen x) w' (h.kept hk (by simp) (by simp))
  go_enter Tryz.func86, Tryz.ntmps86
  go_wp2_with (first
    | (go_at_call 130; refine q1.mono ?_; rintro e w1 ⟨rfl, hB⟩; have hk1 := Kept.of_below hB [])
    | (go_at_call 60; refine (q2 _ hk1).mono ?_; rintro e w2 ⟨v, rfl, hR, hk2⟩))
  go_ret2
  exact ⟨v, rfl, hR.mono hk1.size (Nat.le_refl _), hk1.trans hk2⟩
set_option maxRecDepth 100000 in
/-- Image -/
theorem rImage_any (r g cap : Nat) (s : Dk) (w : World) (h : RefAt w r g cap s) :
    Calls Tryz.prog 25 #[.pointer (some ⟨r, 0, none⟩)] w fun e w' => ∃ v, e = .returned v ∧ ByteRow w.heap.size w'.heap.size w' v (imgL s) ∧ Kept [] w w' := by
  have q1 := rSectors_any r g cap s w h
  have q2 := rRead_any r g cap s 0 (dataN s : Nat) w h
  unfold imgL
  have hz : gotE s 0 (dataN s : Nat) ≠ 0 → gotL s 0 (dataN s : Nat) = [] := by
    unfold gotE gotL
    intro he
    split
    · rename_i hg
      rw [if_pos hg] at he
      split
      · rfl
      · rename_i hb
        rw [if_neg hb] at he
        exact absurd rfl he
    · rfl
  generalize dataN s = N at *
  generalize gotL s 0 (N : Nat) = GL at *
  generalize gotE s 0 (N : Nat) = GE at *
  by_cases he : GE = 0
  · subst he
    clear hz
    go_enter Tryz.func25, Tryz.ntmps25
    go_wp2_with (first
      | (go_at_call 61; refine q1.mono ?_; rintro e w ⟨rfl, rfl⟩)
      | (go_at_call 60; refine q2.mono ?_; rintro e w2 ⟨v, rfl, hR, hk2⟩))
    go_ret
    exact ⟨v, rfl, hR, hk2⟩
  · have z1 : (((GE : Nat) : Int) != 0) = true := by simp; omega
    have hz' : Hid (GL = []) := hz he
    clear hz
    go_enter Tryz.func25, Tryz.ntmps25
    go_wp2_with (first
      | (go_at_call 61; refine q1.mono ?_; rintro e w ⟨rfl, rfl⟩)
      | (go_at_call 60; refine q2.mono ?_; rintro e w2 ⟨v, rfl, hR, hk2⟩))
    go_ret
    exact ⟨.slice none 0 0, rfl, by rw [hz'.out]; exact byteRow_nil _ _ _, hk2⟩
end Go.Proofs.YtfiofdmefgkloaaGreat

