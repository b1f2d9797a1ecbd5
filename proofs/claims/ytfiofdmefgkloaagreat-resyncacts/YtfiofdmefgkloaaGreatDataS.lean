import Derived.Test.YtfiofdmefgkloaaGreatDataR
/-
  The walks of the document's Write that is done, sector by sector, and of its SetExtent.
-/
namespace Go.Proofs.YtfiofdmefgkloaaGreat
open Go.RowKit Go.Maps Go.Shelf
open Math

set_option maxRecDepth 100000 in
set_option maxHeartbeats 4000000 in
/-- Write, that is done, sector by sector -/
theorem rWrite_done (r g cap : Nat) (s : Dk) (o n : Nat) (bs : List Nat) (y off c0 : Nat) (w : World) (h : RefAt w r g cap s) (hg : Span.Math.good (o : Int) (n : Int) (dataN s : Nat) = true) (hlen : bs.length = 16 * n) (hbs : ∀ b ∈ bs, b < 256)
    (hy : y < w.heap.size) (hyr : y ∉ [r, g]) (hc : ∀ j, j < 16 * n → w.cell? ⟨y, off + j, none⟩ = some (.int .u8 ((bs[j]?.getD 0 : Nat) : Int))) (hops : s.ops ≤ 900000) :
    Calls Tryz.prog 135 #[.pointer (some ⟨r, 0, none⟩), .agg #[.int .i64 (o : Int), .int .i64 (n : Int)], .slice (some ⟨y, off, none⟩) (16 * n) c0] w fun e w' =>
      e = .returned (.int .i64 (if (wroteL s o bs (List.range n)).broken then 3 else 0)) ∧ RefAt w' r g cap (wroteL s o bs (List.range n)) ∧ Kept [r, g] w w' := by
  obtain ⟨E, hE⟩ : ∃ E : Int, (if (wroteL s o bs (List.range n)).broken then (3 : Int) else 0) = E := ⟨_, rfl⟩
  rw [hE]
  replace hE : Hid _ := hE
  have hk := kept_alloc [] w (.cells #[.int .i64 (o : Int), .int .i64 (n : Int)] 127)
  have hb := (blk_new w 127 #[.int .i64 (o : Int), .int .i64 (n : Int)]).drew
  have h1 := (h.alloc (.cells #[.int .i64 (o : Int), .int .i64 (n : Int)] 127)).drew
  have q1 := rSectors_any r g cap s _ h1
  have q2 := fun W => Span.refGood_any o n (dataN s : Nat) W
  rw [hg] at q2
  have hgo := good_of hg
  have hval := h.2
  have htop := hval.top
  have hn2 : n ≤ 1024 := by simp [dataN] at hgo; omega
  obtain ⟨L, hL⟩ : ∃ L, 16 * n = L := ⟨_, rfl⟩
  have hne : ((L : Int) != 16 * (n : Int)) = false := by simp; omega
  have hL1 : (L : Int) ≤ 16384 := by omega
  rw [hL] at hc ⊢
  replace hL : Hid _ := hL
  have hltR := h.1.lt
  have x0 : ((w.alloc (.cells #[.int .i64 (o : Int), .int .i64 (n : Int)] 127)).drew).cell? ⟨w.heap.size, 0, none⟩ = some (.int .i64 (o : Int)) := hb.cell 0
  have x1 : ((w.alloc (.cells #[.int .i64 (o : Int), .int .i64 (n : Int)] 127)).drew).cell? ⟨w.heap.size, 1, none⟩ = some (.int .i64 (n : Int)) := hb.cell 1
  go_enter Tryz.func135, Tryz.ntmps135
  go_wp2_with fail
  go_region_held3 (fun W => W.cell? ⟨w.heap.size, 0, none⟩ = some (.int .i64 (o : Int)) ∧ W.cell? ⟨w.heap.size, 1, none⟩ = some (.int .i64 (n : Int))) (exact ⟨x0, x1⟩) (first
    | (go_at_call 61; refine q1.mono ?_; rintro e w' ⟨rfl, rfl⟩)
    | (go_at_call 109; refine (q2 _).mono ?_; rintro e w2 ⟨rfl, hB⟩; replace x0 : w2.cell? ⟨w.heap.size, 0, none⟩ = some (.int .i64 (o : Int)) := ((hb.kept (Kept.of_below hB []) (by simp)).cell 0); replace x1 : w2.cell? ⟨w.heap.size, 1, none⟩ = some (.int .i64 (n : Int)) := ((hb.kept (Kept.of_below hB []) (by simp)).cell 1)))
  have hkB := Kept.of_below hB []
  have hb2 := hb.kept hkB (by simp)
  have hk2 : Kept [] w w2 := (hk.trans (kept_drew [] _)).trans hkB
  have hR2 : RefAt w2 r g cap s := h.kept hk2 (by simp) (by simp)
  clear q1 q2 hB hkB hb h1
  go_wp2_with fail
  go_loopw [7] (fun i wr => ∃ k : Nat, k ≤ n ∧ i = .int .i64 k ∧ RefAt wr r g cap (wroteL s o bs (List.range k)) ∧ (1 ≤ k → (wroteL s o bs (List.range k)).broken = false) ∧ Kept [r, g] w2 wr) (fun i _ => n - (RowKit.intOf i).toNat)
  case atStart => exact ⟨0, by omega, rfl, hR2, by omega, Kept.refl _ _⟩
  case round =>
    obtain ⟨k, hkn, rfl, hR, hbr, hK⟩ := hrel
    obtain ⟨wo, rfl⟩ : ∃ wo, wo = wr := ⟨_, rfl⟩
    have hbW := hb2.kept hK (by have := hltR; simp; omega)
    have y0 : wo.cell? ⟨w.heap.size, 0, none⟩ = some (.int .i64 (o : Int)) := hbW.cell 0
    have y1 : wo.cell? ⟨w.heap.size, 1, none⟩ = some (.int .i64 (n : Int)) := hbW.cell 1
    by_cases hlt : k < n
    · have kk : (k : Int) < (n : Int) := by omega
      have hm1 : Hid (n - (k + 1) < n - k) := by show _ < _; omega
      have hX := sec_piece hbs hlen hlt
      have hA0 : Arr (wo.alloc (.cells #[.int .u8 0, .int .u8 0, .int .u8 0, .int .u8 0, .int .u8 0, .int .u8 0, .int .u8 0, .int .u8 0, .int .u8 0, .int .u8 0, .int .u8 0, .int .u8 0, .int .u8 0, .int .u8 0, .int .u8 0, .int .u8 0] 95)) wo.heap.size 95 nought := arr_new wo 95 nought
      have hXg : Hid (∀ j, j < 16 → (piece bs k)[j]?.getD 0 = bs[16 * k + j]?.getD 0) := fun j hj => by rw [piece_get hj]
      have hSn : wroteL s o bs (List.range (k + 1)) = wroteS (wroteL s o bs (List.range k)) (spot o k) (piece bs k) := by rw [List.range_succ, wroteL_snoc]
      have hins : inside (wroteL s o bs (List.range k)) (spot o k) = true := by
        have := inside_spot (s := s) hg (i := k) (by omega)
        simp only [inside, wroteL_size] at this ⊢
        simpa using this
      have hops2 : (wroteL s o bs (List.range k)).ops ≤ 1000000 := by
        refine Nat.le_trans (wroteL_ops _ _ _ _) ?_
        simp
        omega
      have q5 := fun W (hW : RefAt W r g cap (wroteL s o bs (List.range k))) => refWrite_any r g cap (wroteL s o bs (List.range k)) (spot o k) (piece bs k) hX hops2 W hW
      rw [wroteE_inside (piece bs k) hins, ← hSn] at q5
      rw [show spot o k = 8 + (o : Int) + (k : Int) by simp [spot]] at q5
      obtain ⟨Sn, hSnE⟩ : ∃ Sn, wroteL s o bs (List.range (k + 1)) = Sn := ⟨_, rfl⟩
      rw [hSnE] at q5
      replace hSnE : Hid _ := hSnE
      generalize wroteL s o bs (List.range k) = St at *
      generalize piece bs k = X at *
      simp only [arr] at q5
      clear hSn hins hops2
      go_wp2
      go_loopw [28] (fun jv wr => ∃ j : Nat, j ≤ 16 ∧ jv = .int .i64 j ∧ Arr wr wo.heap.size 95 (half X j) ∧ Kept [] wo wr) (fun i _ => 16 - (RowKit.intOf i).toNat)
      case atStart => exact ⟨0, by omega, rfl, by rw [half_start]; exact hA0, kept_alloc [] _ _⟩
      case round =>
        obtain ⟨j, hj, rfl, hA, hKq⟩ := hrel
        by_cases hlj : j < 16
        · have kj : (j : Int) < 16 := by omega
          have hm2 : Hid (16 - (j + 1) < 16 - j) := by show _ < _; omega
          obtain ⟨M, hM⟩ : ∃ M : Nat, 16 * k + j = M := ⟨_, rfl⟩
          have hM1 : 16 * (k : Int) + (j : Int) = (M : Int) := by omega
          have hM2 : (M : Int) < (L : Int) := by have := hL.out; omega
          have hKall : Kept [r, g] w wr := ((hk2.mono (by simp)).trans hK).trans (hKq.mono (by simp))
          have hcM : wr.cell? ⟨y, off + M, none⟩ = some (.int .u8 ((bs[M]?.getD 0 : Nat) : Int)) := (World.cell?_of_block (hKall.block y hy hyr)).trans (hc M (by omega))
          have cA := hA.cell j (by rw [half_length hX.1 (by omega)]; exact hlj)
          have fA := hA.frozen j
          have hAn : Hid (Arr (wr.setCell ⟨wo.heap.size, j, none⟩ (.int .u8 ((bs[M]?.getD 0 : Nat) : Int))) wo.heap.size 95 (half X (j + 1))) := by
            have := hA.set j (bs[M]?.getD 0)
            rw [← hM, ← hXg.out j hlj] at this ⊢
            rwa [half_step hX.1 hlj] at this
          generalize bs[M]?.getD 0 = bv at *
          generalize (half X j)[j]?.getD 0 = old at *
          replace hM : Hid _ := hM
          clear hKall hA hA0
          go_wp2
          go_roundw
          case rel => exact ⟨j + 1, by omega, rfl, hAn.out, hKq.young (kept_set (by simp) _ _ _) (Nat.le_refl _)⟩
          case measure => simpa [RowKit.intOf] using hm2.out
        · obtain rfl : j = 16 := by omega
          rw [half_end hX.1] at hA
          have hXl : Hid (X.length = 16) := hX.1
          have hRq := hR.kept hKq (by simp) (by simp)
          have hbq := hbW.kept hKq (by simp)
          have z0 : wr.cell? ⟨w.heap.size, 0, none⟩ = some (.int .i64 (o : Int)) := hbq.cell 0
          have hqq := q5 wr hRq
          clear hA0 q5
          by_cases hbn : Sn.broken = true
          · rw [if_pos hbn] at hqq
            go_wp2_with (first
              | refine wpList_load_arr rfl 95 _ rfl wo.heap.size 95 X rfl hA 16 5 Tryz.underlying95 (by rw [hXl.out]; exact Tryz.size95) ?_
              | (go_at_call 155; refine hqq.mono ?_; rintro e w5 ⟨rfl, hR5, hk5⟩))
            have hall : wroteL s o bs (List.range n) = Sn := by
              have e : List.range n = List.range (k + 1) ++ (List.range (n - (k + 1))).map ((k + 1) + ·) := by
                rw [← List.range_add]
                congr 1
                omega
              rw [e, wroteL_append, hSnE.out, wroteL_broken hbn]
            go_ret
            refine ⟨?_, by rw [hall]; exact hR5, ((((hk2.mono (by simp)).trans hK).trans (hKq.mono (by simp)))).trans hk5⟩
            rw [← hE.out, hall, if_pos hbn]
            rfl
          · rw [if_neg hbn] at hqq
            go_wp2_with (first
              | refine wpList_load_arr rfl 95 _ rfl wo.heap.size 95 X rfl hA 16 5 Tryz.underlying95 (by rw [hXl.out]; exact Tryz.size95) ?_
              | (go_at_call 155; refine hqq.mono ?_; rintro e w5 ⟨rfl, hR5, hk5⟩))
            go_roundw
            case rel => exact ⟨k + 1, by omega, rfl, by rw [hSnE.out]; exact hR5, fun _ => by rw [hSnE.out]; simpa using hbn, (hK.trans (hKq.mono (by simp))).trans hk5⟩
            case measure => simpa [RowKit.intOf] using hm1.out
    · obtain rfl : k = n := by omega
      have hbf := hbr (by omega)
      go_wp2
      go_ret
      refine ⟨?_, hR, (hk2.mono (by simp)).trans hK⟩
      rw [← hE.out, hbf]
      rfl
set_option maxRecDepth 100000 in
/-- Write -/
theorem rWrite_any (r g cap : Nat) (s : Dk) (o l : Int) (v : Value) (bs : List Nat) (lo hi : Nat) (w : World) (h : RefAt w r g cap s) (hops : s.ops ≤ 900000) (hR : ByteRow lo hi w v bs) (hhi : hi ≤ w.heap.size) (hap : ∀ k ∈ [r, g], k < lo ∨ hi ≤ k) :
    Calls Tryz.prog 135 #[.pointer (some ⟨r, 0, none⟩), .agg #[.int .i64 o, .int .i64 l], v] w fun e w' => e = .returned (.int .i64 (areaE s o l bs : Nat)) ∧ RefAt w' r g cap (areaS s o l bs) ∧ Kept [r, g] w w' := by
  obtain ⟨hb, a, c0, rfl, hn, hrow⟩ := hR
  unfold areaE areaS
  cases hg : Span.Math.good o l (dataN s : Nat) with
  | false =>
    simp only [Bool.false_eq_true, if_false]
    exact (rWrite_range r g cap s o l a _ c0 w h hg).mono fun e w' ⟨he, hk⟩ => ⟨he, h.kept hk (by simp) (by simp), hk.mono (by simp)⟩
  | true =>
    simp only [if_true]
    by_cases hl : (bs.length : Int) = 16 * l
    · rw [if_pos hl, if_pos hl]
      have hgo := good_of hg
      obtain ⟨p, rfl⟩ : ∃ p : Nat, o = p := ⟨o.toNat, by omega⟩
      obtain ⟨n, rfl⟩ : ∃ n : Nat, l = n := ⟨l.toNat, by omega⟩
      have hlen : bs.length = 16 * n := by omega
      rcases hrow with rfl | ⟨y, off, rfl, hc1, hc2, hc3, hc⟩
      · simp at hlen
        omega
      rw [hlen] at hc
      have := rWrite_done r g cap s p n bs y off c0 w h hg hlen hb (by omega) (fun hm => by have := hap y hm; omega) hc hops
      rw [hlen]
      refine this.mono fun e w' ⟨he, hd, hk⟩ => ⟨?_, hd, hk⟩
      rw [he]
      simp only [Int.toNat_natCast]
      by_cases hq : (wroteL s p bs (List.range n)).broken = true <;> simp [hq]
    · rw [if_neg hl, if_neg hl]
      exact (rWrite_arg r g cap s o l a _ c0 w h hg hl).mono fun e w' ⟨he, hk⟩ => ⟨he, h.kept hk (by simp) (by simp), hk.mono (by simp)⟩
set_option maxRecDepth 100000 in
/-- SetExtent -/
theorem rSetExtent_any (r g cap : Nat) (s : Dk) (x : Int) (v : Value) (bs : List Nat) (lo hi : Nat) (w : World) (h : RefAt w r g cap s) (hops : s.ops ≤ 900000) (hR : ByteRow lo hi w v bs) (hhi : hi ≤ w.heap.size) (hap : ∀ k ∈ [r, g], k < lo ∨ hi ≤ k) :
    Calls Tryz.prog 94 #[.pointer (some ⟨r, 0, none⟩), .int .i64 x, v] w fun e w' => e = .returned (.int .i64 (areaE s (Span.wOff x) (Span.wLen x) bs : Nat)) ∧ RefAt w' r g cap (areaS s (Span.wOff x) (Span.wLen x) bs) ∧ Kept [r, g] w w' := by
  have q1 := Span.refWhole_any x w
  have q2 := fun w' (hk : Kept [] w w') => rWrite_any r g cap s (Span.wOff x) (Span.wLen x) v bs lo hi w' (h.kept hk (by simp) (by simp)) hops (hR.kept hhi hk (by simp)) (by have := hk.size; omega) hap
  obtain ⟨a, c0, rfl⟩ := hR.slice
  go_enter Tryz.func94, Tryz.ntmps94
  go_wp2_with (first
    | (go_at_call 130; refine q1.mono ?_; rintro e w1 ⟨rfl, hB⟩; have hk1 := Kept.of_below hB [])
    | (go_at_call 135; refine (q2 _ hk1).mono ?_; rintro e w2 ⟨rfl, hD2, hk2⟩))
  go_ret
  exact ⟨rfl, hD2, (hk1.mono (by simp)).trans hk2⟩
end Go.Proofs.YtfiofdmefgkloaaGreat

