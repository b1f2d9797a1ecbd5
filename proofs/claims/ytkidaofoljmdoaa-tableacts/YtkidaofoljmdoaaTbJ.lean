/-
  TableActs' walk.
-/
import Derived.Test.YtkidaofoljmdoaaTbI
namespace Go.Proofs.Ytkidaofoljmdoaa.Table
open Go.RowKit

set_option maxRecDepth 100000 in
set_option maxHeartbeats 1000000 in
theorem acts_early (n : Int) (a0 : Option Addr) (len cap : Nat) (hl : len ≤ 9223372036854775807) (w : World) (h : 60 < len) :
    Calls Try.prog 3 #[.int .i64 n, .slice a0 len cap] w fun e w' => e = .returned (.bool true) ∧ Kept [] w w' := by
  have q := lives_any w
  have h3 : (60 : Int) < (len : Int) := by omega
  clear h hl
  go_enter Try.func3, Try.ntmps3
  go_wp2_with (go_at_call 6; refine q.mono ?_; rintro e w1 ⟨rfl, hk1⟩)
  go_ret
  exact ⟨rfl, hk1⟩
set_option maxRecDepth 100000 in
set_option maxHeartbeats 1000000 in
theorem acts_none (n : Int) (hn : n < 1 ∨ 16 < n) (a0 : Option Addr) (len cap : Nat) (hl : len ≤ 60) (w : World) :
    Calls Try.prog 3 #[.int .i64 n, .slice a0 len cap] w fun e w' => e = .returned (.bool true) ∧ Kept [] w w' := by
  have q := lives_any w
  have q1 := new_none n hn w
  have q2 := rnew_none n hn w
  have h3 : ¬ ((60 : Int) < (len : Int)) := by omega
  clear hl hn
  go_enter Try.func3, Try.ntmps3
  go_wp2_with (first
    | (go_at_call 7; refine q1.mono ?_; rintro e w ⟨rfl, rfl⟩)
    | (go_at_call 8; refine q2.mono ?_; rintro e w ⟨rfl, rfl⟩))
  go_loopw [9] (fun i wr => i = .int .i64 0 ∧ wr = w) (fun _ _ => 0)
  case atStart => exact ⟨rfl, rfl⟩
  case round =>
    obtain ⟨rfl, rfl⟩ := hrel
    by_cases h0 : (0 : Int) < (len : Int)
    · go_wp2_with (go_at_call 6; refine q.mono ?_; rintro e w1 ⟨rfl, hk1⟩)
      go_ret
      exact ⟨rfl, hk1⟩
    · go_wp2_with (go_at_call 6; refine q.mono ?_; rintro e w1 ⟨rfl, hk1⟩)
      go_ret
      exact ⟨rfl, hk1⟩
set_option maxRecDepth 100000 in
set_option maxHeartbeats 8000000 in
theorem acts_play (most : Nat) (h1 : 1 ≤ most) (h2 : most ≤ 16) (a0 : Option Addr) (len cap : Nat) (acts : List Ac) (hl : len ≤ 60) (w : World) (hacts : AcsAt w.heap.size w a0 len cap acts) :
    Calls Try.prog 3 #[.int .i64 (most : Int), .slice a0 len cap] w fun e w' => e = .returned (.bool true) ∧ Kept [] w w' := by
  have q1 := new_any most h1 h2 w
  have h3 : ¬ ((60 : Int) < (len : Int)) := by omega
  go_enter Try.func3, Try.ntmps3
  go_wp2_with (first
    | (go_at_call 7; refine q1.mono ?_; rintro e w1 ⟨rfl, hN, hs1, hk1⟩; replace hN : Hid _ := hN; have hs1' : Hid (w1.heap.size = w.heap.size + 2) := hs1; have q2 := rnew_any most h1 h2 w1; rw [hs1] at q2; clear hs1)
    | (go_at_call 8; refine q2.mono ?_; rintro e w2 ⟨rfl, hR2, hs2, hk2⟩; replace hs2 : Hid (w2.heap.size = w.heap.size + 2 + 1) := hs2))
  have hb0 : Bt w2 w2.heap.size (w.heap.size + 1) w.heap.size (w.heap.size + 2) most [] := by
    have e2 := hs2.out
    have e1 := hs1'.out
    exact ⟨⟨_, (hN.out w2.heap.size w1.heap.size (by omega) (Nat.le_refl _)).kept0 hk2⟩, ⟨_, hR2⟩, by simp, Nat.le_refl _, by omega, by omega⟩
  have hk02 := hk1.trans hk2
  have hlo : Hid (w2.heap.size = w.heap.size + 3) := by have := hs2.out; show _ = _; omega
  clear hN hs1' hR2 hs2 q1 hk1 hk2
  go_loopw [9] (fun i wr => ∃ j : Nat, j ≤ len ∧ i = .int .i64 j ∧ (∃ P, Bt wr w2.heap.size (w.heap.size + 1) w.heap.size (w.heap.size + 2) most P) ∧ Kept [] w wr) (fun i _ => len - (RowKit.intOf i).toNat)
  case atStart => exact ⟨0, by omega, rfl, ⟨[], hb0⟩, hk02⟩
  case round =>
    obtain ⟨j, hj, rfl, ⟨P, hB⟩, hk⟩ := hrel
    clear hb0 hk02
    by_cases hlt : j < len
    · have hacts' := hacts.kept (Nat.le_refl _) hk (by simp)
      obtain ⟨hal, hok, hrow⟩ := hacts'
      obtain ⟨⟨kd, t, x⟩, hx⟩ : ∃ x, acts[j]? = some x := ⟨_, List.getElem?_eq_getElem (by rw [hal]; exact hlt)⟩
      have ok := hok _ (List.mem_of_getElem? hx)
      obtain ⟨ab, ao, rfl, hac, hcs⟩ : ∃ b off, a0 = some ⟨b, off, none⟩ ∧ len ≤ cap ∧ ∀ i v, (Ac.mk kd t x).cells[i]? = some v → wr.cell? ⟨b, off + j * 6 + i, none⟩ = some v := by
        rcases hrow with h | ⟨b, off, h1, h2, h3, h4⟩
        · rw [h] at hal
          simp at hal
          omega
        · exact ⟨b, off, h1, h2, h4 j _ hx⟩
      have y0 : wr.cell? ⟨ab, ao + j * 6, none⟩ = some (.int .i64 kd) := hcs 0 _ rfl
      have y1 : wr.cell? ⟨ab, ao + j * 6 + 1, none⟩ = some (.int .i64 t) := hcs 1 _ rfl
      have y2 : wr.cell? ⟨ab, ao + j * 6 + 2, none⟩ = some (.int .i64 x.k) := hcs 2 _ rfl
      have y3 : wr.cell? ⟨ab, ao + j * 6 + 3, none⟩ = some (.int .i64 x.o) := hcs 3 _ rfl
      have y4 : wr.cell? ⟨ab, ao + j * 6 + 4, none⟩ = some (.int .i64 x.l) := hcs 4 _ rfl
      have y5 : wr.cell? ⟨ab, ao + j * 6 + 5, none⟩ = some (.slice x.sa x.len x.cap) := hcs 5 _ rfl
      obtain ⟨t0, t1, len0, hxA⟩ := ok
      simp only at t0 t1 len0 hxA
      have kA := kept_alloc [] wr (.cells #[.int .i64 kd, .int .i64 t, .int .i64 x.k, .int .i64 x.o, .int .i64 x.l, .slice x.sa x.len x.cap] 37)
      have hbA := blk_new wr 37 #[.int .i64 kd, .int .i64 t, .int .i64 x.k, .int .i64 x.o, .int .i64 x.l, .slice x.sa x.len x.cap]
      have i1 : (j : Int) < (len : Int) := by omega
      have i2 : (j : Int) < (cap : Int) := by omega
      have hm1 : Hid (len - (j + 1) < len - j) := by show _ < _; omega
      have hB1 := hB.kept0 kA
      have hxB := hxA.kept (Nat.le_trans (Nat.le_refl _) hk.size) kA (by simp)
      obtain ⟨A, hA⟩ : ∃ A, wr.heap.size = A := ⟨_, rfl⟩
      have hAlo : w.heap.size + 3 ≤ A := by have := hlo.out; have := hB.low; omega
      have hAsz : w.heap.size ≤ A := by omega
      have hkw := hk.trans kA
      clear hacts hal hok hrow hx hcs hxA hB
      by_cases hbig : (200 : Int) < (x.len : Int)
      · have q := lives_any (wr.alloc (.cells #[.int .i64 kd, .int .i64 t, .int .i64 x.k, .int .i64 x.o, .int .i64 x.l, .slice x.sa x.len x.cap] 37))
        clear hbA hB1 hxB hA
        go_wp2_with (go_at_call 6; refine q.mono ?_; rintro e w3 ⟨rfl, hk3⟩)
        go_ret
        exact ⟨rfl, hkw.trans hk3⟩
      · have hxl : x.len ≤ 200 := by omega
        rw [hA] at hbA
        replace hA : Hid (wr.heap.size = A) := hA
        by_cases hk0 : kd = 0
        · subst hk0
          go_upto_region 15 with (fail)
          rw [hA.out]
          obtain ⟨W1, hW1⟩ : ∃ W1, wr.alloc (.cells #[.int .i64 0, .int .i64 t, .int .i64 x.k, .int .i64 x.o, .int .i64 x.l, .slice x.sa x.len x.cap] 37) = W1 := ⟨_, rfl⟩
          rw [hW1] at hbA hB1 hxB hkw ⊢
          clear hW1 kA y0 y1 y2 y3 y4 y5
          have kd1 := kept_drew [] W1
          have hxD : Hid (x.At 0 w.heap.size W1.drew) := hxB.kept hkw.size kd1 (by simp)
          have hS : Hid (∀ W, Kept [w.heap.size, w.heap.size + 2] W1 W → W.cell? ⟨A, 1, none⟩ = some (.int .i64 t) ∧ W.cell? ⟨A, 2, none⟩ = some (.int .i64 x.k) ∧ W.cell? ⟨A, 3, none⟩ = some (.int .i64 x.o) ∧ W.cell? ⟨A, 4, none⟩ = some (.int .i64 x.l) ∧ W.cell? ⟨A, 5, none⟩ = some (.slice x.sa x.len x.cap)) := fun W hk =>
            have g := hbA.kept hk (by simp; omega)
            ⟨g.cell 1, g.cell 2, g.cell 3, g.cell 4, g.cell 5⟩
          have ks0 : Hid (Kept [w.heap.size, w.heap.size + 2] W1 W1.drew) := kept_drew _ _
          have qa := bt_add t t0 t1 x 0 w.heap.size W1.drew (hB1.kept0 kd1) hxD.out (Nat.le_trans hkw.size kd1.size) hxl
          unfold Qv.val at qa
          obtain ⟨E, e_addE⟩ : ∃ E, addE most P t = E := ⟨_, rfl⟩
          rw [e_addE] at qa
          replace e_addE : Hid _ := e_addE
          go_region_held3 (fun W => W.cell? ⟨A, 1, none⟩ = some (.int .i64 t) ∧ W.cell? ⟨A, 2, none⟩ = some (.int .i64 x.k) ∧ W.cell? ⟨A, 3, none⟩ = some (.int .i64 x.o) ∧ W.cell? ⟨A, 4, none⟩ = some (.int .i64 x.l) ∧ W.cell? ⟨A, 5, none⟩ = some (.slice x.sa x.len x.cap)) (first
            | exact hS.out _ ks0.out
            | exact hS.out _ ks2.out
            | exact hS.out _ ks3.out) (first
            | (go_at_call 9; refine qa.mono ?_; rintro e w3 ⟨rfl, hM3, hk3⟩; have ks2 : Hid (Kept [w.heap.size, w.heap.size + 2] W1 w3) := ks0.out.trans (hk3.mono (by simp)); have qd := mid_add t t1 x 0 w.heap.size w3 hM3 (hxD.out.kept (Nat.le_trans hkw.size kd1.size) hk3 (by simp)) (Nat.le_trans (Nat.le_trans hkw.size kd1.size) hk3.size) hxl; rw [e_addE.out] at qd; unfold Qv.val at qd; replace hk3 : Hid _ := hk3)
            | (go_at_call 10; refine qd.mono ?_; rintro e w4 ⟨rfl, ⟨P4, hB4⟩, hk4⟩; have ks3 : Hid (Kept [w.heap.size, w.heap.size + 2] W1 w4) := ks2.out.trans (hk4.mono (by simp)); replace hk4 : Hid _ := hk4))
          have hk04 : Kept [] w w4 := ⟨ks3.out.os.trans hkw.os, ks3.out.tape.trans hkw.tape, ks3.out.output.trans hkw.output, Nat.le_trans hkw.size ks3.out.size, fun i hi _ => (ks3.out.block i (Nat.lt_of_lt_of_le hi hkw.size) (by simp; omega)).trans (hkw.block i hi (by simp))⟩
          have cA : ∀ W, Kept [] w4 W → W.cell? ⟨A, 1, none⟩ = some (.int .i64 t) := fun W hk => (hS.out W (ks3.out.trans (hk.mono (by simp)))).1
          clear hS ks0 ks2 ks3 hM3 hk3 hk4 qa qd hbA hB1 hxB hxD hkw kd1 e_addE
          obtain ⟨len4, hlen4⟩ : ∃ n, P4.length = n := ⟨_, rfl⟩
          have few4 := hB4.few
          obtain ⟨ra, rc, hrow4⟩ := hB4.row
          have qg := bt_get t t0 t1 w4 hB4
          have qrg := fun W hk => bt_rget t W (hB4.kept0 (B := W) hk)
          have ql := fun W hk => bt_len W (hB4.kept0 (B := W) hk)
          have qf := fun W hk => bt_full W (hB4.kept0 (B := W) hk)
          have qt := fun W hk => bt_tickets W (hB4.kept0 (B := W) hk)
          have qrt := fun W hk => bt_rtickets W (hB4.kept0 (B := W) hk)
          rw [hlen4] at few4
          simp only [hlen4] at ql qf hrow4
          have htl : (tks P4).length ≤ 9223372036854775807 := by simp [tks]; omega
          generalize (look P4 t).isSome = z at *
          generalize ((look P4 t).map Qv.rq).getD rq0 = rq at *
          generalize tks P4 = T4 at *
          have c10 := cA w4 (Kept.refl _ _)
          clear hlen4
          replace hB4 : Hid (Bt w4 w2.heap.size (w.heap.size + 1) w.heap.size (w.heap.size + 2) most P4) := hB4
          go_upto_region 22 with (first
            | (go_at_call 13; refine qg.mono ?_; rintro e w5 ⟨gx, rfl, hgx, hgA, hk5⟩; have kx := kept_alloc [] w5 (.cells #[.int .i64 gx.k, .int .i64 gx.o, .int .i64 gx.l, .slice gx.sa gx.len gx.cap] 35); have bx := blk_new w5 35 #[.int .i64 gx.k, .int .i64 gx.o, .int .i64 gx.l, .slice gx.sa gx.len gx.cap]; have cx := cA _ (hk5.trans kx); have qr5 := qrg _ (hk5.trans kx); unfold Qv.val; replace hgx : Hid (gx.rq = rq) := hgx)
            | (go_at_call 14; refine qr5.mono ?_; rintro e w6 ⟨gy, rfl, hgy, hgB, hk6⟩; replace hgy : Hid (gy.rq = rq) := hgy; unfold Qv.val))
          have ky := kept_alloc [] w6 (.cells #[.int .i64 gy.k, .int .i64 gy.o, .int .i64 gy.l, .slice gy.sa gy.len gy.cap] 35)
          have by' := blk_new w6 35 #[.int .i64 gy.k, .int .i64 gy.o, .int .i64 gy.l, .slice gy.sa gy.len gy.cap]
          have hk47 := ((hk5.trans kx).trans hk6).trans ky
          have bx7 := (bx.kept hk6 (by simp)).kept ky (by simp)
          have gx7 := ((hgA.kept (Nat.le_refl _) kx (by simp)).kept (Nat.le_trans (Nat.le_refl _) kx.size) hk6 (by simp)).kept (Nat.le_trans kx.size hk6.size) ky (by simp)
          have gy7 := hgB.kept (Nat.le_refl _) ky (by simp)
          have sx7 : w5.heap.size ≤ w6.heap.size := Nat.le_trans kx.size hk6.size
          have sy7 := ky.size
          obtain ⟨W7, hW7⟩ : ∃ W7, w6.alloc (.cells #[.int .i64 gy.k, .int .i64 gy.o, .int .i64 gy.l, .slice gy.sa gy.len gy.cap] 35) = W7 := ⟨_, rfl⟩
          rw [hW7] at hk47 bx7 gx7 gy7 by' sy7 ⊢
          have qal := fun W (hk : Kept [] W7 W) => alike_any gx gy 0 w5.heap.size 0 w6.heap.size W (gx7.kept (by omega) hk (by simp)) (Nat.le_trans (by omega) hk.size) (gy7.kept (by omega) hk (by simp)) (Nat.le_trans (by omega) hk.size) (hgx.out.trans hgy.out.symm)
          have hS : Hid (∀ W, Kept [] W7 W → (W.cell? ⟨w5.heap.size, 0, none⟩ = some (.int .i64 gx.k) ∧ W.cell? ⟨w5.heap.size, 1, none⟩ = some (.int .i64 gx.o) ∧ W.cell? ⟨w5.heap.size, 2, none⟩ = some (.int .i64 gx.l) ∧ W.cell? ⟨w5.heap.size, 3, none⟩ = some (.slice gx.sa gx.len gx.cap)) ∧ (W.cell? ⟨w6.heap.size, 0, none⟩ = some (.int .i64 gy.k) ∧ W.cell? ⟨w6.heap.size, 1, none⟩ = some (.int .i64 gy.o) ∧ W.cell? ⟨w6.heap.size, 2, none⟩ = some (.int .i64 gy.l) ∧ W.cell? ⟨w6.heap.size, 3, none⟩ = some (.slice gy.sa gy.len gy.cap)) ∧ W.cell? ⟨w.heap.size + 2, 0, none⟩ = some (.slice ra len4 rc)) := fun W hk => ⟨load_req (bx7.kept hk (by simp)), load_req (by'.kept hk (by simp)), hrow4 W (hk47.trans hk)⟩
          have hkD := kept_drew [] W7
          unfold Qv.val at qal
          clear hW7 bx by' bx7 gx7 gy7 hgA hgB kx ky hk6 cx cA c10 qg qr5 qrg hrow4 sx7 sy7
          go_region_held3 (fun W => (W.cell? ⟨w5.heap.size, 0, none⟩ = some (.int .i64 gx.k) ∧ W.cell? ⟨w5.heap.size, 1, none⟩ = some (.int .i64 gx.o) ∧ W.cell? ⟨w5.heap.size, 2, none⟩ = some (.int .i64 gx.l) ∧ W.cell? ⟨w5.heap.size, 3, none⟩ = some (.slice gx.sa gx.len gx.cap)) ∧ (W.cell? ⟨w6.heap.size, 0, none⟩ = some (.int .i64 gy.k) ∧ W.cell? ⟨w6.heap.size, 1, none⟩ = some (.int .i64 gy.o) ∧ W.cell? ⟨w6.heap.size, 2, none⟩ = some (.int .i64 gy.l) ∧ W.cell? ⟨w6.heap.size, 3, none⟩ = some (.slice gy.sa gy.len gy.cap)) ∧ W.cell? ⟨w.heap.size + 2, 0, none⟩ = some (.slice ra len4 rc)) (exact hS.out _ hkD) (first
            | (go_at_call 15; refine (qal _ hkD).mono ?_; rintro e w8 ⟨rfl, hk8⟩; replace hkD := hkD.trans hk8)
            | (go_at_call 16; refine (ql _ (hk47.trans hkD)).mono ?_; rintro e w9 ⟨rfl, hk9⟩; replace hkD := hkD.trans hk9)
            | (go_at_call 17; refine (qf _ (hk47.trans hkD)).mono ?_; rintro e w10 ⟨rfl, hk10⟩; replace hkD := hkD.trans hk10)
            | (go_at_call 19; refine (qt _ (hk47.trans hkD)).mono ?_; rintro e w11 ⟨v1, rfl, hv1, hk11⟩; replace hkD := hkD.trans hk11)
            | (go_at_call 20; refine (qrt _ (hk47.trans hkD)).mono ?_; rintro e w12 ⟨v2, rfl, hv2, hk12⟩; replace hkD := hkD.trans hk12; have hv1' := hv1.kept hk12 (by simp))
            | (go_at_call 18; refine (Bits.ints_any v1 v2 T4 _ htl hv1'.ints hv2.ints).mono ?_; rintro e w13 ⟨rfl, nn, rfl⟩; replace hkD := hkD.trans (kept_drewN [] _ nn)))
          go_wp2_with fail
          go_roundw
          case rel => exact ⟨j + 1, by omega, by go_num, ⟨P4, hB4.out.kept0 (hk47.trans hkD)⟩, hk04.trans (hk47.trans hkD)⟩
          case measure => simpa [RowKit.intOf] using hm1.out
        · have e0 : (kd == 0) = false := by simpa using hk0
          clear hk0
          by_cases hk1 : kd = 1
          · subst hk1
            go_upto_region 18 with (fail)
            rw [hA.out]
            obtain ⟨W1, hW1⟩ : ∃ W1, wr.alloc (.cells #[.int .i64 1, .int .i64 t, .int .i64 x.k, .int .i64 x.o, .int .i64 x.l, .slice x.sa x.len x.cap] 37) = W1 := ⟨_, rfl⟩
            rw [hW1] at hbA hB1 hxB hkw ⊢
            clear hW1 kA y0 y1 y2 y3 y4 y5
            have kd1 := kept_drew [] W1
            have hxD : Hid (x.At 0 w.heap.size W1.drew) := hxB.kept hkw.size kd1 (by simp)
            have hS : Hid (∀ W, Kept [w.heap.size, w.heap.size + 2] W1 W → W.cell? ⟨A, 1, none⟩ = some (.int .i64 t) ∧ W.cell? ⟨A, 2, none⟩ = some (.int .i64 x.k) ∧ W.cell? ⟨A, 3, none⟩ = some (.int .i64 x.o) ∧ W.cell? ⟨A, 4, none⟩ = some (.int .i64 x.l) ∧ W.cell? ⟨A, 5, none⟩ = some (.slice x.sa x.len x.cap)) := fun W hk =>
              have g := hbA.kept hk (by simp; omega)
              ⟨g.cell 1, g.cell 2, g.cell 3, g.cell 4, g.cell 5⟩
            have ks0 : Hid (Kept [w.heap.size, w.heap.size + 2] W1 W1.drew) := kept_drew _ _
            have qa := bt_rem t t0 t1 W1.drew (hB1.kept0 kd1)
            obtain ⟨E, e_addE⟩ : ∃ E, (look P t).isSome = E := ⟨_, rfl⟩
            rw [e_addE] at qa
            replace e_addE : Hid _ := e_addE
            go_region_held3 (fun W => W.cell? ⟨A, 1, none⟩ = some (.int .i64 t) ∧ W.cell? ⟨A, 2, none⟩ = some (.int .i64 x.k) ∧ W.cell? ⟨A, 3, none⟩ = some (.int .i64 x.o) ∧ W.cell? ⟨A, 4, none⟩ = some (.int .i64 x.l) ∧ W.cell? ⟨A, 5, none⟩ = some (.slice x.sa x.len x.cap)) (first
              | exact hS.out _ ks0.out
              | exact hS.out _ ks2.out
              | exact hS.out _ ks3.out) (first
              | (go_at_call 11; refine qa.mono ?_; rintro e w3 ⟨rfl, hM3, hk3⟩; have ks2 : Hid (Kept [w.heap.size, w.heap.size + 2] W1 w3) := ks0.out.trans (hk3.mono (by simp)); have qd := mid_rem t w3 hM3; rw [e_addE.out] at qd; replace hk3 : Hid _ := hk3)
              | (go_at_call 12; refine qd.mono ?_; rintro e w4 ⟨rfl, ⟨P4, hB4⟩, hk4⟩; have ks3 : Hid (Kept [w.heap.size, w.heap.size + 2] W1 w4) := ks2.out.trans (hk4.mono (by simp)); replace hk4 : Hid _ := hk4))
            have hk04 : Kept [] w w4 := ⟨ks3.out.os.trans hkw.os, ks3.out.tape.trans hkw.tape, ks3.out.output.trans hkw.output, Nat.le_trans hkw.size ks3.out.size, fun i hi _ => (ks3.out.block i (Nat.lt_of_lt_of_le hi hkw.size) (by simp; omega)).trans (hkw.block i hi (by simp))⟩
            have cA : ∀ W, Kept [] w4 W → W.cell? ⟨A, 1, none⟩ = some (.int .i64 t) := fun W hk => (hS.out W (ks3.out.trans (hk.mono (by simp)))).1
            clear hS ks0 ks2 ks3 hM3 hk3 hk4 qa qd hbA hB1 hxB hxD hkw kd1 e_addE
            obtain ⟨len4, hlen4⟩ : ∃ n, P4.length = n := ⟨_, rfl⟩
            have few4 := hB4.few
            obtain ⟨ra, rc, hrow4⟩ := hB4.row
            have qg := bt_get t t0 t1 w4 hB4
            have qrg := fun W hk => bt_rget t W (hB4.kept0 (B := W) hk)
            have ql := fun W hk => bt_len W (hB4.kept0 (B := W) hk)
            have qf := fun W hk => bt_full W (hB4.kept0 (B := W) hk)
            have qt := fun W hk => bt_tickets W (hB4.kept0 (B := W) hk)
            have qrt := fun W hk => bt_rtickets W (hB4.kept0 (B := W) hk)
            rw [hlen4] at few4
            simp only [hlen4] at ql qf hrow4
            have htl : (tks P4).length ≤ 9223372036854775807 := by simp [tks]; omega
            generalize (look P4 t).isSome = z at *
            generalize ((look P4 t).map Qv.rq).getD rq0 = rq at *
            generalize tks P4 = T4 at *
            have c10 := cA w4 (Kept.refl _ _)
            clear hlen4
            replace hB4 : Hid (Bt w4 w2.heap.size (w.heap.size + 1) w.heap.size (w.heap.size + 2) most P4) := hB4
            go_upto_region 22 with (first
              | (go_at_call 13; refine qg.mono ?_; rintro e w5 ⟨gx, rfl, hgx, hgA, hk5⟩; have kx := kept_alloc [] w5 (.cells #[.int .i64 gx.k, .int .i64 gx.o, .int .i64 gx.l, .slice gx.sa gx.len gx.cap] 35); have bx := blk_new w5 35 #[.int .i64 gx.k, .int .i64 gx.o, .int .i64 gx.l, .slice gx.sa gx.len gx.cap]; have cx := cA _ (hk5.trans kx); have qr5 := qrg _ (hk5.trans kx); unfold Qv.val; replace hgx : Hid (gx.rq = rq) := hgx)
              | (go_at_call 14; refine qr5.mono ?_; rintro e w6 ⟨gy, rfl, hgy, hgB, hk6⟩; replace hgy : Hid (gy.rq = rq) := hgy; unfold Qv.val))
            have ky := kept_alloc [] w6 (.cells #[.int .i64 gy.k, .int .i64 gy.o, .int .i64 gy.l, .slice gy.sa gy.len gy.cap] 35)
            have by' := blk_new w6 35 #[.int .i64 gy.k, .int .i64 gy.o, .int .i64 gy.l, .slice gy.sa gy.len gy.cap]
            have hk47 := ((hk5.trans kx).trans hk6).trans ky
            have bx7 := (bx.kept hk6 (by simp)).kept ky (by simp)
            have gx7 := ((hgA.kept (Nat.le_refl _) kx (by simp)).kept (Nat.le_trans (Nat.le_refl _) kx.size) hk6 (by simp)).kept (Nat.le_trans kx.size hk6.size) ky (by simp)
            have gy7 := hgB.kept (Nat.le_refl _) ky (by simp)
            have sx7 : w5.heap.size ≤ w6.heap.size := Nat.le_trans kx.size hk6.size
            have sy7 := ky.size
            obtain ⟨W7, hW7⟩ : ∃ W7, w6.alloc (.cells #[.int .i64 gy.k, .int .i64 gy.o, .int .i64 gy.l, .slice gy.sa gy.len gy.cap] 35) = W7 := ⟨_, rfl⟩
            rw [hW7] at hk47 bx7 gx7 gy7 by' sy7 ⊢
            have qal := fun W (hk : Kept [] W7 W) => alike_any gx gy 0 w5.heap.size 0 w6.heap.size W (gx7.kept (by omega) hk (by simp)) (Nat.le_trans (by omega) hk.size) (gy7.kept (by omega) hk (by simp)) (Nat.le_trans (by omega) hk.size) (hgx.out.trans hgy.out.symm)
            have hS : Hid (∀ W, Kept [] W7 W → (W.cell? ⟨w5.heap.size, 0, none⟩ = some (.int .i64 gx.k) ∧ W.cell? ⟨w5.heap.size, 1, none⟩ = some (.int .i64 gx.o) ∧ W.cell? ⟨w5.heap.size, 2, none⟩ = some (.int .i64 gx.l) ∧ W.cell? ⟨w5.heap.size, 3, none⟩ = some (.slice gx.sa gx.len gx.cap)) ∧ (W.cell? ⟨w6.heap.size, 0, none⟩ = some (.int .i64 gy.k) ∧ W.cell? ⟨w6.heap.size, 1, none⟩ = some (.int .i64 gy.o) ∧ W.cell? ⟨w6.heap.size, 2, none⟩ = some (.int .i64 gy.l) ∧ W.cell? ⟨w6.heap.size, 3, none⟩ = some (.slice gy.sa gy.len gy.cap)) ∧ W.cell? ⟨w.heap.size + 2, 0, none⟩ = some (.slice ra len4 rc)) := fun W hk => ⟨load_req (bx7.kept hk (by simp)), load_req (by'.kept hk (by simp)), hrow4 W (hk47.trans hk)⟩
            have hkD := kept_drew [] W7
            unfold Qv.val at qal
            clear hW7 bx by' bx7 gx7 gy7 hgA hgB kx ky hk6 cx cA c10 qg qr5 qrg hrow4 sx7 sy7
            go_region_held3 (fun W => (W.cell? ⟨w5.heap.size, 0, none⟩ = some (.int .i64 gx.k) ∧ W.cell? ⟨w5.heap.size, 1, none⟩ = some (.int .i64 gx.o) ∧ W.cell? ⟨w5.heap.size, 2, none⟩ = some (.int .i64 gx.l) ∧ W.cell? ⟨w5.heap.size, 3, none⟩ = some (.slice gx.sa gx.len gx.cap)) ∧ (W.cell? ⟨w6.heap.size, 0, none⟩ = some (.int .i64 gy.k) ∧ W.cell? ⟨w6.heap.size, 1, none⟩ = some (.int .i64 gy.o) ∧ W.cell? ⟨w6.heap.size, 2, none⟩ = some (.int .i64 gy.l) ∧ W.cell? ⟨w6.heap.size, 3, none⟩ = some (.slice gy.sa gy.len gy.cap)) ∧ W.cell? ⟨w.heap.size + 2, 0, none⟩ = some (.slice ra len4 rc)) (exact hS.out _ hkD) (first
              | (go_at_call 15; refine (qal _ hkD).mono ?_; rintro e w8 ⟨rfl, hk8⟩; replace hkD := hkD.trans hk8)
              | (go_at_call 16; refine (ql _ (hk47.trans hkD)).mono ?_; rintro e w9 ⟨rfl, hk9⟩; replace hkD := hkD.trans hk9)
              | (go_at_call 17; refine (qf _ (hk47.trans hkD)).mono ?_; rintro e w10 ⟨rfl, hk10⟩; replace hkD := hkD.trans hk10)
              | (go_at_call 19; refine (qt _ (hk47.trans hkD)).mono ?_; rintro e w11 ⟨v1, rfl, hv1, hk11⟩; replace hkD := hkD.trans hk11)
              | (go_at_call 20; refine (qrt _ (hk47.trans hkD)).mono ?_; rintro e w12 ⟨v2, rfl, hv2, hk12⟩; replace hkD := hkD.trans hk12; have hv1' := hv1.kept hk12 (by simp))
              | (go_at_call 18; refine (Bits.ints_any v1 v2 T4 _ htl hv1'.ints hv2.ints).mono ?_; rintro e w13 ⟨rfl, nn, rfl⟩; replace hkD := hkD.trans (kept_drewN [] _ nn)))
            go_wp2_with fail
            go_roundw
            case rel => exact ⟨j + 1, by omega, by go_num, ⟨P4, hB4.out.kept0 (hk47.trans hkD)⟩, hk04.trans (hk47.trans hkD)⟩
            case measure => simpa [RowKit.intOf] using hm1.out
          · have e1 : (kd == 1) = false := by simpa using hk1
            clear hk1
            go_upto_region 20 with (fail)
            rw [hA.out]
            obtain ⟨w4, hw4⟩ : ∃ w4, wr.alloc (.cells #[.int .i64 kd, .int .i64 t, .int .i64 x.k, .int .i64 x.o, .int .i64 x.l, .slice x.sa x.len x.cap] 37) = w4 := ⟨_, rfl⟩
            rw [hw4] at hbA hB1 hkw ⊢
            have hk04 := hkw
            have cA : ∀ W, Kept [] w4 W → W.cell? ⟨A, 1, none⟩ = some (.int .i64 t) := fun W hk => ((hbA.kept hk (by simp)).cell 1).trans rfl
            obtain ⟨P4, hB4⟩ : ∃ P4, Bt w4 w2.heap.size (w.heap.size + 1) w.heap.size (w.heap.size + 2) most P4 := ⟨P, hB1⟩
            clear hw4 kA y0 y1 y2 y3 y4 y5 hbA hB1 hxB hkw
            obtain ⟨len4, hlen4⟩ : ∃ n, P4.length = n := ⟨_, rfl⟩
            have few4 := hB4.few
            obtain ⟨ra, rc, hrow4⟩ := hB4.row
            have qg := bt_get t t0 t1 w4 hB4
            have qrg := fun W hk => bt_rget t W (hB4.kept0 (B := W) hk)
            have ql := fun W hk => bt_len W (hB4.kept0 (B := W) hk)
            have qf := fun W hk => bt_full W (hB4.kept0 (B := W) hk)
            have qt := fun W hk => bt_tickets W (hB4.kept0 (B := W) hk)
            have qrt := fun W hk => bt_rtickets W (hB4.kept0 (B := W) hk)
            rw [hlen4] at few4
            simp only [hlen4] at ql qf hrow4
            have htl : (tks P4).length ≤ 9223372036854775807 := by simp [tks]; omega
            generalize (look P4 t).isSome = z at *
            generalize ((look P4 t).map Qv.rq).getD rq0 = rq at *
            generalize tks P4 = T4 at *
            have c10 := cA w4 (Kept.refl _ _)
            clear hlen4
            replace hB4 : Hid (Bt w4 w2.heap.size (w.heap.size + 1) w.heap.size (w.heap.size + 2) most P4) := hB4
            go_upto_region 22 with (first
              | (go_at_call 13; refine qg.mono ?_; rintro e w5 ⟨gx, rfl, hgx, hgA, hk5⟩; have kx := kept_alloc [] w5 (.cells #[.int .i64 gx.k, .int .i64 gx.o, .int .i64 gx.l, .slice gx.sa gx.len gx.cap] 35); have bx := blk_new w5 35 #[.int .i64 gx.k, .int .i64 gx.o, .int .i64 gx.l, .slice gx.sa gx.len gx.cap]; have cx := cA _ (hk5.trans kx); have qr5 := qrg _ (hk5.trans kx); unfold Qv.val; replace hgx : Hid (gx.rq = rq) := hgx)
              | (go_at_call 14; refine qr5.mono ?_; rintro e w6 ⟨gy, rfl, hgy, hgB, hk6⟩; replace hgy : Hid (gy.rq = rq) := hgy; unfold Qv.val))
            have ky := kept_alloc [] w6 (.cells #[.int .i64 gy.k, .int .i64 gy.o, .int .i64 gy.l, .slice gy.sa gy.len gy.cap] 35)
            have by' := blk_new w6 35 #[.int .i64 gy.k, .int .i64 gy.o, .int .i64 gy.l, .slice gy.sa gy.len gy.cap]
            have hk47 := ((hk5.trans kx).trans hk6).trans ky
            have bx7 := (bx.kept hk6 (by simp)).kept ky (by simp)
            have gx7 := ((hgA.kept (Nat.le_refl _) kx (by simp)).kept (Nat.le_trans (Nat.le_refl _) kx.size) hk6 (by simp)).kept (Nat.le_trans kx.size hk6.size) ky (by simp)
            have gy7 := hgB.kept (Nat.le_refl _) ky (by simp)
            have sx7 : w5.heap.size ≤ w6.heap.size := Nat.le_trans kx.size hk6.size
            have sy7 := ky.size
            obtain ⟨W7, hW7⟩ : ∃ W7, w6.alloc (.cells #[.int .i64 gy.k, .int .i64 gy.o, .int .i64 gy.l, .slice gy.sa gy.len gy.cap] 35) = W7 := ⟨_, rfl⟩
            rw [hW7] at hk47 bx7 gx7 gy7 by' sy7 ⊢
            have qal := fun W (hk : Kept [] W7 W) => alike_any gx gy 0 w5.heap.size 0 w6.heap.size W (gx7.kept (by omega) hk (by simp)) (Nat.le_trans (by omega) hk.size) (gy7.kept (by omega) hk (by simp)) (Nat.le_trans (by omega) hk.size) (hgx.out.trans hgy.out.symm)
            have hS : Hid (∀ W, Kept [] W7 W → (W.cell? ⟨w5.heap.size, 0, none⟩ = some (.int .i64 gx.k) ∧ W.cell? ⟨w5.heap.size, 1, none⟩ = some (.int .i64 gx.o) ∧ W.cell? ⟨w5.heap.size, 2, none⟩ = some (.int .i64 gx.l) ∧ W.cell? ⟨w5.heap.size, 3, none⟩ = some (.slice gx.sa gx.len gx.cap)) ∧ (W.cell? ⟨w6.heap.size, 0, none⟩ = some (.int .i64 gy.k) ∧ W.cell? ⟨w6.heap.size, 1, none⟩ = some (.int .i64 gy.o) ∧ W.cell? ⟨w6.heap.size, 2, none⟩ = some (.int .i64 gy.l) ∧ W.cell? ⟨w6.heap.size, 3, none⟩ = some (.slice gy.sa gy.len gy.cap)) ∧ W.cell? ⟨w.heap.size + 2, 0, none⟩ = some (.slice ra len4 rc)) := fun W hk => ⟨load_req (bx7.kept hk (by simp)), load_req (by'.kept hk (by simp)), hrow4 W (hk47.trans hk)⟩
            have hkD := kept_drew [] W7
            unfold Qv.val at qal
            clear hW7 bx by' bx7 gx7 gy7 hgA hgB kx ky hk6 cx cA c10 qg qr5 qrg hrow4 sx7 sy7
            go_region_held3 (fun W => (W.cell? ⟨w5.heap.size, 0, none⟩ = some (.int .i64 gx.k) ∧ W.cell? ⟨w5.heap.size, 1, none⟩ = some (.int .i64 gx.o) ∧ W.cell? ⟨w5.heap.size, 2, none⟩ = some (.int .i64 gx.l) ∧ W.cell? ⟨w5.heap.size, 3, none⟩ = some (.slice gx.sa gx.len gx.cap)) ∧ (W.cell? ⟨w6.heap.size, 0, none⟩ = some (.int .i64 gy.k) ∧ W.cell? ⟨w6.heap.size, 1, none⟩ = some (.int .i64 gy.o) ∧ W.cell? ⟨w6.heap.size, 2, none⟩ = some (.int .i64 gy.l) ∧ W.cell? ⟨w6.heap.size, 3, none⟩ = some (.slice gy.sa gy.len gy.cap)) ∧ W.cell? ⟨w.heap.size + 2, 0, none⟩ = some (.slice ra len4 rc)) (exact hS.out _ hkD) (first
              | (go_at_call 15; refine (qal _ hkD).mono ?_; rintro e w8 ⟨rfl, hk8⟩; replace hkD := hkD.trans hk8)
              | (go_at_call 16; refine (ql _ (hk47.trans hkD)).mono ?_; rintro e w9 ⟨rfl, hk9⟩; replace hkD := hkD.trans hk9)
              | (go_at_call 17; refine (qf _ (hk47.trans hkD)).mono ?_; rintro e w10 ⟨rfl, hk10⟩; replace hkD := hkD.trans hk10)
              | (go_at_call 19; refine (qt _ (hk47.trans hkD)).mono ?_; rintro e w11 ⟨v1, rfl, hv1, hk11⟩; replace hkD := hkD.trans hk11)
              | (go_at_call 20; refine (qrt _ (hk47.trans hkD)).mono ?_; rintro e w12 ⟨v2, rfl, hv2, hk12⟩; replace hkD := hkD.trans hk12; have hv1' := hv1.kept hk12 (by simp))
              | (go_at_call 18; refine (Bits.ints_any v1 v2 T4 _ htl hv1'.ints hv2.ints).mono ?_; rintro e w13 ⟨rfl, nn, rfl⟩; replace hkD := hkD.trans (kept_drewN [] _ nn)))
            go_wp2_with fail
            go_roundw
            case rel => exact ⟨j + 1, by omega, by go_num, ⟨P4, hB4.out.kept0 (hk47.trans hkD)⟩, hk04.trans (hk47.trans hkD)⟩
            case measure => simpa [RowKit.intOf] using hm1.out
    · obtain rfl : j = len := by omega
      have q := lives_any wr
      have i1 : ¬ ((j : Int) < (j : Int)) := by omega
      clear hacts
      go_wp2_with (go_at_call 6; refine q.mono ?_; rintro e w3 ⟨rfl, hk3⟩)
      go_ret
      exact ⟨rfl, hk.trans hk3⟩
end Go.Proofs.Ytkidaofoljmdoaa.Table
