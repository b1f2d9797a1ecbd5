/-
  The walk of SuperActs.
-/
import Derived.Test.YtphkpplbihnmiaaSuperC
namespace Go.Proofs.Ytphkpplbihnmiaa
open Go.RowKit Go.Maps Go.Shelf
open Math

set_option maxRecDepth 100000 in
set_option maxHeartbeats 1000000 in
/-- SuperActs, of what is let go -/
theorem acts_early (n : Int) (a0 : Option Addr) (len cap : Nat) (hlen : len ≤ 9223372036854775807) (w : World) (hno : n < 1 ∨ 20 < n ∨ 50 < len) :
    Calls Try.prog 3 #[.int .i64 n, .slice a0 len cap] w fun e w' => e = .returned (.bool true) ∧ Kept [] w w' := by
  have q3 := lives_any
  rcases (show n < 1 ∨ (¬ (n < 1) ∧ 20 < n) ∨ (¬ (n < 1) ∧ ¬ (20 < n) ∧ (50 : Int) < (len : Int)) by omega) with g1 | ⟨g1, g2⟩ | ⟨g1, g2, g3⟩
  all_goals clear hno
  all_goals
    go_enter Try.func3, Try.ntmps3
    go_wp2_with (first
      | (go_at_call 6; refine (q3 _).mono ?_; rintro e w3 ⟨rfl, hk3⟩))
    go_ret
    exact ⟨rfl, hk3⟩

set_option maxRecDepth 100000 in
set_option maxHeartbeats 8000000 in
/-- SuperActs, of a play -/
theorem acts_play (N : Nat) (hN1 : 1 ≤ N) (hN2 : N ≤ 20) (a0 : Option Addr) (len cap0 : Nat) (acts : List Sa) (hlen : len ≤ 50) (w : World) (hacts : ActsAt w.heap.size w a0 len cap0 acts) :
    Calls Try.prog 3 #[.int .i64 (N : Int), .slice a0 len cap0] w fun e w' => e = .returned (.bool true) ∧ Kept [] w w' := by
  have q7 := lives_any
  have q8 := new_any N hN1 (by omega) w
  have q9 := fun W => refNew_any N hN1 (by omega) W
  have g0 : ¬ ((N : Int) < 1) := by omega
  have g1 : ¬ (20 < (N : Int)) := by omega
  have g2 : ¬ ((50 : Int) < (len : Int)) := by omega
  go_enter Try.func3, Try.ntmps3
  go_wp2_with (first
    | (go_at_call 7; refine q8.mono ?_; rintro e w4 ⟨rfl, hD, hk4⟩)
    | (go_at_call 8; refine (q9 _).mono ?_; rintro e w5 ⟨g, cap, rfl, hR, hg, hk5⟩; have hD5 := hD.kept hk5 (by simp) (by simp) (by simp)))
  have hlt := hD.lt
  have hs4 := hk4.size
  have hK5 := hk4.trans hk5
  have hBoth : Both w5 (w.heap.size + 2) w.heap.size (w.heap.size + 1) w4.heap.size g cap (made N) := ⟨hD5, hR, ⟨by omega, by omega, by omega, by omega, by omega, by omega⟩⟩
  obtain ⟨r, hr⟩ : ∃ r, w4.heap.size = r := ⟨_, rfl⟩
  obtain ⟨d, hd⟩ : ∃ d, w.heap.size + 2 = d := ⟨_, rfl⟩
  obtain ⟨b1, hb1⟩ : ∃ b, w.heap.size = b := ⟨_, rfl⟩
  obtain ⟨b2, hb2⟩ : ∃ b, w.heap.size + 1 = b := ⟨_, rfl⟩
  rw [hr, hd, hb2] at hBoth
  have hBoth' : Both w5 d b1 b2 r g cap (made N) := hb1 ▸ hBoth
  have hdl : w.heap.size ≤ d := by omega
  have hbl1 : w.heap.size ≤ b1 := by omega
  have hbl2 : w.heap.size ≤ b2 := by omega
  have hrl : w.heap.size ≤ r := by omega
  have hgl : w.heap.size ≤ g := by omega
  rw [hr, hd]
  clear hr hd hb1 hb2 hD hD5 hR hk4 hk5 q8 q9 hlt hs4 hg hBoth
  have ho0 : (made N).ops ≤ 0 := Nat.le_refl _
  generalize made N = s0 at *
  go_loopw [39] (fun i wr => ∃ (j : Nat) (s : Dk), j ≤ len ∧ i = .int .i64 j ∧ Both wr d b1 b2 r g cap s ∧ s.ops ≤ 2 * j ∧ Kept [] w wr) (fun i _ => len - (RowKit.intOf i).toNat)
  case atStart => exact ⟨0, s0, by omega, rfl, hBoth', ho0, hK5⟩
  case round =>
    obtain ⟨j, s, hj, rfl, hB, ho, hK⟩ := hrel
    clear hBoth' hK5 ho0
    by_cases hlt : j < len
    · obtain ⟨hal, haok, hnil | ⟨blk, off, rfl, hcap, hblk, hcs⟩⟩ := hacts.below (hK.below (Nat.le_refl _) (by simp))
      · rw [hnil] at hal
        simp at hal
        omega
      obtain ⟨a, ha⟩ : ∃ a, acts[j]? = some a := ⟨_, List.getElem?_eq_getElem (by rw [hal]; exact hlt)⟩
      have hok := haok a (List.mem_of_getElem? ha)
      have hr : Hid (wr.rangeAt blk (off + j * 19) a.cells) := hcs j a ha
      have kk4 : (j : Int) < (len : Int) := by omega
      have kcap : (j : Int) < (cap0 : Int) := by omega
      have hm1 : Hid (len - (j + 1) < len - j) := by show _ < _; omega
      have hz0 : Blk (wr.alloc (.cells #[.int .i64 0, .int .i64 0, .int .u64 0, .int .u8 0, .int .u8 0, .int .u8 0, .int .u8 0, .int .u8 0, .int .u8 0, .int .u8 0, .int .u8 0, .int .u8 0, .int .u8 0, .int .u8 0, .int .u8 0, .int .u8 0, .int .u8 0, .int .u8 0, .int .u8 0] 35)) wr.heap.size 35 #[.int .i64 0, .int .i64 0, .int .u64 0, .int .u8 0, .int .u8 0, .int .u8 0, .int .u8 0, .int .u8 0, .int .u8 0, .int .u8 0, .int .u8 0, .int .u8 0, .int .u8 0, .int .u8 0, .int .u8 0, .int .u8 0, .int .u8 0, .int .u8 0, .int .u8 0] := blk_new wr 35 _
      have hsz : Hid (a.cells.length = 19) := a.cells_length hok
      have hltB := hB.lt
      have hops : s.ops ≤ 999998 := by omega
      have hops6 : s.ops ≤ 1000000 := by omega
      clear hcs hal haok hacts ha
      by_cases n0 : a.kind = 0
      · have q9 := fun W (h : DiskAt W d b1 b2 s) => next_any d b1 b2 s hops W h
        have q10 := fun W (h : RefAt W r g cap s) => refNext_any r g cap s hops W h
        have hs' := next_ops s
        generalize nextS s = s' at *
        generalize nextE s = ne at *
        generalize nextN s = nn at *
        have q17 := fun W (h : DiskAt W d b1 b2 s') => boot_any d b1 b2 s' W h
        have q18 := fun W (h : RefAt W r g cap s') => refBoot_any r g cap s' W h
        generalize boot s' = bo at *
        go_wp2_with (first
          | refine wpList_load_mid rfl 35 _ rfl blk (off + j * 19) rfl a.cells _ hr.out Try.underlying35 rfl (by rw [hsz.out]; exact Try.size35) ?_
          | (refine wpList_store_blk rfl 35 _ _ rfl wr.heap.size 35 _ a.cells rfl rfl hz0 hsz.out (by rw [hsz.out]; exact Try.size35) a.one ?_; intro w7 hB7 hk7 hz7; have hk07 : Kept [] wr w7 := (kept_alloc [] wr _).young hk7 (Nat.le_refl _); have hBo7 := hB.kept hk07; obtain ⟨c0, c1, c2, -⟩ := Sa.range hB7; rw [n0] at c0)
          | (go_at_call 9; refine (q9 _ hBo7.disk).mono ?_; rintro e w8 ⟨rfl, hD8, hk8⟩)
          | (go_at_call 10; refine (q10 _ (hBo7.ref_kept hk8)).mono ?_; rintro e w9 ⟨rfl, hR9, hk9⟩; obtain ⟨hBo9, hkk9⟩ := hBo7.turned hD8 hk8 hR9 hk9)
          | (go_at_call 17; refine (q17 _ hBo9.disk).mono ?_; rintro e w10 ⟨rfl, hk10⟩; have hBo10 := hBo9.kept hk10)
          | (go_at_call 18; refine (q18 _ hBo10.ref).mono ?_; rintro e w11 ⟨rfl, hk11⟩; have hBo11 := hBo10.kept hk11))
        go_roundw
        case rel => exact ⟨j + 1, s', by omega, rfl, hBo11, by omega, (((hK.trans hk07).young5 hkk9 hdl hbl1 hbl2 hrl hgl).trans hk10).trans hk11⟩
        case measure => simpa [RowKit.intOf] using hm1.out
      by_cases n1 : a.kind = 1
      · have q11 := fun W (h : DiskAt W d b1 b2 s) => crash_any d b1 b2 s a.mask hok.mask_ W h
        have q12 := fun W (h : RefAt W r g cap s) => refCrash_any r g cap s a.mask hok.mask_ W h
        have hs' : (crashed s a.mask).ops = s.ops := rfl
        generalize crashed s a.mask = s' at *
        have q17 := fun W (h : DiskAt W d b1 b2 s') => boot_any d b1 b2 s' W h
        have q18 := fun W (h : RefAt W r g cap s') => refBoot_any r g cap s' W h
        generalize boot s' = bo at *
        go_wp2_with (first
          | refine wpList_load_mid rfl 35 _ rfl blk (off + j * 19) rfl a.cells _ hr.out Try.underlying35 rfl (by rw [hsz.out]; exact Try.size35) ?_
          | (refine wpList_store_blk rfl 35 _ _ rfl wr.heap.size 35 _ a.cells rfl rfl hz0 hsz.out (by rw [hsz.out]; exact Try.size35) a.one ?_; intro w7 hB7 hk7 hz7; have hk07 : Kept [] wr w7 := (kept_alloc [] wr _).young hk7 (Nat.le_refl _); have hBo7 := hB.kept hk07; obtain ⟨c0, c1, c2, -⟩ := Sa.range hB7; rw [n1] at c0)
          | (go_at_call 11; refine (q11 _ hBo7.disk).mono ?_; rintro e w8 ⟨rfl, hD8, hk8⟩; have hB8 := hB7.kept hk8 (by simp; omega); obtain ⟨-, -, c2', -⟩ := Sa.range hB8)
          | (go_at_call 12; refine (q12 _ (hBo7.ref_kept hk8)).mono ?_; rintro e w9 ⟨rfl, hR9, hk9⟩; obtain ⟨hBo9, hkk9⟩ := hBo7.turned hD8 hk8 hR9 hk9)
          | (go_at_call 17; refine (q17 _ hBo9.disk).mono ?_; rintro e w10 ⟨rfl, hk10⟩; have hBo10 := hBo9.kept hk10)
          | (go_at_call 18; refine (q18 _ hBo10.ref).mono ?_; rintro e w11 ⟨rfl, hk11⟩; have hBo11 := hBo10.kept hk11))
        go_roundw
        case rel => exact ⟨j + 1, s', by omega, rfl, hBo11, by omega, (((hK.trans hk07).young5 hkk9 hdl hbl1 hbl2 hrl hgl).trans hk10).trans hk11⟩
        case measure => simpa [RowKit.intOf] using hm1.out
      by_cases n2 : a.kind = 2
      · have q13 := fun W (h : DiskAt W d b1 b2 s) => fuse_any d b1 b2 s a.at_ hok.at_0 hok.at_1 W h
        have q14 := fun W (h : RefAt W r g cap s) => setFuse_any r g cap s a.at_ hok.at_0 hok.at_1 W h
        have hs' : (fused s a.at_).ops = s.ops := rfl
        generalize fused s a.at_ = s' at *
        have q17 := fun W (h : DiskAt W d b1 b2 s') => boot_any d b1 b2 s' W h
        have q18 := fun W (h : RefAt W r g cap s') => refBoot_any r g cap s' W h
        generalize boot s' = bo at *
        go_wp2_with (first
          | refine wpList_load_mid rfl 35 _ rfl blk (off + j * 19) rfl a.cells _ hr.out Try.underlying35 rfl (by rw [hsz.out]; exact Try.size35) ?_
          | (refine wpList_store_blk rfl 35 _ _ rfl wr.heap.size 35 _ a.cells rfl rfl hz0 hsz.out (by rw [hsz.out]; exact Try.size35) a.one ?_; intro w7 hB7 hk7 hz7; have hk07 : Kept [] wr w7 := (kept_alloc [] wr _).young hk7 (Nat.le_refl _); have hBo7 := hB.kept hk07; obtain ⟨c0, c1, c2, -⟩ := Sa.range hB7; rw [n2] at c0)
          | (go_at_call 13; refine (q13 _ hBo7.disk).mono ?_; rintro e w8 ⟨rfl, hD8, hk8', hz8⟩; replace hz8 : Hid _ := hz8; have hk8 : Kept [d, b1, b2] w7 w8 := hk8'.mono (by simp); have hB8 := hB7.kept hk8 (by simp; omega); obtain ⟨-, c1', -, -⟩ := Sa.range hB8)
          | (go_at_call 14; refine (q14 _ (hBo7.ref_kept hk8)).mono ?_; rintro e w9 ⟨rfl, hR9, hk9⟩; obtain ⟨hBo9, hkk9⟩ := hBo7.turned hD8 hk8 hR9 (hk9.mono (by simp)))
          | (go_at_call 17; refine (q17 _ hBo9.disk).mono ?_; rintro e w10 ⟨rfl, hk10⟩; have hBo10 := hBo9.kept hk10)
          | (go_at_call 18; refine (q18 _ hBo10.ref).mono ?_; rintro e w11 ⟨rfl, hk11⟩; have hBo11 := hBo10.kept hk11))
        go_roundw
        case rel => exact ⟨j + 1, s', by omega, rfl, hBo11, by omega, (((hK.trans hk07).young5 hkk9 hdl hbl1 hbl2 hrl hgl).trans hk10).trans hk11⟩
        case measure => simpa [RowKit.intOf] using hm1.out
      by_cases n3 : a.kind = 3
      · have q15 := fun W (h : DiskAt W d b1 b2 s) => write_any d b1 b2 s a.at_ a.s hok.s_ hops6 W h
        have q16 := fun W (h : RefAt W r g cap s) => refWrite_any r g cap s a.at_ a.s hok.s_ hops6 W h
        simp only [arr] at q15 q16
        have hs' := wrote_ops s a.at_ a.s
        generalize wroteS s a.at_ a.s = s' at *
        generalize wroteE s a.at_ = we at *
        have hl16 : Hid ((a.s.map enc).length = 16) := by show _ = _; rw [List.length_map]; exact hok.s_.1
        have q17 := fun W (h : DiskAt W d b1 b2 s') => boot_any d b1 b2 s' W h
        have q18 := fun W (h : RefAt W r g cap s') => refBoot_any r g cap s' W h
        generalize boot s' = bo at *
        go_wp2_with (first
          | refine wpList_load_mid rfl 35 _ rfl blk (off + j * 19) rfl a.cells _ hr.out Try.underlying35 rfl (by rw [hsz.out]; exact Try.size35) ?_
          | (refine wpList_store_blk rfl 35 _ _ rfl wr.heap.size 35 _ a.cells rfl rfl hz0 hsz.out (by rw [hsz.out]; exact Try.size35) a.one ?_; intro w7 hB7 hk7 hz7; have hk07 : Kept [] wr w7 := (kept_alloc [] wr _).young hk7 (Nat.le_refl _); have hBo7 := hB.kept hk07; obtain ⟨c0, c1, c2, -⟩ := Sa.range hB7; rw [n3] at c0; have c3 : Hid _ := (Sa.range hB7).2.2.2)
          | (refine wpList_load_mid rfl 33 _ rfl wr.heap.size 3 rfl (a.s.map enc) _ c3.out Try.underlying33 rfl (by rw [hl16.out]; exact Try.size33) ?_)
          | (go_at_call 15; refine (q15 _ hBo7.disk).mono ?_; rintro e w8 ⟨rfl, hD8, hk8⟩; have hB8 := hB7.kept hk8 (by simp; omega); obtain ⟨-, c1', -, -⟩ := Sa.range hB8; replace c3 : Hid _ := (Sa.range hB8).2.2.2)
          | (go_at_call 16; refine (q16 _ (hBo7.ref_kept hk8)).mono ?_; rintro e w9 ⟨rfl, hR9, hk9⟩; obtain ⟨hBo9, hkk9⟩ := hBo7.turned hD8 hk8 hR9 hk9)
          | (go_at_call 17; refine (q17 _ hBo9.disk).mono ?_; rintro e w10 ⟨rfl, hk10⟩; have hBo10 := hBo9.kept hk10)
          | (go_at_call 18; refine (q18 _ hBo10.ref).mono ?_; rintro e w11 ⟨rfl, hk11⟩; have hBo11 := hBo10.kept hk11))
        go_roundw
        case rel => exact ⟨j + 1, s', by omega, rfl, hBo11, by omega, (((hK.trans hk07).young5 hkk9 hdl hbl1 hbl2 hrl hgl).trans hk10).trans hk11⟩
        case measure => simpa [RowKit.intOf] using hm1.out
      · have z0 : (a.kind == 0) = false := by simpa using n0
        have z1 : (a.kind == 1) = false := by simpa using n1
        have z2 : (a.kind == 2) = false := by simpa using n2
        have z3 : (a.kind == 3) = false := by simpa using n3
        have q17 := fun W (h : DiskAt W d b1 b2 s) => boot_any d b1 b2 s W h
        have q18 := fun W (h : RefAt W r g cap s) => refBoot_any r g cap s W h
        generalize boot s = bo at *
        go_wp2_with (first
          | refine wpList_load_mid rfl 35 _ rfl blk (off + j * 19) rfl a.cells _ hr.out Try.underlying35 rfl (by rw [hsz.out]; exact Try.size35) ?_
          | (refine wpList_store_blk rfl 35 _ _ rfl wr.heap.size 35 _ a.cells rfl rfl hz0 hsz.out (by rw [hsz.out]; exact Try.size35) a.one ?_; intro w7 hB7 hk7 hz7; have hk07 : Kept [] wr w7 := (kept_alloc [] wr _).young hk7 (Nat.le_refl _); have hBo7 := hB.kept hk07; obtain ⟨c0, c1, c2, -⟩ := Sa.range hB7)
          | (go_at_call 17; refine (q17 _ hBo7.disk).mono ?_; rintro e w10 ⟨rfl, hk10⟩; have hBo10 := hBo7.kept hk10)
          | (go_at_call 18; refine (q18 _ hBo10.ref).mono ?_; rintro e w11 ⟨rfl, hk11⟩; have hBo11 := hBo10.kept hk11))
        go_roundw
        case rel => exact ⟨j + 1, s, by omega, rfl, hBo11, by omega, ((hK.trans hk07).trans hk10).trans hk11⟩
        case measure => simpa [RowKit.intOf] using hm1.out
    · obtain rfl : j = len := by omega
      clear hacts
      go_wp2_with (first
        | (go_at_call 6; refine (q7 _).mono ?_; rintro e w12 ⟨rfl, hk12⟩))
      go_ret
      exact ⟨rfl, hK.trans hk12⟩
end Go.Proofs.Ytphkpplbihnmiaa
