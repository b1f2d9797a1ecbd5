/-
  The walk of CopyingActs.
-/
import Derived.Test.YtcmfejgimnjbgaaGreatCpR
import Derived.Test.YtcmfejgimnjbgaaGreatCpE
import Derived.Deep.CutBlock
namespace Go.Proofs.YtcmfejgimnjbgaaGreat.Copying
open Go.RowKit Go.Maps Go.Shelf
open Math
open Pack (Mv Ms mv0 good)

set_option maxRecDepth 100000 in
set_option maxHeartbeats 1000000 in
/-- CopyingActs, of what is let go -/
theorem acts_early (n : Int) (a0 : Option Addr) (len cap : Nat) (hlen : len ≤ 9223372036854775807) (w : World) (hno : n < 1 ∨ 30 < n ∨ 40 < len) :
    Calls Tryz.prog 3 #[.int .i64 n, .slice a0 len cap] w fun e w' => e = .returned (.bool true) ∧ Kept [] w w' := by
  have q3 := lives_any
  rcases (show n < 1 ∨ (¬ (n < 1) ∧ 30 < n) ∨ (¬ (n < 1) ∧ ¬ (30 < n) ∧ (40 : Int) < (len : Int)) by omega) with g1 | ⟨g1, g2⟩ | ⟨g1, g2, g3⟩
  all_goals clear hno
  all_goals
    go_enter Tryz.func3, Tryz.ntmps3
    go_wp2_with (first
      | (go_at_call 6; refine (q3 _).mono ?_; rintro e w3 ⟨rfl, hk3⟩))
    go_ret
    exact ⟨rfl, hk3⟩
theorem told_ops (s : Dk) (e : Int) : (toldS s e).ops ≤ s.ops + 2 := by
  unfold toldS
  split
  · exact map_ops _ _
  · omega
set_option maxRecDepth 100000 in
/-- Two messages that are alike. -/
theorem same_of (x y : Mv) (lo hi lo' hi' : Nat) (W : World) (h : x.At lo hi W) (hh : hi ≤ W.heap.size) (hy : y.At lo' hi' W) (hyy : hi' ≤ W.heap.size) (e : x.ms = y.ms) :
    Calls Tryz.prog 11 #[x.val, y.val] W fun e w' => e = .returned (.bool true) ∧ Kept [] W w' := by
  have q := Pack.refSame_any x y lo hi lo' hi' W h hh hy hyy
  rw [Pack.sameB_eq.2 e] at q
  exact q

set_option maxRecDepth 100000 in
set_option maxHeartbeats 16000000 in
/-- CopyingActs, of a play -/
theorem acts_play (N : Nat) (hN1 : 1 ≤ N) (hN2 : N ≤ 30) (a0 : Option Addr) (len cap0 : Nat) (acts : List Ac) (hlen : len ≤ 40) (w : World) (hacts : AcsAt w.heap.size w a0 len cap0 acts) :
    Calls Tryz.prog 3 #[.int .i64 (N : Int), .slice a0 len cap0] w fun e w' => e = .returned (.bool true) ∧ Kept [] w w' := by
  have q7 := lives_any
  have q8 := new_ex N hN1 (by omega) w
  have q9 := fun W => refNew_any N hN1 (by omega) W
  have g0 : ¬ ((N : Int) < 1) := by omega
  have g1 : ¬ (30 < (N : Int)) := by omega
  have g2 : ¬ ((40 : Int) < (len : Int)) := by omega
  go_enter Tryz.func3, Tryz.ntmps3
  go_wp2_with (first
    | (go_at_call 7; refine q8.mono ?_; rintro e w4 ⟨d, b1, b2, rfl, hD, hdl, hk4⟩)
    | (go_at_call 8; refine (q9 _).mono ?_; rintro e w5 ⟨g, cap, rfl, hR, hg, hk5⟩; have hD5 := hD.kept hk5 (by simp) (by simp) (by simp)))
  have hlt := hD.lt
  have hs4 := hk4.size
  have hK5 := hk4.trans hk5
  have hBoth : Both w5 d b1 b2 w4.heap.size g cap (made N) := ⟨hD5, hR, ⟨by omega, by omega, by omega, by omega, by omega, by omega⟩⟩
  obtain ⟨r, hr⟩ : ∃ r, w4.heap.size = r := ⟨_, rfl⟩
  rw [hr] at hBoth
  have hrl : w.heap.size ≤ r := by omega
  have hgl : w.heap.size ≤ g := by omega
  rw [hr]
  clear hr hD hD5 hR hk4 hk5 q8 q9 hlt hs4 hg
  have ho0 : (made N).ops ≤ 1100 * 0 := Nat.le_refl _
  generalize made N = s0 at *
  go_loopw [47] (fun i wr => ∃ (j : Nat) (s : Dk), j ≤ len ∧ i = .int .i64 j ∧ Both wr d b1 b2 r g cap s ∧ s.ops ≤ 1100 * j ∧ Kept [] w wr) (fun i _ => len - (RowKit.intOf i).toNat)
  case atStart => exact ⟨0, s0, by omega, rfl, hBoth, ho0, hK5⟩
  case round =>
    obtain ⟨j, s, hj, rfl, hB, ho, hK⟩ := hrel
    clear hBoth hK5 ho0
    by_cases hlt : j < len
    · obtain ⟨hal, haok, hnil | ⟨blk, off, rfl, hcap, hblk, hcs⟩⟩ := hacts.kept (Nat.le_refl _) hK (by simp)
      · rw [hnil] at hal
        simp at hal
        omega
      obtain ⟨a, ha⟩ : ∃ a, acts[j]? = some a := ⟨_, List.getElem?_eq_getElem (by rw [hal]; exact hlt)⟩
      have hok := haok a (List.mem_of_getElem? ha)
      have hr : Hid (wr.rangeAt blk (off + j * 9) a.cells) := hcs j a ha
      have kk4 : (j : Int) < (len : Int) := by omega
      have kcap : (j : Int) < (cap0 : Int) := by omega
      have hm1 : Hid (len - (j + 1) < len - j) := by show _ < _; omega
      have hz0 : Blk (wr.alloc (.cells #[.int .i64 0, .int .i64 0, .int .u64 0, .int .i64 0, .int .i64 0, .int .i64 0, .int .u64 0, .bool false, .slice none 0 0] 36)) wr.heap.size 36 #[.int .i64 0, .int .i64 0, .int .u64 0, .int .i64 0, .int .i64 0, .int .i64 0, .int .u64 0, .bool false, .slice none 0 0] := blk_new wr 36 _
      have hsz : Hid (a.cells.length = 9) := rfl
      have hltB := hB.lt
      have hops : s.ops ≤ 900000 := by omega
      have hal0 := hok.len0
      have hval := hB.disk.valid
      clear hcs hal haok hacts ha
      by_cases hbig : 200 < a.x.len
      · have kb : (200 : Int) < (a.x.len : Int) := by omega
        go_wp2_with (first
          | refine wpList_load_mid rfl 36 _ rfl blk (off + j * 9) rfl a.cells _ hr.out Tryz.underlying36 rfl (by rw [hsz.out]; exact Tryz.size36) ?_
          | (refine wpList_store_blk rfl 36 _ _ rfl wr.heap.size 36 _ a.cells rfl rfl hz0 hsz.out (by rw [hsz.out]; exact Tryz.size36) a.one ?_; intro w7 hB7 hk7 hz7; have hk07 : Kept [] wr w7 := (kept_alloc [] wr _).young hk7 (Nat.le_refl _); have hBo7 := hB.kept hk07; have hB7' : a.In w7 wr.heap.size := hB7; obtain ⟨c0, c1, c2, c3, c4, c5, c6, c7, c8⟩ := hB7'.nine)
          | (go_at_call 6; refine (q7 _).mono ?_; rintro e w8 ⟨rfl, hk8⟩))
        go_ret
        exact ⟨rfl, (hK.trans hk07).trans hk8⟩
      · have kb : ¬ ((200 : Int) < (a.x.len : Int)) := by omega
        go_upto_block 2 with (first
          | refine wpList_load_mid rfl 36 _ rfl blk (off + j * 9) rfl a.cells _ hr.out Tryz.underlying36 rfl (by rw [hsz.out]; exact Tryz.size36) ?_
          | (refine wpList_store_blk rfl 36 _ _ rfl wr.heap.size 36 _ a.cells rfl rfl hz0 hsz.out (by rw [hsz.out]; exact Tryz.size36) a.one ?_; intro w7 hB7 hk7 hz7; have hk07 : Kept [] wr w7 := (kept_alloc [] wr _).young hk7 (Nat.le_refl _); have hBo7 := hB.kept hk07; have hB7' : a.In w7 wr.heap.size := hB7; obtain ⟨c0, c1, c2, c3, c4, c5, c6, c7, c8⟩ := hB7'.nine))
        have hKw7 := hK.trans hk07
        have hrow := hok.row.kept hK.size hk07 (by simp)
        go_cut [] from 57 to 163 (fun W => ∃ s', Both W d b1 b2 r g cap s' ∧ s'.ops ≤ 1100 * (j + 1) ∧ Kept [] w W)
        case first =>
          have hap : ∀ k ∈ [d, b1, b2], k < 0 ∨ w.heap.size ≤ k := by simp; omega
          have har : ∀ k ∈ [r, g], k < 0 ∨ w.heap.size ≤ k := by simp; omega
          have hL7 : w.heap.size ≤ w7.heap.size := hKw7.size
          have hlo7 := hBo7.lt
          by_cases n0 : a.k = 0
          · have q9 := fun W (h : DiskAt W d b1 b2 s) => give_any d b1 b2 s a.t W h
            have q10 := fun W (h : RefAt W r g cap s) => rGive_any r g cap s a.t W h
            generalize giveM s a.t = M at *
            generalize gotE s (Span.wOff a.t) (Span.wLen a.t) = ge at *
            go_wp2_with (first
              | (go_at_call 9; refine (q9 _ hBo7.disk).mono ?_; rintro e w8 ⟨v, rfl, hvm, hvat, hk8⟩; obtain ⟨vk, vi, vo, vm, vs, vsa, vlen, vcap, vd⟩ := v; simp only [Mv.val]; have hb8 := zero_new w8)
              | (refine wpList_store_blk rfl 34 _ _ rfl w8.heap.size 34 _ [.int .i64 vk, .int .i64 vi, .int .i64 vo, .int .u64 (vm : Int), .bool vs, .slice vsa vlen vcap] rfl rfl hb8 rfl Pack.Tryz.sizeM (cells_one _ _ _ _ _ _ _ _) ?_; clear hb8; intro w9 hBw9 hkw9 hzw9; replace hzw9 : Hid _ := hzw9; have hjw9 : Kept [] w8 w9 := (kept_alloc [] w8 _).young hkw9 (Nat.le_refl _); replace hBw9 : Mv.In ⟨vk, vi, vo, vm, vs, vsa, vlen, vcap, vd⟩ w9 w8.heap.size := hBw9; have hk79 := hk8.trans hjw9; have hBo9 := hBo7.kept hk79; obtain ⟨-, e1, -, -, -, -, -, -, -⟩ := (hB7'.kept hk79 (by simp)).nine; have hv9 := hvat.kept (Nat.le_refl _) hjw9 (by simp); have hl9 := hjw9.size)
              | (go_at_call 10; refine (q10 _ hBo9.ref).mono ?_; rintro e w10 ⟨u, rfl, hum, huat, hk10⟩; obtain ⟨uk, ui, uo, um, us, usa, ulen, ucap, ud⟩ := u; simp only [Mv.val]; have hb10 := zero_new w10)
              | (refine wpList_store_blk rfl 34 _ _ rfl w10.heap.size 34 _ [.int .i64 uk, .int .i64 ui, .int .i64 uo, .int .u64 (um : Int), .bool us, .slice usa ulen ucap] rfl rfl hb10 rfl Pack.Tryz.sizeM (cells_one _ _ _ _ _ _ _ _) ?_; clear hb10; intro w11 hBw11 hkw11 hzw11; replace hzw11 : Hid _ := hzw11; have hjw11 : Kept [] w10 w11 := (kept_alloc [] w10 _).young hkw11 (Nat.le_refl _); replace hBw11 : Mv.In ⟨uk, ui, uo, um, us, usa, ulen, ucap, ud⟩ w11 w10.heap.size := hBw11; have hk911 := hk10.trans hjw11; have hBo11 := hBo9.kept hk911; obtain ⟨x0, x1, x2, x3, x4, x5⟩ := (hBw9.kept hk911 (by simp)).six; obtain ⟨y0, y1, y2, y3, y4, y5⟩ := hBw11.six; simp only at x0 x1 x2 x3 x4 x5 y0 y1 y2 y3 y4 y5; have hv11 := hv9.kept hl9 hk911 (by simp); have hu11 := huat.kept (Nat.le_refl _) hjw11 (by simp); have qs := same_of ⟨vk, vi, vo, vm, vs, vsa, vlen, vcap, vd⟩ ⟨uk, ui, uo, um, us, usa, ulen, ucap, ud⟩ _ _ _ _ w11 hv11 (Nat.le_trans hl9 hk911.size) hu11 hjw11.size (hvm.trans hum.symm))
              | (go_at_call 11; refine qs.mono ?_; rintro e w12 ⟨rfl, hk12⟩; have hBo12 := hBo11.kept hk12))
            go_meet
            case rel => exact ⟨s, hBo12, by omega, ((hKw7.trans hk79).trans hk911).trans hk12⟩
          by_cases n1 : a.k = 1
          · have q9 := fun W (h : DiskAt W d b1 b2 s) (hx : a.x.At 0 w.heap.size W) (hh : w.heap.size ≤ W.heap.size) => put_any d b1 b2 s a.x 0 w.heap.size W h hops hx hh hal0 hap
            have q10 := fun W (h : RefAt W r g cap s) (hx : a.x.At 0 w.heap.size W) (hh : w.heap.size ≤ W.heap.size) (hrr : r < W.heap.size ∧ g < W.heap.size) => rPut_any r g cap s a.x 0 w.heap.size W h hops hx hh hal0 har hrr.1 hrr.2
            have hs' := ext_ops s hval.top a.x.ms
            have hua := fun W : World => extV_at s a.x.ms 0 0 W
            generalize extS s a.x.ms = s' at *
            generalize extE s a.x.ms = ge at *
            generalize extV s a.x.ms = u at *
            obtain ⟨uk, ui, uo, um, us, usa, ulen, ucap, ud⟩ := u
            simp only [Mv.val] at q9 q10
            go_wp2_with (first
              | (go_at_call 12; refine (q9 _ hBo7.disk hrow hL7).mono ?_; rintro e w8 ⟨rfl, hD8, hk8⟩; have hb8 := zero_new w8; have hl8 := hk8.size)
              | (refine wpList_store_blk rfl 34 _ _ rfl w8.heap.size 34 _ [.int .i64 uk, .int .i64 ui, .int .i64 uo, .int .u64 (um : Int), .bool us, .slice usa ulen ucap] rfl rfl hb8 rfl Pack.Tryz.sizeM (cells_one _ _ _ _ _ _ _ _) ?_; clear hb8; intro w9 hBw9 hkw9 hzw9; replace hzw9 : Hid _ := hzw9; have hjw9 : Kept [] w8 w9 := (kept_alloc [] w8 _).young hkw9 (Nat.le_refl _); replace hBw9 : Mv.In ⟨uk, ui, uo, um, us, usa, ulen, ucap, ud⟩ w9 w8.heap.size := hBw9; have hD9 := hD8.kept hjw9 (by simp) (by simp) (by simp); have hk79 : Kept [d, b1, b2] w7 w9 := hk8.trans (hjw9.mono (by simp)); obtain ⟨-, -, -, e3, e4, e5, e6, e7, e8⟩ := (hB7'.kept hk79 (by simp; omega)).nine; have hrow9 := hrow.kept hL7 hk79 hap; have hl9 := hk79.size)
              | (go_at_call 13; refine (q10 _ (hBo7.ref_kept hk79) hrow9 (Nat.le_trans hL7 hl9) ⟨by omega, by omega⟩).mono ?_; rintro e w10 ⟨rfl, hR10, hk10⟩; have hb10 := zero_new w10)
              | (refine wpList_store_blk rfl 34 _ _ rfl w10.heap.size 34 _ [.int .i64 uk, .int .i64 ui, .int .i64 uo, .int .u64 (um : Int), .bool us, .slice usa ulen ucap] rfl rfl hb10 rfl Pack.Tryz.sizeM (cells_one _ _ _ _ _ _ _ _) ?_; clear hb10; intro w11 hBw11 hkw11 hzw11; replace hzw11 : Hid _ := hzw11; have hjw11 : Kept [] w10 w11 := (kept_alloc [] w10 _).young hkw11 (Nat.le_refl _); replace hBw11 : Mv.In ⟨uk, ui, uo, um, us, usa, ulen, ucap, ud⟩ w11 w10.heap.size := hBw11; have hk911 : Kept [r, g] w9 w11 := hk10.trans (hjw11.mono (by simp)); obtain ⟨hBo11, hkk11⟩ := hBo7.turned hD9 hk79 (hR10.kept hjw11 (by simp) (by simp)) hk911; obtain ⟨x0, x1, x2, x3, x4, x5⟩ := (hBw9.kept hk911 (by simp; omega)).six; obtain ⟨y0, y1, y2, y3, y4, y5⟩ := hBw11.six; simp only at x0 x1 x2 x3 x4 x5 y0 y1 y2 y3 y4 y5; have qs := same_of ⟨uk, ui, uo, um, us, usa, ulen, ucap, ud⟩ ⟨uk, ui, uo, um, us, usa, ulen, ucap, ud⟩ _ _ _ _ w11 (hua w11) (Nat.zero_le _) (hua w11) (Nat.zero_le _) rfl)
              | (go_at_call 11; refine qs.mono ?_; rintro e w12 ⟨rfl, hk12⟩; have hBo12 := hBo11.kept hk12))
            go_meet
            case rel => exact ⟨s', hBo12, by omega, (hKw7.young5 hkk11 hdl.1 hdl.2.1 hdl.2.2 hrl hgl).trans hk12⟩
          by_cases n2 : a.k = 2
          · have q9 := fun W (h : DiskAt W d b1 b2 s) => told_any d b1 b2 s a.t (by omega) W h
            have q10 := fun W (h : RefAt W r g cap s) => rTold_any r g cap s a.t (by omega) W h
            have hs' := told_ops s a.t
            generalize toldS s a.t = s' at *
            generalize toldE s a.t = ge at *
            generalize toldX s a.t = gx at *
            go_wp2_with (first
              | (go_at_call 14; refine (q9 _ hBo7.disk).mono ?_; rintro e w8 ⟨rfl, hD8, hk8⟩; obtain ⟨-, e1, -, -, -, -, -, -, -⟩ := (hB7'.kept hk8 (by simp; omega)).nine)
              | (go_at_call 15; refine (q10 _ (hBo7.ref_kept hk8)).mono ?_; rintro e w9 ⟨rfl, hR9, hk9⟩; obtain ⟨hBo9, hkk9⟩ := hBo7.turned hD8 hk8 hR9 hk9))
            go_meet
            case rel => exact ⟨s', hBo9, by omega, hKw7.young5 hkk9 hdl.1 hdl.2.1 hdl.2.2 hrl hgl⟩
          by_cases n3 : a.k = 3
          · have q9 := fun W (h : DiskAt W d b1 b2 s) => mapPut_any d b1 b2 s a.m hok.m0 (by omega) W h
            have q10 := fun W (h : RefAt W r g cap s) => refPut11_any r g cap s a.m hok.m0 (by omega) W h
            have hs' := map_ops s a.m
            generalize mapS s a.m = s' at *
            generalize mapE s a.m = pe at *
            go_wp2_with fail
            have hBoD := hBo7.kept (kept_drew [] w7)
            have hBD := hB7'.kept (kept_drew [] w7) (by simp)
            obtain ⟨-, -, x2, -, -, -, -, -, -⟩ := hBD.nine
            clear c0 c1 c2 c3 c4 c5 c6 c7 c8
            go_region_held3 (fun W => W.cell? ⟨wr.heap.size, 2, none⟩ = some (.int .u64 (a.m : Int))) (exact x2) (first
              | (go_at_call 16; refine (q9 _ hBoD.disk).mono ?_; rintro e w8 ⟨rfl, hD8, hk8⟩; have hB8 := hBD.kept hk8 (by simp; omega); replace x2 := hB8.nine.2.2.1)
              | (go_at_call 17; refine (q10 _ (hBoD.ref_kept hk8)).mono ?_; rintro e w9 ⟨rfl, hR9, hk9⟩; have hB9 := hB8.kept hk9 (by simp; omega); replace x2 := hB9.nine.2.2.1))
            obtain ⟨hBo9, hkk9⟩ := hBoD.turned hD8 hk8 hR9 hk9
            go_wp2_with fail
            go_meet
            case rel => exact ⟨s', hBo9, by omega, (hKw7.trans (kept_drew [] _)).young5 hkk9 hdl.1 hdl.2.1 hdl.2.2 hrl hgl⟩
          by_cases n4 : a.k = 4
          · have q9 := fun W (h : DiskAt W d b1 b2 s) => crash_any d b1 b2 s a.m hok.m0 W h
            have q10 := fun W (h : RefAt W r g cap s) => refCrash_any r g cap s a.m hok.m0 W h
            have hs' : (crashed s a.m).ops = s.ops := rfl
            generalize crashed s a.m = s' at *
            go_wp2_with (first
              | (go_at_call 18; refine (q9 _ hBo7.disk).mono ?_; rintro e w8 ⟨rfl, hD8, hk8⟩; obtain ⟨-, -, e2, -, -, -, -, -, -⟩ := (hB7'.kept hk8 (by simp; omega)).nine)
              | (go_at_call 19; refine (q10 _ (hBo7.ref_kept hk8)).mono ?_; rintro e w9 ⟨rfl, hR9, hk9⟩; obtain ⟨hBo9, hkk9⟩ := hBo7.turned hD8 hk8 hR9 hk9))
            go_meet
            case rel => exact ⟨s', hBo9, by omega, hKw7.young5 hkk9 hdl.1 hdl.2.1 hdl.2.2 hrl hgl⟩
          by_cases n5 : a.k = 5
          · have q9 := fun W (h : DiskAt W d b1 b2 s) => fuse_any d b1 b2 s a.t hok.t0 hok.t1 W h
            have q10 := fun W (h : RefAt W r g cap s) => setFuse_any r g cap s a.t hok.t0 hok.t1 W h
            have hs' : (fused s a.t).ops = s.ops := rfl
            generalize fused s a.t = s' at *
            go_wp2_with (first
              | (go_at_call 20; refine (q9 _ hBo7.disk).mono ?_; rintro e w8 ⟨rfl, hD8, hk8', hz8⟩; replace hz8 : Hid _ := hz8; have hk8 : Kept [d, b1, b2] w7 w8 := hk8'.mono (by simp); obtain ⟨-, e1, -, -, -, -, -, -, -⟩ := (hB7'.kept hk8 (by simp; omega)).nine)
              | (go_at_call 21; refine (q10 _ (hBo7.ref_kept hk8)).mono ?_; rintro e w9 ⟨rfl, hR9, hk9⟩; obtain ⟨hBo9, hkk9⟩ := hBo7.turned hD8 hk8 hR9 (hk9.mono (by simp))))
            go_meet
            case rel => exact ⟨s', hBo9, by omega, hKw7.young5 hkk9 hdl.1 hdl.2.1 hdl.2.2 hrl hgl⟩
          · have z0 : (a.k == 0) = false := by simpa using n0
            have z1 : (a.k == 1) = false := by simpa using n1
            have z2 : (a.k == 2) = false := by simpa using n2
            have z3 : (a.k == 3) = false := by simpa using n3
            have z4 : (a.k == 4) = false := by simpa using n4
            have z5 : (a.k == 5) = false := by simpa using n5
            go_wp2_with fail
            go_meet
            case rel => exact ⟨s, hBo7, by omega, hKw7⟩
        case rest =>
          obtain ⟨s', hB', ho', hK'⟩ := hcut
          have hQ := hB'.kept (kept_drew [] wc)
          have hKq := hK'.trans (kept_drew [] wc)
          have qs := fun W (h : DiskAt W d b1 b2 s') => dget_any d b1 b2 s' W h
          have qr := fun W (h : RefAt W r g cap s') => refGet11_any r g cap s' W h
          have qi := fun W (h : DiskAt W d b1 b2 s') => dImage_any d b1 b2 s' W h
          have qj := fun W (h : RefAt W r g cap s') => rImage_any r g cap s' W h
          have qo := fun W (h : DiskAt W d b1 b2 s') => ops_any d b1 b2 s' W h
          generalize latestY s' 6 2 = LY at *
          generalize imgL s' = IL at *
          clear c0 c1 c2 c3 c4 c5 c6 c7 c8 hBo7 hB7 hB7' hrow hB hok hz0 hr
          go_wp2_with fail
          refine wp_region_held_drew (S := fun W => Kept [] wc.drew W) (by kernel_rfl) (Kept.refl _ _) (fun hP => ?_)
          have hH := hP
          clear hP
          refine wpAnyH_take (i := 0) (oi := { dst := some 164, op := Op.move (Operand.tmp 5), type := 24, pos := "law.go:76", after := #[], guard := none }) (v := (.pointer (some ⟨d, 0, none⟩))) rfl (by kernel_rfl) (by kernel_rfl) (by kernel_rfl) (fun _ _ _ h => h) (Or.inl ⟨by rfl, fun W hSw => by go_simp⟩) hH ?_
          try simp only [Act.put, List.setIfInBounds_toArray, List.set_cons_zero, List.set_cons_succ]
          refine wpAnyH_take (i := 2) (oi := { dst := some 166, op := Op.move (Operand.tmp 7), type := 28, pos := "law.go:76", after := #[], guard := none }) (v := (.pointer (some ⟨r, 0, none⟩))) rfl (by kernel_rfl) (by kernel_rfl) (by kernel_rfl) (fun _ _ _ h => h) (Or.inl ⟨by rfl, fun W hSw => by go_simp⟩) hH ?_
          try simp only [Act.put, List.setIfInBounds_toArray, List.set_cons_zero, List.set_cons_succ]
          refine wpAnyH_ready (rs := [1]) (by kernel_rfl) (by simp) ?_
          refine AllReadyH.cons (o := { dst := some 165, op := Op.call { callee := Callee.value (Operand.func 22), args := #[Operand.tmp 164], argTypes := #[24] }, type := 31, pos := "law.go:76", after := #[{ on := 0, ground := Ground.data }], guard := none }) rfl (fun K hK => ?_) AllReadyH.nil
          go_simp
          refine (qs _ hQ.disk).mono ?_
          rintro e w8 ⟨rfl, hk8⟩
          go_wp2_with fail
          refine hK.out _ _ hk8 (fun _ => ?_)
          clear hK K
          refine wpAnyH_stronger (S' := fun W => Kept [] w8 W) (fun W h => hk8.trans h) _ _ _ _ ?_
          replace hH := Kept.refl [] w8
          replace hQ := hQ.kept hk8
          replace hKq := hKq.trans hk8
          try simp only [Act.put, List.setIfInBounds_toArray, List.set_cons_zero, List.set_cons_succ]
          refine wpAnyH_ready (rs := [3]) (by kernel_rfl) (by simp) ?_
          refine AllReadyH.cons (o := { dst := some 167, op := Op.call { callee := Callee.value (Operand.func 23), args := #[Operand.tmp 166], argTypes := #[28] }, type := 31, pos := "law.go:76", after := #[{ on := 2, ground := Ground.data }, { on := 1, ground := Ground.chain }], guard := none }) rfl (fun K hK => ?_) AllReadyH.nil
          go_simp
          refine (qr _ hQ.ref).mono ?_
          rintro e w9 ⟨rfl, hk9⟩
          go_wp2_with fail
          refine hK.out _ _ hk9 (fun _ => ?_)
          clear hK K
          refine wpAnyH_stronger (S' := fun W => Kept [] w9 W) (fun W h => hk9.trans h) _ _ _ _ ?_
          replace hH := Kept.refl [] w9
          replace hQ := hQ.kept hk9
          replace hKq := hKq.trans hk9
          try simp only [Act.put, List.setIfInBounds_toArray, List.set_cons_zero, List.set_cons_succ]
          refine wpAnyH_take (i := 4) (oi := { dst := some 168, op := Op.binOp BinOp.neq 31 (Operand.tmp 165) (Operand.tmp 167) 31, type := 4, pos := "law.go:76", after := #[{ on := 1, ground := Ground.data }, { on := 3, ground := Ground.data }], guard := none }) (v := (.bool false)) rfl (by kernel_rfl) (by kernel_rfl) (by kernel_rfl) (fun _ _ _ h => h) (Or.inl ⟨by rfl, fun W hSw => by go_simp⟩) hH ?_
          try simp only [Act.put, List.setIfInBounds_toArray, List.set_cons_zero, List.set_cons_succ]
          refine wpAnyH_take (i := 5) (oi := { dst := some 169, op := Op.move (Operand.tmp 168), type := 4, pos := "law.go:76", after := #[{ on := 4, ground := Ground.data }, { on := 3, ground := Ground.chain }], guard := none }) (v := (.bool false)) rfl (by kernel_rfl) (by kernel_rfl) (by kernel_rfl) (fun _ _ _ h => h) (Or.inl ⟨by rfl, fun W hSw => by go_simp⟩) hH ?_
          try simp only [Act.put, List.setIfInBounds_toArray, List.set_cons_zero, List.set_cons_succ]
          refine wpAnyH_take (i := 6) (oi := { dst := some 170, op := Op.move (Operand.tmp 5), type := 24, pos := "law.go:76", after := #[{ on := 5, ground := Ground.guard }], guard := some (5, false) }) (v := (.pointer (some ⟨d, 0, none⟩))) rfl (by kernel_rfl) (by kernel_rfl) (by kernel_rfl) (fun _ _ _ h => h) (Or.inl ⟨by rfl, fun W hSw => by go_simp⟩) hH ?_
          try simp only [Act.put, List.setIfInBounds_toArray, List.set_cons_zero, List.set_cons_succ]
          refine wpAnyH_take (i := 9) (oi := { dst := some 173, op := Op.move (Operand.tmp 7), type := 28, pos := "law.go:76", after := #[{ on := 5, ground := Ground.guard }], guard := some (5, false) }) (v := (.pointer (some ⟨r, 0, none⟩))) rfl (by kernel_rfl) (by kernel_rfl) (by kernel_rfl) (fun _ _ _ h => h) (Or.inl ⟨by rfl, fun W hSw => by go_simp⟩) hH ?_
          try simp only [Act.put, List.setIfInBounds_toArray, List.set_cons_zero, List.set_cons_succ]
          refine wpAnyH_ready (rs := [7]) (by kernel_rfl) (by simp) ?_
          refine AllReadyH.cons (o := { dst := some 171, op := Op.call { callee := Callee.value (Operand.func 24), args := #[Operand.tmp 170], argTypes := #[24] }, type := 32, pos := "law.go:76", after := #[{ on := 6, ground := Ground.data }, { on := 5, ground := Ground.chain }, { on := 5, ground := Ground.guard }], guard := some (5, false) }) rfl (fun K hK => ?_) AllReadyH.nil
          go_simp
          refine (qi _ hQ.disk).mono ?_
          rintro e w10 ⟨v10, rfl, hR10, hk10⟩
          go_wp2_with fail
          refine hK.out _ _ hk10 (fun _ => ?_)
          clear hK K
          refine wpAnyH_stronger (S' := fun W => Kept [] w10 W) (fun W h => hk10.trans h) _ _ _ _ ?_
          replace hH := Kept.refl [] w10
          replace hQ := hQ.kept hk10
          replace hKq := hKq.trans hk10
          try simp only [Act.put, List.setIfInBounds_toArray, List.set_cons_zero, List.set_cons_succ]
          refine wpAnyH_take (i := 8) (oi := { dst := some 172, op := Op.convert 32 9 (Operand.tmp 171), type := 9, pos := "law.go:76", after := #[{ on := 7, ground := Ground.data }, { on := 5, ground := Ground.guard }], guard := some (5, false) }) (v := (.string (txt IL))) rfl (by kernel_rfl) (by kernel_rfl) (by kernel_rfl) (fun _ _ _ h => h) (Or.inl ⟨by rfl, fun W hSw => by have hc := conv_txt (hR10.kept (Nat.le_refl _) hSw (by simp)); go_simp⟩) hH ?_
          try simp only [Act.put, List.setIfInBounds_toArray, List.set_cons_zero, List.set_cons_succ]
          refine wpAnyH_ready (rs := [10]) (by kernel_rfl) (by simp) ?_
          refine AllReadyH.cons (o := { dst := some 174, op := Op.call { callee := Callee.value (Operand.func 25), args := #[Operand.tmp 173], argTypes := #[28] }, type := 32, pos := "law.go:76", after := #[{ on := 9, ground := Ground.data }, { on := 7, ground := Ground.chain }, { on := 5, ground := Ground.guard }], guard := some (5, false) }) rfl (fun K hK => ?_) AllReadyH.nil
          go_simp
          refine (qj _ hQ.ref).mono ?_
          rintro e w11 ⟨v11, rfl, hR11, hk11⟩
          go_wp2_with fail
          refine hK.out _ _ hk11 (fun _ => ?_)
          clear hK K
          refine wpAnyH_stronger (S' := fun W => Kept [] w11 W) (fun W h => hk11.trans h) _ _ _ _ ?_
          replace hH := Kept.refl [] w11
          replace hQ := hQ.kept hk11
          replace hKq := hKq.trans hk11
          try simp only [Act.put, List.setIfInBounds_toArray, List.set_cons_zero, List.set_cons_succ]
          refine wpAnyH_take (i := 11) (oi := { dst := some 175, op := Op.convert 32 9 (Operand.tmp 174), type := 9, pos := "law.go:76", after := #[{ on := 10, ground := Ground.data }, { on := 5, ground := Ground.guard }], guard := some (5, false) }) (v := (.string (txt IL))) rfl (by kernel_rfl) (by kernel_rfl) (by kernel_rfl) (fun _ _ _ h => h) (Or.inl ⟨by rfl, fun W hSw => by have hc := conv_txt (hR11.kept (Nat.le_refl _) hSw (by simp)); go_simp⟩) hH ?_
          try simp only [Act.put, List.setIfInBounds_toArray, List.set_cons_zero, List.set_cons_succ]
          refine wpAnyH_take (i := 12) (oi := { dst := some 176, op := Op.binOp BinOp.neq 9 (Operand.tmp 172) (Operand.tmp 175) 9, type := 4, pos := "law.go:76", after := #[{ on := 8, ground := Ground.data }, { on := 11, ground := Ground.data }, { on := 5, ground := Ground.guard }], guard := some (5, false) }) (v := (.bool false)) rfl (by kernel_rfl) (by kernel_rfl) (by kernel_rfl) (fun _ _ _ h => h) (Or.inl ⟨by rfl, fun W hSw => by go_simp⟩) hH ?_
          try simp only [Act.put, List.setIfInBounds_toArray, List.set_cons_zero, List.set_cons_succ]
          refine wpAnyH_take (i := 13) (oi := { dst := some 177, op := Op.pick (Operand.tmp 169) (Operand.const (Value.bool true)) (Operand.tmp 176), type := 4, pos := "law.go:76", after := #[{ on := 5, ground := Ground.data }, { on := 12, ground := Ground.data }], guard := none }) (v := (.bool false)) rfl (by kernel_rfl) (by kernel_rfl) (by kernel_rfl) (fun _ _ _ h => h) (Or.inl ⟨by rfl, fun W hSw => by go_simp⟩) hH ?_
          try simp only [Act.put, List.setIfInBounds_toArray, List.set_cons_zero, List.set_cons_succ]
          refine wpAnyH_take (i := 14) (oi := { dst := some 178, op := Op.move (Operand.tmp 177), type := 4, pos := "law.go:76", after := #[{ on := 13, ground := Ground.data }, { on := 10, ground := Ground.chain }], guard := none }) (v := (.bool false)) rfl (by kernel_rfl) (by kernel_rfl) (by kernel_rfl) (fun _ _ _ h => h) (Or.inl ⟨by rfl, fun W hSw => by go_simp⟩) hH ?_
          try simp only [Act.put, List.setIfInBounds_toArray, List.set_cons_zero, List.set_cons_succ]
          refine wpAnyH_take (i := 15) (oi := { dst := some 179, op := Op.move (Operand.tmp 5), type := 24, pos := "law.go:76", after := #[{ on := 14, ground := Ground.guard }], guard := some (14, false) }) (v := (.pointer (some ⟨d, 0, none⟩))) rfl (by kernel_rfl) (by kernel_rfl) (by kernel_rfl) (fun _ _ _ h => h) (Or.inl ⟨by rfl, fun W hSw => by go_simp⟩) hH ?_
          try simp only [Act.put, List.setIfInBounds_toArray, List.set_cons_zero, List.set_cons_succ]
          refine wpAnyH_take (i := 17) (oi := { dst := some 181, op := Op.move (Operand.tmp 7), type := 28, pos := "law.go:76", after := #[{ on := 14, ground := Ground.guard }], guard := some (14, false) }) (v := (.pointer (some ⟨r, 0, none⟩))) rfl (by kernel_rfl) (by kernel_rfl) (by kernel_rfl) (fun _ _ _ h => h) (Or.inl ⟨by rfl, fun W hSw => by go_simp⟩) hH ?_
          try simp only [Act.put, List.setIfInBounds_toArray, List.set_cons_zero, List.set_cons_succ]
          refine wpAnyH_take (i := 18) (oi := { dst := some 182, op := Op.nilCheck (Operand.tmp 181), type := 0, pos := "law.go:76", after := #[{ on := 17, ground := Ground.data }, { on := 14, ground := Ground.guard }], guard := some (14, false) }) (v := (.pointer (some ⟨r, 0, none⟩))) rfl (by kernel_rfl) (by kernel_rfl) (by kernel_rfl) (fun _ _ _ h => h) (Or.inl ⟨by rfl, fun W hSw => by go_simp⟩) hH ?_
          try simp only [Act.put, List.setIfInBounds_toArray, List.set_cons_zero, List.set_cons_succ]
          refine wpAnyH_take (i := 19) (oi := { dst := some 183, op := Op.fieldAddr 59 (Operand.tmp 182) 3, type := 0, pos := "law.go:76", after := #[{ on := 18, ground := Ground.data }, { on := 14, ground := Ground.guard }], guard := some (14, false) }) (v := (.pointer (some ⟨r, 3, none⟩))) rfl (by kernel_rfl) (by kernel_rfl) (by kernel_rfl) (fun _ _ _ h => h) (Or.inl ⟨by rfl, fun W hSw => by go_simp⟩) hH ?_
          try simp only [Act.put, List.setIfInBounds_toArray, List.set_cons_zero, List.set_cons_succ]
          refine wpAnyH_take (i := 20) (oi := { dst := some 184, op := Op.load 3 (Operand.tmp 183), type := 3, pos := "law.go:76", after := #[{ on := 19, ground := Ground.data }, { on := 14, ground := Ground.guard }], guard := some (14, false) }) (v := (.int .i64 (s'.ops : Int))) rfl (by kernel_rfl) (by kernel_rfl) (by kernel_rfl) (fun _ _ _ h => h) (Or.inl ⟨by rfl, fun W hSw => by have hc := (hQ.kept hSw).ref.1.four.2.2.2; go_simp⟩) hH ?_
          try simp only [Act.put, List.setIfInBounds_toArray, List.set_cons_zero, List.set_cons_succ]
          refine wpAnyH_ready (rs := [16]) (by kernel_rfl) (by simp) ?_
          refine AllReadyH.cons (o := { dst := some 180, op := Op.call { callee := Callee.value (Operand.func 26), args := #[Operand.tmp 179], argTypes := #[24] }, type := 3, pos := "law.go:76", after := #[{ on := 15, ground := Ground.data }, { on := 14, ground := Ground.chain }, { on := 14, ground := Ground.guard }], guard := some (14, false) }) rfl (fun K hK => ?_) AllReadyH.nil
          go_simp
          refine (qo _ hQ.disk).mono ?_
          rintro e w' ⟨rfl, rfl⟩
          go_wp2_with fail
          have hH1 := hH
          refine hK.out _ _ hH1 (fun _ => ?_)
          replace hH := hH1
          clear hK K hH1
          try simp only [Act.put, List.setIfInBounds_toArray, List.set_cons_zero, List.set_cons_succ]
          refine wpAnyH_take (i := 21) (oi := { dst := some 185, op := Op.binOp BinOp.neq 3 (Operand.tmp 180) (Operand.tmp 184) 3, type := 4, pos := "law.go:76", after := #[{ on := 16, ground := Ground.data }, { on := 20, ground := Ground.data }, { on := 14, ground := Ground.guard }], guard := some (14, false) }) (v := (.bool false)) rfl (by kernel_rfl) (by kernel_rfl) (by kernel_rfl) (fun _ _ _ h => h) (Or.inl ⟨by rfl, fun W hSw => by go_simp⟩) hH ?_
          try simp only [Act.put, List.setIfInBounds_toArray, List.set_cons_zero, List.set_cons_succ]
          refine wpAnyH_take (i := 22) (oi := { dst := some 186, op := Op.pick (Operand.tmp 178) (Operand.const (Value.bool true)) (Operand.tmp 185), type := 4, pos := "law.go:76", after := #[{ on := 14, ground := Ground.data }, { on := 21, ground := Ground.data }], guard := none }) (v := (.bool false)) rfl (by kernel_rfl) (by kernel_rfl) (by kernel_rfl) (fun _ _ _ h => h) (Or.inl ⟨by rfl, fun W hSw => by go_simp⟩) hH ?_
          try simp only [Act.put, List.setIfInBounds_toArray, List.set_cons_zero, List.set_cons_succ]
          refine wpAnyH_done (by kernel_rfl) ?_ _
          go_wp2_with fail
          go_roundw
          case rel => exact ⟨j + 1, s', by omega, rfl, hQ, ho', hKq⟩
          case measure => simpa [RowKit.intOf] using hm1.out
    · obtain rfl : j = len := by omega
      clear hacts
      go_wp2_with (first
        | (go_at_call 6; refine (q7 _).mono ?_; rintro e w12 ⟨rfl, hk12⟩))
      go_ret
      exact ⟨rfl, hK.trans hk12⟩
end Go.Proofs.YtcmfejgimnjbgaaGreat.Copying
