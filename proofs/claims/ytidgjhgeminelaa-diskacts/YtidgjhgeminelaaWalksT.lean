/-
  The walk of DiskActs.
-/
import Derived.Test.YtidgjhgeminelaaWalksS
namespace Go.Proofs.Ytidgjhgeminelaa
open Go.RowKit Go.Maps Go.Shelf
open Math

set_option maxRecDepth 100000 in
set_option maxHeartbeats 1000000 in
/-- DiskActs, of what is too long -/
theorem acts_early (n : Int) (a0 : Option Addr) (len cap : Nat) (w : World) (hlen : len ≤ 9223372036854775807) (hno : (70 < n ∧ n ≤ 1024) ∨ 60 < len) :
    Calls Try.prog 3 #[.int .i64 n, .slice a0 len cap] w fun e w' => e = .returned (.bool true) ∧ Kept [] w w' := by
  have q7 := lives_any
  rcases (show (70 < n ∧ n ≤ 1024) ∨ (70 < n ∧ 1024 < n ∧ 60 < len) ∨ (n ≤ 70 ∧ 60 < len) by omega) with ⟨k1, k2⟩ | ⟨k1, k2, k3⟩ | ⟨k1, k3⟩
  · go_enter Try.func3, Try.ntmps3
    go_wp2_with (first
      | (go_at_call 7; refine (q7 _).mono ?_; rintro e w5 ⟨rfl, hk5⟩))
    go_ret
    exact ⟨rfl, hk5⟩
  · have k4 : ¬ (n ≤ 1024) := by omega
    have k5 : (60 : Int) < (len : Int) := by omega
    go_enter Try.func3, Try.ntmps3
    go_wp2_with (first
      | (go_at_call 7; refine (q7 _).mono ?_; rintro e w5 ⟨rfl, hk5⟩))
    go_ret
    exact ⟨rfl, hk5⟩
  · have k4 : ¬ (70 < n) := by omega
    have k5 : (60 : Int) < (len : Int) := by omega
    go_enter Try.func3, Try.ntmps3
    go_wp2_with (first
      | (go_at_call 7; refine (q7 _).mono ?_; rintro e w5 ⟨rfl, hk5⟩))
    go_ret
    exact ⟨rfl, hk5⟩
set_option maxRecDepth 100000 in
set_option maxHeartbeats 1000000 in
/-- DiskActs, of a length that no disk has -/
theorem acts_none (n : Int) (a0 : Option Addr) (len cap : Nat) (w : World) (hlen : len ≤ 60) (hno : n < 1 ∨ 1024 < n) :
    Calls Try.prog 3 #[.int .i64 n, .slice a0 len cap] w fun e w' => e = .returned (.bool true) ∧ Kept [] w w' := by
  have q7 := lives_any
  have q8 := new_none n hno w
  have q9 := refNew_none n hno w
  have q10 := made_none none w (.inl rfl)
  have k5 : ¬ ((60 : Int) < (len : Int)) := by omega
  rcases hno with k1 | k1
  · have k2 : ¬ (70 < n) := by omega
    go_enter Try.func3, Try.ntmps3
    go_wp2_with (first
      | (go_at_call 8; refine q8.mono ?_; rintro e w ⟨rfl, rfl⟩)
      | (go_at_call 9; refine q9.mono ?_; rintro e w ⟨rfl, rfl⟩)
      | (go_at_call 10; refine q10.mono ?_; rintro e w ⟨rfl, rfl⟩)
      | (go_at_call 7; refine (q7 _).mono ?_; rintro e w5 ⟨rfl, hk5⟩))
    go_ret
    exact ⟨rfl, hk5⟩
  · have k2 : 70 < n := by omega
    have k3 : ¬ (n ≤ 1024) := by omega
    go_enter Try.func3, Try.ntmps3
    go_wp2_with (first
      | (go_at_call 8; refine q8.mono ?_; rintro e w ⟨rfl, rfl⟩)
      | (go_at_call 9; refine q9.mono ?_; rintro e w ⟨rfl, rfl⟩)
      | (go_at_call 10; refine q10.mono ?_; rintro e w ⟨rfl, rfl⟩)
      | (go_at_call 7; refine (q7 _).mono ?_; rintro e w5 ⟨rfl, hk5⟩))
    go_ret
    exact ⟨rfl, hk5⟩

/-- What was made since may be written, five blocks of it. -/
theorem Kept.young5 {a b c : World} {d e f r g : Nat} (h : Kept [] a b) (k : Kept [d, e, f, r, g] b c) (h1 : a.heap.size ≤ d) (h2 : a.heap.size ≤ e) (h3 : a.heap.size ≤ f) (h4 : a.heap.size ≤ r) (h5 : a.heap.size ≤ g) : Kept [] a c :=
  ⟨k.os.trans h.os, k.tape.trans h.tape, k.output.trans h.output, Nat.le_trans h.size k.size, fun i hi _ => (k.block i (Nat.lt_of_lt_of_le hi h.size) (by simp; omega)).trans (h.block i hi (by simp))⟩

set_option maxRecDepth 100000 in
set_option maxHeartbeats 4000000 in
/-- DiskActs, of a play -/
theorem acts_play (N : Nat) (hN1 : 1 ≤ N) (hN2 : N ≤ 70) (a0 : Option Addr) (len cap0 : Nat) (acts : List Ac) (hlen : len ≤ 60) (w : World) (hacts : ActsAt w.heap.size w a0 len cap0 acts) :
    Calls Try.prog 3 #[.int .i64 (N : Int), .slice a0 len cap0] w fun e w' => e = .returned (.bool true) ∧ Kept [] w w' := by
  have q7 := lives_any
  have q8 := new_any N hN1 (by omega) w
  have q9 := fun W => refNew_any N hN1 (by omega) W
  have k1 : ¬ ((70 : Int) < (N : Int)) := by omega
  have k5 : ¬ ((60 : Int) < (len : Int)) := by omega
  go_enter Try.func3, Try.ntmps3
  go_wp2_with (first
    | (go_at_call 8; refine q8.mono ?_; rintro e w4 ⟨rfl, hD, hk4⟩)
    | (go_at_call 9; refine (q9 _).mono ?_; rintro e w5 ⟨g, cap, rfl, hR, hg, hk5⟩; have hD5 := hD.kept hk5 (by simp) (by simp) (by simp))
    | (go_at_call 10; refine (made_any _ _ _ _ _ hD5).mono ?_; rintro e w5 ⟨rfl, rfl⟩))
  have hlt := hD.lt
  have hs4 := hk4.size
  have hK5 := hk4.trans hk5
  have hBoth : Both w5 (w.heap.size + 2) w.heap.size (w.heap.size + 1) w4.heap.size g cap (made N) := ⟨hD5, hR, ⟨by omega, by omega, by omega, by omega, by omega, by omega⟩⟩
  obtain ⟨r, hr⟩ : ∃ r, w4.heap.size = r := ⟨_, rfl⟩
  rw [hr] at hBoth hg hs4 ⊢
  clear hr hD hD5 hR hk4 hk5 q8 q9 hlt
  have ho0 : (made N).ops ≤ 0 := Nat.le_refl _
  generalize made N = s0 at *
  go_loopw [49, 5] (fun i p wr => ∃ (j d b1 b2 : Nat) (s : Dk), j ≤ len ∧ i = .int .i64 j ∧ p = .pointer (some ⟨d, 0, none⟩) ∧ Both wr d b1 b2 r g cap s ∧ s.ops ≤ j ∧ w.heap.size ≤ d ∧ w.heap.size ≤ b1 ∧ w.heap.size ≤ b2 ∧ Kept [] w wr) (fun i _ _ => len - (RowKit.intOf i).toNat)
  case atStart => exact ⟨0, _, _, _, s0, by omega, rfl, rfl, hBoth, ho0, by omega, by omega, by omega, hK5⟩
  case round =>
    obtain ⟨j, d, b1, b2, s, hj, rfl, rfl, hB, ho, hd, hb1, hb2, hK⟩ := hrel
    clear hBoth hK5 ho0
    by_cases hlt : j < len
    · obtain ⟨hal, haok, -, hnil | ⟨blk, off, rfl, hcap, hblk, hcs⟩⟩ := hacts.below (hK.below (Nat.le_refl _) (by simp))
      · rw [hnil] at hal
        simp at hal
        omega
      obtain ⟨a, ha⟩ : ∃ a, acts[j]? = some a := ⟨_, List.getElem?_eq_getElem (by rw [hal]; exact hlt)⟩
      have hok := haok a (List.mem_of_getElem? ha)
      have hr : Hid (wr.rangeAt blk (off + j * 19) a.cells) := hcs j a ha
      have kk4 : (j : Int) < (len : Int) := by omega
      have hm1 : Hid (len - (j + 1) < len - j) := by show _ < _; omega
      have hz0 : Blk (wr.alloc (.cells #[.int .i64 0, .int .i64 0, .int .u8 0, .int .u8 0, .int .u8 0, .int .u8 0, .int .u8 0, .int .u8 0, .int .u8 0, .int .u8 0, .int .u8 0, .int .u8 0, .int .u8 0, .int .u8 0, .int .u8 0, .int .u8 0, .int .u8 0, .int .u8 0, .int .u64 0] 35)) wr.heap.size 35 #[.int .i64 0, .int .i64 0, .int .u8 0, .int .u8 0, .int .u8 0, .int .u8 0, .int .u8 0, .int .u8 0, .int .u8 0, .int .u8 0, .int .u8 0, .int .u8 0, .int .u8 0, .int .u8 0, .int .u8 0, .int .u8 0, .int .u8 0, .int .u8 0, .int .u64 0] := blk_new wr 35 _
      have hsz : Hid (a.cells.length = 19) := a.cells_length hok
      have hltB := hB.lt
      have hops : s.ops ≤ 1000000 := by omega
      have ho2 := doS_ops s a
      clear hcs hal haok hacts
      by_cases hkd : a.kind = 5
      · have es : doS s a = s := by rw [doS, if_neg (by omega), if_neg (by omega), if_neg (by omega), if_neg (by omega)]
        rw [es] at ho2
        have qdo := fun W (h : Both W d b1 b2 r g cap s) => do_any d b1 b2 r g cap s a hok hops W h
        unfold DoSaid at qdo
        rw [es] at qdo
        clear es
        go_wp2_with (first
          | refine wpList_load_mid rfl 35 _ rfl blk (off + j * 19) rfl a.cells _ hr.out Try.underlying35 rfl (by rw [hsz.out]; exact Try.size35) ?_
          | (refine wpList_store_blk rfl 35 _ _ rfl wr.heap.size 35 _ a.cells rfl rfl hz0 hsz.out (by rw [hsz.out]; exact Try.size35) (one_cell_act a) ?_; intro w7 hB7 hk7 hz7; have hk07 : Kept [] wr w7 := (kept_alloc [] wr _).young hk7 (Nat.le_refl _); have hBo7 := hB.kept hk07; have hr7 : Hid (w7.rangeAt wr.heap.size 0 a.cells) := hB7.range 0 a.cells (fun j v hv => by rwa [Nat.zero_add]))
          | refine wpList_load_mid rfl 35 _ rfl wr.heap.size 0 rfl a.cells _ hr7.out Try.underlying35 rfl (by rw [hsz.out]; exact Try.size35) ?_
          | (go_at_call 11; refine (qdo _ hBo7).mono ?_; rintro e w8 ⟨rfl, hBo8, hk8⟩; have hB8 := hB7.kept hk8 (by simp; omega); obtain ⟨g0, -, -, -⟩ := act_range hB8 hok; rw [hkd] at g0)
          | (go_at_call 12; refine (copy_any d b1 b2 s _ hBo8.disk).mono ?_; rintro e w9 ⟨d', c1, c2, rfl, hD9, hd9, hc1, hc2, hk9⟩; have hB9 := hB8.kept hk9 (by simp); obtain ⟨-, g1, g2, -⟩ := act_range hB9 hok; replace g2 : Hid _ := g2; have hBo9 := hBo8.kept hk9)
          | refine wpList_load_mid rfl 32 _ rfl wr.heap.size 2 rfl (a.s.map enc) _ g2.out Try.underlying32 rfl (by rw [List.length_map, hok.sec.1]; exact Try.size32) ?_
          | (go_at_call 13; refine (write_any d b1 b2 s a.at_ a.s hok.sec hops _ hBo9.disk).mono ?_; rintro e w10 ⟨rfl, hP10, hk10⟩; have hl8 := hBo8.lt; have hBo10 : Both w10 d' c1 c2 r g cap s := ⟨hD9.kept hk10 (by simp; omega) (by simp; omega) (by simp; omega), hBo9.ref_kept hk10, ⟨by omega, by omega, by omega, by omega, by omega, by omega⟩⟩)
          | (go_at_call 14; refine (alike_any d' c1 c2 r g cap s _ hBo10).mono ?_; rintro e w11 ⟨rfl, hk11⟩))
        go_roundw
        case rel =>
          have hK8 : Kept [] w w8 := (hK.trans hk07).young5 hk8 hd hb1 hb2 (by omega) (by omega)
          have hK10 : Kept [] w w10 := (hK8.trans hk9).young3 hk10 hd hb1 hb2
          have hz8 := hK8.size
          exact ⟨j + 1, d', c1, c2, s, by omega, rfl, rfl, hBo10.kept hk11, by omega, by omega, by omega, by omega, hK10.trans hk11⟩
        case measure => simpa [RowKit.intOf] using hm1.out
      · have hk5' : (a.kind == 5) = false := by simpa using hkd
        have qdo := fun W (h : Both W d b1 b2 r g cap s) => do_any d b1 b2 r g cap s a hok hops W h
        unfold DoSaid at qdo
        generalize doS s a = s' at *
        go_wp2_with (first
          | refine wpList_load_mid rfl 35 _ rfl blk (off + j * 19) rfl a.cells _ hr.out Try.underlying35 rfl (by rw [hsz.out]; exact Try.size35) ?_
          | (refine wpList_store_blk rfl 35 _ _ rfl wr.heap.size 35 _ a.cells rfl rfl hz0 hsz.out (by rw [hsz.out]; exact Try.size35) (one_cell_act a) ?_; intro w7 hB7 hk7 hz7; have hk07 : Kept [] wr w7 := (kept_alloc [] wr _).young hk7 (Nat.le_refl _); have hBo7 := hB.kept hk07; have hr7 : Hid (w7.rangeAt wr.heap.size 0 a.cells) := hB7.range 0 a.cells (fun j v hv => by rwa [Nat.zero_add]))
          | refine wpList_load_mid rfl 35 _ rfl wr.heap.size 0 rfl a.cells _ hr7.out Try.underlying35 rfl (by rw [hsz.out]; exact Try.size35) ?_
          | (go_at_call 11; refine (qdo _ hBo7).mono ?_; rintro e w8 ⟨rfl, hBo8, hk8⟩; have hB8 := hB7.kept hk8 (by simp; omega); obtain ⟨g0, -, -, -⟩ := act_range hB8 hok)
          | (go_at_call 14; refine (alike_any d b1 b2 r g cap s' _ hBo8).mono ?_; rintro e w11 ⟨rfl, hk11⟩))
        go_roundw
        case rel =>
          have hK8 : Kept [] w w8 := (hK.trans hk07).young5 hk8 hd hb1 hb2 (by omega) (by omega)
          exact ⟨j + 1, d, b1, b2, s', by omega, rfl, rfl, hBo8.kept hk11, by omega, hd, hb1, hb2, hK8.trans hk11⟩
        case measure => simpa [RowKit.intOf] using hm1.out
    · obtain rfl : j = len := by omega
      clear hacts
      go_wp2_with (first
        | (go_at_call 7; refine (q7 _).mono ?_; rintro e w12 ⟨rfl, hk12⟩))
      go_ret
      exact ⟨rfl, hK.trans hk12⟩
end Go.Proofs.Ytidgjhgeminelaa
