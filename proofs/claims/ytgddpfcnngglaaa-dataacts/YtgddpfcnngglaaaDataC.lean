/-
  The acts of DataActs, as they lie in a slice and in a block; the walk of DataActs.
-/
import Derived.Test.YtgddpfcnngglaaaDataT
import Derived.Test.YtgddpfcnngglaaaDataK
import Derived.Deep.CutBlock
namespace Go.Proofs.Ytgddpfcnngglaaa
open Go.RowKit Go.Maps Go.Shelf
open Math

/-- An act. -/
structure Da where
  k : Int
  t : Int
  m : Nat
  o : Int
  l : Int
  sa : Option Addr
  len : Nat
  cap : Nat
  bs : List Nat
def Da.cells (a : Da) : List Value := [.int .i64 a.k, .int .i64 a.t, .int .u64 (a.m : Int), .int .i64 a.o, .int .i64 a.l, .slice a.sa a.len a.cap]
theorem Da.arr (a : Da) : a.cells.toArray = actCells a.k a.t a.m a.o a.l (.slice a.sa a.len a.cap) := rfl
theorem Da.one (a : Da) : ∀ v ∈ a.cells, v.oneCell' = true := by
  intro v hv
  simp only [Da.cells, List.mem_cons, List.not_mem_nil, or_false] at hv
  rcases hv with rfl | rfl | rfl | rfl | rfl | rfl <;> rfl
structure Da.Ok (a : Da) (n : Nat) (W : World) : Prop where
  t0 : -9223372036854775808 ≤ a.t
  t1 : a.t ≤ 9223372036854775807
  m0 : a.m < 18446744073709551616
  len0 : a.len ≤ 9223372036854775807
  row : ByteRow 0 n W (.slice a.sa a.len a.cap) a.bs
/-- The acts lie in a slice. -/
def DasAt (n : Nat) (W : World) (a : Option Addr) (len cap : Nat) (acts : List Da) : Prop :=
  acts.length = len ∧ (∀ x ∈ acts, x.Ok n W) ∧ (acts = [] ∨ ∃ b off, a = some ⟨b, off, none⟩ ∧ len ≤ cap ∧ b < n ∧ ∀ j x, acts[j]? = some x → ∀ i v, x.cells[i]? = some v → W.cell? ⟨b, off + j * 6 + i, none⟩ = some v)
theorem DasAt.kept {n : Nat} {L : List Nat} {A B : World} {a : Option Addr} {len cap : Nat} {acts : List Da} (h : DasAt n A a len cap acts) (hn : n ≤ A.heap.size) (hK : Kept L A B) (hL : ∀ k ∈ L, n ≤ k) : DasAt n B a len cap acts := by
  obtain ⟨h1, h2, h3⟩ := h
  refine ⟨h1, fun x hx => ?_, ?_⟩
  · have := h2 x hx
    exact ⟨this.t0, this.t1, this.m0, this.len0, this.row.kept hn hK (fun k hk => .inr (hL k hk))⟩
  · rcases h3 with h3 | ⟨b, off, e, hl, hb, hc⟩
    · exact .inl h3
    · refine .inr ⟨b, off, e, hl, hb, fun j x hx i v hv => ?_⟩
      rw [World.cell?_of_block (w := A) (w' := B) (hK.block b (by omega) (fun hm => by have := hL b hm; omega))]
      exact hc j x hx i v hv
set_option maxRecDepth 100000 in
theorem Try.size36 : (Try.prog.info? 36).map (·.size) = some 6 := by kernel_rfl

set_option maxRecDepth 100000 in
set_option maxHeartbeats 1000000 in
/-- DataActs, of what is let go -/
theorem acts_early (n : Int) (a0 : Option Addr) (len cap : Nat) (hlen : len ≤ 9223372036854775807) (w : World) (hno : n < 1 ∨ 40 < n ∨ 40 < len) :
    Calls Try.prog 3 #[.int .i64 n, .slice a0 len cap] w fun e w' => e = .returned (.bool true) ∧ Kept [] w w' := by
  have q3 := lives_any
  rcases (show n < 1 ∨ (¬ (n < 1) ∧ 40 < n) ∨ (¬ (n < 1) ∧ ¬ (40 < n) ∧ (40 : Int) < (len : Int)) by omega) with g1 | ⟨g1, g2⟩ | ⟨g1, g2, g3⟩
  all_goals clear hno
  all_goals
    go_enter Try.func3, Try.ntmps3
    go_wp2_with (first
      | (go_at_call 6; refine (q3 _).mono ?_; rintro e w3 ⟨rfl, hk3⟩))
    go_ret
    exact ⟨rfl, hk3⟩

theorem wpAnyH_stronger {P : Program} {ops : Array Oper} {Q : Exit → Act → World → Prop} {md : Region.Mode} {S S' : World → Prop} (hS : ∀ w, S' w → S w) :
    ∀ (fuel : Nat) (listed : Array Bool) (a : Act) (w : World), wpAnyH P md ops Q S' fuel listed a w → wpAnyH P md ops Q S fuel listed a w
  | 0, _, _, _, h => h
  | fuel + 1, _, _, _, h => ⟨h.1, fun i hi => wpOp_mono (fun _ _ h' => ⟨hS _ h'.1, wpAnyH_stronger hS fuel _ _ _ h'.2⟩) (h.2 i hi)⟩

set_option maxRecDepth 100000 in
set_option maxHeartbeats 16000000 in
/-- DataActs, of a play -/
theorem acts_play (N : Nat) (hN1 : 1 ≤ N) (hN2 : N ≤ 40) (a0 : Option Addr) (len cap0 : Nat) (acts : List Da) (hlen : len ≤ 40) (w : World) (hacts : DasAt w.heap.size w a0 len cap0 acts) :
    Calls Try.prog 3 #[.int .i64 (N : Int), .slice a0 len cap0] w fun e w' => e = .returned (.bool true) ∧ Kept [] w w' := by
  have q7 := lives_any
  have q8 := new_ex N hN1 (by omega) w
  have q9 := fun W => refNew_any N hN1 (by omega) W
  have g0 : ¬ ((N : Int) < 1) := by omega
  have g1 : ¬ (40 < (N : Int)) := by omega
  have g2 : ¬ ((40 : Int) < (len : Int)) := by omega
  go_enter Try.func3, Try.ntmps3
  go_wp2_with (first
    | (go_at_call 7; refine q8.mono ?_; rintro e w4 ⟨d, b1, b2, rfl, hD, hdl, hk4⟩)
    | (go_at_call 8; refine (q9 _).mono ?_; rintro e w5 ⟨g, cap, rfl, hR, hg, hk5⟩; have hD5 := hD.kept hk5 (by simp) (by simp) (by simp)))
  have hlt := hD.lt
  have hs4 := hk4.size
  have hK5 := hk4.trans hk5
  have hBoth : Both w5 d b1 b2 w4.heap.size g cap (made N) := ⟨hD5, hR, ⟨by omega, by omega, by omega, by omega, by omega, by omega⟩⟩
  obtain ⟨r, hr⟩ : ∃ r, w4.heap.size = r := ⟨_, rfl⟩
  rw [hr] at hBoth
  have hrl : w.heap.size ≤ r := by omega
  have hgl : w.heap.size ≤ g := by omega
  rw [hr]
  clear hr hD hD5 hR hk4 hk5 q8 q9 hlt hs4 hg
  have ho0 : (made N).ops ≤ 1100 * 0 := Nat.le_refl _
  generalize made N = s0 at *
  go_loopw [43] (fun i wr => ∃ (j : Nat) (s : Dk), j ≤ len ∧ i = .int .i64 j ∧ Both wr d b1 b2 r g cap s ∧ s.ops ≤ 1100 * j ∧ Kept [] w wr) (fun i _ => len - (RowKit.intOf i).toNat)
  case atStart => exact ⟨0, s0, by omega, rfl, hBoth, ho0, hK5⟩
  case round =>
    obtain ⟨j, s, hj, rfl, hB, ho, hK⟩ := hrel
    clear hBoth hK5 ho0
    by_cases hlt : j < len
    · obtain ⟨hal, haok, hnil | ⟨blk, off, rfl, hcap, hblk, hcs⟩⟩ := hacts.kept (Nat.le_refl _) hK (by simp)
      · rw [hnil] at hal
        simp at hal
        omega
      obtain ⟨a, ha⟩ : ∃ a, acts[j]? = some a := ⟨_, List.getElem?_eq_getElem (by rw [hal]; exact hlt)⟩
      have hok := haok a (List.mem_of_getElem? ha)
      have hr : Hid (wr.rangeAt blk (off + j * 6) a.cells) := hcs j a ha
      have kk4 : (j : Int) < (len : Int) := by omega
      have kcap : (j : Int) < (cap0 : Int) := by omega
      have hm1 : Hid (len - (j + 1) < len - j) := by show _ < _; omega
      have hz0 : Blk (wr.alloc (.cells #[.int .i64 0, .int .i64 0, .int .u64 0, .int .i64 0, .int .i64 0, .slice none 0 0] 36)) wr.heap.size 36 #[.int .i64 0, .int .i64 0, .int .u64 0, .int .i64 0, .int .i64 0, .slice none 0 0] := blk_new wr 36 _
      have hsz : Hid (a.cells.length = 6) := rfl
      have hltB := hB.lt
      have hops : s.ops ≤ 900000 := by omega
      have hal0 := hok.len0
      have hval := hB.disk.valid
      clear hcs hal haok hacts ha
      by_cases hbig : 400 < a.len
      · have kb : (400 : Int) < (a.len : Int) := by omega
        go_wp2_with (first
          | refine wpList_load_mid rfl 36 _ rfl blk (off + j * 6) rfl a.cells _ hr.out Try.underlying36 rfl (by rw [hsz.out]; exact Try.size36) ?_
          | (refine wpList_store_blk rfl 36 _ _ rfl wr.heap.size 36 _ a.cells rfl rfl hz0 hsz.out (by rw [hsz.out]; exact Try.size36) a.one ?_; intro w7 hB7 hk7 hz7; have hk07 : Kept [] wr w7 := (kept_alloc [] wr _).young hk7 (Nat.le_refl _); have hBo7 := hB.kept hk07; have hB7' : Blk w7 wr.heap.size 36 (actCells a.k a.t a.m a.o a.l (.slice a.sa a.len a.cap)) := hB7; obtain ⟨c0, c1, c2, c3, c4, c5⟩ := act_six hB7')
          | (go_at_call 6; refine (q7 _).mono ?_; rintro e w8 ⟨rfl, hk8⟩))
        go_ret
        exact ⟨rfl, (hK.trans hk07).trans hk8⟩
      · have kb : ¬ ((400 : Int) < (a.len : Int)) := by omega
        go_upto_block 2 with (first
          | refine wpList_load_mid rfl 36 _ rfl blk (off + j * 6) rfl a.cells _ hr.out Try.underlying36 rfl (by rw [hsz.out]; exact Try.size36) ?_
          | (refine wpList_store_blk rfl 36 _ _ rfl wr.heap.size 36 _ a.cells rfl rfl hz0 hsz.out (by rw [hsz.out]; exact Try.size36) a.one ?_; intro w7 hB7 hk7 hz7; have hk07 : Kept [] wr w7 := (kept_alloc [] wr _).young hk7 (Nat.le_refl _); have hBo7 := hB.kept hk07; have hB7' : Blk w7 wr.heap.size 36 (actCells a.k a.t a.m a.o a.l (.slice a.sa a.len a.cap)) := hB7; obtain ⟨c0, c1, c2, c3, c4, c5⟩ := act_six hB7'))
        have hKw7 := hK.trans hk07
        have hrow := hok.row.kept hK.size hk07 (by simp)
        go_cut [] from 52 to 162 (fun W => ∃ s', Both W d b1 b2 r g cap s' ∧ s'.ops ≤ 1100 * (j + 1) ∧ Kept [] w W)
        case first =>
          have hap : ∀ k ∈ [d, b1, b2], k < 0 ∨ w.heap.size ≤ k := by simp; omega
          have har : ∀ k ∈ [r, g], k < 0 ∨ w.heap.size ≤ k := by simp; omega
          have hL7 : w.heap.size ≤ w7.heap.size := hKw7.size
          by_cases n0 : a.k = 0
          · have q9 := fun W (h : DiskAt W d b1 b2 s) => dWrite_any d b1 b2 s a.o a.l (.slice a.sa a.len a.cap) a.bs 0 w.heap.size W h hops
            have q10 := fun W (h : RefAt W r g cap s) => rWrite_any r g cap s a.o a.l (.slice a.sa a.len a.cap) a.bs 0 w.heap.size W h hops
            have hs' := putS_ops s hval.top a.o a.l a.bs
            generalize putS s a.o a.l a.bs = s' at *
            generalize putE s a.o a.l a.bs = pe at *
            go_wp2_with fail
            have hBoD := hBo7.kept (kept_drew [] w7)
            have hBD := hB7'.kept (kept_drew [] w7) (by simp)
            obtain ⟨-, -, -, x3, x4, x5⟩ := act_six hBD
            have hrD := hrow.kept hL7 (kept_drew [] w7) (by simp)
            clear c0 c1 c2 c3 c4 c5
            go_region_held3 (fun W => W.cell? ⟨wr.heap.size, 3, none⟩ = some (.int .i64 a.o) ∧ W.cell? ⟨wr.heap.size, 4, none⟩ = some (.int .i64 a.l) ∧ W.cell? ⟨wr.heap.size, 5, none⟩ = some (.slice a.sa a.len a.cap)) (exact ⟨x3, x4, x5⟩) (first
              | (go_at_call 9; refine (q9 _ hBoD.disk hrD hL7 hap).mono ?_; rintro e w8 ⟨rfl, hD8, hk8⟩; have hB8 := hBD.kept hk8 (by simp; omega); replace x3 := (act_six hB8).2.2.2.1; replace x4 := (act_six hB8).2.2.2.2.1; replace x5 := (act_six hB8).2.2.2.2.2)
              | (go_at_call 10; refine (q10 _ (hBoD.ref_kept hk8) (hrD.kept hL7 hk8 hap) (Nat.le_trans hL7 hk8.size) har).mono ?_; rintro e w9 ⟨rfl, hR9, hk9⟩; have hB9 := hB8.kept hk9 (by simp; omega); replace x3 := (act_six hB9).2.2.2.1; replace x4 := (act_six hB9).2.2.2.2.1; replace x5 := (act_six hB9).2.2.2.2.2))
            obtain ⟨hBo9, hkk9⟩ := hBoD.turned hD8 hk8 hR9 hk9
            go_wp2_with fail
            go_meet
            case rel => exact ⟨s', hBo9, by omega, (hKw7.trans (kept_drew [] _)).young5 hkk9 hdl.1 hdl.2.1 hdl.2.2 hrl hgl⟩
          by_cases n1 : a.k = 1
          · have q9 := fun W (h : DiskAt W d b1 b2 s) => dRead_any d b1 b2 s a.o a.l W h
            have q10 := fun W (h : RefAt W r g cap s) => rRead_any r g cap s a.o a.l W h
            generalize gotL s a.o a.l = gl at *
            generalize gotE s a.o a.l = ge at *
            go_wp2_with (first
              | (go_at_call 11; refine (q9 _ hBo7.disk).mono ?_; rintro e w8 ⟨v8, rfl, hR8, hk8⟩; have hBo8 := hBo7.kept hk8; obtain ⟨-, -, -, e3, e4, -⟩ := act_six (hB7'.kept hk8 (by simp)))
              | (go_at_call 12; refine (q10 _ hBo8.ref).mono ?_; rintro e w9 ⟨v9, rfl, hR9, hk9⟩; have hBo9 := hBo8.kept hk9; have cv8 := conv_txt (hR8.kept (Nat.le_refl _) hk9 (by simp)); have cv9 := conv_txt hR9))
            go_meet
            case rel => exact ⟨s, hBo9, by omega, (hKw7.trans hk8).trans hk9⟩
          by_cases n2 : a.k = 2
          · have q9 := fun W (h : DiskAt W d b1 b2 s) => dExtent_any d b1 b2 s a.t W h
            have q10 := fun W (h : RefAt W r g cap s) => rExtent_any r g cap s a.t W h
            generalize gotL s (Span.wOff a.t) (Span.wLen a.t) = gl at *
            generalize gotE s (Span.wOff a.t) (Span.wLen a.t) = ge at *
            go_wp2_with (first
              | (go_at_call 13; refine (q9 _ hBo7.disk).mono ?_; rintro e w8 ⟨v8, rfl, hR8, hk8⟩; have hBo8 := hBo7.kept hk8; obtain ⟨-, e1, -, -, -, -⟩ := act_six (hB7'.kept hk8 (by simp)))
              | (go_at_call 14; refine (q10 _ hBo8.ref).mono ?_; rintro e w9 ⟨v9, rfl, hR9, hk9⟩; have hBo9 := hBo8.kept hk9; have cv8 := conv_txt (hR8.kept (Nat.le_refl _) hk9 (by simp)); have cv9 := conv_txt hR9))
            go_meet
            case rel => exact ⟨s, hBo9, by omega, (hKw7.trans hk8).trans hk9⟩
          by_cases n3 : a.k = 3
          · have q9 := fun W (h : DiskAt W d b1 b2 s) => dSetExtent_any d b1 b2 s a.t (.slice a.sa a.len a.cap) a.bs 0 w.heap.size W h hops
            have q10 := fun W (h : RefAt W r g cap s) => rSetExtent_any r g cap s a.t (.slice a.sa a.len a.cap) a.bs 0 w.heap.size W h hops
            have hs' := putS_ops s hval.top (Span.wOff a.t) (Span.wLen a.t) a.bs
            generalize putS s (Span.wOff a.t) (Span.wLen a.t) a.bs = s' at *
            generalize putE s (Span.wOff a.t) (Span.wLen a.t) a.bs = pe at *
            go_wp2_with fail
            have hBoD := hBo7.kept (kept_drew [] w7)
            have hBD := hB7'.kept (kept_drew [] w7) (by simp)
            obtain ⟨-, x1, -, -, -, x5⟩ := act_six hBD
            have hrD := hrow.kept hL7 (kept_drew [] w7) (by simp)
            clear c0 c1 c2 c3 c4 c5
            go_region_held3 (fun W => W.cell? ⟨wr.heap.size, 1, none⟩ = some (.int .i64 a.t) ∧ W.cell? ⟨wr.heap.size, 5, none⟩ = some (.slice a.sa a.len a.cap)) (exact ⟨x1, x5⟩) (first
              | (go_at_call 15; refine (q9 _ hBoD.disk hrD hL7 hap).mono ?_; rintro e w8 ⟨rfl, hD8, hk8⟩; have hB8 := hBD.kept hk8 (by simp; omega); replace x1 := (act_six hB8).2.1; replace x5 := (act_six hB8).2.2.2.2.2)
              | (go_at_call 16; refine (q10 _ (hBoD.ref_kept hk8) (hrD.kept hL7 hk8 hap) (Nat.le_trans hL7 hk8.size) har).mono ?_; rintro e w9 ⟨rfl, hR9, hk9⟩; have hB9 := hB8.kept hk9 (by simp; omega); replace x1 := (act_six hB9).2.1; replace x5 := (act_six hB9).2.2.2.2.2))
            obtain ⟨hBo9, hkk9⟩ := hBoD.turned hD8 hk8 hR9 hk9
            go_wp2_with fail
            go_meet
            case rel => exact ⟨s', hBo9, by omega, (hKw7.trans (kept_drew [] _)).young5 hkk9 hdl.1 hdl.2.1 hdl.2.2 hrl hgl⟩
          by_cases n4 : a.k = 4
          · have q9 := fun W (h : DiskAt W d b1 b2 s) => flush_any d b1 b2 s (by omega) W h
            have q10 := fun W (h : RefAt W r g cap s) => refFlush_any r g cap s (by omega) W h
            have hs' : (flushS s).ops ≤ s.ops + 1 := by unfold flushS; split <;> simp [burnt, spent, done]
            generalize flushS s = s' at *
            generalize flushE s = pe at *
            go_wp2_with (first
              | (go_at_call 17; refine (q9 _ hBo7.disk).mono ?_; rintro e w8 ⟨rfl, hD8, hk8⟩)
              | (go_at_call 18; refine (q10 _ (hBo7.ref_kept hk8)).mono ?_; rintro e w9 ⟨rfl, hR9, hk9⟩; obtain ⟨hBo9, hkk9⟩ := hBo7.turned hD8 hk8 hR9 hk9))
            go_meet
            case rel => exact ⟨s', hBo9, by omega, hKw7.young5 hkk9 hdl.1 hdl.2.1 hdl.2.2 hrl hgl⟩
          by_cases n5 : a.k = 5
          · have q9 := fun W (h : DiskAt W d b1 b2 s) => crash_any d b1 b2 s a.m hok.m0 W h
            have q10 := fun W (h : RefAt W r g cap s) => refCrash_any r g cap s a.m hok.m0 W h
            have hs' : (crashed s a.m).ops = s.ops := rfl
            generalize crashed s a.m = s' at *
            go_wp2_with (first
              | (go_at_call 19; refine (q9 _ hBo7.disk).mono ?_; rintro e w8 ⟨rfl, hD8, hk8⟩; obtain ⟨-, -, e2, -, -, -⟩ := act_six (hB7'.kept hk8 (by simp; omega)))
              | (go_at_call 20; refine (q10 _ (hBo7.ref_kept hk8)).mono ?_; rintro e w9 ⟨rfl, hR9, hk9⟩; obtain ⟨hBo9, hkk9⟩ := hBo7.turned hD8 hk8 hR9 hk9))
            go_meet
            case rel => exact ⟨s', hBo9, by omega, hKw7.young5 hkk9 hdl.1 hdl.2.1 hdl.2.2 hrl hgl⟩
          by_cases n6 : a.k = 6
          · have q9 := fun W (h : DiskAt W d b1 b2 s) => fuse_any d b1 b2 s a.t hok.t0 hok.t1 W h
            have q10 := fun W (h : RefAt W r g cap s) => setFuse_any r g cap s a.t hok.t0 hok.t1 W h
            have hs' : (fused s a.t).ops = s.ops := rfl
            generalize fused s a.t = s' at *
            go_wp2_with (first
              | (go_at_call 21; refine (q9 _ hBo7.disk).mono ?_; rintro e w8 ⟨rfl, hD8, hk8', hz8⟩; replace hz8 : Hid _ := hz8; have hk8 : Kept [d, b1, b2] w7 w8 := hk8'.mono (by simp); obtain ⟨-, e1, -, -, -, -⟩ := act_six (hB7'.kept hk8 (by simp; omega)))
              | (go_at_call 22; refine (q10 _ (hBo7.ref_kept hk8)).mono ?_; rintro e w9 ⟨rfl, hR9, hk9⟩; obtain ⟨hBo9, hkk9⟩ := hBo7.turned hD8 hk8 hR9 (hk9.mono (by simp))))
            go_meet
            case rel => exact ⟨s', hBo9, by omega, hKw7.young5 hkk9 hdl.1 hdl.2.1 hdl.2.2 hrl hgl⟩
          · have z0 : (a.k == 0) = false := by simpa using n0
            have z1 : (a.k == 1) = false := by simpa using n1
            have z2 : (a.k == 2) = false := by simpa using n2
            have z3 : (a.k == 3) = false := by simpa using n3
            have z4 : (a.k == 4) = false := by simpa using n4
            have z5 : (a.k == 5) = false := by simpa using n5
            have z6 : (a.k == 6) = false := by simpa using n6
            go_wp2_with fail
            go_meet
            case rel => exact ⟨s, hBo7, by omega, hKw7⟩
        case rest =>
          obtain ⟨s', hB', ho', hK'⟩ := hcut
          have hQ := hB'.kept (kept_drew [] wc)
          have hKq := hK'.trans (kept_drew [] wc)
          have qs := fun W (h : DiskAt W d b1 b2 s') => dSectors_any d b1 b2 s' W h
          have qr := fun W (h : RefAt W r g cap s') => rSectors_any r g cap s' W h
          have qi := fun W (h : DiskAt W d b1 b2 s') => dImage_any d b1 b2 s' W h
          have qj := fun W (h : RefAt W r g cap s') => rImage_any r g cap s' W h
          have qo := fun W (h : DiskAt W d b1 b2 s') => ops_any d b1 b2 s' W h
          generalize dataN s' = DN at *
          generalize imgL s' = IL at *
          clear c0 c1 c2 c3 c4 c5 hBo7 hB7 hB7' hrow hB hok hz0 hr
          go_wp2_with fail
          refine wp_region_held_drew (S := fun W => Kept [] wc.drew W) (by kernel_rfl) (Kept.refl _ _) (fun hP => ?_)
          clear hP
          have hH : Kept [] wc.drew wc.drew := Kept.refl _ _
          refine wpAnyH_take (i := 0) (oi := { dst := some 163, op := Op.move (Operand.tmp 5), type := 24, pos := "law.go:71", after := #[], guard := none }) (v := (.pointer (some ⟨d, 0, none⟩))) rfl (by kernel_rfl) (by kernel_rfl) (by kernel_rfl) (fun _ _ _ h => h) (Or.inl ⟨by rfl, fun W hSw => by go_simp⟩) hH ?_
          try simp only [Act.put, List.setIfInBounds_toArray, List.set_cons_zero, List.set_cons_succ]
          refine wpAnyH_take (i := 2) (oi := { dst := some 165, op := Op.move (Operand.tmp 7), type := 28, pos := "law.go:71", after := #[], guard := none }) (v := (.pointer (some ⟨r, 0, none⟩))) rfl (by kernel_rfl) (by kernel_rfl) (by kernel_rfl) (fun _ _ _ h => h) (Or.inl ⟨by rfl, fun W hSw => by go_simp⟩) hH ?_
          try simp only [Act.put, List.setIfInBounds_toArray, List.set_cons_zero, List.set_cons_succ]
          refine wpAnyH_ready (rs := [1]) (by kernel_rfl) (by simp) ?_
          refine AllReadyH.cons (o := { dst := some 164, op := Op.call { callee := Callee.value (Operand.func 23), args := #[Operand.tmp 163], argTypes := #[24] }, type := 3, pos := "law.go:71", after := #[{ on := 0, ground := Ground.data }], guard := none }) rfl (fun K hK => ?_) AllReadyH.nil
          go_simp
          refine (qs _ hQ.disk).mono ?_
          rintro e w' ⟨rfl, rfl⟩
          go_wp2_with fail
          refine hK.out _ _ hH (fun _ => ?_)
          clear hK K
          try simp only [Act.put, List.setIfInBounds_toArray, List.set_cons_zero, List.set_cons_succ]
          refine wpAnyH_ready (rs := [3]) (by kernel_rfl) (by simp) ?_
          refine AllReadyH.cons (o := { dst := some 166, op := Op.call { callee := Callee.value (Operand.func 24), args := #[Operand.tmp 165], argTypes := #[28] }, type := 3, pos := "law.go:71", after := #[{ on := 2, ground := Ground.data }, { on := 1, ground := Ground.chain }], guard := none }) rfl (fun K hK => ?_) AllReadyH.nil
          go_simp
          refine (qr _ hQ.ref).mono ?_
          rintro e w' ⟨rfl, rfl⟩
          go_wp2_with fail
          refine hK.out _ _ hH (fun _ => ?_)
          clear hK K
          try simp only [Act.put, List.setIfInBounds_toArray, List.set_cons_zero, List.set_cons_succ]
          refine wpAnyH_take (i := 4) (oi := { dst := some 167, op := Op.binOp BinOp.neq 3 (Operand.tmp 164) (Operand.tmp 166) 3, type := 4, pos := "law.go:71", after := #[{ on := 1, ground := Ground.data }, { on := 3, ground := Ground.data }], guard := none }) (v := (.bool false)) rfl (by kernel_rfl) (by kernel_rfl) (by kernel_rfl) (fun _ _ _ h => h) (Or.inl ⟨by rfl, fun W hSw => by go_simp⟩) hH ?_
          try simp only [Act.put, List.setIfInBounds_toArray, List.set_cons_zero, List.set_cons_succ]
          refine wpAnyH_take (i := 5) (oi := { dst := some 168, op := Op.move (Operand.tmp 167), type := 4, pos := "law.go:71", after := #[{ on := 4, ground := Ground.data }, { on := 3, ground := Ground.chain }], guard := none }) (v := (.bool false)) rfl (by kernel_rfl) (by kernel_rfl) (by kernel_rfl) (fun _ _ _ h => h) (Or.inl ⟨by rfl, fun W hSw => by go_simp⟩) hH ?_
          try simp only [Act.put, List.setIfInBounds_toArray, List.set_cons_zero, List.set_cons_succ]
          refine wpAnyH_take (i := 6) (oi := { dst := some 169, op := Op.move (Operand.tmp 5), type := 24, pos := "law.go:71", after := #[{ on := 5, ground := Ground.guard }], guard := some (5, false) }) (v := (.pointer (some ⟨d, 0, none⟩))) rfl (by kernel_rfl) (by kernel_rfl) (by kernel_rfl) (fun _ _ _ h => h) (Or.inl ⟨by rfl, fun W hSw => by go_simp⟩) hH ?_
          try simp only [Act.put, List.setIfInBounds_toArray, List.set_cons_zero, List.set_cons_succ]
          refine wpAnyH_take (i := 9) (oi := { dst := some 172, op := Op.move (Operand.tmp 7), type := 28, pos := "law.go:71", after := #[{ on := 5, ground := Ground.guard }], guard := some (5, false) }) (v := (.pointer (some ⟨r, 0, none⟩))) rfl (by kernel_rfl) (by kernel_rfl) (by kernel_rfl) (fun _ _ _ h => h) (Or.inl ⟨by rfl, fun W hSw => by go_simp⟩) hH ?_
          try simp only [Act.put, List.setIfInBounds_toArray, List.set_cons_zero, List.set_cons_succ]
          refine wpAnyH_ready (rs := [7]) (by kernel_rfl) (by simp) ?_
          refine AllReadyH.cons (o := { dst := some 170, op := Op.call { callee := Callee.value (Operand.func 25), args := #[Operand.tmp 169], argTypes := #[24] }, type := 34, pos := "law.go:71", after := #[{ on := 6, ground := Ground.data }, { on := 5, ground := Ground.chain }, { on := 5, ground := Ground.guard }], guard := some (5, false) }) rfl (fun K hK => ?_) AllReadyH.nil
          go_simp
          refine (qi _ hQ.disk).mono ?_
          rintro e w10 ⟨v10, rfl, hR10, hk10⟩
          go_wp2_with fail
          refine hK.out _ _ hk10 (fun _ => ?_)
          clear hK K
          refine wpAnyH_stronger (S' := fun W => Kept [] w10 W) (fun W h => Kept.trans hk10 h) _ _ _ _ ?_
          replace hH : Kept [] w10 w10 := Kept.refl _ _
          replace hQ := hQ.kept hk10
          replace hKq := hKq.trans hk10
          try simp only [Act.put, List.setIfInBounds_toArray, List.set_cons_zero, List.set_cons_succ]
          refine wpAnyH_take (i := 8) (oi := { dst := some 171, op := Op.convert 34 9 (Operand.tmp 170), type := 9, pos := "law.go:71", after := #[{ on := 7, ground := Ground.data }, { on := 5, ground := Ground.guard }], guard := some (5, false) }) (v := (.string (txt IL))) rfl (by kernel_rfl) (by kernel_rfl) (by kernel_rfl) (fun _ _ _ h => h) (Or.inl ⟨by rfl, fun W hSw => by have hc := conv_txt (hR10.kept (Nat.le_refl _) hSw (by simp)); go_simp⟩) hH ?_
          try simp only [Act.put, List.setIfInBounds_toArray, List.set_cons_zero, List.set_cons_succ]
          refine wpAnyH_ready (rs := [10]) (by kernel_rfl) (by simp) ?_
          refine AllReadyH.cons (o := { dst := some 173, op := Op.call { callee := Callee.value (Operand.func 26), args := #[Operand.tmp 172], argTypes := #[28] }, type := 34, pos := "law.go:71", after := #[{ on := 9, ground := Ground.data }, { on := 7, ground := Ground.chain }, { on := 5, ground := Ground.guard }], guard := some (5, false) }) rfl (fun K hK => ?_) AllReadyH.nil
          go_simp
          refine (qj _ hQ.ref).mono ?_
          rintro e w11 ⟨v11, rfl, hR11, hk11⟩
          go_wp2_with fail
          refine hK.out _ _ hk11 (fun _ => ?_)
          clear hK K
          refine wpAnyH_stronger (S' := fun W => Kept [] w11 W) (fun W h => Kept.trans hk11 h) _ _ _ _ ?_
          replace hH : Kept [] w11 w11 := Kept.refl _ _
          replace hQ := hQ.kept hk11
          replace hKq := hKq.trans hk11
          try simp only [Act.put, List.setIfInBounds_toArray, List.set_cons_zero, List.set_cons_succ]
          refine wpAnyH_take (i := 11) (oi := { dst := some 174, op := Op.convert 34 9 (Operand.tmp 173), type := 9, pos := "law.go:71", after := #[{ on := 10, ground := Ground.data }, { on := 5, ground := Ground.guard }], guard := some (5, false) }) (v := (.string (txt IL))) rfl (by kernel_rfl) (by kernel_rfl) (by kernel_rfl) (fun _ _ _ h => h) (Or.inl ⟨by rfl, fun W hSw => by have hc := conv_txt (hR11.kept (Nat.le_refl _) hSw (by simp)); go_simp⟩) hH ?_
          try simp only [Act.put, List.setIfInBounds_toArray, List.set_cons_zero, List.set_cons_succ]
          refine wpAnyH_take (i := 12) (oi := { dst := some 175, op := Op.binOp BinOp.neq 9 (Operand.tmp 171) (Operand.tmp 174) 9, type := 4, pos := "law.go:71", after := #[{ on := 8, ground := Ground.data }, { on := 11, ground := Ground.data }, { on := 5, ground := Ground.guard }], guard := some (5, false) }) (v := (.bool false)) rfl (by kernel_rfl) (by kernel_rfl) (by kernel_rfl) (fun _ _ _ h => h) (Or.inl ⟨by rfl, fun W hSw => by go_simp⟩) hH ?_
          try simp only [Act.put, List.setIfInBounds_toArray, List.set_cons_zero, List.set_cons_succ]
          refine wpAnyH_take (i := 13) (oi := { dst := some 176, op := Op.pick (Operand.tmp 168) (Operand.const (Value.bool true)) (Operand.tmp 175), type := 4, pos := "law.go:71", after := #[{ on := 5, ground := Ground.data }, { on := 12, ground := Ground.data }], guard := none }) (v := (.bool false)) rfl (by kernel_rfl) (by kernel_rfl) (by kernel_rfl) (fun _ _ _ h => h) (Or.inl ⟨by rfl, fun W hSw => by go_simp⟩) hH ?_
          try simp only [Act.put, List.setIfInBounds_toArray, List.set_cons_zero, List.set_cons_succ]
          refine wpAnyH_take (i := 14) (oi := { dst := some 177, op := Op.move (Operand.tmp 176), type := 4, pos := "law.go:71", after := #[{ on := 13, ground := Ground.data }, { on := 10, ground := Ground.chain }], guard := none }) (v := (.bool false)) rfl (by kernel_rfl) (by kernel_rfl) (by kernel_rfl) (fun _ _ _ h => h) (Or.inl ⟨by rfl, fun W hSw => by go_simp⟩) hH ?_
          try simp only [Act.put, List.setIfInBounds_toArray, List.set_cons_zero, List.set_cons_succ]
          refine wpAnyH_take (i := 15) (oi := { dst := some 178, op := Op.move (Operand.tmp 5), type := 24, pos := "law.go:71", after := #[{ on := 14, ground := Ground.guard }], guard := some (14, false) }) (v := (.pointer (some ⟨d, 0, none⟩))) rfl (by kernel_rfl) (by kernel_rfl) (by kernel_rfl) (fun _ _ _ h => h) (Or.inl ⟨by rfl, fun W hSw => by go_simp⟩) hH ?_
          try simp only [Act.put, List.setIfInBounds_toArray, List.set_cons_zero, List.set_cons_succ]
          refine wpAnyH_take (i := 17) (oi := { dst := some 180, op := Op.move (Operand.tmp 7), type := 28, pos := "law.go:71", after := #[{ on := 14, ground := Ground.guard }], guard := some (14, false) }) (v := (.pointer (some ⟨r, 0, none⟩))) rfl (by kernel_rfl) (by kernel_rfl) (by kernel_rfl) (fun _ _ _ h => h) (Or.inl ⟨by rfl, fun W hSw => by go_simp⟩) hH ?_
          try simp only [Act.put, List.setIfInBounds_toArray, List.set_cons_zero, List.set_cons_succ]
          refine wpAnyH_take (i := 18) (oi := { dst := some 181, op := Op.nilCheck (Operand.tmp 180), type := 0, pos := "law.go:71", after := #[{ on := 17, ground := Ground.data }, { on := 14, ground := Ground.guard }], guard := some (14, false) }) (v := (.pointer (some ⟨r, 0, none⟩))) rfl (by kernel_rfl) (by kernel_rfl) (by kernel_rfl) (fun _ _ _ h => h) (Or.inl ⟨by rfl, fun W hSw => by go_simp⟩) hH ?_
          try simp only [Act.put, List.setIfInBounds_toArray, List.set_cons_zero, List.set_cons_succ]
          refine wpAnyH_take (i := 19) (oi := { dst := some 182, op := Op.fieldAddr 57 (Operand.tmp 181) 3, type := 0, pos := "law.go:71", after := #[{ on := 18, ground := Ground.data }, { on := 14, ground := Ground.guard }], guard := some (14, false) }) (v := (.pointer (some ⟨r, 3, none⟩))) rfl (by kernel_rfl) (by kernel_rfl) (by kernel_rfl) (fun _ _ _ h => h) (Or.inl ⟨by rfl, fun W hSw => by go_simp⟩) hH ?_
          try simp only [Act.put, List.setIfInBounds_toArray, List.set_cons_zero, List.set_cons_succ]
          refine wpAnyH_take (i := 20) (oi := { dst := some 183, op := Op.load 3 (Operand.tmp 182), type := 3, pos := "law.go:71", after := #[{ on := 19, ground := Ground.data }, { on := 14, ground := Ground.guard }], guard := some (14, false) }) (v := (.int .i64 (s'.ops : Int))) rfl (by kernel_rfl) (by kernel_rfl) (by kernel_rfl) (fun _ _ _ h => h) (Or.inl ⟨by rfl, fun W hSw => by have hc := (hQ.kept hSw).ref.1.four.2.2.2; go_simp⟩) hH ?_
          try simp only [Act.put, List.setIfInBounds_toArray, List.set_cons_zero, List.set_cons_succ]
          refine wpAnyH_ready (rs := [16]) (by kernel_rfl) (by simp) ?_
          refine AllReadyH.cons (o := { dst := some 179, op := Op.call { callee := Callee.value (Operand.func 27), args := #[Operand.tmp 178], argTypes := #[24] }, type := 3, pos := "law.go:71", after := #[{ on := 15, ground := Ground.data }, { on := 14, ground := Ground.chain }, { on := 14, ground := Ground.guard }], guard := some (14, false) }) rfl (fun K hK => ?_) AllReadyH.nil
          go_simp
          refine (qo _ hQ.disk).mono ?_
          rintro e w' ⟨rfl, rfl⟩
          go_wp2_with fail
          refine hK.out _ _ hH (fun _ => ?_)
          clear hK K
          try simp only [Act.put, List.setIfInBounds_toArray, List.set_cons_zero, List.set_cons_succ]
          refine wpAnyH_take (i := 21) (oi := { dst := some 184, op := Op.binOp BinOp.neq 3 (Operand.tmp 179) (Operand.tmp 183) 3, type := 4, pos := "law.go:71", after := #[{ on := 16, ground := Ground.data }, { on := 20, ground := Ground.data }, { on := 14, ground := Ground.guard }], guard := some (14, false) }) (v := (.bool false)) rfl (by kernel_rfl) (by kernel_rfl) (by kernel_rfl) (fun _ _ _ h => h) (Or.inl ⟨by rfl, fun W hSw => by go_simp⟩) hH ?_
          try simp only [Act.put, List.setIfInBounds_toArray, List.set_cons_zero, List.set_cons_succ]
          refine wpAnyH_take (i := 22) (oi := { dst := some 185, op := Op.pick (Operand.tmp 177) (Operand.const (Value.bool true)) (Operand.tmp 184), type := 4, pos := "law.go:71", after := #[{ on := 14, ground := Ground.data }, { on := 21, ground := Ground.data }], guard := none }) (v := (.bool false)) rfl (by kernel_rfl) (by kernel_rfl) (by kernel_rfl) (fun _ _ _ h => h) (Or.inl ⟨by rfl, fun W hSw => by go_simp⟩) hH ?_
          try simp only [Act.put, List.setIfInBounds_toArray, List.set_cons_zero, List.set_cons_succ]
          refine wpAnyH_done (by kernel_rfl) ?_ _
          go_wp2_with fail
          go_roundw
          case rel => exact ⟨j + 1, s', by omega, rfl, hQ, ho', hKq⟩
          case measure => simpa [RowKit.intOf] using hm1.out
    · obtain rfl : j = len := by omega
      clear hacts
      go_wp2_with (first
        | (go_at_call 6; refine (q7 _).mono ?_; rintro e w12 ⟨rfl, hk12⟩))
      go_ret
      exact ⟨rfl, hK.trans hk12⟩
end Go.Proofs.Ytgddpfcnngglaaa
