/-
  The walk of SlotsActs, of a play.
-/
import Derived.Test.YtemlonaekpddcaaSlotJ
namespace Go.Proofs.Ytemlonaekpddcaa
open Go.RowKit Go.Maps Go.Shelf
open Math

theorem put_ops (s : Dk) (base z : Int) (y : Nat) : (putS s base z y).ops ≤ s.ops + 2 := by
  unfold putS
  split
  · split
    · exact Nat.le_add_right _ _
    · split
      · exact Nat.le_add_right _ _
      · unfold putsS
        have h1 := wrote_ops s (putK s base z) (putX s base z y)
        split
        · unfold flushS
          split
          · show (wroteS s _ _).ops ≤ _
            omega
          · show (wroteS s _ _).ops + 1 ≤ _
            omega
        · omega
  · exact Nat.le_add_right _ _

set_option maxRecDepth 100000 in
set_option maxHeartbeats 8000000 in
/-- SlotsActs, of a play -/
theorem acts_play (N : Nat) (hN1 : 1 ≤ N) (hN2 : N ≤ 40) (base z : Int) (a0 : Option Addr) (len cap0 : Nat) (acts : List Sa) (hlen : len ≤ 50) (w : World) (hacts : ActsAt w.heap.size w a0 len cap0 acts) :
    Calls Try.prog 3 #[.slice a0 len cap0, .agg #[.int .i64 (N : Int), .int .i64 base, .int .i64 z]] w fun e w' => e = .returned (.bool true) ∧ Kept [] w w' := by
  have q7 := lives_any
  have q8 := fun W => new_any N hN1 (by omega) W
  have q9 := fun W => refNew_any N hN1 (by omega) W
  have hk0 := kept_alloc [] w (.cells #[.int .i64 (N : Int), .int .i64 base, .int .i64 z] 24)
  have g1 : ¬ (40 < (N : Int)) := by omega
  have g2 : ¬ ((50 : Int) < (len : Int)) := by omega
  go_enter Try.func3, Try.ntmps3
  go_wp2_with fail
  go_quiet (fail)
  replace hk0 := hk0.trans (kept_drewN [] _ nq)
  generalize (w.alloc (.cells #[.int .i64 (N : Int), .int .i64 base, .int .i64 z] 24)).drewN nq = W0 at *
  go_wp2_with (first
    | (go_at_call 8; refine (q8 _).mono ?_; rintro e w4 ⟨rfl, hD, hk4⟩)
    | (go_at_call 9; refine (q9 _).mono ?_; rintro e w5 ⟨g, cap, rfl, hR, hg, hk5⟩; have hD5 := hD.kept hk5 (by simp) (by simp) (by simp)))
  have hlt := hD.lt
  have hs0 := hk0.size
  have hs4 := hk4.size
  have hK5 := (hk0.trans hk4).trans hk5
  have hBoth : Both w5 (W0.heap.size + 2) W0.heap.size (W0.heap.size + 1) w4.heap.size g cap (made N) := ⟨hD5, hR, ⟨by omega, by omega, by omega, by omega, by omega, by omega⟩⟩
  obtain ⟨r, hr⟩ : ∃ r, w4.heap.size = r := ⟨_, rfl⟩
  obtain ⟨d, hd⟩ : ∃ d, W0.heap.size + 2 = d := ⟨_, rfl⟩
  obtain ⟨b1, hb1⟩ : ∃ b, W0.heap.size = b := ⟨_, rfl⟩
  obtain ⟨b2, hb2⟩ : ∃ b, W0.heap.size + 1 = b := ⟨_, rfl⟩
  rw [hr, hd, hb2, hb1] at hBoth
  have hdl : w.heap.size ≤ d := by omega
  have hbl1 : w.heap.size ≤ b1 := by omega
  have hbl2 : w.heap.size ≤ b2 := by omega
  have hrl : w.heap.size ≤ r := by omega
  have hgl : w.heap.size ≤ g := by omega
  rw [hr, hd]
  clear hr hd hb1 hb2 hD hD5 hR hk4 hk5 hk0 q8 q9 hlt hs0 hs4 hg
  have ho0 : (made N).ops ≤ 0 := Nat.le_refl _
  generalize made N = s0 at *
  go_loopw [50] (fun i wr => ∃ (j : Nat) (s : Dk), j ≤ len ∧ i = .int .i64 j ∧ Both wr d b1 b2 r g cap s ∧ s.ops ≤ 2 * j ∧ Kept [] w wr) (fun i _ => len - (RowKit.intOf i).toNat)
  case atStart => exact ⟨0, s0, by omega, rfl, hBoth, ho0, hK5⟩
  case round =>
    obtain ⟨j, s, hj, rfl, hB, ho, hK⟩ := hrel
    clear hBoth hK5 ho0
    by_cases hlt : j < len
    · obtain ⟨hal, haok, hnil | ⟨blk, off, rfl, hcap, hblk, hcs⟩⟩ := hacts.below (hK.below (Nat.le_refl _) (by simp))
      · rw [hnil] at hal
        simp at hal
        omega
      obtain ⟨a, ha⟩ : ∃ a, acts[j]? = some a := ⟨_, List.getElem?_eq_getElem (by rw [hal]; exact hlt)⟩
      have hok := haok a (List.mem_of_getElem? ha)
      have hr : Hid (wr.rangeAt blk (off + j * 20) a.cells) := hcs j a ha
      have kk4 : (j : Int) < (len : Int) := by omega
      have kcap : (j : Int) < (cap0 : Int) := by omega
      have hm1 : Hid (len - (j + 1) < len - j) := by show _ < _; omega
      have hz0 : Blk (wr.alloc (.cells #[.int .i64 0, .int .i64 0, .int .u64 0, .int .u64 0, .int .u8 0, .int .u8 0, .int .u8 0, .int .u8 0, .int .u8 0, .int .u8 0, .int .u8 0, .int .u8 0, .int .u8 0, .int .u8 0, .int .u8 0, .int .u8 0, .int .u8 0, .int .u8 0, .int .u8 0, .int .u8 0] 37)) wr.heap.size 37 #[.int .i64 0, .int .i64 0, .int .u64 0, .int .u64 0, .int .u8 0, .int .u8 0, .int .u8 0, .int .u8 0, .int .u8 0, .int .u8 0, .int .u8 0, .int .u8 0, .int .u8 0, .int .u8 0, .int .u8 0, .int .u8 0, .int .u8 0, .int .u8 0, .int .u8 0, .int .u8 0] := blk_new wr 37 _
      have hsz : Hid (a.cells.length = 20) := a.cells_length hok
      have hltB := hB.lt
      have hops : s.ops ≤ 999998 := by omega
      have hops6 : s.ops ≤ 1000000 := by omega
      clear hcs hal haok hacts ha
      by_cases n0 : a.kind = 0
      · have q10 := fun W (h : DiskAt W d b1 b2 s) => put_any d b1 b2 s base z a.word hok.w hops W h
        have q11 := fun W (h : RefAt W r g cap s) => refPut_any r g cap s base z a.word hok.w hops W h
        have hs' := put_ops s base z a.word
        generalize putS s base z a.word = s' at *
        generalize putE s base z a.word = pe at *
        have q18 := fun W (h : DiskAt W d b1 b2 s') => latest_any d b1 b2 s' base z W h
        have q19 := fun W (h : RefAt W r g cap s') => refLatest_any r g cap s' base z W h
        generalize latestN s' base z = ln at *
        generalize latestY s' base z = ly at *
        go_wp2_with (first
          | refine wpList_load_mid rfl 37 _ rfl blk (off + j * 20) rfl a.cells _ hr.out Try.underlying37 rfl (by rw [hsz.out]; exact Try.size37) ?_
          | (refine wpList_store_blk rfl 37 _ _ rfl wr.heap.size 37 _ a.cells rfl rfl hz0 hsz.out (by rw [hsz.out]; exact Try.size37) (one_cell_act a) ?_; intro w7 hB7 hk7 hz7; have hk07 : Kept [] wr w7 := (kept_alloc [] wr _).young hk7 (Nat.le_refl _); have hBo7 := hB.kept hk07; obtain ⟨c0, c1, c2, c3, -⟩ := act_range hB7; rw [n0] at c0))
        have hBoD := hBo7.kept (kept_drew [] w7)
        have hBD := hB7.kept (kept_drew [] w7) (by simp)
        have c2x := (act_range hBD).2.2.1
        clear c0 c1 c2 c3
        go_region_held3 (fun W => W.cell? ⟨wr.heap.size, 2, none⟩ = some (.int .u64 (a.word : Int))) (exact c2x) (first
          | (go_at_call 10; refine (q10 _ hBoD.disk).mono ?_; rintro e w8 ⟨rfl, hD8, hk8⟩; replace c2x := (act_range (hBD.kept hk8 (by simp; omega))).2.2.1)
          | (go_at_call 11; refine (q11 _ (hBoD.ref_kept hk8)).mono ?_; rintro e w9 ⟨rfl, hR9, hk9⟩; replace c2x := (act_range ((hBD.kept hk8 (by simp; omega)).kept hk9 (by simp; omega))).2.2.1))
        obtain ⟨hBo9, hkk9⟩ := hBoD.turned hD8 hk8 hR9 hk9
        go_wp2_with (first
          | (go_at_call 18; refine (q18 _ hBo9.disk).mono ?_; rintro e w10 ⟨rfl, hk10⟩; have hBo10 := hBo9.kept hk10)
          | (go_at_call 19; refine (q19 _ hBo10.ref).mono ?_; rintro e w11 ⟨rfl, hk11⟩; have hBo11 := hBo10.kept hk11; have cops := hBo11.ref.1.four.2.2.2))
        have hQ := hBo11.kept (kept_drew [] w11)
        have cq := hQ.ref.1.four.2.2.2
        go_region_held3 (fun W => W.cell? ⟨r, 3, none⟩ = some (.int .i64 ((s').ops : Int))) (exact cq) (first
          | (go_at_call 20; refine (ops_any d b1 b2 s' _ hQ.disk).mono ?_; rintro e w12 ⟨rfl, rfl⟩))
        go_wp2_with fail
        go_roundw
        case rel => exact ⟨j + 1, s', by omega, rfl, hQ, by omega, ((((hK.trans hk07).trans (kept_drew [] _)).young5 hkk9 hdl hbl1 hbl2 hrl hgl).trans hk10).trans (hk11.trans (kept_drew [] _))⟩
        case measure => simpa [RowKit.intOf] using hm1.out
      by_cases n1 : a.kind = 1
      · have q12 := fun W (h : DiskAt W d b1 b2 s) => crash_any d b1 b2 s a.mask hok.m W h
        have q13 := fun W (h : RefAt W r g cap s) => refCrash_any r g cap s a.mask hok.m W h
        have hs' : (crashed s a.mask).ops = s.ops := rfl
        generalize crashed s a.mask = s' at *
        have q18 := fun W (h : DiskAt W d b1 b2 s') => latest_any d b1 b2 s' base z W h
        have q19 := fun W (h : RefAt W r g cap s') => refLatest_any r g cap s' base z W h
        generalize latestN s' base z = ln at *
        generalize latestY s' base z = ly at *
        go_wp2_with (first
          | refine wpList_load_mid rfl 37 _ rfl blk (off + j * 20) rfl a.cells _ hr.out Try.underlying37 rfl (by rw [hsz.out]; exact Try.size37) ?_
          | (refine wpList_store_blk rfl 37 _ _ rfl wr.heap.size 37 _ a.cells rfl rfl hz0 hsz.out (by rw [hsz.out]; exact Try.size37) (one_cell_act a) ?_; intro w7 hB7 hk7 hz7; have hk07 : Kept [] wr w7 := (kept_alloc [] wr _).young hk7 (Nat.le_refl _); have hBo7 := hB.kept hk07; obtain ⟨c0, c1, c2, c3, -⟩ := act_range hB7; rw [n1] at c0)
          | (go_at_call 12; refine (q12 _ hBo7.disk).mono ?_; rintro e w8 ⟨rfl, hD8, hk8⟩; have hB8 := hB7.kept hk8 (by simp; omega); obtain ⟨-, -, -, c3', -⟩ := act_range hB8)
          | (go_at_call 13; refine (q13 _ (hBo7.ref_kept hk8)).mono ?_; rintro e w9 ⟨rfl, hR9, hk9⟩; obtain ⟨hBo9, hkk9⟩ := hBo7.turned hD8 hk8 hR9 hk9)
          | (go_at_call 18; refine (q18 _ hBo9.disk).mono ?_; rintro e w10 ⟨rfl, hk10⟩; have hBo10 := hBo9.kept hk10)
          | (go_at_call 19; refine (q19 _ hBo10.ref).mono ?_; rintro e w11 ⟨rfl, hk11⟩; have hBo11 := hBo10.kept hk11; have cops := hBo11.ref.1.four.2.2.2))
        have hQ := hBo11.kept (kept_drew [] w11)
        have cq := hQ.ref.1.four.2.2.2
        go_region_held3 (fun W => W.cell? ⟨r, 3, none⟩ = some (.int .i64 ((s').ops : Int))) (exact cq) (first
          | (go_at_call 20; refine (ops_any d b1 b2 s' _ hQ.disk).mono ?_; rintro e w12 ⟨rfl, rfl⟩))
        go_wp2_with fail
        go_roundw
        case rel => exact ⟨j + 1, s', by omega, rfl, hQ, by omega, (((hK.trans hk07).young5 hkk9 hdl hbl1 hbl2 hrl hgl).trans hk10).trans (hk11.trans (kept_drew [] _))⟩
        case measure => simpa [RowKit.intOf] using hm1.out
      by_cases n2 : a.kind = 2
      · have q14 := fun W (h : DiskAt W d b1 b2 s) => fuse_any d b1 b2 s a.at_ hok.a0 hok.a1 W h
        have q15 := fun W (h : RefAt W r g cap s) => setFuse_any r g cap s a.at_ hok.a0 hok.a1 W h
        have hs' : (fused s a.at_).ops = s.ops := rfl
        generalize fused s a.at_ = s' at *
        have q18 := fun W (h : DiskAt W d b1 b2 s') => latest_any d b1 b2 s' base z W h
        have q19 := fun W (h : RefAt W r g cap s') => refLatest_any r g cap s' base z W h
        generalize latestN s' base z = ln at *
        generalize latestY s' base z = ly at *
        go_wp2_with (first
          | refine wpList_load_mid rfl 37 _ rfl blk (off + j * 20) rfl a.cells _ hr.out Try.underlying37 rfl (by rw [hsz.out]; exact Try.size37) ?_
          | (refine wpList_store_blk rfl 37 _ _ rfl wr.heap.size 37 _ a.cells rfl rfl hz0 hsz.out (by rw [hsz.out]; exact Try.size37) (one_cell_act a) ?_; intro w7 hB7 hk7 hz7; have hk07 : Kept [] wr w7 := (kept_alloc [] wr _).young hk7 (Nat.le_refl _); have hBo7 := hB.kept hk07; obtain ⟨c0, c1, c2, c3, -⟩ := act_range hB7; rw [n2] at c0)
          | (go_at_call 14; refine (q14 _ hBo7.disk).mono ?_; rintro e w8 ⟨rfl, hD8, hk8', hz8⟩; replace hz8 : Hid _ := hz8; have hk8 : Kept [d, b1, b2] w7 w8 := hk8'.mono (by simp); have hB8 := hB7.kept hk8 (by simp; omega); obtain ⟨-, c1', -, -, -⟩ := act_range hB8)
          | (go_at_call 15; refine (q15 _ (hBo7.ref_kept hk8)).mono ?_; rintro e w9 ⟨rfl, hR9, hk9⟩; obtain ⟨hBo9, hkk9⟩ := hBo7.turned hD8 hk8 hR9 (hk9.mono (by simp)))
          | (go_at_call 18; refine (q18 _ hBo9.disk).mono ?_; rintro e w10 ⟨rfl, hk10⟩; have hBo10 := hBo9.kept hk10)
          | (go_at_call 19; refine (q19 _ hBo10.ref).mono ?_; rintro e w11 ⟨rfl, hk11⟩; have hBo11 := hBo10.kept hk11; have cops := hBo11.ref.1.four.2.2.2))
        have hQ := hBo11.kept (kept_drew [] w11)
        have cq := hQ.ref.1.four.2.2.2
        go_region_held3 (fun W => W.cell? ⟨r, 3, none⟩ = some (.int .i64 ((s').ops : Int))) (exact cq) (first
          | (go_at_call 20; refine (ops_any d b1 b2 s' _ hQ.disk).mono ?_; rintro e w12 ⟨rfl, rfl⟩))
        go_wp2_with fail
        go_roundw
        case rel => exact ⟨j + 1, s', by omega, rfl, hQ, by omega, (((hK.trans hk07).young5 hkk9 hdl hbl1 hbl2 hrl hgl).trans hk10).trans (hk11.trans (kept_drew [] _))⟩
        case measure => simpa [RowKit.intOf] using hm1.out
      by_cases n3 : a.kind = 3
      · have q16 := fun W (h : DiskAt W d b1 b2 s) => write_any d b1 b2 s a.at_ a.s hok.sec hops6 W h
        have q17 := fun W (h : RefAt W r g cap s) => refWrite_any r g cap s a.at_ a.s hok.sec hops6 W h
        simp only [arr] at q16 q17
        have hs' := wrote_ops s a.at_ a.s
        generalize wroteS s a.at_ a.s = s' at *
        generalize wroteE s a.at_ = we at *
        have q18 := fun W (h : DiskAt W d b1 b2 s') => latest_any d b1 b2 s' base z W h
        have q19 := fun W (h : RefAt W r g cap s') => refLatest_any r g cap s' base z W h
        generalize latestN s' base z = ln at *
        generalize latestY s' base z = ly at *
        go_wp2_with (first
          | refine wpList_load_mid rfl 37 _ rfl blk (off + j * 20) rfl a.cells _ hr.out Try.underlying37 rfl (by rw [hsz.out]; exact Try.size37) ?_
          | (refine wpList_store_blk rfl 37 _ _ rfl wr.heap.size 37 _ a.cells rfl rfl hz0 hsz.out (by rw [hsz.out]; exact Try.size37) (one_cell_act a) ?_; intro w7 hB7 hk7 hz7; have hk07 : Kept [] wr w7 := (kept_alloc [] wr _).young hk7 (Nat.le_refl _); have hBo7 := hB.kept hk07; obtain ⟨c0, c1, c2, c3, -⟩ := act_range hB7; rw [n3] at c0))
        have hBoD := hBo7.kept (kept_drew [] w7)
        have hBD := hB7.kept (kept_drew [] w7) (by simp)
        have HR : Hid (w7.drew.cell? ⟨wr.heap.size, 1, none⟩ = some (.int .i64 a.at_) ∧ w7.drew.rangeAt wr.heap.size 4 (a.s.map enc)) := ⟨(act_range hBD).2.1, (act_range hBD).2.2.2.2⟩
        have HBK : Hid (∀ W1, Kept [d, b1, b2] w7.drew W1 → (W1.cell? ⟨wr.heap.size, 1, none⟩ = some (.int .i64 a.at_) ∧ W1.rangeAt wr.heap.size 4 (a.s.map enc))) := fun W1 x => ⟨(act_range (hBD.kept x (by simp; omega))).2.1, (act_range (hBD.kept x (by simp; omega))).2.2.2.2⟩
        have HBK2 : Hid (∀ W1 W2, Kept [d, b1, b2] w7.drew W1 → Kept [r, g] W1 W2 → (W2.cell? ⟨wr.heap.size, 1, none⟩ = some (.int .i64 a.at_) ∧ W2.rangeAt wr.heap.size 4 (a.s.map enc))) := fun W1 W2 x y => ⟨(act_range ((hBD.kept x (by simp; omega)).kept y (by simp; omega))).2.1, (act_range ((hBD.kept x (by simp; omega)).kept y (by simp; omega))).2.2.2.2⟩
        have HD := hBoD.disk
        have HRK : Hid (∀ W1, Kept [d, b1, b2] w7.drew W1 → RefAt W1 r g cap s) := fun W1 x => hBoD.ref_kept x
        have HF : Hid (∀ W1 W2, DiskAt W1 d b1 b2 s' → Kept [d, b1, b2] w7.drew W1 → RefAt W2 r g cap s' → Kept [r, g] W1 W2 → Both W2 d b1 b2 r g cap s' ∧ Kept [d, b1, b2, r, g] w7.drew W2) := fun W1 W2 x1 x2 x3 x4 => hBoD.turned x1 x2 x3 x4
        have hu := Try.underlying35
        have hsz35 : (Try.prog.info? 35).map (·.size) = some (a.s.map enc).length := by rw [List.length_map, hok.sec.1]; exact Try.size35
        clear c0 c1 c2 c3 hBD hB7 hBoD hr hz0
        generalize a.s.map enc = cs at *
        refine wp_region_held_drew (S := fun W => W.cell? ⟨wr.heap.size, 1, none⟩ = some (.int .i64 a.at_) ∧ W.rangeAt wr.heap.size 4 cs) (by kernel_rfl) HR.out (fun hP => ?_)
        refine wpAnyH_take (i := 0) (oi := { dst := some 93, op := Op.move (Operand.tmp 8), type := 26, pos := "law.go:63", after := #[], guard := none }) (v := .pointer (some ⟨d, 0, none⟩)) rfl (by kernel_rfl) (by kernel_rfl) (by kernel_rfl) (fun _ _ _ h => h) (Or.inl ⟨by rfl, fun W hW => by obtain ⟨hW1, hW2⟩ := hW; clear hW2; go_simp⟩) hP ?_
        try simp only [Act.put, List.setIfInBounds_toArray, List.set_cons_zero, List.set_cons_succ]
        refine wpAnyH_take (i := 1) (oi := { dst := some 94, op := Op.fieldAddr 37 (Operand.tmp 13) 1, type := 0, pos := "law.go:63", after := #[], guard := none }) (v := .pointer (some ⟨wr.heap.size, 1, none⟩)) rfl (by kernel_rfl) (by kernel_rfl) (by kernel_rfl) (fun _ _ _ h => h) (Or.inl ⟨by rfl, fun W hW => by obtain ⟨hW1, hW2⟩ := hW; clear hW2; go_simp⟩) hP ?_
        try simp only [Act.put, List.setIfInBounds_toArray, List.set_cons_zero, List.set_cons_succ]
        refine wpAnyH_take (i := 2) (oi := { dst := some 95, op := Op.load 3 (Operand.tmp 94), type := 3, pos := "law.go:63", after := #[{ on := 1, ground := Ground.data }], guard := none }) (v := .int .i64 a.at_) rfl (by kernel_rfl) (by kernel_rfl) (by kernel_rfl) (fun _ _ _ h => h) (Or.inl ⟨by rfl, fun W hW => by obtain ⟨hW1, hW2⟩ := hW; clear hW2; go_simp⟩) hP ?_
        try simp only [Act.put, List.setIfInBounds_toArray, List.set_cons_zero, List.set_cons_succ]
        refine wpAnyH_take (i := 3) (oi := { dst := some 96, op := Op.fieldAddr 37 (Operand.tmp 13) 4, type := 0, pos := "law.go:63", after := #[], guard := none }) (v := .pointer (some ⟨wr.heap.size, 4, none⟩)) rfl (by kernel_rfl) (by kernel_rfl) (by kernel_rfl) (fun _ _ _ h => h) (Or.inl ⟨by rfl, fun W hW => by obtain ⟨hW1, hW2⟩ := hW; clear hW2; go_simp⟩) hP ?_
        try simp only [Act.put, List.setIfInBounds_toArray, List.set_cons_zero, List.set_cons_succ]
        refine wpAnyH_take (i := 4) (oi := { dst := some 97, op := Op.load 35 (Operand.tmp 96), type := 35, pos := "law.go:63", after := #[{ on := 3, ground := Ground.data }], guard := none }) (v := .agg cs.toArray) rfl (by kernel_rfl) (by kernel_rfl) (by kernel_rfl) (fun _ _ _ h => h) (yieldsIf_load_mid (by rfl) _ _ rfl _ _ rfl _ _ (fun W hW => hW.2) hu rfl hsz35) hP ?_
        try simp only [Act.put, List.setIfInBounds_toArray, List.set_cons_zero, List.set_cons_succ]
        refine wpAnyH_take (i := 6) (oi := { dst := some 99, op := Op.move (Operand.tmp 10), type := 30, pos := "law.go:63", after := #[], guard := none }) (v := .pointer (some ⟨r, 0, none⟩)) rfl (by kernel_rfl) (by kernel_rfl) (by kernel_rfl) (fun _ _ _ h => h) (Or.inl ⟨by rfl, fun W hW => by obtain ⟨hW1, hW2⟩ := hW; clear hW2; go_simp⟩) hP ?_
        try simp only [Act.put, List.setIfInBounds_toArray, List.set_cons_zero, List.set_cons_succ]
        refine wpAnyH_take (i := 7) (oi := { dst := some 100, op := Op.fieldAddr 37 (Operand.tmp 13) 1, type := 0, pos := "law.go:63", after := #[], guard := none }) (v := .pointer (some ⟨wr.heap.size, 1, none⟩)) rfl (by kernel_rfl) (by kernel_rfl) (by kernel_rfl) (fun _ _ _ h => h) (Or.inl ⟨by rfl, fun W hW => by obtain ⟨hW1, hW2⟩ := hW; clear hW2; go_simp⟩) hP ?_
        try simp only [Act.put, List.setIfInBounds_toArray, List.set_cons_zero, List.set_cons_succ]
        refine wpAnyH_take (i := 8) (oi := { dst := some 101, op := Op.load 3 (Operand.tmp 100), type := 3, pos := "law.go:63", after := #[{ on := 7, ground := Ground.data }], guard := none }) (v := .int .i64 a.at_) rfl (by kernel_rfl) (by kernel_rfl) (by kernel_rfl) (fun _ _ _ h => h) (Or.inl ⟨by rfl, fun W hW => by obtain ⟨hW1, hW2⟩ := hW; clear hW2; go_simp⟩) hP ?_
        try simp only [Act.put, List.setIfInBounds_toArray, List.set_cons_zero, List.set_cons_succ]
        refine wpAnyH_take (i := 9) (oi := { dst := some 102, op := Op.fieldAddr 37 (Operand.tmp 13) 4, type := 0, pos := "law.go:63", after := #[], guard := none }) (v := .pointer (some ⟨wr.heap.size, 4, none⟩)) rfl (by kernel_rfl) (by kernel_rfl) (by kernel_rfl) (fun _ _ _ h => h) (Or.inl ⟨by rfl, fun W hW => by obtain ⟨hW1, hW2⟩ := hW; clear hW2; go_simp⟩) hP ?_
        try simp only [Act.put, List.setIfInBounds_toArray, List.set_cons_zero, List.set_cons_succ]
        refine wpAnyH_take (i := 10) (oi := { dst := some 103, op := Op.load 35 (Operand.tmp 102), type := 35, pos := "law.go:63", after := #[{ on := 9, ground := Ground.data }], guard := none }) (v := .agg cs.toArray) rfl (by kernel_rfl) (by kernel_rfl) (by kernel_rfl) (fun _ _ _ h => h) (yieldsIf_load_mid (by rfl) _ _ rfl _ _ rfl _ _ (fun W hW => hW.2) hu rfl hsz35) hP ?_
        try simp only [Act.put, List.setIfInBounds_toArray, List.set_cons_zero, List.set_cons_succ]
        refine wpAnyH_ready (rs := [5]) (by kernel_rfl) (by simp) ?_
        refine AllReadyH.cons (o := { dst := some 98, op := Op.call { callee := Callee.value (Operand.func 16), args := #[Operand.tmp 93, Operand.tmp 95, Operand.tmp 97], argTypes := #[26, 3, 35] }, type := 27, pos := "law.go:63", after := #[{ on := 0, ground := Ground.data }, { on := 2, ground := Ground.data }, { on := 4, ground := Ground.data }], guard := none }) rfl (fun K hK => ?_) AllReadyH.nil
        go_simp
        refine (q16 _ HD).mono ?_
        rintro e w8 ⟨rfl, hD8, hk8⟩
        go_wp2_with fail
        replace hP := HBK.out _ hk8
        refine hK.out _ _ hP (fun _ => ?_)
        clear hK K
        try simp only [Act.put, List.setIfInBounds_toArray, List.set_cons_zero, List.set_cons_succ]
        refine wpAnyH_ready (rs := [11]) (by kernel_rfl) (by simp) ?_
        refine AllReadyH.cons (o := { dst := some 104, op := Op.call { callee := Callee.value (Operand.func 17), args := #[Operand.tmp 99, Operand.tmp 101, Operand.tmp 103], argTypes := #[30, 3, 35] }, type := 3, pos := "law.go:63", after := #[{ on := 6, ground := Ground.data }, { on := 8, ground := Ground.data }, { on := 10, ground := Ground.data }, { on := 5, ground := Ground.chain }], guard := none }) rfl (fun K hK => ?_) AllReadyH.nil
        go_simp
        refine (q17 _ (HRK.out _ hk8)).mono ?_
        rintro e w9 ⟨rfl, hR9, hk9⟩
        go_wp2_with fail
        replace hP := HBK2.out _ _ hk8 hk9
        refine hK.out _ _ hP (fun _ => ?_)
        clear hK K
        try simp only [Act.put, List.setIfInBounds_toArray, List.set_cons_zero, List.set_cons_succ]
        refine wpAnyH_take (i := 12) (oi := { dst := some 105, op := Op.binOp BinOp.neq 3 (Operand.tmp 98) (Operand.tmp 104) 3, type := 4, pos := "law.go:63", after := #[{ on := 5, ground := Ground.data }, { on := 11, ground := Ground.data }], guard := none }) (v := .bool false) rfl (by kernel_rfl) (by kernel_rfl) (by kernel_rfl) (fun _ _ _ h => h) (Or.inl ⟨by rfl, fun W hW => by obtain ⟨hW1, hW2⟩ := hW; clear hW2; go_simp⟩) hP ?_
        try simp only [Act.put, List.setIfInBounds_toArray, List.set_cons_zero, List.set_cons_succ]
        refine wpAnyH_done (by kernel_rfl) ?_ _
        obtain ⟨hBo9, hkk9⟩ := HF.out _ _ hD8 hk8 hR9 hk9
        go_wp2_with (first
          | (go_at_call 18; refine (q18 _ hBo9.disk).mono ?_; rintro e w10 ⟨rfl, hk10⟩; have hBo10 := hBo9.kept hk10)
          | (go_at_call 19; refine (q19 _ hBo10.ref).mono ?_; rintro e w11 ⟨rfl, hk11⟩; have hBo11 := hBo10.kept hk11; have cops := hBo11.ref.1.four.2.2.2))
        have hQ := hBo11.kept (kept_drew [] w11)
        have cq := hQ.ref.1.four.2.2.2
        go_region_held3 (fun W => W.cell? ⟨r, 3, none⟩ = some (.int .i64 ((s').ops : Int))) (exact cq) (first
          | (go_at_call 20; refine (ops_any d b1 b2 s' _ hQ.disk).mono ?_; rintro e w12 ⟨rfl, rfl⟩))
        go_wp2_with fail
        go_roundw
        case rel => exact ⟨j + 1, s', by omega, rfl, hQ, by omega, ((((hK.trans hk07).trans (kept_drew [] _)).young5 hkk9 hdl hbl1 hbl2 hrl hgl).trans hk10).trans (hk11.trans (kept_drew [] _))⟩
        case measure => simpa [RowKit.intOf] using hm1.out
      · have q18 := fun W (h : DiskAt W d b1 b2 s) => latest_any d b1 b2 s base z W h
        have q19 := fun W (h : RefAt W r g cap s) => refLatest_any r g cap s base z W h
        generalize latestN s base z = ln at *
        generalize latestY s base z = ly at *
        have z0 : (a.kind == 0) = false := by simpa using n0
        have z1 : (a.kind == 1) = false := by simpa using n1
        have z2 : (a.kind == 2) = false := by simpa using n2
        have z3 : (a.kind == 3) = false := by simpa using n3
        go_wp2_with (first
          | refine wpList_load_mid rfl 37 _ rfl blk (off + j * 20) rfl a.cells _ hr.out Try.underlying37 rfl (by rw [hsz.out]; exact Try.size37) ?_
          | (refine wpList_store_blk rfl 37 _ _ rfl wr.heap.size 37 _ a.cells rfl rfl hz0 hsz.out (by rw [hsz.out]; exact Try.size37) (one_cell_act a) ?_; intro w7 hB7 hk7 hz7; have hk07 : Kept [] wr w7 := (kept_alloc [] wr _).young hk7 (Nat.le_refl _); have hBo7 := hB.kept hk07; obtain ⟨c0, c1, c2, c3, -⟩ := act_range hB7)
          | (go_at_call 18; refine (q18 _ hBo7.disk).mono ?_; rintro e w10 ⟨rfl, hk10⟩; have hBo10 := hBo7.kept hk10)
          | (go_at_call 19; refine (q19 _ hBo10.ref).mono ?_; rintro e w11 ⟨rfl, hk11⟩; have hBo11 := hBo10.kept hk11; have cops := hBo11.ref.1.four.2.2.2))
        have hQ := hBo11.kept (kept_drew [] w11)
        have cq := hQ.ref.1.four.2.2.2
        go_region_held3 (fun W => W.cell? ⟨r, 3, none⟩ = some (.int .i64 ((s).ops : Int))) (exact cq) (first
          | (go_at_call 20; refine (ops_any d b1 b2 s _ hQ.disk).mono ?_; rintro e w12 ⟨rfl, rfl⟩))
        go_wp2_with fail
        go_roundw
        case rel => exact ⟨j + 1, s, by omega, rfl, hQ, by omega, ((hK.trans hk07).trans hk10).trans (hk11.trans (kept_drew [] _))⟩
        case measure => simpa [RowKit.intOf] using hm1.out
    · obtain rfl : j = len := by omega
      clear hacts
      go_wp2_with (first
        | (go_at_call 7; refine (q7 _).mono ?_; rintro e w12 ⟨rfl, hk12⟩))
      go_ret
      exact ⟨rfl, hK.trans hk12⟩
end Go.Proofs.Ytemlonaekpddcaa
