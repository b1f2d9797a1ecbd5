/-
  The acts of DirtyActs, as they lie in a slice and in a block; the walk of DirtyActs.
-/
import Derived.Test.YtglndmkmdldpfaaGreatDirtyA
namespace Go.Proofs.YtglndmkmdldpfaaGreat
open Go.RowKit Go.Maps Go.Shelf
open Math

/-- An act. -/
structure Sa where
  kind : Int
  at_ : Int
  mask : Nat
structure Sa.Ok (a : Sa) : Prop where
  kind0 : -9223372036854775808 ≤ a.kind
  kind1 : a.kind ≤ 9223372036854775807
  at_0 : -9223372036854775808 ≤ a.at_
  at_1 : a.at_ ≤ 9223372036854775807
  mask_ : a.mask < 18446744073709551616
  known : True
def Sa.cells (a : Sa) : List Value := .int .i64 a.kind :: .int .i64 a.at_ :: .int .u64 (a.mask : Int) :: []
/-- The acts of a slice, in a block below n₀ where there is one. -/
def ActsAt (n₀ : Nat) (W : World) (a : Option Addr) (len cap : Nat) (acts : List Sa) : Prop :=
  acts.length = len ∧ (∀ x ∈ acts, x.Ok) ∧ (acts = [] ∨ ∃ b off, a = some ⟨b, off, none⟩ ∧ len ≤ cap ∧ b < n₀ ∧ ∀ j x, acts[j]? = some x → W.rangeAt b (off + j * 3) x.cells)
theorem ActsAt.below {n₀ : Nat} {A B : World} (h : Below n₀ A B) {a : Option Addr} {len cap : Nat} {acts : List Sa} : ActsAt n₀ A a len cap acts → ActsAt n₀ B a len cap acts
  | ⟨h1, h2, .inl r⟩ => ⟨h1, h2, .inl r⟩
  | ⟨h1, h2, .inr ⟨b, off, e, hl, hb, hc⟩⟩ => ⟨h1, h2, .inr ⟨b, off, e, hl, hb, fun j x hx i v hv => (h.cell (p := ⟨b, off + j * 3 + i, none⟩) hb).trans (hc j x hx i v hv)⟩⟩
theorem Tryz.size33 : (Tryz.prog.info? 33).map (·.size) = some 3 := by kernel_rfl
theorem Sa.cells_length (a : Sa) (_ : a.Ok) : a.cells.length = 3 := by simp [Sa.cells]
theorem Sa.range {W : World} {g : Nat} {a : Sa} (h : Blk W g 33 a.cells.toArray) :
    W.cell? ⟨g, 0, none⟩ = some (.int .i64 a.kind) ∧ W.cell? ⟨g, 1, none⟩ = some (.int .i64 a.at_) ∧ W.cell? ⟨g, 2, none⟩ = some (.int .u64 (a.mask : Int)) := by
  refine ⟨by rw [h.cell]; rfl, by rw [h.cell]; rfl, by rw [h.cell]; rfl⟩
theorem Sa.one (a : Sa) : ∀ v ∈ a.cells, v.oneCell' = true := by
  intro v hv
  simp only [Sa.cells, List.mem_cons, List.not_mem_nil, or_false] at hv
  rcases hv with rfl | rfl | rfl <;> rfl

set_option maxRecDepth 100000 in
set_option maxHeartbeats 1000000 in
/-- DirtyActs, of what is let go -/
theorem acts_early (n : Int) (a0 : Option Addr) (len cap : Nat) (hlen : len ≤ 9223372036854775807) (w : World) (hno : n < 1 ∨ 20 < n ∨ 50 < len) :
    Calls Tryz.prog 3 #[.int .i64 n, .slice a0 len cap] w fun e w' => e = .returned (.bool true) ∧ Kept [] w w' := by
  have q3 := mapLives_any
  rcases (show n < 1 ∨ (¬ (n < 1) ∧ 20 < n) ∨ (¬ (n < 1) ∧ ¬ (20 < n) ∧ (50 : Int) < (len : Int)) by omega) with g1 | ⟨g1, g2⟩ | ⟨g1, g2, g3⟩
  all_goals clear hno
  all_goals
    go_enter Tryz.func3, Tryz.ntmps3
    go_wp2_with (first
      | (go_at_call 4; refine (q3 _).mono ?_; rintro e w3 ⟨rfl, hk3⟩))
    go_ret
    exact ⟨rfl, hk3⟩

set_option maxRecDepth 100000 in
set_option maxHeartbeats 8000000 in
/-- DirtyActs, of a play -/
theorem acts_play (N : Nat) (hN1 : 1 ≤ N) (hN2 : N ≤ 20) (a0 : Option Addr) (len cap0 : Nat) (acts : List Sa) (hlen : len ≤ 50) (w : World) (hacts : ActsAt w.heap.size w a0 len cap0 acts) :
    Calls Tryz.prog 3 #[.int .i64 (N : Int), .slice a0 len cap0] w fun e w' => e = .returned (.bool true) ∧ Kept [] w w' := by
  have q7 := mapLives_any
  have q8 := new_any N hN1 (by omega) w
  have q9 := fun W => refNew_any N hN1 (by omega) W
  have g0 : ¬ ((N : Int) < 1) := by omega
  have g1 : ¬ (20 < (N : Int)) := by omega
  have g2 : ¬ ((50 : Int) < (len : Int)) := by omega
  go_enter Tryz.func3, Tryz.ntmps3
  go_wp2_with (first
    | (go_at_call 5; refine q8.mono ?_; rintro e w4 ⟨rfl, hD, hk4⟩)
    | (go_at_call 6; refine (q9 _).mono ?_; rintro e w5 ⟨g, cap, rfl, hR, hg, hk5⟩; have hD5 := hD.kept hk5 (by simp) (by simp) (by simp)))
  have hlt := hD.lt
  have hs4 := hk4.size
  have hK5 := hk4.trans hk5
  have hBoth : Both w5 (w.heap.size + 2) w.heap.size (w.heap.size + 1) w4.heap.size g cap (made N) := ⟨hD5, hR, ⟨by omega, by omega, by omega, by omega, by omega, by omega⟩⟩
  obtain ⟨r, hr⟩ : ∃ r, w4.heap.size = r := ⟨_, rfl⟩
  obtain ⟨d, hd⟩ : ∃ d, w.heap.size + 2 = d := ⟨_, rfl⟩
  obtain ⟨b1, hb1⟩ : ∃ b, w.heap.size = b := ⟨_, rfl⟩
  obtain ⟨b2, hb2⟩ : ∃ b, w.heap.size + 1 = b := ⟨_, rfl⟩
  rw [hr, hd, hb2] at hBoth
  have hBoth' : Both w5 d b1 b2 r g cap (made N) := hb1 ▸ hBoth
  have hdl : w.heap.size ≤ d := by omega
  have hbl1 : w.heap.size ≤ b1 := by omega
  have hbl2 : w.heap.size ≤ b2 := by omega
  have hrl : w.heap.size ≤ r := by omega
  have hgl : w.heap.size ≤ g := by omega
  rw [hr, hd]
  clear hr hd hb1 hb2 hD hD5 hR hk4 hk5 q8 q9 hlt hs4 hg hBoth
  have ho0 : (made N).ops ≤ 0 := Nat.le_refl _
  generalize made N = s0 at *
  go_loopw [39] (fun i wr => ∃ (j : Nat) (s : Dk), j ≤ len ∧ i = .int .i64 j ∧ Both wr d b1 b2 r g cap s ∧ s.ops ≤ 2 * j ∧ Kept [] w wr) (fun i _ => len - (RowKit.intOf i).toNat)
  case atStart => exact ⟨0, s0, by omega, rfl, hBoth', ho0, hK5⟩
  case round =>
    obtain ⟨j, s, hj, rfl, hB, ho, hK⟩ := hrel
    clear hBoth' hK5 ho0
    by_cases hlt : j < len
    · obtain ⟨hal, haok, hnil | ⟨blk, off, rfl, hcap, hblk, hcs⟩⟩ := hacts.below (hK.below (Nat.le_refl _) (by simp))
      · rw [hnil] at hal
        simp at hal
        omega
      obtain ⟨a, ha⟩ : ∃ a, acts[j]? = some a := ⟨_, List.getElem?_eq_getElem (by rw [hal]; exact hlt)⟩
      have hok := haok a (List.mem_of_getElem? ha)
      have hr : Hid (wr.rangeAt blk (off + j * 3) a.cells) := hcs j a ha
      have kk4 : (j : Int) < (len : Int) := by omega
      have kcap : (j : Int) < (cap0 : Int) := by omega
      have hm1 : Hid (len - (j + 1) < len - j) := by show _ < _; omega
      have hz0 : Blk (wr.alloc (.cells #[.int .i64 0, .int .i64 0, .int .u64 0] 33)) wr.heap.size 33 #[.int .i64 0, .int .i64 0, .int .u64 0] := blk_new wr 33 _
      have hsz : Hid (a.cells.length = 3) := a.cells_length hok
      have hltB := hB.lt
      have hops : s.ops ≤ 999998 := by omega
      clear hcs hal haok hacts ha
      by_cases n0 : a.kind = 0
      · have q9 := fun W (h : DiskAt W d b1 b2 s) => mapPut_any d b1 b2 s a.mask hok.mask_ hops W h
        have q10 := fun W (h : RefAt W r g cap s) => refPut11_any r g cap s a.mask hok.mask_ hops W h
        have hs' := map_ops s a.mask
        generalize mapS s a.mask = s' at *
        generalize mapE s a.mask = pe at *
        have q13 := fun W (h : DiskAt W d b1 b2 s') => dget_any d b1 b2 s' W h
        have q14 := fun W (h : RefAt W r g cap s') => refGet11_any r g cap s' W h
        have q17 := fun W (h : DiskAt W d b1 b2 s') => ops_any d b1 b2 s' W h
        generalize latestY s' 6 2 = ly at *
        go_wp2_with (first
          | refine wpList_load_mid rfl 33 _ rfl blk (off + j * 3) rfl a.cells _ hr.out Tryz.underlying33 rfl (by rw [hsz.out]; exact Tryz.size33) ?_
          | (refine wpList_store_blk rfl 33 _ _ rfl wr.heap.size 33 _ a.cells rfl rfl hz0 hsz.out (by rw [hsz.out]; exact Tryz.size33) a.one ?_; intro w7 hB7 hk7 hz7; have hk07 : Kept [] wr w7 := (kept_alloc [] wr _).young hk7 (Nat.le_refl _); have hBo7 := hB.kept hk07; obtain ⟨c0, c1, c2⟩ := Sa.range hB7; rw [n0] at c0))
        have hBoD := hBo7.kept (kept_drew [] w7)
        have hBD := hB7.kept (kept_drew [] w7) (by simp)
        have c2x := (Sa.range hBD).2.2
        clear c0 c1 c2
        go_region_held3 (fun W => W.cell? ⟨wr.heap.size, 2, none⟩ = some (.int .u64 (a.mask : Int))) (exact c2x) (first
          | (go_at_call 7; refine (q9 _ hBoD.disk).mono ?_; rintro e w8 ⟨rfl, hD8, hk8⟩; replace c2x := (Sa.range (hBD.kept hk8 (by simp; omega))).2.2)
          | (go_at_call 8; refine (q10 _ (hBoD.ref_kept hk8)).mono ?_; rintro e w9 ⟨rfl, hR9, hk9⟩; replace c2x := (Sa.range ((hBD.kept hk8 (by simp; omega)).kept hk9 (by simp; omega))).2.2))
        obtain ⟨hBo9, hkk9⟩ := hBoD.turned hD8 hk8 hR9 hk9
        go_wp2_with fail
        have hQ := hBo9.kept (kept_drew [] w9)
        have cq := hQ.ref.1.four.2.2.2
        go_region_held3 (fun W => W.cell? ⟨r, 3, none⟩ = some (.int .i64 ((s').ops : Int))) (exact cq) (first
          | (go_at_call 15; refine (q13 _ hQ.disk).mono ?_; rintro e w10 ⟨rfl, hk10⟩; have hQ10 := hQ.kept hk10; replace cq := hQ10.ref.1.four.2.2.2)
          | (go_at_call 16; refine (q14 _ hQ10.ref).mono ?_; rintro e w11 ⟨rfl, hk11⟩; have hQ11 := hQ10.kept hk11; replace cq := hQ11.ref.1.four.2.2.2)
          | (go_at_call 17; refine (q17 _ hQ11.disk).mono ?_; rintro e w14 ⟨rfl, rfl⟩))
        go_wp2_with fail
        go_roundw
        case rel => exact ⟨j + 1, s', by omega, rfl, hQ11, by omega, (((((hK.trans hk07).trans (kept_drew [] _)).young5 hkk9 hdl hbl1 hbl2 hrl hgl).trans (kept_drew [] _)).trans hk10).trans hk11⟩
        case measure => simpa [RowKit.intOf] using hm1.out
      by_cases n1 : a.kind = 1
      · have q9 := fun W (h : DiskAt W d b1 b2 s) => crash_any d b1 b2 s a.mask hok.mask_ W h
        have q10 := fun W (h : RefAt W r g cap s) => refCrash_any r g cap s a.mask hok.mask_ W h
        have hs' : (crashed s a.mask).ops = s.ops := rfl
        generalize crashed s a.mask = s' at *
        have q13 := fun W (h : DiskAt W d b1 b2 s') => dget_any d b1 b2 s' W h
        have q14 := fun W (h : RefAt W r g cap s') => refGet11_any r g cap s' W h
        have q17 := fun W (h : DiskAt W d b1 b2 s') => ops_any d b1 b2 s' W h
        generalize latestY s' 6 2 = ly at *
        go_wp2_with (first
          | refine wpList_load_mid rfl 33 _ rfl blk (off + j * 3) rfl a.cells _ hr.out Tryz.underlying33 rfl (by rw [hsz.out]; exact Tryz.size33) ?_
          | (refine wpList_store_blk rfl 33 _ _ rfl wr.heap.size 33 _ a.cells rfl rfl hz0 hsz.out (by rw [hsz.out]; exact Tryz.size33) a.one ?_; intro w7 hB7 hk7 hz7; have hk07 : Kept [] wr w7 := (kept_alloc [] wr _).young hk7 (Nat.le_refl _); have hBo7 := hB.kept hk07; obtain ⟨c0, c1, c2⟩ := Sa.range hB7; rw [n1] at c0)
          | (go_at_call 9; refine (q9 _ hBo7.disk).mono ?_; rintro e w8 ⟨rfl, hD8, hk8⟩; have hB8 := hB7.kept hk8 (by simp; omega); obtain ⟨-, -, c2'⟩ := Sa.range hB8)
          | (go_at_call 10; refine (q10 _ (hBo7.ref_kept hk8)).mono ?_; rintro e w9 ⟨rfl, hR9, hk9⟩; obtain ⟨hBo9, hkk9⟩ := hBo7.turned hD8 hk8 hR9 hk9))
        have hQ := hBo9.kept (kept_drew [] w9)
        have cq := hQ.ref.1.four.2.2.2
        go_region_held3 (fun W => W.cell? ⟨r, 3, none⟩ = some (.int .i64 ((s').ops : Int))) (exact cq) (first
          | (go_at_call 15; refine (q13 _ hQ.disk).mono ?_; rintro e w10 ⟨rfl, hk10⟩; have hQ10 := hQ.kept hk10; replace cq := hQ10.ref.1.four.2.2.2)
          | (go_at_call 16; refine (q14 _ hQ10.ref).mono ?_; rintro e w11 ⟨rfl, hk11⟩; have hQ11 := hQ10.kept hk11; replace cq := hQ11.ref.1.four.2.2.2)
          | (go_at_call 17; refine (q17 _ hQ11.disk).mono ?_; rintro e w14 ⟨rfl, rfl⟩))
        go_wp2_with fail
        go_roundw
        case rel => exact ⟨j + 1, s', by omega, rfl, hQ11, by omega, (((((hK.trans hk07).young5 hkk9 hdl hbl1 hbl2 hrl hgl)).trans (kept_drew [] _)).trans hk10).trans hk11⟩
        case measure => simpa [RowKit.intOf] using hm1.out
      by_cases n2 : a.kind = 2
      · have q9 := fun W (h : DiskAt W d b1 b2 s) => fuse_any d b1 b2 s a.at_ hok.at_0 hok.at_1 W h
        have q10 := fun W (h : RefAt W r g cap s) => setFuse_any r g cap s a.at_ hok.at_0 hok.at_1 W h
        have hs' : (fused s a.at_).ops = s.ops := rfl
        generalize fused s a.at_ = s' at *
        have q13 := fun W (h : DiskAt W d b1 b2 s') => dget_any d b1 b2 s' W h
        have q14 := fun W (h : RefAt W r g cap s') => refGet11_any r g cap s' W h
        have q17 := fun W (h : DiskAt W d b1 b2 s') => ops_any d b1 b2 s' W h
        generalize latestY s' 6 2 = ly at *
        go_wp2_with (first
          | refine wpList_load_mid rfl 33 _ rfl blk (off + j * 3) rfl a.cells _ hr.out Tryz.underlying33 rfl (by rw [hsz.out]; exact Tryz.size33) ?_
          | (refine wpList_store_blk rfl 33 _ _ rfl wr.heap.size 33 _ a.cells rfl rfl hz0 hsz.out (by rw [hsz.out]; exact Tryz.size33) a.one ?_; intro w7 hB7 hk7 hz7; have hk07 : Kept [] wr w7 := (kept_alloc [] wr _).young hk7 (Nat.le_refl _); have hBo7 := hB.kept hk07; obtain ⟨c0, c1, c2⟩ := Sa.range hB7; rw [n2] at c0)
          | (go_at_call 11; refine (q9 _ hBo7.disk).mono ?_; rintro e w8 ⟨rfl, hD8, hk8', hz8⟩; replace hz8 : Hid _ := hz8; have hk8 : Kept [d, b1, b2] w7 w8 := hk8'.mono (by simp); have hB8 := hB7.kept hk8 (by simp; omega); obtain ⟨-, c1', -⟩ := Sa.range hB8)
          | (go_at_call 12; refine (q10 _ (hBo7.ref_kept hk8)).mono ?_; rintro e w9 ⟨rfl, hR9, hk9⟩; obtain ⟨hBo9, hkk9⟩ := hBo7.turned hD8 hk8 hR9 (hk9.mono (by simp))))
        have hQ := hBo9.kept (kept_drew [] w9)
        have cq := hQ.ref.1.four.2.2.2
        go_region_held3 (fun W => W.cell? ⟨r, 3, none⟩ = some (.int .i64 ((s').ops : Int))) (exact cq) (first
          | (go_at_call 15; refine (q13 _ hQ.disk).mono ?_; rintro e w10 ⟨rfl, hk10⟩; have hQ10 := hQ.kept hk10; replace cq := hQ10.ref.1.four.2.2.2)
          | (go_at_call 16; refine (q14 _ hQ10.ref).mono ?_; rintro e w11 ⟨rfl, hk11⟩; have hQ11 := hQ10.kept hk11; replace cq := hQ11.ref.1.four.2.2.2)
          | (go_at_call 17; refine (q17 _ hQ11.disk).mono ?_; rintro e w14 ⟨rfl, rfl⟩))
        go_wp2_with fail
        go_roundw
        case rel => exact ⟨j + 1, s', by omega, rfl, hQ11, by omega, (((((hK.trans hk07).young5 hkk9 hdl hbl1 hbl2 hrl hgl)).trans (kept_drew [] _)).trans hk10).trans hk11⟩
        case measure => simpa [RowKit.intOf] using hm1.out
      by_cases n3 : a.kind = 3
      · have q9 := fun W (h : DiskAt W d b1 b2 s) => clear_any d b1 b2 s a.at_ hops W h
        have q10 := fun W (h : RefAt W r g cap s) => refClear11_any r g cap s a.at_ hB.disk.valid hops W h
        have hs' := map_ops s (clearM s a.at_)
        generalize clearX s a.at_ = cx at *
        generalize mapS s (clearM s a.at_) = s' at *
        generalize mapE s (clearM s a.at_) = pe at *
        have q13 := fun W (h : DiskAt W d b1 b2 s') => dget_any d b1 b2 s' W h
        have q14 := fun W (h : RefAt W r g cap s') => refGet11_any r g cap s' W h
        have q17 := fun W (h : DiskAt W d b1 b2 s') => ops_any d b1 b2 s' W h
        generalize latestY s' 6 2 = ly at *
        go_wp2_with (first
          | refine wpList_load_mid rfl 33 _ rfl blk (off + j * 3) rfl a.cells _ hr.out Tryz.underlying33 rfl (by rw [hsz.out]; exact Tryz.size33) ?_
          | (refine wpList_store_blk rfl 33 _ _ rfl wr.heap.size 33 _ a.cells rfl rfl hz0 hsz.out (by rw [hsz.out]; exact Tryz.size33) a.one ?_; intro w7 hB7 hk7 hz7; have hk07 : Kept [] wr w7 := (kept_alloc [] wr _).young hk7 (Nat.le_refl _); have hBo7 := hB.kept hk07; obtain ⟨c0, c1, c2⟩ := Sa.range hB7; rw [n3] at c0)
          | (go_at_call 13; refine (q9 _ hBo7.disk).mono ?_; rintro e w8 ⟨rfl, hD8, hk8⟩; have hB8 := hB7.kept hk8 (by simp; omega); obtain ⟨-, c1', -⟩ := Sa.range hB8)
          | (go_at_call 14; refine (q10 _ (hBo7.ref_kept hk8)).mono ?_; rintro e w9 ⟨rfl, hR9, hk9⟩; obtain ⟨hBo9, hkk9⟩ := hBo7.turned hD8 hk8 hR9 hk9))
        have hQ := hBo9.kept (kept_drew [] w9)
        have cq := hQ.ref.1.four.2.2.2
        go_region_held3 (fun W => W.cell? ⟨r, 3, none⟩ = some (.int .i64 ((s').ops : Int))) (exact cq) (first
          | (go_at_call 15; refine (q13 _ hQ.disk).mono ?_; rintro e w10 ⟨rfl, hk10⟩; have hQ10 := hQ.kept hk10; replace cq := hQ10.ref.1.four.2.2.2)
          | (go_at_call 16; refine (q14 _ hQ10.ref).mono ?_; rintro e w11 ⟨rfl, hk11⟩; have hQ11 := hQ10.kept hk11; replace cq := hQ11.ref.1.four.2.2.2)
          | (go_at_call 17; refine (q17 _ hQ11.disk).mono ?_; rintro e w14 ⟨rfl, rfl⟩))
        go_wp2_with fail
        go_roundw
        case rel => exact ⟨j + 1, s', by omega, rfl, hQ11, by omega, (((((hK.trans hk07).young5 hkk9 hdl hbl1 hbl2 hrl hgl)).trans (kept_drew [] _)).trans hk10).trans hk11⟩
        case measure => simpa [RowKit.intOf] using hm1.out
      · have z0 : (a.kind == 0) = false := by simpa using n0
        have z1 : (a.kind == 1) = false := by simpa using n1
        have z2 : (a.kind == 2) = false := by simpa using n2
        have z3 : (a.kind == 3) = false := by simpa using n3
        obtain ⟨s', rfl⟩ : ∃ s', s' = s := ⟨_, rfl⟩
        have q13 := fun W (h : DiskAt W d b1 b2 s') => dget_any d b1 b2 s' W h
        have q14 := fun W (h : RefAt W r g cap s') => refGet11_any r g cap s' W h
        have q17 := fun W (h : DiskAt W d b1 b2 s') => ops_any d b1 b2 s' W h
        generalize latestY s' 6 2 = ly at *
        go_wp2_with (first
          | refine wpList_load_mid rfl 33 _ rfl blk (off + j * 3) rfl a.cells _ hr.out Tryz.underlying33 rfl (by rw [hsz.out]; exact Tryz.size33) ?_
          | (refine wpList_store_blk rfl 33 _ _ rfl wr.heap.size 33 _ a.cells rfl rfl hz0 hsz.out (by rw [hsz.out]; exact Tryz.size33) a.one ?_; intro w7 hB7 hk7 hz7; have hk07 : Kept [] wr w7 := (kept_alloc [] wr _).young hk7 (Nat.le_refl _); have hBo7 := hB.kept hk07; obtain ⟨c0, c1, c2⟩ := Sa.range hB7))
        have hBo9 := hBo7
        have hQ := hBo9.kept (kept_drew [] w7)
        have cq := hQ.ref.1.four.2.2.2
        go_region_held3 (fun W => W.cell? ⟨r, 3, none⟩ = some (.int .i64 ((s').ops : Int))) (exact cq) (first
          | (go_at_call 15; refine (q13 _ hQ.disk).mono ?_; rintro e w10 ⟨rfl, hk10⟩; have hQ10 := hQ.kept hk10; replace cq := hQ10.ref.1.four.2.2.2)
          | (go_at_call 16; refine (q14 _ hQ10.ref).mono ?_; rintro e w11 ⟨rfl, hk11⟩; have hQ11 := hQ10.kept hk11; replace cq := hQ11.ref.1.four.2.2.2)
          | (go_at_call 17; refine (q17 _ hQ11.disk).mono ?_; rintro e w14 ⟨rfl, rfl⟩))
        go_wp2_with fail
        go_roundw
        case rel => exact ⟨j + 1, s', by omega, rfl, hQ11, by omega, (((hK.trans hk07).trans (kept_drew [] _)).trans hk10).trans hk11⟩
        case measure => simpa [RowKit.intOf] using hm1.out
    · obtain rfl : j = len := by omega
      clear hacts
      go_wp2_with (first
        | (go_at_call 4; refine (q7 _).mono ?_; rintro e w12 ⟨rfl, hk12⟩))
      go_ret
      exact ⟨rfl, hK.trans hk12⟩
end Go.Proofs.YtglndmkmdldpfaaGreat
