/-
  The walk of the comparison of both disks.
-/
import Derived.Test.YtidgjhgeminelaaWalksR
namespace Go.Proofs.Ytidgjhgeminelaa
open Go.RowKit Go.Maps Go.Shelf
open Math

theorem keys_few {s : Dk} (h : Valid s) : (keys s).length ≤ 1024 := Nat.le_trans (below_length _ _) h.top

set_option maxRecDepth 100000 in
set_option maxHeartbeats 4000000 in
/-- Alike -/
theorem alike_any (d b1 b2 r g cap : Nat) (s : Dk) (w : World) (h : Both w d b1 b2 r g cap s) :
    Calls Try.prog 14 #[.pointer (some ⟨d, 0, none⟩), .pointer (some ⟨r, 0, none⟩)] w fun e w' => e = .returned (.bool true) ∧ Kept [] w w' := by
  have hv := h.disk.valid
  have htop := hv.top
  obtain ⟨N, hN⟩ : ∃ N, s.size = N := ⟨_, rfl⟩
  have HN : Hid (s.size = N) := hN
  have q23 := fun W (h : DiskAt W d b1 b2 s) => size_any d b1 b2 s W h
  have q20 := fun W (h : DiskAt W d b1 b2 s) => broken_any d b1 b2 s W h
  have q21 := fun W (h : DiskAt W d b1 b2 s) => ops_any d b1 b2 s W h
  have q19 := fun W (h : DiskAt W d b1 b2 s) => cached_any d b1 b2 s W h
  have q33 := fun W (h : RefAt W r g cap s) => refCached_any r g cap s W h
  have hfew := keys_few hv
  have HC : Hid (∀ W, RefAt W r g cap s → (W.cell? ⟨r, 0, none⟩ = some (.slice (some ⟨g, 0, none⟩) N cap) ∧ W.cell? ⟨r, 2, none⟩ = some (.bool s.broken) ∧ W.cell? ⟨r, 3, none⟩ = some (.int .i64 (s.ops : Int)))) := fun W hW => by
    obtain ⟨x0, _, x2, x3⟩ := hW.1.four
    rw [hN] at x0
    exact ⟨x0, x2, x3⟩
  rw [hN] at q23 htop
  clear hN
  have hB := h.kept (kept_drew [] w)
  have hK : Kept [] w w.drew := kept_drew [] w
  generalize hbb : s.broken = bb at *
  generalize hoo : s.ops = oo at *
  clear hbb hoo
  go_enter Try.func14, Try.ntmps14
  go_wp2_with fail
  go_region_held3 (fun W => W.cell? ⟨r, 0, none⟩ = some (.slice (some ⟨g, 0, none⟩) N cap) ∧ W.cell? ⟨r, 2, none⟩ = some (.bool bb) ∧ W.cell? ⟨r, 3, none⟩ = some (.int .i64 (oo : Int))) (exact HC.out _ hB.ref) (first
    | (go_at_call 23; refine (q23 _ hB.disk).mono ?_; rintro e w1 ⟨rfl, rfl⟩)
    | (go_at_call 20; refine (q20 _ hB.disk).mono ?_; rintro e w1 ⟨rfl, rfl⟩)
    | (go_at_call 21; refine (q21 _ hB.disk).mono ?_; rintro e w1 ⟨rfl, rfl⟩)
    | (go_at_call 19; refine (q19 _ hB.disk).mono ?_; rintro e w1 ⟨v1, rfl, hn1, hk1⟩; replace hB := hB.kept hk1; replace hK := hK.trans hk1)
    | (go_at_call 33; refine (q33 _ hB.ref).mono ?_; rintro e w2 ⟨v2, rfl, hn2, hk2⟩; replace hB := hB.kept hk2; replace hK := hK.trans hk2; replace hn1 := hn1.kept hk2 (by simp))
    | (go_at_call 32; refine (ints_same _ _ v1 v2 (keys s) hfew _ hn1 hn2).mono ?_; rintro e w3 ⟨rfl, hk3⟩; replace hB := hB.kept hk3; replace hK := hK.trans hk3))
  clear q23 q20 q21 q19 q33 hn1 hn2 h
  have hN0 : ∀ W : World, Arr (W.alloc (.cells #[.int .u8 0, .int .u8 0, .int .u8 0, .int .u8 0, .int .u8 0, .int .u8 0, .int .u8 0, .int .u8 0, .int .u8 0, .int .u8 0, .int .u8 0, .int .u8 0, .int .u8 0, .int .u8 0, .int .u8 0, .int .u8 0] 32)) W.heap.size 32 nought := fun W => arr_new W 32 nought
  go_wp2
  go_loopw [5] (fun i wr => ∃ z : Int, -1 ≤ z ∧ z ≤ (N : Int) + 1 ∧ i = .int .i64 z ∧ Kept [] w3 wr) (fun i _ => ((N : Int) + 1 - RowKit.intOf i).toNat)
  case atStart => exact ⟨-1, by omega, by omega, rfl, Kept.refl _ _⟩
  case round =>
    obtain ⟨z, hz1, hz2, rfl, hKz⟩ := hrel
    have hBz := hB.kept hKz
    obtain ⟨c0, -, -⟩ := HC.out _ hBz.ref
    by_cases hle : z ≤ (N : Int)
    · have hm1 : Hid (((N : Int) + 1 - (z + 1)).toNat < ((N : Int) + 1 - z).toNat) := by show _ < _; omega
      have q1 := read_any d b1 b2 s z (by omega) (by omega) wr hBz.disk
      have q2 := fun W (h : RefAt W r g cap s) => refRead_any r g cap s z W h
      have q3 := fun W (h : DiskAt W d b1 b2 s) => durable_any d b1 b2 s z (by omega) (by omega) W h
      have q4 := fun W (h : RefAt W r g cap s) => refDurable_any r g cap s z W h
      have hx := sec_read hv z
      have hy := hv.safe z
      have heq := fun W => neqs_same (readL s z) hx W
      have hgd := fun op x y W => guard32 op x y (readL s z) (readL s z) W
      have heq2 := fun W => neqs_same (s.safe z) hy W
      have hgd2 := fun op x y W => guard32 op x y (s.safe z) (s.safe z) W
      simp only [arr] at q1 q2 q3 q4 heq hgd heq2 hgd2
      generalize readL s z = x at *
      generalize readE s z = ee at *
      generalize s.safe z = y at *
      clear HC
      go_wp2_with (first
        | (go_at_call 22; refine q1.mono ?_; rintro e w4 ⟨rfl, hk4⟩; clear q1)
        | (refine wpList_store_arr rfl 32 _ _ rfl w4.heap.size 32 _ x rfl rfl (hN0 w4) hx.1 (by rw [hx.1]; exact Try.size32) ?_; intro w5 hA5 hk5 hs5; replace hs5 : Hid _ := hs5; have hk45 : Kept [] wr w5 := (hk4.trans (kept_alloc [] w4 (.cells #[.int .u8 0, .int .u8 0, .int .u8 0, .int .u8 0, .int .u8 0, .int .u8 0, .int .u8 0, .int .u8 0, .int .u8 0, .int .u8 0, .int .u8 0, .int .u8 0, .int .u8 0, .int .u8 0, .int .u8 0, .int .u8 0] 32))).young hk5 hk4.size; have hB5 := hBz.kept hk45)
        | (go_at_call 26; refine (q2 _ hB5.ref).mono ?_; rintro e w6 ⟨rfl, hk6⟩; clear q2)
        | (refine wpList_store_arr rfl 32 _ _ rfl w6.heap.size 32 _ x rfl rfl (hN0 w6) hx.1 (by rw [hx.1]; exact Try.size32) ?_; intro w7 hA7 hk7 hs7; replace hs7 : Hid _ := hs7; have hk57 : Kept [] w5 w7 := (hk6.trans (kept_alloc [] w6 (.cells #[.int .u8 0, .int .u8 0, .int .u8 0, .int .u8 0, .int .u8 0, .int .u8 0, .int .u8 0, .int .u8 0, .int .u8 0, .int .u8 0, .int .u8 0, .int .u8 0, .int .u8 0, .int .u8 0, .int .u8 0, .int .u8 0] 32))).young hk7 hk6.size; have hA57 := hA5.kept hk57 (by simp); have hB7 := hB5.kept hk57)
        | refine wpList_load_arr rfl 32 _ rfl w4.heap.size 32 x rfl hA57 16 5 Try.underlying32 (by rw [hx.1]; exact Try.size32) ?_
        | refine wpList_load_arr rfl 32 _ rfl w6.heap.size 32 x rfl hA7 16 5 Try.underlying32 (by rw [hx.1]; exact Try.size32) ?_
        | (go_at_call 18; refine (q3 _ hB7.disk).mono ?_; rintro e w8 ⟨rfl, hk8⟩; have hB8 := hB7.kept hk8)
        | (go_at_call 34; refine (q4 _ hB8.ref).mono ?_; rintro e w9 ⟨rfl, hk9⟩))
      go_roundw
      case rel => exact ⟨z + 1, by omega, by omega, rfl, (((hKz.trans hk45).trans hk57).trans hk8).trans hk9⟩
      case measure => simpa [RowKit.intOf] using hm1.out
    · obtain rfl : z = (N : Int) + 1 := by omega
      go_wp2
      go_ret
      exact ⟨rfl, hK.trans hKz⟩
end Go.Proofs.Ytidgjhgeminelaa
