/-
  MetaActs: what an act does to both disks.
-/
import Derived.Test.YtpimfhchimafiaaGreatMetaB
namespace Go.Proofs.YtpimfhchimafiaaGreat
open Go.RowKit Go.Maps Go.Shelf
open Math

/-- The disk behind an act. -/
def acted (s : Dk) (kind at_ : Int) (mask : Nat) : Dk :=
  if kind = 0 then nextS s else if kind = 1 then retS s mask else if kind = 2 then logS s mask else if kind = 3 then mapS s mask else if kind = 4 then crashed s mask else if kind = 5 then fused s at_ else s
theorem acted_ops (s : Dk) (kind at_ : Int) (mask : Nat) : (acted s kind at_ mask).ops ≤ s.ops + 4 := by
  have h0 := next_ops s
  have h1 := ret_ops s mask
  have h2 := log_ops s mask
  have h3 := map_ops s mask
  have h4 : (crashed s mask).ops = s.ops := rfl
  have h5 : (fused s at_).ops = s.ops := rfl
  unfold acted
  repeat' split
  all_goals omega

set_option maxRecDepth 100000 in
set_option maxHeartbeats 2000000 in
theorem do_0 (d b1 b2 r g cap : Nat) (s : Dk) (at_ : Int) (mask : Nat) (hops : s.ops ≤ 999996) (w : World) (hB : Both w d b1 b2 r g cap s) :
    Calls Tryz.prog 7 #[.pointer (some ⟨d, 0, none⟩), .pointer (some ⟨r, 0, none⟩), .agg #[.int .i64 0, .int .i64 at_, .int .u64 (mask : Int)]] w fun e w' => e = .returned (.bool true) ∧ Both w' d b1 b2 r g cap (nextS s) ∧ Kept [d, b1, b2, r, g] w w' := by
  have hk0 := kept_alloc [] w (.cells #[.int .i64 0, .int .i64 at_, .int .u64 (mask : Int)] 33)
  have hB0 := hB.kept hk0
  have hlt := hB.lt
  have hl0 := hB0.lt
  have q1 := start_any d b1 b2 s (by omega) _ hB0.disk
  have q2 := fun W (h : RefAt W r g cap s) (h1 : r < W.heap.size) (h2 : g < W.heap.size) => refStart_any r g cap s (by omega) W h h1 h2
  generalize nextS s = s' at *
  generalize nextE s = ee at *
  generalize startB s = b at *
  generalize startL s = l at *
  generalize startD s = m at *
  have q3 := fun W => same_meta (b : Int) l m W
  clear hops
  go_enter Tryz.func7, Tryz.ntmps7
  go_wp2_with (first
    | (go_at_call 11; refine q1.mono ?_; rintro e w1 ⟨rfl, hD1, hk1⟩; have hR1 := hB0.ref_kept hk1; have hs1 := hk1.size; have hka := kept_alloc [] w1 (.cells #[.int .u32 (b : Int), .int .u64 (l : Int), .int .u64 (m : Int)] 37); have hx1 := blk_new w1 37 #[.int .u32 (b : Int), .int .u64 (l : Int), .int .u64 (m : Int)]; have hsa := hka.size)
    | (go_at_call 14; refine (q2 _ (hR1.kept hka (by simp) (by simp)) (by omega) (by omega)).mono ?_; rintro e w2 ⟨rfl, hR2, hk2⟩; have hx2 := hx1.kept hk2 (by simp; omega); have d0 := fun x => (hx2.kept (kept_alloc [] w2 x) (by simp)).cell 0; have d1 := fun x => (hx2.kept (kept_alloc [] w2 x) (by simp)).cell 1; have d2 := fun x => (hx2.kept (kept_alloc [] w2 x) (by simp)).cell 2; simp at d0 d1 d2))
  go_ret
  obtain ⟨hB2, hkk2⟩ := hB0.turned (hD1.kept hka (by simp) (by simp) (by simp)) (hk1.trans (hka.mono (by simp))) hR2 hk2
  exact ⟨rfl, hB2.kept (kept_alloc [] w2 _), ((hk0.mono (by simp)).trans hkk2).trans (kept_alloc _ w2 _)⟩

set_option maxRecDepth 100000 in
set_option maxHeartbeats 2000000 in
theorem do_1 (d b1 b2 r g cap : Nat) (s : Dk) (at_ : Int) (mask : Nat) (hmask : mask < 18446744073709551616) (hops : s.ops ≤ 999996) (w : World) (hB : Both w d b1 b2 r g cap s) :
    Calls Tryz.prog 7 #[.pointer (some ⟨d, 0, none⟩), .pointer (some ⟨r, 0, none⟩), .agg #[.int .i64 1, .int .i64 at_, .int .u64 (mask : Int)]] w fun e w' => e = .returned (.bool true) ∧ Both w' d b1 b2 r g cap (retS s mask) ∧ Kept [d, b1, b2, r, g] w w' := by
  have q9 := fun W (h : DiskAt W d b1 b2 s) => retire_any d b1 b2 s mask hmask (by omega) W h
  have q10 := fun W (h : RefAt W r g cap s) => refRetire_any r g cap s mask hmask (by omega) W h
  have hk0 := kept_alloc [] w (.cells #[.int .i64 1, .int .i64 at_, .int .u64 (mask : Int)] 33)
  have hx := blk_new w 33 #[.int .i64 1, .int .i64 at_, .int .u64 (mask : Int)]
  have hlt := hB.lt
  generalize retS s mask = s' at *
  generalize retE s mask = pe at *
  clear hops
  go_enter Tryz.func7, Tryz.ntmps7
  go_wp2_with fail
  have hBoD := (hB.kept hk0).kept (kept_drew [] _)
  have hxD := hx.kept (kept_drew [] _) (by simp)
  have c2x := (hxD.cell 2).trans (show _ = some (Value.int .u64 (mask : Int)) from rfl)
  go_region_held3 (fun W => W.cell? ⟨w.heap.size, 2, none⟩ = some (.int .u64 (mask : Int))) (exact c2x) (first
    | (go_at_call 12; refine (q9 _ hBoD.disk).mono ?_; rintro e w8 ⟨rfl, hD8, hk8⟩; replace c2x := ((hxD.kept hk8 (by simp; omega)).cell 2).trans (show _ = some (Value.int .u64 (mask : Int)) from rfl))
    | (go_at_call 15; refine (q10 _ (hBoD.ref_kept hk8)).mono ?_; rintro e w9 ⟨rfl, hR9, hk9⟩; replace c2x := (((hxD.kept hk8 (by simp; omega)).kept hk9 (by simp; omega)).cell 2).trans (show _ = some (Value.int .u64 (mask : Int)) from rfl)))
  obtain ⟨hBo9, hkk9⟩ := hBoD.turned hD8 hk8 hR9 hk9
  go_wp2_with fail
  go_ret
  exact ⟨rfl, hBo9, ((hk0.trans (kept_drew [] _)).mono (by simp)).trans hkk9⟩

set_option maxRecDepth 100000 in
set_option maxHeartbeats 2000000 in
theorem do_2 (d b1 b2 r g cap : Nat) (s : Dk) (at_ : Int) (mask : Nat) (hmask : mask < 18446744073709551616) (hops : s.ops ≤ 999996) (w : World) (hB : Both w d b1 b2 r g cap s) :
    Calls Tryz.prog 7 #[.pointer (some ⟨d, 0, none⟩), .pointer (some ⟨r, 0, none⟩), .agg #[.int .i64 2, .int .i64 at_, .int .u64 (mask : Int)]] w fun e w' => e = .returned (.bool true) ∧ Both w' d b1 b2 r g cap (logS s mask) ∧ Kept [d, b1, b2, r, g] w w' := by
  have q9 := fun W (h : DiskAt W d b1 b2 s) => logPut_any d b1 b2 s mask hmask (by omega) W h
  have q10 := fun W (h : RefAt W r g cap s) => refPut10_any r g cap s mask hmask (by omega) W h
  have hk0 := kept_alloc [] w (.cells #[.int .i64 2, .int .i64 at_, .int .u64 (mask : Int)] 33)
  have hx := blk_new w 33 #[.int .i64 2, .int .i64 at_, .int .u64 (mask : Int)]
  have hlt := hB.lt
  generalize logS s mask = s' at *
  generalize logE s mask = pe at *
  clear hops
  go_enter Tryz.func7, Tryz.ntmps7
  go_wp2_with fail
  have hBoD := (hB.kept hk0).kept (kept_drew [] _)
  have hxD := hx.kept (kept_drew [] _) (by simp)
  have c2x := (hxD.cell 2).trans (show _ = some (Value.int .u64 (mask : Int)) from rfl)
  go_region_held3 (fun W => W.cell? ⟨w.heap.size, 2, none⟩ = some (.int .u64 (mask : Int))) (exact c2x) (first
    | (go_at_call 16; refine (q9 _ hBoD.disk).mono ?_; rintro e w8 ⟨rfl, hD8, hk8⟩; replace c2x := ((hxD.kept hk8 (by simp; omega)).cell 2).trans (show _ = some (Value.int .u64 (mask : Int)) from rfl))
    | (go_at_call 17; refine (q10 _ (hBoD.ref_kept hk8)).mono ?_; rintro e w9 ⟨rfl, hR9, hk9⟩; replace c2x := (((hxD.kept hk8 (by simp; omega)).kept hk9 (by simp; omega)).cell 2).trans (show _ = some (Value.int .u64 (mask : Int)) from rfl)))
  obtain ⟨hBo9, hkk9⟩ := hBoD.turned hD8 hk8 hR9 hk9
  go_wp2_with fail
  go_ret
  exact ⟨rfl, hBo9, ((hk0.trans (kept_drew [] _)).mono (by simp)).trans hkk9⟩

set_option maxRecDepth 100000 in
set_option maxHeartbeats 2000000 in
theorem do_3 (d b1 b2 r g cap : Nat) (s : Dk) (at_ : Int) (mask : Nat) (hmask : mask < 18446744073709551616) (hops : s.ops ≤ 999996) (w : World) (hB : Both w d b1 b2 r g cap s) :
    Calls Tryz.prog 7 #[.pointer (some ⟨d, 0, none⟩), .pointer (some ⟨r, 0, none⟩), .agg #[.int .i64 3, .int .i64 at_, .int .u64 (mask : Int)]] w fun e w' => e = .returned (.bool true) ∧ Both w' d b1 b2 r g cap (mapS s mask) ∧ Kept [d, b1, b2, r, g] w w' := by
  have q9 := fun W (h : DiskAt W d b1 b2 s) => mapPut_any d b1 b2 s mask hmask (by omega) W h
  have q10 := fun W (h : RefAt W r g cap s) => refPut11_any r g cap s mask hmask (by omega) W h
  have hk0 := kept_alloc [] w (.cells #[.int .i64 3, .int .i64 at_, .int .u64 (mask : Int)] 33)
  have hx := blk_new w 33 #[.int .i64 3, .int .i64 at_, .int .u64 (mask : Int)]
  have hlt := hB.lt
  generalize mapS s mask = s' at *
  generalize mapE s mask = pe at *
  clear hops
  go_enter Tryz.func7, Tryz.ntmps7
  go_wp2_with fail
  have hBoD := (hB.kept hk0).kept (kept_drew [] _)
  have hxD := hx.kept (kept_drew [] _) (by simp)
  have c2x := (hxD.cell 2).trans (show _ = some (Value.int .u64 (mask : Int)) from rfl)
  go_region_held3 (fun W => W.cell? ⟨w.heap.size, 2, none⟩ = some (.int .u64 (mask : Int))) (exact c2x) (first
    | (go_at_call 18; refine (q9 _ hBoD.disk).mono ?_; rintro e w8 ⟨rfl, hD8, hk8⟩; replace c2x := ((hxD.kept hk8 (by simp; omega)).cell 2).trans (show _ = some (Value.int .u64 (mask : Int)) from rfl))
    | (go_at_call 19; refine (q10 _ (hBoD.ref_kept hk8)).mono ?_; rintro e w9 ⟨rfl, hR9, hk9⟩; replace c2x := (((hxD.kept hk8 (by simp; omega)).kept hk9 (by simp; omega)).cell 2).trans (show _ = some (Value.int .u64 (mask : Int)) from rfl)))
  obtain ⟨hBo9, hkk9⟩ := hBoD.turned hD8 hk8 hR9 hk9
  go_wp2_with fail
  go_ret
  exact ⟨rfl, hBo9, ((hk0.trans (kept_drew [] _)).mono (by simp)).trans hkk9⟩

set_option maxRecDepth 100000 in
set_option maxHeartbeats 2000000 in
theorem do_4 (d b1 b2 r g cap : Nat) (s : Dk) (at_ : Int) (mask : Nat) (hmask : mask < 18446744073709551616) (w : World) (hB : Both w d b1 b2 r g cap s) :
    Calls Tryz.prog 7 #[.pointer (some ⟨d, 0, none⟩), .pointer (some ⟨r, 0, none⟩), .agg #[.int .i64 4, .int .i64 at_, .int .u64 (mask : Int)]] w fun e w' => e = .returned (.bool true) ∧ Both w' d b1 b2 r g cap (crashed s mask) ∧ Kept [d, b1, b2, r, g] w w' := by
  have hk0 := kept_alloc [] w (.cells #[.int .i64 4, .int .i64 at_, .int .u64 (mask : Int)] 33)
  have hx := blk_new w 33 #[.int .i64 4, .int .i64 at_, .int .u64 (mask : Int)]
  have hlt := hB.lt
  have hB0 := hB.kept hk0
  have q9 := fun W (h : DiskAt W d b1 b2 s) => crash_any d b1 b2 s mask hmask W h
  have q10 := fun W (h : RefAt W r g cap s) => refCrash_any r g cap s mask hmask W h
  generalize crashed s mask = s' at *
  go_enter Tryz.func7, Tryz.ntmps7
  go_wp2_with (first
    | (go_at_call 20; refine (q9 _ hB0.disk).mono ?_; rintro e w8 ⟨rfl, hD8, hk8⟩; have c2 := (hx.kept hk8 (by simp; omega)).cell 2; simp at c2)
    | (go_at_call 21; refine (q10 _ (hB0.ref_kept hk8)).mono ?_; rintro e w9 ⟨rfl, hR9, hk9⟩; obtain ⟨hB9, hkk9⟩ := hB0.turned hD8 hk8 hR9 hk9))
  go_ret
  exact ⟨rfl, hB9, (hk0.mono (by simp)).trans hkk9⟩

set_option maxRecDepth 100000 in
set_option maxHeartbeats 2000000 in
theorem do_5 (d b1 b2 r g cap : Nat) (s : Dk) (at_ : Int) (mask : Nat) (h0 : -9223372036854775808 ≤ at_) (h1 : at_ ≤ 9223372036854775807) (w : World) (hB : Both w d b1 b2 r g cap s) :
    Calls Tryz.prog 7 #[.pointer (some ⟨d, 0, none⟩), .pointer (some ⟨r, 0, none⟩), .agg #[.int .i64 5, .int .i64 at_, .int .u64 (mask : Int)]] w fun e w' => e = .returned (.bool true) ∧ Both w' d b1 b2 r g cap (fused s at_) ∧ Kept [d, b1, b2, r, g] w w' := by
  have hk0 := kept_alloc [] w (.cells #[.int .i64 5, .int .i64 at_, .int .u64 (mask : Int)] 33)
  have hx := blk_new w 33 #[.int .i64 5, .int .i64 at_, .int .u64 (mask : Int)]
  have hlt := hB.lt
  have hB0 := hB.kept hk0
  have q9 := fun W (h : DiskAt W d b1 b2 s) => fuse_any d b1 b2 s at_ h0 h1 W h
  have q10 := fun W (h : RefAt W r g cap s) => setFuse_any r g cap s at_ h0 h1 W h
  generalize fused s at_ = s' at *
  clear h0 h1
  go_enter Tryz.func7, Tryz.ntmps7
  go_wp2_with (first
    | (go_at_call 22; refine (q9 _ hB0.disk).mono ?_; rintro e w8 ⟨rfl, hD8, hk8', hz8⟩; replace hz8 : Hid _ := hz8; have hk8 : Kept [d, b1, b2] _ w8 := hk8'.mono (by simp); have c1 := (hx.kept hk8 (by simp; omega)).cell 1; simp at c1)
    | (go_at_call 23; refine (q10 _ (hB0.ref_kept hk8)).mono ?_; rintro e w9 ⟨rfl, hR9, hk9⟩; obtain ⟨hB9, hkk9⟩ := hB0.turned hD8 hk8 hR9 (hk9.mono (by simp))))
  go_ret
  exact ⟨rfl, hB9, (hk0.mono (by simp)).trans hkk9⟩

set_option maxRecDepth 100000 in
set_option maxHeartbeats 2000000 in
theorem do_else (d b1 b2 r g cap : Nat) (s : Dk) (kind at_ : Int) (mask : Nat) (n0 : kind ≠ 0) (n1 : kind ≠ 1) (n2 : kind ≠ 2) (n3 : kind ≠ 3) (n4 : kind ≠ 4) (n5 : kind ≠ 5) (w : World) (hB : Both w d b1 b2 r g cap s) :
    Calls Tryz.prog 7 #[.pointer (some ⟨d, 0, none⟩), .pointer (some ⟨r, 0, none⟩), .agg #[.int .i64 kind, .int .i64 at_, .int .u64 (mask : Int)]] w fun e w' => e = .returned (.bool true) ∧ Both w' d b1 b2 r g cap s ∧ Kept [d, b1, b2, r, g] w w' := by
  have hk0 := kept_alloc [] w (.cells #[.int .i64 kind, .int .i64 at_, .int .u64 (mask : Int)] 33)
  have z0 : (kind == 0) = false := by simpa using n0
  have z1 : (kind == 1) = false := by simpa using n1
  have z2 : (kind == 2) = false := by simpa using n2
  have z3 : (kind == 3) = false := by simpa using n3
  have z4 : (kind == 4) = false := by simpa using n4
  have z5 : (kind == 5) = false := by simpa using n5
  clear n0 n1 n2 n3 n4 n5
  go_enter Tryz.func7, Tryz.ntmps7
  go_wp2_with fail
  go_ret
  exact ⟨rfl, hB.kept hk0, hk0.mono (by simp)⟩

set_option maxRecDepth 100000 in
/-- do -/
theorem do_any (d b1 b2 r g cap : Nat) (s : Dk) (kind at_ : Int) (mask : Nat) (h0 : -9223372036854775808 ≤ at_) (h1 : at_ ≤ 9223372036854775807) (hmask : mask < 18446744073709551616) (hops : s.ops ≤ 999996) (w : World) (hB : Both w d b1 b2 r g cap s) :
    Calls Tryz.prog 7 #[.pointer (some ⟨d, 0, none⟩), .pointer (some ⟨r, 0, none⟩), .agg #[.int .i64 kind, .int .i64 at_, .int .u64 (mask : Int)]] w fun e w' => e = .returned (.bool true) ∧ Both w' d b1 b2 r g cap (acted s kind at_ mask) ∧ Kept [d, b1, b2, r, g] w w' := by
  unfold acted
  by_cases n0 : kind = 0
  · subst n0
    exact do_0 d b1 b2 r g cap s at_ mask hops w hB
  by_cases n1 : kind = 1
  · subst n1
    exact do_1 d b1 b2 r g cap s at_ mask hmask hops w hB
  by_cases n2 : kind = 2
  · subst n2
    exact do_2 d b1 b2 r g cap s at_ mask hmask hops w hB
  by_cases n3 : kind = 3
  · subst n3
    exact do_3 d b1 b2 r g cap s at_ mask hmask hops w hB
  by_cases n4 : kind = 4
  · subst n4
    exact do_4 d b1 b2 r g cap s at_ mask hmask w hB
  by_cases n5 : kind = 5
  · subst n5
    exact do_5 d b1 b2 r g cap s at_ mask h0 h1 w hB
  · rw [if_neg n0, if_neg n1, if_neg n2, if_neg n3, if_neg n4, if_neg n5]
    exact do_else d b1 b2 r g cap s kind at_ mask n0 n1 n2 n3 n4 n5 w hB
end Go.Proofs.YtpimfhchimafiaaGreat
