/-
 The walks of package pack: what a kind is like, what it has; Name.
-/
import Derived.Great.Walk
import Derived.Test.YtoaeficfmcncjaaGreatM35
namespace Go.Proofs.YtoaeficfmcncjaaGreat.Pack
open Go.RowKit
open Seal (enc ret_bool)
set_option maxRecDepth 100000 in
theorem Tryz.sizeT : (Tryz.prog.info? 285).map (·.size) = some 45 := by kernel_rfl
abbrev z45 : Array Value := #[.string { data := #[] }, .int .i64 0, .int .i64 0, .int .i64 0, .int .i64 0, .string { data := #[] }, .int .i64 0, .int .i64 0, .int .i64 0, .int .i64 0, .string { data := #[] }, .int .i64 0, .int .i64 0, .int .i64 0, .int .i64 0, .string { data := #[] }, .int .i64 0, .int .i64 0, .int .i64 0, .int .i64 0, .string { data := #[] }, .int .i64 0, .int .i64 0, .int .i64 0, .int .i64 0, .string { data := #[] }, .int .i64 0, .int .i64 0, .int .i64 0, .int .i64 0, .string { data := #[] }, .int .i64 0, .int .i64 0, .int .i64 0, .int .i64 0, .string { data := #[] }, .int .i64 0, .int .i64 0, .int .i64 0, .int .i64 0, .string { data := #[] }, .int .i64 0, .int .i64 0, .int .i64 0, .int .i64 0]
abbrev l45 (n1 n2 n3 n4 n5 n6 n7 n8 : ByteArray) : List Value := [.string { data := #[] }, .int .i64 0, .int .i64 0, .int .i64 0, .int .i64 0, .string n1, .int .i64 3, .int .i64 0, .int .i64 0, .int .i64 0, .string n2, .int .i64 28, .int .i64 256, .int .i64 1, .int .i64 8, .string n3, .int .i64 4, .int .i64 0, .int .i64 0, .int .i64 0, .string n4, .int .i64 4, .int .i64 0, .int .i64 0, .int .i64 0, .string n5, .int .i64 4, .int .i64 0, .int .i64 0, .int .i64 0, .string n6, .int .i64 24, .int .i64 64, .int .i64 4, .int .i64 4, .string n7, .int .i64 8, .int .i64 64, .int .i64 0, .int .i64 0, .string n8, .int .i64 0, .int .i64 0, .int .i64 0, .int .i64 0]
abbrev f45 (n1 n2 n3 n4 n5 n6 n7 n8 : ByteArray) : Array Value := #[.string { data := #[] }, .int .i64 0, .int .i64 0, .int .i64 0, .int .i64 0, .string n1, .int .i64 3, .int .i64 0, .int .i64 0, .int .i64 0, .string n2, .int .i64 28, .int .i64 256, .int .i64 1, .int .i64 8, .string n3, .int .i64 4, .int .i64 0, .int .i64 0, .int .i64 0, .string n4, .int .i64 4, .int .i64 0, .int .i64 0, .int .i64 0, .string n5, .int .i64 4, .int .i64 0, .int .i64 0, .int .i64 0, .string n6, .int .i64 24, .int .i64 64, .int .i64 4, .int .i64 4, .string n7, .int .i64 8, .int .i64 64, .int .i64 0, .int .i64 0, .string n8, .int .i64 0, .int .i64 0, .int .i64 0, .int .i64 0]
set_option maxRecDepth 100000 in
set_option maxHeartbeats 2000000 in
theorem shapeK (k : Nat) (k1 : 1 ≤ k) (k8 : k ≤ 8) (nm : ByteArray) (p o l u : Nat) (h0 : (l45 { data := #[103, 114, 101, 101, 116] } { data := #[100, 97, 116, 97] } { data := #[97, 99, 107] } { data := #[111, 118, 101, 114] } { data := #[114, 101, 116, 114, 121] } { data := #[101, 120, 116] } { data := #[104, 97, 118, 101] } { data := #[101, 110, 100] })[k * 5]? = some (.string nm)) (h1 : (l45 { data := #[103, 114, 101, 101, 116] } { data := #[100, 97, 116, 97] } { data := #[97, 99, 107] } { data := #[111, 118, 101, 114] } { data := #[114, 101, 116, 114, 121] } { data := #[101, 120, 116] } { data := #[104, 97, 118, 101] } { data := #[101, 110, 100] })[k * 5 + 1]? = some (.int .i64 (p : Int))) (h2 : (l45 { data := #[103, 114, 101, 101, 116] } { data := #[100, 97, 116, 97] } { data := #[97, 99, 107] } { data := #[111, 118, 101, 114] } { data := #[114, 101, 116, 114, 121] } { data := #[101, 120, 116] } { data := #[104, 97, 118, 101] } { data := #[101, 110, 100] })[k * 5 + 2]? = some (.int .i64 (o : Int))) (h3 : (l45 { data := #[103, 114, 101, 101, 116] } { data := #[100, 97, 116, 97] } { data := #[97, 99, 107] } { data := #[111, 118, 101, 114] } { data := #[114, 101, 116, 114, 121] } { data := #[101, 120, 116] } { data := #[104, 97, 118, 101] } { data := #[101, 110, 100] })[k * 5 + 3]? = some (.int .i64 (l : Int))) (h4 : (l45 { data := #[103, 114, 101, 101, 116] } { data := #[100, 97, 116, 97] } { data := #[97, 99, 107] } { data := #[111, 118, 101, 114] } { data := #[114, 101, 116, 114, 121] } { data := #[101, 120, 116] } { data := #[104, 97, 118, 101] } { data := #[101, 110, 100] })[k * 5 + 4]? = some (.int .i64 (u : Int))) (w : World) :
  Calls Tryz.prog 140 #[.int .i64 (k : Int)] w fun e w' => e = .returned (.tuple #[shV nm p o l u, .bool true]) ∧ Kept [] w w' := by
 have i1 : ¬ ((k : Int) < 1) := by omega
 have i8 : ¬ (8 < (k : Int)) := by omega
 have i9 : (k : Int) < 9 := by omega
 go_enter Tryz.func140, Tryz.ntmps140
 generalize ({ data := #[103, 114, 101, 101, 116] } : ByteArray) = n1 at h0 h1 h2 h3 h4 ⊢
 generalize ({ data := #[100, 97, 116, 97] } : ByteArray) = n2 at h0 h1 h2 h3 h4 ⊢
 generalize ({ data := #[97, 99, 107] } : ByteArray) = n3 at h0 h1 h2 h3 h4 ⊢
 generalize ({ data := #[111, 118, 101, 114] } : ByteArray) = n4 at h0 h1 h2 h3 h4 ⊢
 generalize ({ data := #[114, 101, 116, 114, 121] } : ByteArray) = n5 at h0 h1 h2 h3 h4 ⊢
 generalize ({ data := #[101, 120, 116] } : ByteArray) = n6 at h0 h1 h2 h3 h4 ⊢
 generalize ({ data := #[104, 97, 118, 101] } : ByteArray) = n7 at h0 h1 h2 h3 h4 ⊢
 generalize ({ data := #[101, 110, 100] } : ByteArray) = n8 at h0 h1 h2 h3 h4 ⊢
 go_upto_region 1 with fail
 refine wp_region_lit ?_
 refine wpList_buildTo rfl 228 _ rfl (some 5) rfl #[.string n1, .int .i64 3, .int .i64 0, .int .i64 0, .int .i64 0] (by as_aux_lemma => kernel_rfl) ?_
 refine wpList_buildTo rfl 228 _ rfl (some 6) rfl #[.string n2, .int .i64 28, .int .i64 256, .int .i64 1, .int .i64 8] (by as_aux_lemma => kernel_rfl) ?_
 refine wpList_buildTo rfl 228 _ rfl (some 7) rfl #[.string n3, .int .i64 4, .int .i64 0, .int .i64 0, .int .i64 0] (by as_aux_lemma => kernel_rfl) ?_
 refine wpList_buildTo rfl 228 _ rfl (some 8) rfl #[.string n4, .int .i64 4, .int .i64 0, .int .i64 0, .int .i64 0] (by as_aux_lemma => kernel_rfl) ?_
 refine wpList_buildTo rfl 228 _ rfl (some 9) rfl #[.string n5, .int .i64 4, .int .i64 0, .int .i64 0, .int .i64 0] (by as_aux_lemma => kernel_rfl) ?_
 refine wpList_buildTo rfl 228 _ rfl (some 10) rfl #[.string n6, .int .i64 24, .int .i64 64, .int .i64 4, .int .i64 4] (by as_aux_lemma => kernel_rfl) ?_
 refine wpList_buildTo rfl 228 _ rfl (some 11) rfl #[.string n7, .int .i64 8, .int .i64 64, .int .i64 0, .int .i64 0] (by as_aux_lemma => kernel_rfl) ?_
 refine wpList_buildTo rfl 228 _ rfl (some 12) rfl #[.string n8, .int .i64 0, .int .i64 0, .int .i64 0, .int .i64 0] (by as_aux_lemma => kernel_rfl) ?_
 refine wpList_buildTo rfl 285 _ rfl (some 13) rfl (f45 n1 n2 n3 n4 n5 n6 n7 n8) (by as_aux_lemma => kernel_rfl) ?_
 obtain ⟨w1, hw1⟩ : ∃ w1, w.alloc (.cells #[.string { data := #[] }, .int .i64 0, .int .i64 0, .int .i64 0, .int .i64 0] 228) = w1 := ⟨_, rfl⟩
 have hb1 : Blk w1 w.heap.size 228 #[.string { data := #[] }, .int .i64 0, .int .i64 0, .int .i64 0, .int .i64 0] := by rw [← hw1]; exact blk_new w 228 _
 have hk1 : Kept [] w w1 := by rw [← hw1]; exact kept_alloc [] w _
 have hs1 : w1.heap.size = w.heap.size + 1 := by rw [← hw1]; simp
 rw [hw1]
 refine Great.wpList_allocTo rfl (some 4) rfl (.pointer (some ⟨w1.heap.size, 0, none⟩)) (.cells z45 285) (by as_aux_lemma => kernel_rfl) ?_
 have hb2 := blk_new w1 285 z45
 have hk2 := kept_alloc [] w1 (.cells z45 285)
 rw [hs1] at hb2 ⊢
 obtain ⟨w2, hw2⟩ : ∃ w2, w1.alloc (.cells z45 285) = w2 := ⟨_, rfl⟩
 rw [hw2] at hb2 hk2 ⊢
 refine wpList_store_blk rfl 285 _ _ rfl (w.heap.size + 1) 285 _ (l45 n1 n2 n3 n4 n5 n6 n7 n8) (by as_aux_lemma => kernel_rfl) (by as_aux_lemma => kernel_rfl) hb2 rfl Tryz.sizeT (by simp [Value.oneCell']) ?_
 intro w3 hb3 hk3 hz3
 have hb1' : Blk w3 w.heap.size 228 _ := (hb1.kept hk2 (by simp)).kept hk3 (by simp)
 have c0 : w3.cell? ⟨w.heap.size + 1, k * 5, none⟩ = some (.string nm) := (hb3.cell _).trans (by simpa using h0)
 have c1 : w3.cell? ⟨w.heap.size + 1, k * 5 + 1, none⟩ = some (.int .i64 (p : Int)) := (hb3.cell _).trans (by simpa using h1)
 have c2 : w3.cell? ⟨w.heap.size + 1, k * 5 + 2, none⟩ = some (.int .i64 (o : Int)) := (hb3.cell _).trans (by simpa using h2)
 have c3 : w3.cell? ⟨w.heap.size + 1, k * 5 + 3, none⟩ = some (.int .i64 (l : Int)) := (hb3.cell _).trans (by simpa using h3)
 have c4 : w3.cell? ⟨w.heap.size + 1, k * 5 + 4, none⟩ = some (.int .i64 (u : Int)) := (hb3.cell _).trans (by simpa using h4)
 have hk03 : Kept [] w w3 := hk1.trans (hk2.young hk3 (by omega))
 clear hb2 hb3 hb1 hk1 hk2 hk3 hw1 hw2 hz3 hs1
 go_wp2_with (refine wpList_store_blk rfl 228 _ _ rfl w.heap.size 228 _ [.string nm, .int .i64 (p : Int), .int .i64 (o : Int), .int .i64 (l : Int), .int .i64 (u : Int)] rfl rfl hb1' rfl Tryz.sizeS (by simp [Value.oneCell']) ?_; intro w4 hb4 hk4 hz4)
 refine bodyPost_ret (results_row_tmp rfl _ _ w.heap.size _ rfl (run_loadVar_row (P := Tryz.prog) w4 w.heap.size 228 228 _ (0, 0) _ hb4 Tryz.underlying228 rfl Tryz.sizeS)) rfl ⟨rfl, ?_⟩
 exact hk03.young hk4 (Nat.le_refl _)
set_option maxRecDepth 100000 in
set_option maxHeartbeats 1000000 in
theorem shape_low (k : Int) (h : k < 1) (w : World) : Calls Tryz.prog 140 #[.int .i64 k] w fun e w' => e = .returned (.tuple #[shV { data := #[] } 0 0 0 0, .bool false]) ∧ Kept [] w w' := by
 go_enter Tryz.func140, Tryz.ntmps140
 generalize ({ data := #[103, 114, 101, 101, 116] } : ByteArray) = n1
 generalize ({ data := #[100, 97, 116, 97] } : ByteArray) = n2
 generalize ({ data := #[97, 99, 107] } : ByteArray) = n3
 generalize ({ data := #[111, 118, 101, 114] } : ByteArray) = n4
 generalize ({ data := #[114, 101, 116, 114, 121] } : ByteArray) = n5
 generalize ({ data := #[101, 120, 116] } : ByteArray) = n6
 generalize ({ data := #[104, 97, 118, 101] } : ByteArray) = n7
 generalize ({ data := #[101, 110, 100] } : ByteArray) = n8
 go_upto_region 1 with fail
 refine wp_region_lit ?_
 refine wpList_buildTo rfl 228 _ rfl (some 5) rfl #[.string n1, .int .i64 3, .int .i64 0, .int .i64 0, .int .i64 0] (by as_aux_lemma => kernel_rfl) ?_
 refine wpList_buildTo rfl 228 _ rfl (some 6) rfl #[.string n2, .int .i64 28, .int .i64 256, .int .i64 1, .int .i64 8] (by as_aux_lemma => kernel_rfl) ?_
 refine wpList_buildTo rfl 228 _ rfl (some 7) rfl #[.string n3, .int .i64 4, .int .i64 0, .int .i64 0, .int .i64 0] (by as_aux_lemma => kernel_rfl) ?_
 refine wpList_buildTo rfl 228 _ rfl (some 8) rfl #[.string n4, .int .i64 4, .int .i64 0, .int .i64 0, .int .i64 0] (by as_aux_lemma => kernel_rfl) ?_
 refine wpList_buildTo rfl 228 _ rfl (some 9) rfl #[.string n5, .int .i64 4, .int .i64 0, .int .i64 0, .int .i64 0] (by as_aux_lemma => kernel_rfl) ?_
 refine wpList_buildTo rfl 228 _ rfl (some 10) rfl #[.string n6, .int .i64 24, .int .i64 64, .int .i64 4, .int .i64 4] (by as_aux_lemma => kernel_rfl) ?_
 refine wpList_buildTo rfl 228 _ rfl (some 11) rfl #[.string n7, .int .i64 8, .int .i64 64, .int .i64 0, .int .i64 0] (by as_aux_lemma => kernel_rfl) ?_
 refine wpList_buildTo rfl 228 _ rfl (some 12) rfl #[.string n8, .int .i64 0, .int .i64 0, .int .i64 0, .int .i64 0] (by as_aux_lemma => kernel_rfl) ?_
 refine wpList_buildTo rfl 285 _ rfl (some 13) rfl (f45 n1 n2 n3 n4 n5 n6 n7 n8) (by as_aux_lemma => kernel_rfl) ?_
 obtain ⟨w1, hw1⟩ : ∃ w1, w.alloc (.cells #[.string { data := #[] }, .int .i64 0, .int .i64 0, .int .i64 0, .int .i64 0] 228) = w1 := ⟨_, rfl⟩
 have hb1 : Blk w1 w.heap.size 228 #[.string { data := #[] }, .int .i64 0, .int .i64 0, .int .i64 0, .int .i64 0] := by rw [← hw1]; exact blk_new w 228 _
 have hk1 : Kept [] w w1 := by rw [← hw1]; exact kept_alloc [] w _
 have hs1 : w1.heap.size = w.heap.size + 1 := by rw [← hw1]; simp
 rw [hw1]
 refine Great.wpList_allocTo rfl (some 4) rfl (.pointer (some ⟨w1.heap.size, 0, none⟩)) (.cells z45 285) (by as_aux_lemma => kernel_rfl) ?_
 have hb2 := blk_new w1 285 z45
 have hk2 := kept_alloc [] w1 (.cells z45 285)
 rw [hs1] at hb2 ⊢
 obtain ⟨w2, hw2⟩ : ∃ w2, w1.alloc (.cells z45 285) = w2 := ⟨_, rfl⟩
 rw [hw2] at hb2 hk2 ⊢
 refine wpList_store_blk rfl 285 _ _ rfl (w.heap.size + 1) 285 _ (l45 n1 n2 n3 n4 n5 n6 n7 n8) (by as_aux_lemma => kernel_rfl) (by as_aux_lemma => kernel_rfl) hb2 rfl Tryz.sizeT (by simp [Value.oneCell']) ?_
 intro w3 hb3 hk3 hz3
 have hb1' : Blk w3 w.heap.size 228 _ := (hb1.kept hk2 (by simp)).kept hk3 (by simp)
 have hk03 : Kept [] w w3 := hk1.trans (hk2.young hk3 (by omega))
 clear hb2 hb3 hb1 hk1 hk2 hk3 hw1 hw2 hz3 hs1
 go_wp2_with (refine wpList_store_blk rfl 228 _ _ rfl w.heap.size 228 _ [.string { data := #[] }, .int .i64 0, .int .i64 0, .int .i64 0, .int .i64 0] rfl rfl hb1' rfl Tryz.sizeS (by simp [Value.oneCell']) ?_; intro w4 hb4 hk4 hz4)
 refine bodyPost_ret (results_row_tmp rfl _ _ w.heap.size _ rfl (run_loadVar_row (P := Tryz.prog) w4 w.heap.size 228 228 _ (0, 0) _ hb4 Tryz.underlying228 rfl Tryz.sizeS)) rfl ⟨rfl, ?_⟩
 exact hk03.young hk4 (Nat.le_refl _)
set_option maxRecDepth 100000 in
set_option maxHeartbeats 1000000 in
theorem shape_high (k : Int) (h : 8 < k) (w : World) : Calls Tryz.prog 140 #[.int .i64 k] w fun e w' => e = .returned (.tuple #[shV { data := #[] } 0 0 0 0, .bool false]) ∧ Kept [] w w' := by
 go_enter Tryz.func140, Tryz.ntmps140
 generalize ({ data := #[103, 114, 101, 101, 116] } : ByteArray) = n1
 generalize ({ data := #[100, 97, 116, 97] } : ByteArray) = n2
 generalize ({ data := #[97, 99, 107] } : ByteArray) = n3
 generalize ({ data := #[111, 118, 101, 114] } : ByteArray) = n4
 generalize ({ data := #[114, 101, 116, 114, 121] } : ByteArray) = n5
 generalize ({ data := #[101, 120, 116] } : ByteArray) = n6
 generalize ({ data := #[104, 97, 118, 101] } : ByteArray) = n7
 generalize ({ data := #[101, 110, 100] } : ByteArray) = n8
 go_upto_region 1 with fail
 refine wp_region_lit ?_
 refine wpList_buildTo rfl 228 _ rfl (some 5) rfl #[.string n1, .int .i64 3, .int .i64 0, .int .i64 0, .int .i64 0] (by as_aux_lemma => kernel_rfl) ?_
 refine wpList_buildTo rfl 228 _ rfl (some 6) rfl #[.string n2, .int .i64 28, .int .i64 256, .int .i64 1, .int .i64 8] (by as_aux_lemma => kernel_rfl) ?_
 refine wpList_buildTo rfl 228 _ rfl (some 7) rfl #[.string n3, .int .i64 4, .int .i64 0, .int .i64 0, .int .i64 0] (by as_aux_lemma => kernel_rfl) ?_
 refine wpList_buildTo rfl 228 _ rfl (some 8) rfl #[.string n4, .int .i64 4, .int .i64 0, .int .i64 0, .int .i64 0] (by as_aux_lemma => kernel_rfl) ?_
 refine wpList_buildTo rfl 228 _ rfl (some 9) rfl #[.string n5, .int .i64 4, .int .i64 0, .int .i64 0, .int .i64 0] (by as_aux_lemma => kernel_rfl) ?_
 refine wpList_buildTo rfl 228 _ rfl (some 10) rfl #[.string n6, .int .i64 24, .int .i64 64, .int .i64 4, .int .i64 4] (by as_aux_lemma => kernel_rfl) ?_
 refine wpList_buildTo rfl 228 _ rfl (some 11) rfl #[.string n7, .int .i64 8, .int .i64 64, .int .i64 0, .int .i64 0] (by as_aux_lemma => kernel_rfl) ?_
 refine wpList_buildTo rfl 228 _ rfl (some 12) rfl #[.string n8, .int .i64 0, .int .i64 0, .int .i64 0, .int .i64 0] (by as_aux_lemma => kernel_rfl) ?_
 refine wpList_buildTo rfl 285 _ rfl (some 13) rfl (f45 n1 n2 n3 n4 n5 n6 n7 n8) (by as_aux_lemma => kernel_rfl) ?_
 obtain ⟨w1, hw1⟩ : ∃ w1, w.alloc (.cells #[.string { data := #[] }, .int .i64 0, .int .i64 0, .int .i64 0, .int .i64 0] 228) = w1 := ⟨_, rfl⟩
 have hb1 : Blk w1 w.heap.size 228 #[.string { data := #[] }, .int .i64 0, .int .i64 0, .int .i64 0, .int .i64 0] := by rw [← hw1]; exact blk_new w 228 _
 have hk1 : Kept [] w w1 := by rw [← hw1]; exact kept_alloc [] w _
 have hs1 : w1.heap.size = w.heap.size + 1 := by rw [← hw1]; simp
 rw [hw1]
 refine Great.wpList_allocTo rfl (some 4) rfl (.pointer (some ⟨w1.heap.size, 0, none⟩)) (.cells z45 285) (by as_aux_lemma => kernel_rfl) ?_
 have hb2 := blk_new w1 285 z45
 have hk2 := kept_alloc [] w1 (.cells z45 285)
 rw [hs1] at hb2 ⊢
 obtain ⟨w2, hw2⟩ : ∃ w2, w1.alloc (.cells z45 285) = w2 := ⟨_, rfl⟩
 rw [hw2] at hb2 hk2 ⊢
 refine wpList_store_blk rfl 285 _ _ rfl (w.heap.size + 1) 285 _ (l45 n1 n2 n3 n4 n5 n6 n7 n8) (by as_aux_lemma => kernel_rfl) (by as_aux_lemma => kernel_rfl) hb2 rfl Tryz.sizeT (by simp [Value.oneCell']) ?_
 intro w3 hb3 hk3 hz3
 have hb1' : Blk w3 w.heap.size 228 _ := (hb1.kept hk2 (by simp)).kept hk3 (by simp)
 have hk03 : Kept [] w w3 := hk1.trans (hk2.young hk3 (by omega))
 clear hb2 hb3 hb1 hk1 hk2 hk3 hw1 hw2 hz3 hs1
 go_wp2_with (refine wpList_store_blk rfl 228 _ _ rfl w.heap.size 228 _ [.string { data := #[] }, .int .i64 0, .int .i64 0, .int .i64 0, .int .i64 0] rfl rfl hb1' rfl Tryz.sizeS (by simp [Value.oneCell']) ?_; intro w4 hb4 hk4 hz4)
 refine bodyPost_ret (results_row_tmp rfl _ _ w.heap.size _ rfl (run_loadVar_row (P := Tryz.prog) w4 w.heap.size 228 228 _ (0, 0) _ hb4 Tryz.underlying228 rfl Tryz.sizeS)) rfl ⟨rfl, ?_⟩
 exact hk03.young hk4 (Nat.le_refl _)
set_option maxRecDepth 100000 in
theorem shape_any (k : Int) (w : World) : Calls Tryz.prog 140 #[.int .i64 k] w fun e w' => e = .returned (.tuple #[shV (nameOf k) (partsOf k) (offsOf k) (leastOf k) (mostOf k), .bool (isKind k)]) ∧ Kept [] w w' := by
 by_cases h : 1 ≤ k ∧ k ≤ 8
 ·have hk : k = 1 ∨ k = 2 ∨ k = 3 ∨ k = 4 ∨ k = 5 ∨ k = 6 ∨ k = 7 ∨ k = 8 := by omega
  rcases hk with rfl | rfl | rfl | rfl | rfl | rfl | rfl | rfl
  ·exact shapeK 1 (by omega) (by omega) _ 3 0 0 0 rfl rfl rfl rfl rfl w
  ·exact shapeK 2 (by omega) (by omega) _ 28 256 1 8 rfl rfl rfl rfl rfl w
  ·exact shapeK 3 (by omega) (by omega) _ 4 0 0 0 rfl rfl rfl rfl rfl w
  ·exact shapeK 4 (by omega) (by omega) _ 4 0 0 0 rfl rfl rfl rfl rfl w
  ·exact shapeK 5 (by omega) (by omega) _ 4 0 0 0 rfl rfl rfl rfl rfl w
  ·exact shapeK 6 (by omega) (by omega) _ 24 64 4 4 rfl rfl rfl rfl rfl w
  ·exact shapeK 7 (by omega) (by omega) _ 8 64 0 0 rfl rfl rfl rfl rfl w
  ·exact shapeK 8 (by omega) (by omega) _ 0 0 0 0 rfl rfl rfl rfl rfl w
 ·have e0 : isKind k = false := decide_eq_false h
  have e1 : nameOf k = { data := #[] } := by
   unfold nameOf
   rw [if_neg (by omega), if_neg (by omega), if_neg (by omega), if_neg (by omega), if_neg (by omega), if_neg (by omega), if_neg (by omega), if_neg (by omega)]
  have e2 : partsOf k = 0 := by
   unfold partsOf
   rw [if_neg (by omega), if_neg (by omega), if_neg (by omega), if_neg (by omega), if_neg (by omega)]
  have e3 : offsOf k = 0 := by
   unfold offsOf
   rw [if_neg (by omega), if_neg (by omega)]
  have e4 : leastOf k = 0 := by
   unfold leastOf
   rw [if_neg (by omega), if_neg (by omega)]
  have e5 : mostOf k = 0 := by
   unfold mostOf
   rw [if_neg (by omega), if_neg (by omega)]
  rw [e0, e1, e2, e3, e4, e5]
  by_cases hl : k < 1
  ·exact shape_low k hl w
  ·exact shape_high k (by omega) w
theorem i64_and_nat (a b : Nat) (ha : a < 9223372036854775808) (hb : b < 9223372036854775808) : bits .and .i64 (a : Int) (b : Int) = ((a &&& b : Nat) : Int) := by
 have hx : a &&& b < 2 ^ 63 := Nat.and_lt_two_pow _ (by omega)
 show IntKind.i64.wrap ((BitVec.ofInt 64 (a : Int) &&& BitVec.ofInt 64 (b : Int)).toNat : Int) = _
 rw [BitVec.toNat_and, ofInt_u64 a (by omega), ofInt_u64 b (by omega), IntKind.wrap_i64]
 omega
def hasB (p q : Nat) : Bool := decide (p &&& q ≠ 0)
set_option maxRecDepth 100000 in
theorem has_any (n : ByteArray) (p o l u q : Nat) (hp : p < 1000) (hq : q < 1000) (w : World) : Calls Tryz.prog 141 #[shV n p o l u, .int .i64 (q : Int)] w fun e w' => e = .returned (.bool (hasB p q)) ∧ Kept [] w w' := by
 have hk := kept_alloc [] w (.cells #[.string n, .int .i64 (p : Int), .int .i64 (o : Int), .int .i64 (l : Int), .int .i64 (u : Int)] 228)
 have ha := i64_and_nat p q (by omega) (by omega)
 have hh : Hid (hasB p q = decide (p &&& q ≠ 0)) := rfl
 generalize p &&& q = z at *
 unfold shV
 go_enter Tryz.func141, Tryz.ntmps141
 go_wp2_with fail
 go_ret
 exact ⟨ret_bool (by rw [hh.out]; by_cases e : z = 0 <;> simp [e]), hk⟩
def fitB (p q : Nat) (n least most : Int) : Bool := if hasB p q = true then decide (least ≤ n ∧ n ≤ most) else decide (n = 0)
set_option maxRecDepth 100000 in
theorem fits_any (nm : ByteArray) (p o l u q : Nat) (n least most : Int) (hp : p < 1000) (hq : q < 1000) (w : World) : Calls Tryz.prog 142 #[shV nm p o l u, .int .i64 (q : Int), .int .i64 n, .int .i64 least, .int .i64 most] w fun e w' => e = .returned (.bool (fitB p q n least most)) ∧ Kept [] w w' := by
 have hk := kept_alloc [] w (.cells #[.string nm, .int .i64 (p : Int), .int .i64 (o : Int), .int .i64 (l : Int), .int .i64 (u : Int)] 228)
 have qh := has_any nm p o l u q hp hq
 have hf : Hid (fitB p q n least most = if hasB p q = true then decide (least ≤ n ∧ n ≤ most) else decide (n = 0)) := rfl
 generalize hasB p q = b at *
 unfold shV at *
 cases b with
 | false =>
  go_enter Tryz.func142, Tryz.ntmps142
  go_wp2_with (go_at_call 141; refine (qh _).mono ?_; rintro e w1 ⟨rfl, hk1⟩; replace hk := hk.trans hk1)
  go_ret
  exact ⟨ret_bool (by rw [hf.out]; by_cases e : n = 0 <;> simp [e]), hk⟩
 | true =>
  by_cases h1 : least ≤ n
  ·go_enter Tryz.func142, Tryz.ntmps142
   go_wp2_with (go_at_call 141; refine (qh _).mono ?_; rintro e w1 ⟨rfl, hk1⟩; replace hk := hk.trans hk1)
   go_ret
   exact ⟨ret_bool (by rw [hf.out]; simp [h1]), hk⟩
  ·go_enter Tryz.func142, Tryz.ntmps142
   go_wp2_with (go_at_call 141; refine (qh _).mono ?_; rintro e w1 ⟨rfl, hk1⟩; replace hk := hk.trans hk1)
   go_ret
   exact ⟨ret_bool (by rw [hf.out]; simp; omega), hk⟩
end Go.Proofs.YtoaeficfmcncjaaGreat.Pack
