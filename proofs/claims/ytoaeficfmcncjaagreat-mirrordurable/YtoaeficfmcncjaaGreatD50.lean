/-
 The walk of data.Read.
-/
import Derived.Test.YtoaeficfmcncjaaGreatD34
namespace Go.Proofs.YtoaeficfmcncjaaGreat
open Go.RowKit Go.Maps Go.Shelf
open Math

attribute [local go_sem] Oper.semAt_some

structure RBox (W : World) (n d : Nat) (o l : Int) (v r : Value) : Prop where
 b0 : Blk W n 27 #[.pointer (some ⟨d, 0, none⟩)]
 b1 : Blk W (n + 1) 44 #[.int .i64 o, .int .i64 l]
 b2 : Blk W (n + 2) 45 #[v]
 b3 : Blk W (n + 3) 28 #[r]
theorem RBox.kept {L : List Nat} {A B : World} {n d : Nat} {o l : Int} {v r : Value} (h : RBox A n d o l v r) (hk : Kept L A B) (hL : ∀ k ∈ L, k < n ∨ n + 4 ≤ k) : RBox B n d o l v r :=
 ⟨h.b0.kept hk (fun hm => by have := hL _ hm; omega), h.b1.kept hk (fun hm => by have := hL _ hm; omega), h.b2.kept hk (fun hm => by have := hL _ hm; omega), h.b3.kept hk (fun hm => by have := hL _ hm; omega)⟩
theorem rbox_new (w : World) (d : Nat) (o l : Int) (v r : Value) :
  RBox ((((w.alloc (.cells #[.pointer (some ⟨d, 0, none⟩)] 27)).alloc (.cells #[.int .i64 o, .int .i64 l] 44)).alloc (.cells #[v] 45)).alloc (.cells #[r] 28)) w.heap.size d o l v r := by
 obtain ⟨a0, a1, a2, a3⟩ := wbox_new w d o l v r
 exact ⟨a0, a1, a2, a3⟩
theorem RBox.cells {W : World} {n d : Nat} {o l : Int} {v r : Value} (h : RBox W n d o l v r) :
  W.cell? ⟨n, 0, none⟩ = some (.pointer (some ⟨d, 0, none⟩)) ∧ W.cell? ⟨n + 1, 0, none⟩ = some (.int .i64 o) ∧ W.cell? ⟨n + 1, 1, none⟩ = some (.int .i64 l) ∧ W.cell? ⟨n + 1 + 1, 0, none⟩ = some v ∧ W.cell? ⟨n + 1 + 1 + 1, 0, none⟩ = some r ∧ W.frozen? ⟨n + 1 + 1, 0, none⟩ = false ∧ W.frozen? ⟨n + 1 + 1 + 1, 0, none⟩ = false :=
 ⟨h.b0.cell 0, h.b1.cell 0, h.b1.cell 1, h.b2.cell 0, h.b3.cell 0, h.b2.frozen 0, h.b3.frozen 0⟩
theorem RBox.lt {W : World} {n d : Nat} {o l : Int} {v r : Value} (h : RBox W n d o l v r) : n + 4 ≤ W.heap.size := by
 have := h.b3.lt
 omega
theorem RBox.tell {W : World} {n d : Nat} {o l : Int} {v r : Value} (h : RBox W n d o l v r) (v' r' : Value) : RBox ((W.setCell ⟨n + 2, 0, none⟩ v').setCell ⟨n + 3, 0, none⟩ r') n d o l v' r' := by
 have k1 := kept_set (L := [n + 2]) (g := n + 2) (by simp) W 0 v'
 have k2 := kept_set (L := [n + 3]) (g := n + 3) (by simp) (W.setCell ⟨n + 2, 0, none⟩ v') 0 r'
 exact ⟨(h.b0.kept k1 (by simp)).kept k2 (by simp), (h.b1.kept k1 (by simp)).kept k2 (by simp), (h.b2.set 0 v').kept k2 (by simp), (h.b3.kept k1 (by simp)).set 0 r'⟩
theorem kept_tell (W : World) (n : Nat) (v' r' : Value) : Kept [n + 2, n + 3] W ((W.setCell ⟨n + 2, 0, none⟩ v').setCell ⟨n + 3, 0, none⟩ r') :=
 (kept_set (by simp) _ _ _).trans (kept_set (by simp) _ _ _)
set_option maxRecDepth 100000 in
theorem results_two {fn : Func} {p q : Tmp} (h : fn.results = #[.cell p 45, .cell q 28]) (tmps : Array Value) (w : World) (g k : Nat) (v r : Value) (hp : tmps[p]? = some (.pointer (some ⟨g, 0, none⟩))) (hq : tmps[q]? = some (.pointer (some ⟨k, 0, none⟩))) (hv : w.cell? ⟨g, 0, none⟩ = some v) (hr : w.cell? ⟨k, 0, none⟩ = some r) :
  (results fn tmps).run Tryz.prog w = .ok (.tuple #[v, r]) w := by
 simp [results, h, go_sem, hp, hq, hv, hr]

set_option maxRecDepth 100000 in
set_option maxHeartbeats 1000000 in
theorem dRead_range (d b1 b2 : Nat) (s : Dk) (o l : Int) (w : World) (h : DiskAt w d b1 b2 s) (hg : Span.Math.good o l (dataN s : Nat) = false) :
  Calls Tryz.prog 38 #[.pointer (some ⟨d, 0, none⟩), .agg #[.int .i64 o, .int .i64 l]] w fun e w' => e = .returned (.tuple #[.slice none 0 0, .int .i64 13]) ∧ Kept [] w w' := by
 have hb := rbox_new w d o l (.slice none 0 0) (.int .i64 0)
 have hk : Kept [] w ((((w.alloc (.cells #[.pointer (some ⟨d, 0, none⟩)] 27)).alloc (.cells #[.int .i64 o, .int .i64 l] 44)).alloc (.cells #[.slice none 0 0] 45)).alloc (.cells #[.int .i64 0] 28)) :=
  (((kept_alloc [] _ _).trans (kept_alloc [] _ _)).trans (kept_alloc [] _ _)).trans (kept_alloc [] _ _)
 have h1 := h.kept hk (by simp) (by simp) (by simp)
 have q := dfind_any d b1 b2 s o l _ h1
 rw [hg, if_neg (by simp)] at q
 go_enter Tryz.func38, Tryz.ntmps38
 go_wp2_with (go_at_call 85; refine q.mono ?_; rintro e w1 ⟨rfl, hk1⟩; have hb1 := hb.kept hk1 (by simp); obtain ⟨-, -, -, c3, c4, f3, f4⟩ := hb1.cells)
 have hb2 := hb1.tell (.slice none 0 0) (.int .i64 13)
 refine bodyPost_ret (results_two rfl _ _ (w.heap.size + 2) (w.heap.size + 3) _ _ rfl rfl (hb2.b2.cell 0) (hb2.b3.cell 0)) rfl ⟨rfl, ?_⟩
 exact (hk.trans hk1).youngs (kept_tell w1 w.heap.size _ _) (by simp)

structure RMid (W0 W : World) (n d b1 b2 q qb L : Nat) (o l : Int) (v r : Value) (s : Dk) (bs : List Nat) : Prop where
 box : RBox W n d o l v r
 disk : DiskAt W d b1 b2 s
 row : Arr W q 5 bs
 var : Blk W qb 45 #[.slice (some ⟨q, 0, none⟩) L L]
 kept : Kept [q, n + 2, n + 3] W0 W
theorem RMid.grown {W0 A B : World} {row : Option Nat} {n d b1 b2 q qb L : Nat} {o l : Int} {v r : Value} {s : Dk} {bs : List Nat} (h : RMid W0 A n d b1 b2 q qb L o l v r s bs) (hn : n + 4 ≤ W0.heap.size) (hd : d < W0.heap.size ∧ b1 < W0.heap.size ∧ b2 < W0.heap.size) (hq : q < W0.heap.size ∧ qb < W0.heap.size) (hg : A.grownBy B row) (hr : ∀ r, row = some r → W0.heap.size ≤ r) : RMid W0 B n d b1 b2 q qb L o l v r s bs := by
 obtain ⟨M, hk, hL⟩ := kept_grown hg hr
 refine ⟨h.box.kept hk (fun k hm => by have := hL k hm; omega), h.disk.kept hk (fun hm => by have := hL _ hm; omega) (fun hm => by have := hL _ hm; omega) (fun hm => by have := hL _ hm; omega), h.row.kept hk (fun hm => by have := hL _ hm; omega), h.var.kept hk (fun hm => by have := hL _ hm; omega), ?_⟩
 exact ⟨hk.os.trans h.kept.os, hk.tape.trans h.kept.tape, hk.output.trans h.kept.output, Nat.le_trans h.kept.size hk.size, fun i hi hn => (hk.block i (Nat.lt_of_lt_of_le hi h.kept.size) (fun hm => by have := hL i hm; omega)).trans (h.kept.block i hi hn)⟩

set_option maxRecDepth 100000 in
set_option maxHeartbeats 4000000 in
theorem dRead_in (m : Nat) (hm : 3 ≤ m) (d b1 b2 : Nat) (s : Dk) (o n : Nat) (w : World) (h : DiskAt w d b1 b2 s) (hg : Span.Math.good (o : Int) (n : Int) (dataN s : Nat) = true) :
  CallsIn Fence.wide m Tryz.prog 38 #[.pointer (some ⟨d, 0, none⟩), .agg #[.int .i64 (o : Int), .int .i64 (n : Int)]] w fun e w' =>
   ∃ v, e = .returned (.tuple #[v, .int .i64 (if s.broken then 3 else 0)]) ∧ ByteRow w.heap.size w'.heap.size w' v (if s.broken then [] else flatL (readF s o) n) ∧ Kept [] w w' ∧ ∃ a k, v = .slice a k k := by
 have h1m : 1 ≤ m := by omega
 have hro : Fence.wide.round = none := rfl
 have hgo := good_of hg
 obtain ⟨E, hE⟩ : ∃ E : Int, (if s.broken then (3 : Int) else 0) = E := ⟨_, rfl⟩
 obtain ⟨BS, hBS⟩ : ∃ BS : List Nat, (if s.broken then [] else flatL (readF s o) n) = BS := ⟨_, rfl⟩
 rw [hE, hBS]
 replace hE : Hid _ := hE
 replace hBS : Hid _ := hBS
 have hval := h.valid
 have hn2 : n ≤ 1024 := by have := hval.top; simp [dataN] at hgo; omega
 have hb := rbox_new w d o n (.slice none 0 0) (.int .i64 0)
 have hk : Kept [] w ((((w.alloc (.cells #[.pointer (some ⟨d, 0, none⟩)] 27)).alloc (.cells #[.int .i64 (o : Int), .int .i64 (n : Int)] 44)).alloc (.cells #[.slice none 0 0] 45)).alloc (.cells #[.int .i64 0] 28)) :=
  (((kept_alloc [] _ _).trans (kept_alloc [] _ _)).trans (kept_alloc [] _ _)).trans (kept_alloc [] _ _)
 have q := dfind_any d b1 b2 s o n _ (h.kept hk (by simp) (by simp) (by simp))
 rw [hg, if_pos rfl] at q
 have q2 := fun W => dsize_any o n (by omega) (by omega) W
 have hmk : ∀ W : World, (Instr.makeSlice 45 (.int .i64 ((n : Int) * 16)) (.int .i64 ((n : Int) * 16))).run Tryz.prog W = .ok (.slice (some ⟨W.heap.size, 0, none⟩) (n * 16) (n * 16)) (W.alloc (.cells ((zeros (n * 16)).map enc).toArray 5)) := fun W => by
  have := make_bytes (n * 16) (by omega) W
  rwa [Int.natCast_mul] at this
 refine callsIn_of_wp_marks Tryz.func38 rfl trivial ?_ hro
 simp only [Tryz.ntmps38, List.size_toArray, List.length_cons, List.length_nil, Nat.reduceAdd, Nat.reduceSub, Array.replicate_succ, Array.replicate_zero, List.push_toArray, List.append_toArray, List.nil_append, List.cons_append]
 have hmx : Tryz.prog.follows .mixedOrders = true := by kernel_rfl
 gi_wp2_with (first
  | (refine ⟨trivial, ?_⟩; gi_at_call 85; refine (callsIn_wide.2 q).mono ?_; rintro e w1 ⟨rfl, hk1⟩; have hb1 := hb.kept hk1 (by simp); obtain ⟨c0, c1, c2, c3, c4, f3, f4⟩ := hb1.cells)
  | (refine ⟨trivial, ?_⟩; gi_at_call 86; refine (callsIn_wide.2 (q2 _)).mono ?_; rintro e w2 ⟨rfl, hk2⟩; have hb2 := hb1.kept hk2 (by simp); have hb3 := (hb2.kept (kept_alloc [] _ (.cells ((zeros (n * 16)).map enc).toArray 5)) (by simp)).kept (kept_alloc [] _ (.cells #[.slice (some ⟨w2.heap.size, 0, none⟩) (n * 16) (n * 16)] 45)) (by simp); obtain ⟨g0, g1, g2, g3, g4, e3, e4⟩ := hb3.cells)
  | (refine ⟨trivial, ?_⟩; gi_at_call 87; refine (callsIn_wide.2 (dsectors_any _ _ _)).mono ?_; rintro e w3 ⟨rfl, rfl⟩))
 obtain ⟨q0, hq0⟩ : ∃ q0, w2.heap.size = q0 := ⟨_, rfl⟩
 have hq4 : w.heap.size + 4 ≤ q0 := hq0 ▸ hb2.lt
 obtain ⟨W0, hW0⟩ : ∃ W0, ((w2.alloc (.cells ((zeros (n * 16)).map enc).toArray 5)).alloc (.cells #[.slice (some ⟨w2.heap.size, 0, none⟩) (n * 16) (n * 16)] 45)).alloc (.cells #[.int .i64 (o : Int), .int .i64 (n : Int)] 44) = W0 := ⟨_, rfl⟩
 have hkW : Kept [] w W0 := hW0 ▸ ((((hk.trans hk1).trans hk2).trans (kept_alloc [] _ _)).trans (kept_alloc [] _ _)).trans (kept_alloc [] _ _)
 have hbW : RBox W0 w.heap.size d o n (.slice none 0 0) (.int .i64 0) := hW0 ▸ hb3.kept (kept_alloc [] _ _) (by simp)
 have hdW : DiskAt W0 d b1 b2 s := h.kept hkW (by simp) (by simp) (by simp)
 have hrW : Arr W0 q0 5 (zeros (n * 16)) := by rw [← hW0, ← hq0]; exact ((arr_new w2 5 _).alloc _).alloc _
 have hvW : Blk W0 (q0 + 1) 45 #[.slice (some ⟨q0, 0, none⟩) (n * 16) (n * 16)] := by
  have := (blk_new (w2.alloc (.cells ((zeros (n * 16)).map enc).toArray 5)) 45 #[.slice (some ⟨w2.heap.size, 0, none⟩) (n * 16) (n * 16)]).alloc (.cells #[.int .i64 (o : Int), .int .i64 (n : Int)] 44)
  rw [World.size_alloc, hW0, hq0] at this
  exact this
 have hbox : Blk W0 (q0 + 2) 44 #[.int .i64 (o : Int), .int .i64 (n : Int)] := by
  have := blk_new ((w2.alloc (.cells ((zeros (n * 16)).map enc).toArray 5)).alloc (.cells #[.slice (some ⟨w2.heap.size, 0, none⟩) (n * 16) (n * 16)] 45)) 44 #[.int .i64 (o : Int), .int .i64 (n : Int)]
  rw [World.size_alloc, World.size_alloc, hW0, hq0] at this
  exact this
 rw [hW0, hq0]
 clear g0 g1 g2 g3 g4 e3 e4 hb3 hb2 hk2 c0 c1 c2 c3 c4 f3 f4 hb1 hk1 hb hk q q2 hW0 hq0 hmk
 have hlt0 := h.lt
 have hltW := hdW.lt
 have hltB := hbox.lt
 have hltX := hbW.lt
 obtain ⟨L, hL⟩ : ∃ L, n * 16 = L := ⟨_, rfl⟩
 rw [hL] at hrW hvW ⊢
 replace hL : Hid _ := hL
 have hfl : ∀ i, (readF s o i).length = 16 := fun i => (sec_readF hval o i).1
 have h0 : Arr W0 q0 5 (fillL (readF s o) n ([].map (· % n))) := by
  have e : fillL (readF s o) n ([].map (· % n)) = zeros L := by rw [← hL.out, Nat.mul_comm]; rfl
  rw [e]
  exact hrW
 refine wpIn_rangeFunc_ownG hro h1m (gf := 150) (lb := #[.pointer (some ⟨q0 + 2, 0, none⟩)]) rfl trivial (enters_of Tryz.func150 (by kernel_rfl) rfl)
  (sectors_stops Fence.wide (m - 1) trivial hro (by omega) (q0 + 2) o n (by omega) (by omega) W0 hbox) sameAt_t (sameAt_b hltB) (Below.refl _ _) (fun _ => rfl)
  (fun pre W => RMid W0 W w.heap.size d b1 b2 q0 (q0 + 1) L o n (.slice none 0 0) (.int .i64 0) s (fillL (readF s o) n (pre.map (· % n))) ∧ (pre ≠ [] → s.broken = false))
  (fun c pre W => c = .ret ∧ s.broken = true ∧ RMid W0 W w.heap.size d b1 b2 q0 (q0 + 1) L o n (.slice none 0 0) (.int .i64 3) s (fillL (readF s o) n []))
  (fun pre A B row hs hg hr => ⟨hs.1.grown hltX hltW ⟨by omega, by omega⟩ hg (fun r e => (hr r e).1), hs.2⟩)
  (fun c pre A B row hs hg hr => ⟨hs.1, hs.2.1, hs.2.2.grown hltX hltW ⟨by omega, by omega⟩ hg (fun r e => (hr r e).1)⟩)
  ⟨⟨hbW, hdW, h0, hvW, Kept.refl _ _⟩, by simp⟩
  (fun x => { tmps := #[.pointer (some ⟨d, 0, none⟩), .agg #[.int .i64 (o : Int), .int .i64 (n : Int)], .pointer (some ⟨w.heap.size, 0, none⟩), .pointer (some ⟨w.heap.size + 1, 0, none⟩), .pointer (some ⟨w.heap.size + 1 + 1, 0, none⟩), .pointer (some ⟨w.heap.size + 1 + 1 + 1, 0, none⟩), .int .i64 0, .pointer (some ⟨q0 + 1, 0, none⟩),
   .int .i64 (8 + (o : Int) + ((x % n : Nat) : Int)), .int .i64 (((x % n : Nat) : Int) * 16), undef, undef, .pointer (some ⟨d, 0, none⟩), .agg #[.int .i64 (o : Int), .int .i64 (n : Int)], .int .i64 0, .int .i64 0, .bool false, undef, .agg #[.int .i64 (o : Int), .int .i64 (n : Int)], .int .i64 ((n : Int) * 16), .slice (some ⟨q0, 0, none⟩) L L, .agg #[.int .i64 (o : Int), .int .i64 (n : Int)],
   .func (.func 150) #[] #[.pointer (some ⟨q0 + 1 + 1, 0, none⟩)], .int .i64 (8 + (o : Int) + ((x % n : Nat) : Int)), .int .i64 (((x % n : Nat) : Int) * 16), undef, undef, undef, undef, undef, undef, undef, undef, undef, undef, undef, undef, undef, undef, undef], defers := [] }) ?assign ?body ?done ?stop
 case assign =>
  intro l x W K hK
  simp only [encS]
  gi_wp2
  exact hK
 case body =>
  rintro l pre x W ⟨hM, hnb⟩ hlt
  obtain ⟨i, hi⟩ : ∃ i, x % n = i := ⟨_, rfl⟩
  have hin : i < n := hi ▸ Nat.mod_lt _ (by omega)
  obtain ⟨c0, c1, c2, c3, c4, f3, f4⟩ := hM.box.cells
  have hd2 : 1 ≤ m - 1 - 1 := by omega
  have hins : inside s (spot o i) = true := by
   have := inside_spot (s := s) hg (i := i) (by omega)
   simpa using this
  have hq := read_any d b1 b2 s (spot o i) (by simp only [spot]; omega) (by simp only [spot]; omega) W hM.disk
  have hrl : readL s (spot o i) = readF s o i := rfl
  rw [hrl] at hq
  have hre : readE s (spot o i) = if s.broken then 3 else 0 := by unfold readE; rw [if_pos hins]
  rw [hre, show spot o i = 8 + (o : Int) + (i : Int) by simp [spot]] at hq
  have hsec := sec_readF hval o i
  rw [hi]
  obtain ⟨X, hX⟩ : ∃ X, readF s o i = X := ⟨_, rfl⟩
  rw [hX] at hq hsec
  have hX' : Hid _ := hX
  simp only [arr] at hq
  have hlenX : Hid (X.length = 16) := hsec.1
  clear hins hrl hre hX
  by_cases hbr : s.broken = true
  ·rw [if_pos hbr] at hq
   gi_wp2_with (first
    | (refine ⟨trivial, ?_⟩; gi_at_call 88; refine (CallsIn.inRound l (callsIn_wide.2 hq)).mono ?_; rintro e w4 ⟨rfl, hk4⟩)
    | (refine wpListIn_store_arr rfl _ _ rfl w4.heap.size 113 nought X rfl rfl (arr_new w4 113 nought) rfl hlenX.out ?_; intro w5 hA5 hk5 hz5; have hkY : Kept [] W w5 := ((hk4.trans (kept_alloc [] _ _)).young hk5 (by have := hk4.size; omega)); have hb5 := hM.box.kept hkY (by simp); obtain ⟨-, -, -, t3, t4, r3, r4⟩ := hb5.cells))
   have hkT : Kept [w.heap.size + 2, w.heap.size + 3] W ((w5.setCell ⟨w.heap.size + 2, 0, none⟩ (.slice none 0 0)).setCell ⟨w.heap.size + 3, 0, none⟩ (.int .i64 3)) := (hkY.mono (by simp)).trans (kept_tell w5 w.heap.size _ _)
   have hpre : pre = [] := by
    by_cases e : pre = []
    ·exact e
    ·exact absurd (hnb e) (by rw [hbr]; simp)
   refine ⟨hkT.keepsFrom (by simp; omega), rfl, hbr, ?_⟩
   rw [hpre, List.map_nil] at hM
   exact ⟨hb5.tell _ _, hM.disk.kept hkT (by simp; omega) (by simp; omega) (by simp; omega), hM.row.kept hkT (by simp; omega), hM.var.kept hkT (by simp; omega), hM.kept.trans (hkT.mono (by simp))⟩
  ·rw [if_neg hbr] at hq
   have k1 : (i : Int) * 16 ≤ (L : Int) := by have := hL.out; omega
   have k2 : ¬ (L = i * 16) := by have := hL.out; omega
   have hfill : (fillL (readF s o) n (pre.map (· % n))).length = 16 * n := fillL_length hfl (mods_lt (by omega) pre)
   have hFs : Hid (over (fillL (readF s o) n (pre.map (· % n))) (i * 16) X = fillL (readF s o) n ((pre ++ [x]).map (· % n))) := by
    show _ = _
    rw [List.map_append, List.map_cons, List.map_nil, hi, fillL_snoc, hX'.out, Nat.mul_comm]
   generalize fillL (readF s o) n (pre.map (· % n)) = Z at *
   gi_wp2_with (first
    | (refine ⟨trivial, ?_⟩; gi_at_call 88; refine (CallsIn.inRound l (callsIn_wide.2 hq)).mono ?_; rintro e w4 ⟨rfl, hk4⟩)
    | (refine wpListIn_store_arr rfl _ _ rfl w4.heap.size 113 nought X rfl rfl (arr_new w4 113 nought) rfl hlenX.out ?_; intro w5 hA5 hk5 hz5; have hkY : Kept [] W w5 := ((hk4.trans (kept_alloc [] _ _)).young hk5 (by have := hk4.size; omega)); have hv5 := (hM.var.kept hkY (by simp)).cell 0; have hr5 := hM.row.kept hkY (by simp)))
   obtain ⟨V, hcp, hA2, hkc, hzc⟩ := run_copy_arr (off := i * 16) (l := X) hr5.drew w4.heap.size 0 (L - i * 16) (L - i * 16) 16 16 3 (by rw [hlenX.out]; have := hL.out; exact (Nat.min_eq_left (by omega)).symm) (by rw [hlenX.out, hfill]; omega) (fun j hj => by rw [Nat.zero_add]; exact hA5.drew.cell j hj)
   rw [hlenX.out] at hcp
   replace hzc : Hid _ := hzc
   have hv5' : w5.drew.cell? ⟨q0 + 1, 0, none⟩ = some (.slice (some ⟨q0, 0, none⟩) L L) := hv5
   have hkT : Kept [q0] W V := ((hkY.mono (by simp)).trans (kept_drew _ _)).trans hkc
   rw [hFs.out] at hA2
   first | gi_region_with_o (fail) | fail
   all_goals (try gi_wp2)
   all_goals refine ⟨hkT.keepsFrom (by simp; omega), hkT.sameAt (by have := hM.kept.size; omega) (by simp), ?_, fun _ => by simpa using hbr⟩
   all_goals exact ⟨hM.box.kept hkT (by simp; omega), hM.disk.kept hkT (by simp; omega) (by simp; omega) (by simp; omega), hA2, hM.var.kept hkT (by simp), hM.kept.trans (hkT.mono (by simp))⟩
 case done =>
  rintro D ys W hD rfl ⟨hM, hnb⟩ hK
  rw [mods_range n n (Nat.le_refl _), fillL_all hfl] at hM
  have hbf := hnb (by simp; omega)
  have hEo := hE.out
  have hBo := hBS.out
  rw [hbf, if_neg (by simp)] at hEo hBo
  rw [hBo] at hM
  have hbl : Hid (BS.length = L) := by
   show _ = _
   rw [← hBo, flatL_length hfl, ← hL.out, Nat.mul_comm]
  have hbb : Hid (∀ b ∈ BS, b < 256) := by
   show ∀ b ∈ BS, b < 256
   rw [← hBo]
   exact flatL_byte (fun i => (sec_readF hval o i).2) n
  replace hEo : Hid _ := hEo
  clear hBo
  obtain ⟨-, -, -, c3, c4, f3, f4⟩ := hM.box.cells
  have cv : W.cell? ⟨q0 + 1, 0, none⟩ = some (.slice (some ⟨q0, 0, none⟩) L L) := hM.var.cell 0
  gi_wp2
  have hkS := kept_tell W w.heap.size (.slice (some ⟨q0, 0, none⟩) L L) (.int .i64 0)
  have hlD := (Array.getElem?_eq_some_iff.1 hK).1
  have hK' : ((W.setCell ⟨w.heap.size + 2, 0, none⟩ (.slice (some ⟨q0, 0, none⟩) L L)).setCell ⟨w.heap.size + 3, 0, none⟩ (.int .i64 0)).heap[D]? = some (.deferred (some [])) := (hkS.block D hlD (by simp; omega)).trans hK
  refine ⟨by simp, .inl ⟨_, _, rfl, run_takeDeferred hK', ?_⟩⟩
  have hkP := kept_put (W := (W.setCell ⟨w.heap.size + 2, 0, none⟩ (.slice (some ⟨q0, 0, none⟩) L L)).setCell ⟨w.heap.size + 3, 0, none⟩ (.int .i64 0)) (D := D) (.deferred none)
  have hbP := (hM.box.tell (.slice (some ⟨q0, 0, none⟩) L L) (.int .i64 0)).kept hkP (by simp; omega)
  have hrP := (hM.row.kept hkS (by simp; omega)).kept hkP (by simp; omega)
  refine ⟨_, results_two rfl _ _ (w.heap.size + 2) (w.heap.size + 3) _ _ rfl rfl (hbP.b2.cell 0) (hbP.b3.cell 0), .slice (some ⟨q0, 0, none⟩) L L, by rw [← hEo.out]; rfl, ?_, ?_, _, _, rfl⟩
  ·have := byteRow_arr (lo := w.heap.size) (cap := L) hrP hbb.out (by omega) (by rw [hbl.out]; exact Nat.le_refl _)
   rw [hbl.out] at this
   exact this
  ·exact ((hkW.youngs hM.kept (by simp; omega)).youngs hkS (by simp)).youngs hkP (by simp; omega)
 case stop =>
  rintro D c pre W hD ⟨k, hk, rfl⟩ ⟨rfl, hbr, hM⟩ hK
  have hEo := hE.out
  have hBo := hBS.out
  rw [if_pos hbr] at hEo hBo
  replace hEo : Hid _ := hEo
  replace hBo : Hid _ := hBo
  gi_wp2
  refine ⟨by simp, .inl ⟨_, _, rfl, run_takeDeferred hK, ?_⟩⟩
  have hkP := kept_put (W := W) (D := D) (.deferred none)
  have hbP := hM.box.kept hkP (by simp; omega)
  refine ⟨_, results_two rfl _ _ (w.heap.size + 2) (w.heap.size + 3) _ _ rfl rfl (hbP.b2.cell 0) (hbP.b3.cell 0), .slice none 0 0, by rw [← hEo.out]; rfl, by rw [← hBo.out]; exact byteRow_nil _ _ _, ?_, _, _, rfl⟩
  exact (hkW.youngs hM.kept (by simp; omega)).youngs hkP (by simp; omega)
set_option maxRecDepth 100000 in
theorem dRead_tight (d b1 b2 : Nat) (s : Dk) (o l : Int) (w : World) (h : DiskAt w d b1 b2 s) :
  Calls Tryz.prog 38 #[.pointer (some ⟨d, 0, none⟩), .agg #[.int .i64 o, .int .i64 l]] w fun e w' => ∃ v, e = .returned (.tuple #[v, .int .i64 (gotE s o l : Nat)]) ∧ ByteRow w.heap.size w'.heap.size w' v (gotL s o l) ∧ Kept [] w w' ∧ ∃ a k, v = .slice a k k := by
 unfold gotE gotL
 cases hg : Span.Math.good o l (dataN s : Nat) with
 | false =>
  simp only [Bool.false_eq_true, if_false]
  exact (dRead_range d b1 b2 s o l w h hg).mono fun e w' ⟨he, hk⟩ => ⟨_, he, byteRow_nil _ _ _, hk, _, _, rfl⟩
 | true =>
  simp only [if_true]
  have hgo := good_of hg
  obtain ⟨p, rfl⟩ : ∃ p : Nat, o = p := ⟨o.toNat, by omega⟩
  obtain ⟨n, rfl⟩ : ∃ n : Nat, l = n := ⟨l.toNat, by omega⟩
  refine (callsIn_wide.1 (dRead_in 3 (Nat.le_refl _) d b1 b2 s p n w h hg)).mono ?_
  rintro e w' ⟨v, rfl, hr, hk, ht⟩
  refine ⟨v, ?_, by simpa using hr, hk, ht⟩
  by_cases hq : s.broken = true <;> simp [hq]
set_option maxRecDepth 100000 in
theorem dRead_any (d b1 b2 : Nat) (s : Dk) (o l : Int) (w : World) (h : DiskAt w d b1 b2 s) :
  Calls Tryz.prog 38 #[.pointer (some ⟨d, 0, none⟩), .agg #[.int .i64 o, .int .i64 l]] w fun e w' => ∃ v, e = .returned (.tuple #[v, .int .i64 (gotE s o l : Nat)]) ∧ ByteRow w.heap.size w'.heap.size w' v (gotL s o l) ∧ Kept [] w w' :=
 (dRead_tight d b1 b2 s o l w h).mono fun _ _ ⟨v, he, hr, hk, _⟩ => ⟨v, he, hr, hk⟩
end Go.Proofs.YtoaeficfmcncjaaGreat

