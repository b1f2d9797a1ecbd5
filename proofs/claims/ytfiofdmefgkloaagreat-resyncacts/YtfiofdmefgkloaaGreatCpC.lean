import Derived.Test.YtfiofdmefgkloaaGreatCpB
import Derived.Test.YtfiofdmefgkloaaGreatPkE
/-
  The walk of Put, whatever disk there is.
-/
namespace Go.Proofs.YtfiofdmefgkloaaGreat.Copying
open Go.RowKit
open Math
open Pack (Mv Ms mv0 good)

set_option maxRecDepth 100000 in
/-- The steps of a Put (what each call does is handed in) -/
theorem step1_of (p : Option Addr) (a b e1 : Nat) (x : Mv) (ta : TypeId) (P : World → Prop) (L : List Nat) (w : World) (ha : Blk w a ta #[.pointer p]) (hb : x.In w b)
    (q : Calls Tryz.prog 162 #[.pointer p, .int .i64 x.o, .slice x.sa x.len x.cap] w fun e w' => e = .returned (.int .i64 (e1 : Int)) ∧ P w' ∧ Kept L w w') :
    Calls Tryz.prog 161 #[.pointer (some ⟨a, 0, none⟩), .pointer (some ⟨b, 0, none⟩)] w fun e w' => e = .returned (.int .i64 (e1 : Int)) ∧ P w' ∧ Kept L w w' := by
  have c0 := ha.cell 0
  simp at c0
  obtain ⟨a0, a1, a2, a3, a4, a5⟩ := hb.six
  go_enter Tryz.func161, Tryz.ntmps161
  go_wp2_with (first
    | (go_at_call 162; refine q.mono ?_; rintro e w1 ⟨rfl, hP, hk1⟩))
  go_ret
  exact ⟨rfl, hP, hk1⟩
set_option maxRecDepth 100000 in
theorem step2_of (p : Option Addr) (a e2 : Nat) (ta : TypeId) (P : World → Prop) (L : List Nat) (w : World) (ha : Blk w a ta #[.pointer p])
    (q : Calls Tryz.prog 65 #[.pointer p] w fun e w' => e = .returned (.int .i64 (e2 : Int)) ∧ P w' ∧ Kept L w w') :
    Calls Tryz.prog 163 #[.pointer (some ⟨a, 0, none⟩)] w fun e w' => e = .returned (.int .i64 (e2 : Int)) ∧ P w' ∧ Kept L w w' := by
  have c0 := ha.cell 0
  simp at c0
  go_enter Tryz.func163, Tryz.ntmps163
  go_wp2_with (first
    | (go_at_call 65; refine q.mono ?_; rintro e w1 ⟨rfl, hP, hk1⟩))
  go_ret
  exact ⟨rfl, hP, hk1⟩
set_option maxRecDepth 100000 in
theorem step3_of (p : Option Addr) (a b e3 : Nat) (x : Mv) (cx : Nat) (ta : TypeId) (P : World → Prop) (L : List Nat) (w : World) (ha : Blk w a ta #[.pointer p]) (hb : x.In w b)
    (q : Calls Tryz.prog 157 #[.pointer p, .int .i64 x.o] w fun e w' => e = .returned (.tuple #[.int .u64 (cx : Int), .int .i64 (e3 : Int)]) ∧ P w' ∧ Kept L w w') :
    Calls Tryz.prog 164 #[.pointer (some ⟨a, 0, none⟩), .pointer (some ⟨b, 0, none⟩)] w fun e w' => e = .returned (.int .i64 (e3 : Int)) ∧ P w' ∧ Kept L w w' := by
  have c0 := ha.cell 0
  simp at c0
  obtain ⟨a0, a1, a2, a3, a4, a5⟩ := hb.six
  go_enter Tryz.func164, Tryz.ntmps164
  go_wp2_with (first
    | (go_at_call 157; refine q.mono ?_; rintro e w1 ⟨rfl, hP, hk1⟩))
  go_ret
  exact ⟨rfl, hP, hk1⟩
/-- The message that tells of an extent. -/
def haveV (o : Int) : Mv := ⟨7, 0, o, 0, false, none, 0, 0, []⟩
/-- What a Put has laid when it begins: its disk, its message, its result. -/
structure Boxes (w : World) (n : Nat) (p : Option Addr) (x : Mv) (W : World) : Prop where
  one : Blk W n 30 #[.pointer p]
  two : x.In W (n + 1)
  three : Blk W (n + 2) 26 #[.int .i64 0, .int .i64 0, .int .i64 0, .int .u64 0, .bool false, .slice none 0 0]
  kept : Kept [] w W
theorem boxes_new (w : World) (p : Option Addr) (x : Mv) : Boxes w w.heap.size p x (((w.alloc (.cells #[.pointer p] 30)).alloc (.cells #[.int .i64 x.k, .int .i64 x.i, .int .i64 x.o, .int .u64 (x.m : Int), .bool x.s, .slice x.sa x.len x.cap] 26)).alloc (.cells #[.int .i64 0, .int .i64 0, .int .i64 0, .int .u64 0, .bool false, .slice none 0 0] 26)) := by
  have h1 := blk_new w 30 #[.pointer p]
  have k1 := kept_alloc [] w (.cells #[.pointer p] 30)
  have e1 : (w.alloc (.cells #[.pointer p] 30)).heap.size = w.heap.size + 1 := by simp
  obtain ⟨A, hA⟩ : ∃ A, w.alloc (.cells #[.pointer p] 30) = A := ⟨_, rfl⟩
  rw [hA] at h1 k1 e1 ⊢
  have h2 : x.In (A.alloc (.cells #[.int .i64 x.k, .int .i64 x.i, .int .i64 x.o, .int .u64 (x.m : Int), .bool x.s, .slice x.sa x.len x.cap] 26)) A.heap.size := blk_new A 26 _
  have k2 := kept_alloc [] A (.cells #[.int .i64 x.k, .int .i64 x.i, .int .i64 x.o, .int .u64 (x.m : Int), .bool x.s, .slice x.sa x.len x.cap] 26)
  have e2 : (A.alloc (.cells #[.int .i64 x.k, .int .i64 x.i, .int .i64 x.o, .int .u64 (x.m : Int), .bool x.s, .slice x.sa x.len x.cap] 26)).heap.size = w.heap.size + 2 := by simp; omega
  obtain ⟨B, hB⟩ : ∃ B, A.alloc (.cells #[.int .i64 x.k, .int .i64 x.i, .int .i64 x.o, .int .u64 (x.m : Int), .bool x.s, .slice x.sa x.len x.cap] 26) = B := ⟨_, rfl⟩
  rw [hB] at h2 k2 e2 ⊢
  have h3 := zero_new B
  rw [e1] at h2
  rw [e2] at h3
  have k3 := kept_alloc [] B (.cells #[.int .i64 0, .int .i64 0, .int .i64 0, .int .u64 0, .bool false, .slice none 0 0] 26)
  exact ⟨(h1.kept k2 (by simp)).kept k3 (by simp), h2.kept k3 (by simp), h3, (k1.trans k2).trans k3⟩
theorem Boxes.after {w : World} {n : Nat} {p : Option Addr} {x : Mv} {A B : World} {L : List Nat} (h : Boxes w n p x A) (hk : Kept L A B) (h0 : n ∉ L) (h1 : n + 1 ∉ L) (h2 : n + 2 ∉ L) : Blk B n 30 #[.pointer p] ∧ x.In B (n + 1) ∧ Blk B (n + 2) 26 #[.int .i64 0, .int .i64 0, .int .i64 0, .int .u64 0, .bool false, .slice none 0 0] :=
  ⟨h.one.kept hk h0, h.two.kept hk h1, h.three.kept hk h2⟩
set_option maxRecDepth 100000 in
set_option maxHeartbeats 1000000 in
/-- Put of what is no Ext, or not good. -/
theorem put_bad (p : Option Addr) (x : Mv) (hl : x.len = x.d.length) (hlen : x.len ≤ 9223372036854775807) (w : World) (h : x.k = 6 → good x.ms = false) :
    Calls Tryz.prog 134 #[.pointer p, x.val] w fun r w' => r = .returned (.tuple #[mv0.val, .int .i64 2]) ∧ Kept [] w w' := by
  have hX := boxes_new w p x
  obtain ⟨W0, hW0⟩ : ∃ W0, (((w.alloc (.cells #[.pointer p] 30)).alloc (.cells #[.int .i64 x.k, .int .i64 x.i, .int .i64 x.o, .int .u64 (x.m : Int), .bool x.s, .slice x.sa x.len x.cap] 26)).alloc (.cells #[.int .i64 0, .int .i64 0, .int .i64 0, .int .u64 0, .bool false, .slice none 0 0] 26)) = W0 := ⟨_, rfl⟩
  rw [hW0] at hX
  have hq := Pack.good_any x hl hlen W0
  clear hl hlen
  generalize hG : good x.ms = G at *
  obtain ⟨a0, a1, a2, a3, a4, a5⟩ := hX.two.six
  have h3 := hX.three
  have hk0 := hX.kept
  clear hX hG
  obtain ⟨k, i, o, m, s, sa, len, cap, d⟩ := x
  subst hW0
  simp only [Mv.val] at *
  by_cases hk : k = 6
  · subst hk
    have hg : G = false := h rfl
    subst hg
    clear h
    go_enter Tryz.func134, Tryz.ntmps134
    go_wp2_with (first
      | (go_at_call 69; refine hq.mono ?_; rintro r w1 ⟨rfl, hk1⟩; have hB1 := h3.kept hk1 (by simp))
      | (refine wpList_store_blk rfl 26 _ _ rfl (w.heap.size + 2) 26 _ [.int .i64 0, .int .i64 0, .int .i64 0, .int .u64 0, .bool false, .slice none 0 0] rfl rfl hB1 rfl Pack.Tryz.sizeM (by simp [Value.oneCell']) ?_; intro w4 hB4 hk4 hz4; replace hz4 : Hid _ := hz4))
    refine bodyPost_ret (results_msg rfl _ _ (w.heap.size + 2) _ _ _ _ _ _ rfl hB4) rfl ⟨rfl, (hk0.trans hk1).young (g := w.heap.size + 2) hk4 (by omega)⟩
  · have hn : (k != 6) = true := by simp; omega
    go_enter Tryz.func134, Tryz.ntmps134
    go_wp2_with (first
      | (refine wpList_store_blk rfl 26 _ _ rfl (w.heap.size + 2) 26 _ [.int .i64 0, .int .i64 0, .int .i64 0, .int .u64 0, .bool false, .slice none 0 0] rfl rfl h3 rfl Pack.Tryz.sizeM (by simp [Value.oneCell']) ?_; intro w4 hB4 hk4 hz4; replace hz4 : Hid _ := hz4))
    refine bodyPost_ret (results_msg rfl _ _ (w.heap.size + 2) _ _ _ _ _ _ rfl hB4) rfl ⟨rfl, hk0.young (g := w.heap.size + 2) hk4 (by omega)⟩
set_option maxRecDepth 100000 in
/-- The steps of a Put, behind the look at its message. -/
theorem put_steps (p : Option Addr) (x v : Mv) (e1 e2 e3 er cx : Nat) (P1 P2 P3 P : World → Prop) (L : List Nat) (w : World) (hL : ∀ k ∈ L, k < w.heap.size)
    (q1 : ∀ W, Kept [] w W → Calls Tryz.prog 162 #[.pointer p, .int .i64 x.o, .slice x.sa x.len x.cap] W fun e w' => e = .returned (.int .i64 (e1 : Int)) ∧ P1 w' ∧ Kept L W w')
    (q2 : e1 = 0 → ∀ W, P1 W → Calls Tryz.prog 65 #[.pointer p] W fun e w' => e = .returned (.int .i64 (e2 : Int)) ∧ P2 w' ∧ Kept L W w')
    (q3 : e1 = 0 → e2 = 0 → ∀ W, P2 W → Calls Tryz.prog 157 #[.pointer p, .int .i64 x.o] W fun e w' => e = .returned (.tuple #[.int .u64 (cx : Int), .int .i64 (e3 : Int)]) ∧ P3 w' ∧ Kept L W w')
    (st : ∀ A B k, w.heap.size ≤ k → P A → Kept [k] A B → P B)
    (h1 : e1 ≠ 0 → er = e1 ∧ v = mv0 ∧ ∀ W, P1 W → P W)
    (h2 : e1 = 0 → e2 ≠ 0 → er = e2 ∧ v = mv0 ∧ ∀ W, P2 W → P W)
    (h3 : e1 = 0 → e2 = 0 → e3 ≠ 0 → er = e3 ∧ v = mv0 ∧ ∀ W, P3 W → P W)
    (h4 : e1 = 0 → e2 = 0 → e3 = 0 → er = 0 ∧ v = haveV x.o ∧ ∀ W, P3 W → P W) (W0 w1 : World) (hX : Boxes w w.heap.size p x W0) (hk1 : Kept [] W0 w1) (t : TypeId) :
    Calls Tryz.prog 160 #[(haveV x.o).val, .slice (some ⟨w1.heap.size, 0, none⟩) 3 3] (w1.alloc (.cells #[.func (.func 161) #[] #[.pointer (some ⟨w.heap.size, 0, none⟩), .pointer (some ⟨w.heap.size + 1, 0, none⟩)], .func (.func 163) #[] #[.pointer (some ⟨w.heap.size, 0, none⟩)], .func (.func 164) #[] #[.pointer (some ⟨w.heap.size, 0, none⟩), .pointer (some ⟨w.heap.size + 1, 0, none⟩)]] t)) fun e w' => e = .returned (.tuple #[v.val, .int .i64 (er : Int)]) ∧ P w' ∧ Kept L (w1.alloc (.cells #[.func (.func 161) #[] #[.pointer (some ⟨w.heap.size, 0, none⟩), .pointer (some ⟨w.heap.size + 1, 0, none⟩)], .func (.func 163) #[] #[.pointer (some ⟨w.heap.size, 0, none⟩)], .func (.func 164) #[] #[.pointer (some ⟨w.heap.size, 0, none⟩), .pointer (some ⟨w.heap.size + 1, 0, none⟩)]] t)) w' := by
  have hkw : Kept [] w w1 := hX.kept.trans hk1
  have hz := hkw.size
  have n0 : w.heap.size ∉ L := fun hm => by have := hL _ hm; omega
  have n1 : w.heap.size + 1 ∉ L := fun hm => by have := hL _ hm; omega
  have hkA := kept_alloc [] w1 (.cells #[.func (.func 161) #[] #[.pointer (some ⟨w.heap.size, 0, none⟩), .pointer (some ⟨w.heap.size + 1, 0, none⟩)], .func (.func 163) #[] #[.pointer (some ⟨w.heap.size, 0, none⟩)], .func (.func 164) #[] #[.pointer (some ⟨w.heap.size, 0, none⟩), .pointer (some ⟨w.heap.size + 1, 0, none⟩)]] t)
  have hg := blk_new w1 t #[.func (.func 161) #[] #[.pointer (some ⟨w.heap.size, 0, none⟩), .pointer (some ⟨w.heap.size + 1, 0, none⟩)], .func (.func 163) #[] #[.pointer (some ⟨w.heap.size, 0, none⟩)], .func (.func 164) #[] #[.pointer (some ⟨w.heap.size, 0, none⟩), .pointer (some ⟨w.heap.size + 1, 0, none⟩)]]
  have hsz : (w1.alloc (.cells #[.func (.func 161) #[] #[.pointer (some ⟨w.heap.size, 0, none⟩), .pointer (some ⟨w.heap.size + 1, 0, none⟩)], .func (.func 163) #[] #[.pointer (some ⟨w.heap.size, 0, none⟩)], .func (.func 164) #[] #[.pointer (some ⟨w.heap.size, 0, none⟩), .pointer (some ⟨w.heap.size + 1, 0, none⟩)]] t)).heap.size = w1.heap.size + 1 := by simp
  have ha := (hX.one.kept hk1 (by simp)).kept hkA (by simp)
  have hb := (hX.two.kept hk1 (by simp)).kept hkA (by simp)
  have hkW := hkw.trans hkA
  generalize w1.alloc (.cells #[.func (.func 161) #[] #[.pointer (some ⟨w.heap.size, 0, none⟩), .pointer (some ⟨w.heap.size + 1, 0, none⟩)], .func (.func 163) #[] #[.pointer (some ⟨w.heap.size, 0, none⟩)], .func (.func 164) #[] #[.pointer (some ⟨w.heap.size, 0, none⟩), .pointer (some ⟨w.heap.size + 1, 0, none⟩)]] t) = W at *
  have st' : ∀ A B k, W.heap.size ≤ k → P A → Kept [k] A B → P B := fun A B k hk => st A B k (by omega)
  refine behind_of w.heap.size (w.heap.size + 1) w1.heap.size e1 e2 e3 er t (haveV x.o) v P1 P2 P3 P L W (fun k hk => by have := hL k hk; omega) (fun hm => by have := hL _ hm; omega) hg
    (fun A hA => step1_of p _ _ e1 x _ P1 L A (ha.kept hA (by simp)) (hb.kept hA (by simp)) (q1 A (hkW.trans hA)))
    (fun z1 A hA hk => step2_of p _ e2 _ P2 L A (ha.kept hk n0) (q2 z1 A hA))
    (fun z1 z2 A hA hk => step3_of p _ _ e3 x cx _ P3 L A (ha.kept hk n0) (hb.kept hk n1) (q3 z1 z2 A hA))
    (fun z => ⟨(h1 z).1, (h1 z).2.1, fun A B k hk hA => st' A B k hk ((h1 z).2.2 A hA)⟩)
    (fun z1 z => ⟨(h2 z1 z).1, (h2 z1 z).2.1, fun A B k hk hA => st' A B k hk ((h2 z1 z).2.2 A hA)⟩)
    (fun z1 z2 z => ⟨(h3 z1 z2 z).1, (h3 z1 z2 z).2.1, fun A B k hk hA => st' A B k hk ((h3 z1 z2 z).2.2 A hA)⟩)
    (fun z1 z2 z => ⟨(h4 z1 z2 z).1, (h4 z1 z2 z).2.1, fun A B k hk hA => st' A B k hk ((h4 z1 z2 z).2.2 A hA)⟩)
set_option maxRecDepth 100000 in
set_option maxHeartbeats 4000000 in
/-- Put of a good Ext (what its steps do is handed in) -/
theorem put_of (p : Option Addr) (x v : Mv) (e1 e2 e3 er cx : Nat) (P1 P2 P3 P : World → Prop) (L : List Nat) (w : World) (hL : ∀ k ∈ L, k < w.heap.size) (hl : x.len = x.d.length) (hlen : x.len ≤ 9223372036854775807) (hk6 : x.k = 6) (hgd : good x.ms = true)
    (q1 : ∀ W, Kept [] w W → Calls Tryz.prog 162 #[.pointer p, .int .i64 x.o, .slice x.sa x.len x.cap] W fun e w' => e = .returned (.int .i64 (e1 : Int)) ∧ P1 w' ∧ Kept L W w')
    (q2 : e1 = 0 → ∀ W, P1 W → Calls Tryz.prog 65 #[.pointer p] W fun e w' => e = .returned (.int .i64 (e2 : Int)) ∧ P2 w' ∧ Kept L W w')
    (q3 : e1 = 0 → e2 = 0 → ∀ W, P2 W → Calls Tryz.prog 157 #[.pointer p, .int .i64 x.o] W fun e w' => e = .returned (.tuple #[.int .u64 (cx : Int), .int .i64 (e3 : Int)]) ∧ P3 w' ∧ Kept L W w')
    (st : ∀ A B k, w.heap.size ≤ k → P A → Kept [k] A B → P B)
    (h1 : e1 ≠ 0 → er = e1 ∧ v = mv0 ∧ ∀ W, P1 W → P W)
    (h2 : e1 = 0 → e2 ≠ 0 → er = e2 ∧ v = mv0 ∧ ∀ W, P2 W → P W)
    (h3 : e1 = 0 → e2 = 0 → e3 ≠ 0 → er = e3 ∧ v = mv0 ∧ ∀ W, P3 W → P W)
    (h4 : e1 = 0 → e2 = 0 → e3 = 0 → er = 0 ∧ v = haveV x.o ∧ ∀ W, P3 W → P W) :
    Calls Tryz.prog 134 #[.pointer p, x.val] w fun r w' => r = .returned (.tuple #[v.val, .int .i64 (er : Int)]) ∧ P w' ∧ Kept L w w' := by
  have hX := boxes_new w p x
  have hS := put_steps p x v e1 e2 e3 er cx P1 P2 P3 P L w hL q1 q2 q3 st h1 h2 h3 h4
  obtain ⟨W0, hW0⟩ : ∃ W0, (((w.alloc (.cells #[.pointer p] 30)).alloc (.cells #[.int .i64 x.k, .int .i64 x.i, .int .i64 x.o, .int .u64 (x.m : Int), .bool x.s, .slice x.sa x.len x.cap] 26)).alloc (.cells #[.int .i64 0, .int .i64 0, .int .i64 0, .int .u64 0, .bool false, .slice none 0 0] 26)) = W0 := ⟨_, rfl⟩
  rw [hW0] at hX
  have hq := Pack.good_any x hl hlen W0
  rw [hgd] at hq
  have hR : Hid (∀ w1, Kept [] W0 w1 → ∀ t, Calls Tryz.prog 160 #[(haveV x.o).val, .slice (some ⟨w1.heap.size, 0, none⟩) 3 3] (w1.alloc (.cells #[.func (.func 161) #[] #[.pointer (some ⟨w.heap.size, 0, none⟩), .pointer (some ⟨w.heap.size + 1, 0, none⟩)], .func (.func 163) #[] #[.pointer (some ⟨w.heap.size, 0, none⟩)], .func (.func 164) #[] #[.pointer (some ⟨w.heap.size, 0, none⟩), .pointer (some ⟨w.heap.size + 1, 0, none⟩)]] t)) fun e w' => e = .returned (.tuple #[v.val, .int .i64 (er : Int)]) ∧ P w' ∧ Kept L (w1.alloc (.cells #[.func (.func 161) #[] #[.pointer (some ⟨w.heap.size, 0, none⟩), .pointer (some ⟨w.heap.size + 1, 0, none⟩)], .func (.func 163) #[] #[.pointer (some ⟨w.heap.size, 0, none⟩)], .func (.func 164) #[] #[.pointer (some ⟨w.heap.size, 0, none⟩), .pointer (some ⟨w.heap.size + 1, 0, none⟩)]] t)) w') := fun w1 hk1 t => hS W0 w1 hX hk1 t
  have n2 : w.heap.size + 2 ∉ L := fun hm => by have := hL _ hm; omega
  have st' : Hid (∀ A B k, w.heap.size ≤ k → P A → Kept [k] A B → P B) := st
  clear hl hlen hgd q1 q2 q3 st h1 h2 h3 h4 hL hS
  obtain ⟨a0, a1, a2, a3, a4, a5⟩ := hX.two.six
  have hAll : Hid (∀ w1, Kept [] W0 w1 → x.In w1 (w.heap.size + 1) ∧ Blk w1 (w.heap.size + 2) 26 #[.int .i64 0, .int .i64 0, .int .i64 0, .int .u64 0, .bool false, .slice none 0 0]) := fun w1 hk1 => ⟨hX.two.kept hk1 (by simp), hX.three.kept hk1 (by simp)⟩
  have hk0 := hX.kept
  clear hX
  obtain ⟨k, i, o, m, s, sa, len, cap, d⟩ := x
  obtain ⟨k', i', o', m', s', sa', len', cap', d'⟩ := v
  simp only [Mv.val, haveV, show ((0 : Nat) : Int) = 0 from rfl] at *
  subst hk6
  subst hW0
  go_enter Tryz.func134, Tryz.ntmps134
  go_wp2_with (first
    | (go_at_call 69; refine hq.mono ?_; rintro r w1 ⟨rfl, hk1⟩; obtain ⟨b0, b1, b2, b3, b4, b5⟩ := (hAll.out w1 hk1).1.six; have q := hR.out w1 hk1; have hB1 := (hAll.out w1 hk1).2; have hks := fun t => kept_alloc [] w1 (.cells #[.func (.func 161) #[] #[.pointer (some ⟨w.heap.size, 0, none⟩), .pointer (some ⟨w.heap.size + 1, 0, none⟩)], .func (.func 163) #[] #[.pointer (some ⟨w.heap.size, 0, none⟩)], .func (.func 164) #[] #[.pointer (some ⟨w.heap.size, 0, none⟩), .pointer (some ⟨w.heap.size + 1, 0, none⟩)]] t))
    | (go_at_call 160; refine (q 134).mono ?_; rintro r w3 ⟨rfl, hP, hk3⟩; have hB3 := (hB1.kept (hks 134) (by simp)).kept hk3 n2; have hkl := ((hk0.trans hk1).trans (hks 134)).mono (L' := L) (by simp))
    | (refine wpList_store_blk rfl 26 _ _ rfl (w.heap.size + 2) 26 _ [.int .i64 k', .int .i64 i', .int .i64 o', .int .u64 (m' : Int), .bool s', .slice sa' len' cap'] rfl rfl hB3 rfl Pack.Tryz.sizeM (by simp [Value.oneCell']) ?_; intro w4 hB4 hk4 hz4; replace hz4 : Hid _ := hz4))
  refine bodyPost_ret (results_msg rfl _ _ (w.heap.size + 2) _ _ _ _ _ _ rfl hB4) rfl ⟨rfl, st'.out _ _ _ (by omega) hP hk4, (hkl.trans hk3).young (g := w.heap.size + 2) (hk4.mono (by simp)) (by omega)⟩
end Go.Proofs.YtfiofdmefgkloaaGreat.Copying

