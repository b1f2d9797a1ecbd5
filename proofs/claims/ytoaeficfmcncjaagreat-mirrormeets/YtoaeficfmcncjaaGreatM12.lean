/-
 Texts of ours, joined: WalksM, WalksN, WalksO, WalksP, WalksQ, WalksR.
-/
import Derived.Maps.OwnRows
import Derived.Test.YtoaeficfmcncjaaGreatM11
import Derived.Test.YtoaeficfmcncjaaGreatM8
/-
 The document's disk in memory: its cells lie in a row, 33 places each.
-/
namespace Go.Proofs.YtoaeficfmcncjaaGreat
open Go.RowKit Go.Maps Go.Shelf
open Math
section
variable {ops : Array Oper} {rest : List Oper} {o : Oper} {a : Act} {w : World} {Q : Exit → Act → World → Prop}
end
end Go.Proofs.YtoaeficfmcncjaaGreat
namespace Go.Proofs.YtoaeficfmcncjaaGreat
open Go.RowKit Go.Maps Go.Shelf
open Math
theorem kept_drewN (L : List Nat) (w : World) (n : Nat) : Kept L w (w.drewN n) := ⟨rfl, rfl, rfl, Nat.le_refl _, fun _ _ _ => rfl⟩
end Go.Proofs.YtoaeficfmcncjaaGreat
namespace Go.Proofs.YtoaeficfmcncjaaGreat
open Math
def num (x : List Nat) : Nat := Seal.toldN x
def word (x : List Nat) : Nat := Seal.toldY x
def record (n y : Nat) : List Nat := Seal.recd n y
theorem sec_record (n y : Nat) : Sec (record n y) := ⟨Seal.recd_length n y, Seal.recd_byte n y⟩
theorem num_lt {x : List Nat} (h : Sec x) : num x < 4294967296 := by
 unfold num Seal.toldN
 split
 ·exact Seal.opN_lt h.2
 ·omega
theorem word_lt {x : List Nat} (h : Sec x) : word x < 18446744073709551616 := by
 unfold word Seal.toldY
 split
 ·exact Seal.opY_lt h.2
 ·omega
def better (r i : Nat) (x : List Nat) (l : Nat × Nat) : Nat × Nat := if num x % r = i ∧ l.1 < num x then (num x, word x) else l
def search (f : Nat → List Nat) (r : Nat) : Nat → Nat × Nat
 | 0 => (0, 0)
 | i + 1 => better r i (f i) (search f r i)
theorem search_lt (f : Nat → List Nat) (r : Nat) (hf : ∀ i, Sec (f i)) : ∀ i, (search f r i).1 < 4294967296 ∧ (search f r i).2 < 18446744073709551616
 | 0 => ⟨by simp [search], by simp [search]⟩
 | i + 1 => by
  have h := search_lt f r hf i
  simp only [search, better]
  split
  ·exact ⟨num_lt (hf i), word_lt (hf i)⟩
  ·exact h
def ringOf (s : Dk) (base : Nat) (i : Nat) : List Nat := readL s ((base + i : Nat) : Int)
def latest (s : Dk) (base r : Nat) : Nat × Nat := search (ringOf s base) r r
def isRing (base r : Int) : Bool := decide (2 ≤ r) && decide (r ≤ 8) && decide (0 ≤ base) && decide (base ≤ 1024)
def hasRing (s : Dk) (base r : Int) : Bool := decide (2 ≤ r) && decide (r ≤ 8) && decide (0 ≤ base) && decide (base + r ≤ s.size)
def latestN (s : Dk) (base r : Int) : Nat := if hasRing s base r then (latest s base.toNat r.toNat).1 else 0
def latestY (s : Dk) (base r : Int) : Nat := if hasRing s base r then (latest s base.toNat r.toNat).2 else 0
def placeOf (n : Nat) (base r : Int) : Int := if isRing base r then base + (n : Int) % r else 0
def putK (s : Dk) (base r : Int) : Int := base + ((latestN s base r + 1 : Nat) : Int) % r
def putX (s : Dk) (base r : Int) (y : Nat) : List Nat := record (latestN s base r + 1) y
def putsE (s : Dk) (k : Int) (x : List Nat) : Nat := if wroteE s k = 0 then flushE (wroteS s k x) else wroteE s k
def putsS (s : Dk) (k : Int) (x : List Nat) : Dk := if wroteE s k = 0 then flushS (wroteS s k x) else wroteS s k x
def putE (s : Dk) (base r : Int) (y : Nat) : Nat := if hasRing s base r then if s.broken then 3 else if latestN s base r = 4294967295 then 13 else putsE s (putK s base r) (putX s base r y) else 2
def putS (s : Dk) (base r : Int) (y : Nat) : Dk := if hasRing s base r then if s.broken then s else if latestN s base r = 4294967295 then s else putsS s (putK s base r) (putX s base r y) else s
theorem latestN_lt {s : Dk} (h : Valid s) (base r : Int) : latestN s base r < 4294967296 := by
 unfold latestN
 split
 ·exact (search_lt _ _ (fun i => sec_read h _) _).1
 ·decide
end Go.Proofs.YtoaeficfmcncjaaGreat
namespace Go.Proofs.YtoaeficfmcncjaaGreat
open Go.RowKit Go.Maps Go.Shelf
open Math
section
set_option maxRecDepth 100000
theorem record_any (n y : Nat) (w : World) (hn : n < 4294967296) (hy : y < 18446744073709551616) :
  Calls Tryz.prog 232 #[.int .u32 n, .int .u64 y] w fun e w' => e = .returned (arr (record n y)) ∧ Kept [] w w' :=
 (Seal.record_any n y w hn hy).mono (fun _ _ ⟨he, hb⟩ => ⟨he, Kept.of_below hb []⟩)
theorem open_any (x : List Nat) (w : World) (hx : Sec x) :
  Calls Tryz.prog 295 #[arr x] w fun e w' => (∃ b, e = .returned (.tuple #[.int .u32 (num x : Nat), .int .u64 (word x : Nat), .bool b])) ∧ Kept [] w w' :=
 (Seal.open_any x w hx.1 hx.2).mono (fun _ _ ⟨he, hb⟩ => ⟨⟨_, he⟩, Kept.of_below hb []⟩)
theorem Tryz.size339 : (Tryz.prog.info? 339).map (·.size) = some 3 := by kernel_rfl
theorem isRing_any (r : Int) (w : World) : Calls Tryz.prog 266 #[.int .i64 r] w fun e w' => e = .returned (.bool (decide (2 ≤ r) && decide (r ≤ 8))) ∧ w' = w := by
 go_enter Tryz.func266, Tryz.ntmps266
 go_wp2
 all_goals go_ret
 all_goals exact ⟨by simp <;> omega, rfl⟩
theorem place_any (n : Nat) (hn : n < 4294967296) (base r : Int) (w : World) : Calls Tryz.prog 231 #[.int .u32 n, .int .i64 base, .int .i64 r] w fun e w' => e = .returned (.int .i64 (placeOf n base r)) ∧ w' = w := by
 have q := isRing_any r w
 by_cases h12 : 2 ≤ r ∧ r ≤ 8
 ·obtain ⟨h1, h2⟩ := h12
  rw [decide_eq_true h1, decide_eq_true h2] at q
  by_cases h34 : 0 ≤ base ∧ base ≤ 1024
  ·obtain ⟨h3, h4⟩ := h34
   have e0 : placeOf n base r = base + (n : Int) % r := by simp [placeOf, isRing, h1, h2, h3, h4]
   have k1 : ¬ (base < 0) := by omega
   have k2 : ¬ (1024 < base) := by omega
   have hm1 : 0 ≤ (n : Int) % r := Int.emod_nonneg _ (by omega)
   have hm2 : (n : Int) % r < r := Int.emod_lt_of_pos _ (by omega)
   rw [e0]
   clear e0
   go_enter Tryz.func231, Tryz.ntmps231
   go_wp2_with (first
    | (go_at_call 266; refine q.mono ?_; rintro e w ⟨rfl, rfl⟩))
   go_ret
   exact ⟨rfl, rfl⟩
  ·have e0 : placeOf n base r = 0 := by
    rw [placeOf, if_neg]
    simp only [isRing, Bool.and_eq_true, decide_eq_true_eq]
    omega
   rw [e0]
   clear e0
   rcases (show base < 0 ∨ (¬ (base < 0) ∧ 1024 < base) by omega) with k1 | ⟨k1, k2⟩
   ·go_enter Tryz.func231, Tryz.ntmps231
    go_wp2_with (first
     | (go_at_call 266; refine q.mono ?_; rintro e w ⟨rfl, rfl⟩))
    go_ret
    exact ⟨rfl, rfl⟩
   ·go_enter Tryz.func231, Tryz.ntmps231
    go_wp2_with (first
     | (go_at_call 266; refine q.mono ?_; rintro e w ⟨rfl, rfl⟩))
    go_ret
    exact ⟨rfl, rfl⟩
 ·have e0 : placeOf n base r = 0 := by
   rw [placeOf, if_neg]
   simp only [isRing, Bool.and_eq_true, decide_eq_true_eq]
   omega
  have e1 : (decide (2 ≤ r) && decide (r ≤ 8)) = false := by simp; omega
  rw [e0]
  rw [e1] at q
  clear e0 e1
  go_enter Tryz.func231, Tryz.ntmps231
  go_wp2_with (first
   | (go_at_call 266; refine q.mono ?_; rintro e w ⟨rfl, rfl⟩))
  go_ret
  exact ⟨rfl, rfl⟩
theorem holds_any (d b1 b2 : Nat) (s : Dk) (base r : Int) (w : World) (h : DiskAt w d b1 b2 s) :
  Calls Tryz.prog 229 #[.pointer (some ⟨d, 0, none⟩), .int .i64 base, .int .i64 r] w fun e w' => e = .returned (.bool (hasRing s base r)) ∧ w' = w := by
 have q := isRing_any r w
 have q2 := size_any d b1 b2 s w h
 have v1 := h.valid.pos
 have v2 := h.valid.top
 by_cases h12 : 2 ≤ r ∧ r ≤ 8
 ·obtain ⟨h1, h2⟩ := h12
  rw [decide_eq_true h1, decide_eq_true h2] at q
  by_cases h3 : 0 ≤ base
  ·by_cases h4 : base ≤ (s.size : Int) - r
   ·have e0 : hasRing s base r = true := by simp [hasRing]; omega
    rw [e0]
    clear e0 h
    go_enter Tryz.func229, Tryz.ntmps229
    go_wp2_with (first
     | (go_at_call 266; refine q.mono ?_; rintro e w ⟨rfl, rfl⟩)
     | (go_at_call 122; refine q2.mono ?_; rintro e w ⟨rfl, rfl⟩))
    go_ret
    exact ⟨rfl, rfl⟩
   ·have e0 : hasRing s base r = false := by simp [hasRing]; omega
    rw [e0]
    clear e0 h
    go_enter Tryz.func229, Tryz.ntmps229
    go_wp2_with (first
     | (go_at_call 266; refine q.mono ?_; rintro e w ⟨rfl, rfl⟩)
     | (go_at_call 122; refine q2.mono ?_; rintro e w ⟨rfl, rfl⟩))
    go_ret
    exact ⟨by simp; omega, rfl⟩
  ·have e0 : hasRing s base r = false := by simp [hasRing]; omega
   rw [e0]
   clear e0 h
   go_enter Tryz.func229, Tryz.ntmps229
   go_wp2_with (first
    | (go_at_call 266; refine q.mono ?_; rintro e w ⟨rfl, rfl⟩)
    | (go_at_call 122; refine q2.mono ?_; rintro e w ⟨rfl, rfl⟩))
   go_ret
   exact ⟨rfl, rfl⟩
 ·have e0 : hasRing s base r = false := by simp [hasRing]; omega
  have e1 : (decide (2 ≤ r) && decide (r ≤ 8)) = false := by simp; omega
  rw [e0]
  rw [e1] at q
  clear e0 e1 h
  go_enter Tryz.func229, Tryz.ntmps229
  go_wp2_with (first
   | (go_at_call 266; refine q.mono ?_; rintro e w ⟨rfl, rfl⟩))
  go_ret
  exact ⟨rfl, rfl⟩
set_option maxHeartbeats 1000000 in
theorem sfind_any (d b1 b2 : Nat) (s : Dk) (k : Int) (h0 : -9223372036854775808 ≤ k) (h1 : k ≤ 9223372036854775807) (w : World) (h : DiskAt w d b1 b2 s) :
  Calls Tryz.prog 267 #[.pointer (some ⟨d, 0, none⟩), .int .i64 k] w fun e w' => e = .returned (.agg #[.int .u32 (num (readL s k) : Nat), .int .u64 (word (readL s k) : Nat), .int .i64 k]) ∧ Kept [] w w' := by
 have hx := sec_read h.valid k
 have hA := h.kept (kept_alloc [] w (.cells #[.int .u32 0, .int .u64 0, .int .i64 0] 339)) (by simp) (by simp) (by simp)
 have q1 := read_any d b1 b2 s k h0 h1 _ hA
 have q2 := fun W => open_any (readL s k) W hx
 have hk0 := kept_alloc [] w (.cells #[.int .u32 0, .int .u64 0, .int .i64 0] 339)
 have hB0 : Blk (w.alloc (.cells #[.int .u32 0, .int .u64 0, .int .i64 0] 339)) w.heap.size 339 #[.int .u32 0, .int .u64 0, .int .i64 0] := blk_new w 339 _
 have hN : ∀ W : World, Arr (W.alloc (.cells #[.int .u8 0, .int .u8 0, .int .u8 0, .int .u8 0, .int .u8 0, .int .u8 0, .int .u8 0, .int .u8 0, .int .u8 0, .int .u8 0, .int .u8 0, .int .u8 0, .int .u8 0, .int .u8 0, .int .u8 0, .int .u8 0] 113)) W.heap.size 113 nought := fun W => arr_new W 113 nought
 simp only [arr] at q1 q2
 generalize readL s k = x at *
 generalize readE s k = ee at *
 go_enter Tryz.func267, Tryz.ntmps267
 go_wp2_with (first
  | (go_at_call 88; refine q1.mono ?_; rintro e w1 ⟨rfl, hk1⟩; have hB1 := hB0.kept hk1 (by simp))
  | (refine wpList_store_arr rfl 113 _ _ rfl w1.heap.size 113 _ x rfl rfl (hN w1) hx.1 (by rw [hx.1]; exact Tryz.size113) ?_; intro w2 hA2 hk2 hz2; replace hz2 : Hid _ := hz2; have hk02 : Kept [] _ w2 := (hk1.trans (kept_alloc [] w1 (.cells #[.int .u8 0, .int .u8 0, .int .u8 0, .int .u8 0, .int .u8 0, .int .u8 0, .int .u8 0, .int .u8 0, .int .u8 0, .int .u8 0, .int .u8 0, .int .u8 0, .int .u8 0, .int .u8 0, .int .u8 0, .int .u8 0] 113))).young hk2 hk1.size; have hB2 := hB0.kept hk02 (by simp))
  | refine wpList_load_arr rfl 113 _ rfl w1.heap.size 113 x rfl hA2 16 5 Tryz.underlying113 (by rw [hx.1]; exact Tryz.size113) ?_
  | (go_at_call 295; refine (q2 _).mono ?_; rintro e w3 ⟨⟨b, rfl⟩, hk3⟩; have hB3 := hB2.kept hk3 (by simp))
  | (refine wpList_store_blk rfl 339 _ _ rfl w.heap.size 339 _ [.int .u32 (num x : Nat), .int .u64 (word x : Nat), .int .i64 k] rfl rfl hB3 rfl Tryz.size339 (by simp [Value.oneCell']) ?_; intro w4 hB4 hk4 hz4))
 have hB5 : w4.heap[w.heap.size]? = some (.cells #[.int .u32 (num x : Nat), .int .u64 (word x : Nat), .int .i64 k] 339 (0, 0)) := hB4
 refine bodyPost_ret (v := .agg #[.int .u32 (num x : Nat), .int .u64 (word x : Nat), .int .i64 k]) (results_cell_row rfl _ _ w.heap.size 339 _ (0, 0) _ rfl hB5 Tryz.underlying339 rfl Tryz.size339) rfl ?_
 exact ⟨rfl, ((hk0.trans hk02).trans hk3).young hk4 (Nat.le_refl _)⟩
end
end Go.Proofs.YtoaeficfmcncjaaGreat
namespace Go.Proofs.YtoaeficfmcncjaaGreat
open Go.RowKit Go.Maps Go.Shelf
open Math
section
set_option maxRecDepth 100000
set_option maxHeartbeats 1000000 in
theorem home_any (n y : Nat) (hn : n < 4294967296) (k base r : Int) (w : World) :
  Calls Tryz.prog 268 #[.agg #[.int .u32 n, .int .u64 y, .int .i64 k], .int .i64 base, .int .i64 r] w fun e w' => e = .returned (.agg #[.int .u32 n, .int .u64 y, .int .i64 (placeOf n base r)]) ∧ Kept [] w w' := by
 have q1 := fun W => place_any n hn base r W
 generalize placeOf n base r = p at *
 go_enter Tryz.func268, Tryz.ntmps268
 go_wp2_with (first
  | (go_at_call 231; refine (q1 _).mono ?_; rintro e w1 ⟨rfl, rfl⟩))
 have hB5 : ((w.alloc (.cells #[.int .u32 n, .int .u64 y, .int .i64 p] 339)).alloc (.cells #[.int .u32 n, .int .u64 y, .int .i64 p] 339)).heap[w.heap.size + 1]? = some (.cells #[.int .u32 n, .int .u64 y, .int .i64 p] 339 (0, 0)) := by
  have := blk_new (w.alloc (.cells #[.int .u32 n, .int .u64 y, .int .i64 p] 339)) 339 #[.int .u32 n, .int .u64 y, .int .i64 p]
  rw [World.size_alloc] at this
  exact this
 refine bodyPost_ret (v := .agg #[.int .u32 n, .int .u64 y, .int .i64 p]) (results_cell_row rfl _ _ (w.heap.size + 1) 339 _ (0, 0) _ rfl hB5 Tryz.underlying339 rfl Tryz.size339) rfl ?_
 exact ⟨rfl, (kept_alloc [] w _).trans (kept_alloc [] _ _)⟩
set_option maxHeartbeats 1000000 in
theorem latest_out (d b1 b2 : Nat) (s : Dk) (base r : Int) (w : World) (h : DiskAt w d b1 b2 s) (hh : hasRing s base r = false) :
  Calls Tryz.prog 230 #[.pointer (some ⟨d, 0, none⟩), .int .i64 base, .int .i64 r] w fun e w' => e = .returned (.tuple #[.int .u32 0, .int .u64 0]) ∧ w' = w := by
 have q1 := holds_any d b1 b2 s base r w h
 rw [hh] at q1
 go_enter Tryz.func230, Tryz.ntmps230
 go_wp2_with (first
  | (go_at_call 229; refine q1.mono ?_; rintro e w ⟨rfl, rfl⟩))
 go_ret2
 exact ⟨rfl, rfl⟩
set_option maxHeartbeats 4000000 in
theorem latest_in (d b1 b2 : Nat) (s : Dk) (B R : Nat) (w : World) (h : DiskAt w d b1 b2 s) (hh : hasRing s (B : Int) (R : Int) = true) :
  Calls Tryz.prog 230 #[.pointer (some ⟨d, 0, none⟩), .int .i64 (B : Int), .int .i64 (R : Int)] w fun e w' => e = .returned (.tuple #[.int .u32 ((latest s B R).1 : Nat), .int .u64 ((latest s B R).2 : Nat)]) ∧ Kept [] w w' := by
 have q1 := holds_any d b1 b2 s B R w h
 rw [hh] at q1
 have v1 := h.valid
 have v2 := v1.top
 simp only [hasRing, Bool.and_eq_true, decide_eq_true_eq] at hh
 obtain ⟨⟨⟨h1, h2⟩, h3⟩, h4⟩ := hh
 have hlt0 := h.lt
 have hsec : ∀ i : Nat, Sec (ringOf s B i) := fun i => sec_read v1 _
 have hk0 := kept_alloc [] w (.cells #[.int .u32 0, .int .u64 0, .int .i64 0] 339)
 have hB0 : Blk (w.alloc (.cells #[.int .u32 0, .int .u64 0, .int .i64 0] 339)) w.heap.size 339 #[.int .u32 0, .int .u64 0, .int .i64 0] := blk_new w 339 _
 have hD0 := h.kept hk0 (by simp) (by simp) (by simp)
 go_enter Tryz.func230, Tryz.ntmps230
 go_wp2_with (first
  | (go_at_call 229; refine q1.mono ?_; rintro e w ⟨rfl, rfl⟩))
 go_loopw [17] (fun i wr => ∃ (k : Nat) (a : Int), k ≤ R ∧ i = .int .i64 k ∧ Blk wr w.heap.size 339 #[.int .u32 ((search (ringOf s B) R k).1 : Nat), .int .u64 ((search (ringOf s B) R k).2 : Nat), .int .i64 a] ∧ DiskAt wr d b1 b2 s ∧ Kept [] w wr) (fun i _ => R - (RowKit.intOf i).toNat)
 case atStart => exact ⟨0, 0, by omega, rfl, hB0, hD0, hk0⟩
 case round =>
  obtain ⟨k, a, hk, rfl, hB, hD, hK⟩ := hrel
  clear hB0 hD0 hk0 q1
  have hl := search_lt (ringOf s B) R hsec k
  by_cases hlt : k < R
  ·have hm1 : Hid (R - (k + 1) < R - k) := by show _ < _; omega
   have kk : (k : Int) < (R : Int) := by omega
   have q2 := sfind_any d b1 b2 s ((B : Int) + (k : Int)) (by omega) (by omega) wr hD
   have ex : readL s ((B : Int) + (k : Int)) = ringOf s B k := by unfold ringOf; rw [Int.natCast_add]
   rw [ex] at q2
   have hx := hsec k
   have en : search (ringOf s B) R (k + 1) = better R k (ringOf s B k) (search (ringOf s B) R k) := rfl
   generalize ringOf s B k = x at *
   have hn := num_lt hx
   have hp : placeOf (num x) B R = (B : Int) + (num x : Int) % (R : Int) := by
    rw [placeOf, if_pos]
    simp [isRing]
    omega
   have q3 := fun W => home_any (num x) (word x) hn ((B : Int) + (k : Int)) B R W
   rw [hp] at q3
   replace en : Hid (search (ringOf s B) R (k + 1) = better R k x (search (ringOf s B) R k)) := en
   generalize hL : search (ringOf s B) R k = l at *
   obtain ⟨l1, l2⟩ := l
   simp only [] at hB hl
   have HF : Hid (∀ W1 : World, Kept [] wr W1 → DiskAt (W1.alloc (.cells #[.int .u32 (num x : Nat), .int .u64 (word x : Nat), .int .i64 ((B : Int) + (k : Int))] 339)).drew d b1 b2 s ∧ Kept [] w (W1.alloc (.cells #[.int .u32 (num x : Nat), .int .u64 (word x : Nat), .int .i64 ((B : Int) + (k : Int))] 339)).drew ∧
     Blk (W1.alloc (.cells #[.int .u32 (num x : Nat), .int .u64 (word x : Nat), .int .i64 ((B : Int) + (k : Int))] 339)).drew w.heap.size 339 #[.int .u32 (l1 : Nat), .int .u64 (l2 : Nat), .int .i64 a] ∧
     Blk (W1.alloc (.cells #[.int .u32 (num x : Nat), .int .u64 (word x : Nat), .int .i64 ((B : Int) + (k : Int))] 339)).drew W1.heap.size 339 #[.int .u32 (num x : Nat), .int .u64 (word x : Nat), .int .i64 ((B : Int) + (k : Int))]) := fun W1 h => by
    have k2 := (h.trans (kept_alloc [] W1 (.cells #[.int .u32 (num x : Nat), .int .u64 (word x : Nat), .int .i64 ((B : Int) + (k : Int))] 339))).trans (kept_drew [] _)
    exact ⟨hD.kept k2 (by simp) (by simp) (by simp), hK.trans k2, hB.kept k2 (by simp), (blk_new W1 339 _).kept (kept_drew [] _) (by simp)⟩
   have hLlt : w.heap.size < wr.heap.size := hB.lt
   by_cases hc : num x % R = k
   ·have ei : (num x : Int) % (R : Int) = (k : Int) := by omega
    rw [ei] at q3
    by_cases hg : l1 < num x
    ·have es : Hid (search (ringOf s B) R (k + 1) = (num x, word x)) := en.out.trans (if_pos ⟨hc, hg⟩)
     have hg' : (l1 : Int) < (num x : Int) := by omega
     go_wp2_with (first
      | (go_at_call 267; refine q2.mono ?_; rintro e w1 ⟨rfl, hk1⟩; obtain ⟨D2, K2, L2, N2⟩ := HF.out _ hk1))
     go_region_held3 (fun W => W.cell? ⟨w1.heap.size, 0, none⟩ = some (.int .u32 (num x : Nat)) ∧ W.cell? ⟨w1.heap.size, 1, none⟩ = some (.int .u64 (word x : Nat)) ∧ W.cell? ⟨w1.heap.size, 2, none⟩ = some (.int .i64 ((B : Int) + (k : Int))) ∧ W.cell? ⟨w.heap.size, 0, none⟩ = some (.int .u32 (l1 : Nat))) (exact ⟨N2.cell 0, N2.cell 1, N2.cell 2, L2.cell 0⟩) (first
      | (go_at_call 268; refine (q3 _).mono ?_; rintro e w2 ⟨rfl, hk2⟩; replace D2 := D2.kept hk2 (by simp) (by simp) (by simp); replace K2 := K2.trans hk2; replace L2 := L2.kept hk2 (by simp); replace N2 := N2.kept hk2 (by simp); clear hk2))
     have n0 : w2.cell? ⟨w1.heap.size, 0, none⟩ = some (.int .u32 (num x : Nat)) := N2.cell 0
     have n1 : w2.cell? ⟨w1.heap.size, 1, none⟩ = some (.int .u64 (word x : Nat)) := N2.cell 1
     have n2 : w2.cell? ⟨w1.heap.size, 2, none⟩ = some (.int .i64 ((B : Int) + (k : Int))) := N2.cell 2
     go_wp2_with (first
      | (refine wpList_store_blk rfl 339 _ _ rfl w.heap.size 339 _ [.int .u32 (num x : Nat), .int .u64 (word x : Nat), .int .i64 ((B : Int) + (k : Int))] rfl rfl L2 rfl Tryz.size339 (by simp [Value.oneCell']) ?_; intro w3 hB3 hk3 hz3))
     go_roundw
     case rel =>
      refine ⟨k + 1, (B : Int) + (k : Int), by omega, rfl, ?_, D2.kept hk3 (by simp; omega) (by simp; omega) (by simp; omega), K2.young hk3 (Nat.le_refl _)⟩
      rw [es.out]
      exact hB3
     case measure => simpa [RowKit.intOf] using hm1.out
    ·have es : Hid (search (ringOf s B) R (k + 1) = (l1, l2)) := en.out.trans (if_neg (fun h => hg h.2))
     have hg' : ¬ ((l1 : Int) < (num x : Int)) := by omega
     go_wp2_with (first
      | (go_at_call 267; refine q2.mono ?_; rintro e w1 ⟨rfl, hk1⟩; obtain ⟨D2, K2, L2, N2⟩ := HF.out _ hk1))
     go_region_held3 (fun W => W.cell? ⟨w1.heap.size, 0, none⟩ = some (.int .u32 (num x : Nat)) ∧ W.cell? ⟨w1.heap.size, 1, none⟩ = some (.int .u64 (word x : Nat)) ∧ W.cell? ⟨w1.heap.size, 2, none⟩ = some (.int .i64 ((B : Int) + (k : Int))) ∧ W.cell? ⟨w.heap.size, 0, none⟩ = some (.int .u32 (l1 : Nat))) (exact ⟨N2.cell 0, N2.cell 1, N2.cell 2, L2.cell 0⟩) (first
      | (go_at_call 268; refine (q3 _).mono ?_; rintro e w2 ⟨rfl, hk2⟩; replace D2 := D2.kept hk2 (by simp) (by simp) (by simp); replace K2 := K2.trans hk2; replace L2 := L2.kept hk2 (by simp); replace N2 := N2.kept hk2 (by simp); clear hk2))
     go_wp2_with fail
     go_roundw
     case rel =>
      refine ⟨k + 1, a, by omega, rfl, ?_, D2, K2⟩
      rw [es.out]
      exact L2
     case measure => simpa [RowKit.intOf] using hm1.out
   ·have es : Hid (search (ringOf s B) R (k + 1) = (l1, l2)) := en.out.trans (if_neg (fun h => hc h.1))
    have hne : ¬ ((k : Int) = (num x : Int) % (R : Int)) := by omega
    go_wp2_with (first
     | (go_at_call 267; refine q2.mono ?_; rintro e w1 ⟨rfl, hk1⟩; obtain ⟨D2, K2, L2, N2⟩ := HF.out _ hk1))
    have HS : Hid (∀ W, Kept [] (w1.alloc (.cells #[.int .u32 (num x : Nat), .int .u64 (word x : Nat), .int .i64 ((B : Int) + (k : Int))] 339)).drew W → (W.cell? ⟨w1.heap.size, 0, none⟩ = some (.int .u32 (num x : Nat)) ∧ W.cell? ⟨w1.heap.size, 1, none⟩ = some (.int .u64 (word x : Nat)) ∧ W.cell? ⟨w1.heap.size, 2, none⟩ = some (.int .i64 ((B : Int) + (k : Int))) ∧ W.cell? ⟨w.heap.size, 0, none⟩ = some (.int .u32 (l1 : Nat)))) := fun W hk2 => ⟨(N2.kept hk2 (by simp)).cell 0, (N2.kept hk2 (by simp)).cell 1, (N2.kept hk2 (by simp)).cell 2, (L2.kept hk2 (by simp)).cell 0⟩
    refine wp_region_held_drew (S := fun W => W.cell? ⟨w1.heap.size, 0, none⟩ = some (.int .u32 (num x : Nat)) ∧ W.cell? ⟨w1.heap.size, 1, none⟩ = some (.int .u64 (word x : Nat)) ∧ W.cell? ⟨w1.heap.size, 2, none⟩ = some (.int .i64 ((B : Int) + (k : Int))) ∧ W.cell? ⟨w.heap.size, 0, none⟩ = some (.int .u32 (l1 : Nat))) (by kernel_rfl) ⟨N2.cell 0, N2.cell 1, N2.cell 2, L2.cell 0⟩ (fun hP => ?_)
    refine wpAnyH_take (i := 0) (oi := ⟨some 25, _, _, _, _, _⟩) (v := .agg #[.int .u32 (num x : Nat), .int .u64 (word x : Nat), .int .i64 ((B : Int) + (k : Int))]) rfl (by kernel_rfl) (by kernel_rfl) (by kernel_rfl) (fun _ _ _ h => h) (Or.inl ⟨by rfl, fun W hW => by obtain ⟨hW1, hW2, hW3, hW4⟩ := hW; go_simp⟩) hP ?_
    try simp only [Act.put, List.setIfInBounds_toArray, List.set_cons_zero, List.set_cons_succ]
    refine wpAnyH_take (i := 1) (oi := ⟨some 26, _, _, _, _, _⟩) (v := .agg #[.int .u32 (num x : Nat), .int .u64 (word x : Nat), .int .i64 ((B : Int) + (k : Int))]) rfl (by kernel_rfl) (by kernel_rfl) (by kernel_rfl) (fun _ _ _ h => h) (Or.inl ⟨by rfl, fun W hW => by obtain ⟨hW1, hW2, hW3, hW4⟩ := hW; go_simp⟩) hP ?_
    try simp only [Act.put, List.setIfInBounds_toArray, List.set_cons_zero, List.set_cons_succ]
    refine wpAnyH_take (i := 2) (oi := ⟨some 27, _, _, _, _, _⟩) (v := .int .i64 (B : Int)) rfl (by kernel_rfl) (by kernel_rfl) (by kernel_rfl) (fun _ _ _ h => h) (Or.inl ⟨by rfl, fun W hW => by obtain ⟨hW1, hW2, hW3, hW4⟩ := hW; go_simp⟩) hP ?_
    try simp only [Act.put, List.setIfInBounds_toArray, List.set_cons_zero, List.set_cons_succ]
    refine wpAnyH_take (i := 3) (oi := ⟨some 28, _, _, _, _, _⟩) (v := .int .i64 (R : Int)) rfl (by kernel_rfl) (by kernel_rfl) (by kernel_rfl) (fun _ _ _ h => h) (Or.inl ⟨by rfl, fun W hW => by obtain ⟨hW1, hW2, hW3, hW4⟩ := hW; go_simp⟩) hP ?_
    try simp only [Act.put, List.setIfInBounds_toArray, List.set_cons_zero, List.set_cons_succ]
    refine wpAnyH_ready (rs := [4]) (by kernel_rfl) (by simp) ?_
    refine AllReadyH.cons (o := ⟨some 29, _, _, _, _, _⟩) rfl (fun K hK => ?_) AllReadyH.nil
    go_simp
    refine (q3 _).mono ?_
    rintro e w2 ⟨rfl, hk2⟩
    go_wp2_with fail
    replace hP := HS.out _ hk2
    refine hK.out _ _ hP (fun _ => ?_)
    clear hK K
    try simp only [Act.put, List.setIfInBounds_toArray, List.set_cons_zero, List.set_cons_succ]
    refine wpAnyH_take (i := 5) (oi := ⟨some 30, _, _, _, _, _⟩) (v := .bool false) rfl (by kernel_rfl) (by kernel_rfl) (by kernel_rfl) (fun _ _ _ h => h) (Or.inl ⟨by rfl, fun W hW => by obtain ⟨hW1, hW2, hW3, hW4⟩ := hW; go_simp⟩) hP ?_
    try simp only [Act.put, List.setIfInBounds_toArray, List.set_cons_zero, List.set_cons_succ]
    refine wpAnyH_take (i := 6) (oi := ⟨some 31, _, _, _, _, _⟩) (v := .bool false) rfl (by kernel_rfl) (by kernel_rfl) (by kernel_rfl) (fun _ _ _ h => h) (Or.inl ⟨by rfl, fun W hW => by obtain ⟨hW1, hW2, hW3, hW4⟩ := hW; go_simp⟩) hP ?_
    try simp only [Act.put, List.setIfInBounds_toArray, List.set_cons_zero, List.set_cons_succ]
    refine wpAnyH_take (i := 7) (oi := ⟨some 32, _, _, _, _, _⟩) (v := undef) rfl (by kernel_rfl) (by kernel_rfl) (by kernel_rfl) (fun _ _ _ h => h) (Or.inr ⟨by rfl, rfl⟩) hP ?_
    try simp only [Act.put, List.setIfInBounds_toArray, List.set_cons_zero, List.set_cons_succ]
    refine wpAnyH_take (i := 8) (oi := ⟨some 33, _, _, _, _, _⟩) (v := undef) rfl (by kernel_rfl) (by kernel_rfl) (by kernel_rfl) (fun _ _ _ h => h) (Or.inr ⟨by rfl, rfl⟩) hP ?_
    try simp only [Act.put, List.setIfInBounds_toArray, List.set_cons_zero, List.set_cons_succ]
    refine wpAnyH_take (i := 9) (oi := ⟨some 34, _, _, _, _, _⟩) (v := undef) rfl (by kernel_rfl) (by kernel_rfl) (by kernel_rfl) (fun _ _ _ h => h) (Or.inr ⟨by rfl, rfl⟩) hP ?_
    try simp only [Act.put, List.setIfInBounds_toArray, List.set_cons_zero, List.set_cons_succ]
    refine wpAnyH_take (i := 10) (oi := ⟨some 35, _, _, _, _, _⟩) (v := undef) rfl (by kernel_rfl) (by kernel_rfl) (by kernel_rfl) (fun _ _ _ h => h) (Or.inr ⟨by rfl, rfl⟩) hP ?_
    try simp only [Act.put, List.setIfInBounds_toArray, List.set_cons_zero, List.set_cons_succ]
    refine wpAnyH_take (i := 11) (oi := ⟨some 36, _, _, _, _, _⟩) (v := undef) rfl (by kernel_rfl) (by kernel_rfl) (by kernel_rfl) (fun _ _ _ h => h) (Or.inr ⟨by rfl, rfl⟩) hP ?_
    try simp only [Act.put, List.setIfInBounds_toArray, List.set_cons_zero, List.set_cons_succ]
    refine wpAnyH_take (i := 12) (oi := ⟨some 37, _, _, _, _, _⟩) (v := .bool false) rfl (by kernel_rfl) (by kernel_rfl) (by kernel_rfl) (fun _ _ _ h => h) (Or.inl ⟨by rfl, fun W hW => by obtain ⟨hW1, hW2, hW3, hW4⟩ := hW; go_simp⟩) hP ?_
    try simp only [Act.put, List.setIfInBounds_toArray, List.set_cons_zero, List.set_cons_succ]
    refine wpAnyH_done (by kernel_rfl) ?_ _
    replace D2 := D2.kept hk2 (by simp) (by simp) (by simp)
    replace K2 := K2.trans hk2
    replace L2 := L2.kept hk2 (by simp)
    clear hk2
    go_wp2_with fail
    go_roundw
    case rel =>
     refine ⟨k + 1, a, by omega, rfl, ?_, D2, K2⟩
     rw [es.out]
     exact L2
    case measure => simpa [RowKit.intOf] using hm1.out
  ·obtain rfl : k = R := by omega
   have n0 := hB.cell 0
   have n1 := hB.cell 1
   simp at n0 n1
   go_wp2_with fail
   go_quiet (fail)
   go_wp2_with fail
   go_ret2
   exact ⟨rfl, hK.trans (kept_drewN [] _ _)⟩
theorem latest_any (d b1 b2 : Nat) (s : Dk) (base r : Int) (w : World) (h : DiskAt w d b1 b2 s) :
  Calls Tryz.prog 230 #[.pointer (some ⟨d, 0, none⟩), .int .i64 base, .int .i64 r] w fun e w' => e = .returned (.tuple #[.int .u32 (latestN s base r : Nat), .int .u64 (latestY s base r : Nat)]) ∧ Kept [] w w' := by
 by_cases hh : hasRing s base r = true
 ·have hh' := hh
  simp only [hasRing, Bool.and_eq_true, decide_eq_true_eq] at hh'
  obtain ⟨B, rfl⟩ := Int.eq_ofNat_of_zero_le (show 0 ≤ base by omega)
  obtain ⟨R, rfl⟩ := Int.eq_ofNat_of_zero_le (show 0 ≤ r by omega)
  have := latest_in d b1 b2 s B R w h hh
  rw [latestN, latestY, if_pos hh, if_pos hh]
  exact this
 ·rw [latestN, latestY, if_neg hh, if_neg hh]
  exact (latest_out d b1 b2 s base r w h (by simpa using hh)).mono (fun _ _ ⟨he, hw⟩ => ⟨he, hw ▸ Kept.refl _ _⟩)
end
end Go.Proofs.YtoaeficfmcncjaaGreat
namespace Go.Proofs.YtoaeficfmcncjaaGreat
open Go.RowKit Go.Maps Go.Shelf
open Math
theorem wrote_ops (s : Dk) (k : Int) (x : List Nat) : (wroteS s k x).ops ≤ s.ops + 1 := by
 unfold wroteS
 split
 ·split
  ·exact Nat.le_succ _
  ·exact Nat.le_refl _
 ·exact Nat.le_succ _
set_option maxRecDepth 100000 in
set_option maxHeartbeats 1000000 in
theorem put_any (d b1 b2 : Nat) (s : Dk) (base r : Int) (y : Nat) (hy : y < 18446744073709551616) (hops : s.ops ≤ 999999999999998) (w : World) (h : DiskAt w d b1 b2 s) :
  Calls Tryz.prog 193 #[.pointer (some ⟨d, 0, none⟩), .int .i64 base, .int .i64 r, .int .u64 (y : Int)] w fun e w' => e = .returned (.int .i64 (putE s base r y : Nat)) ∧ DiskAt w' d b1 b2 (putS s base r y) ∧ Kept [d, b1, b2] w w' := by
 have q1 := made_any d b1 b2 s w h
 have q2 := holds_any d b1 b2 s base r w h
 by_cases hh : hasRing s base r = true
 ·have q3 := broken_any d b1 b2 s w h
  rw [hh] at q2
  by_cases hb : s.broken = true
  ·rw [putE, putS, if_pos hh, if_pos hh, if_pos hb, if_pos hb]
   rw [hb] at q3
   go_enter Tryz.func193, Tryz.ntmps193
   go_wp2_with (first
    | (go_at_call 42; refine q1.mono ?_; rintro e w ⟨rfl, rfl⟩)
    | (go_at_call 229; refine q2.mono ?_; rintro e w ⟨rfl, rfl⟩)
    | (go_at_call 15; refine q3.mono ?_; rintro e w ⟨rfl, rfl⟩))
   go_ret
   exact ⟨rfl, h, Kept.refl _ _⟩
  ·have q4 := latest_any d b1 b2 s base r w h
   have hn := latestN_lt h.valid base r
   rw [show s.broken = false by simpa using hb] at q3
   by_cases hm : latestN s base r = 4294967295
   ·rw [putE, putS, if_pos hh, if_pos hh, if_neg hb, if_neg hb, if_pos hm, if_pos hm]
    rw [hm] at q4
    go_enter Tryz.func193, Tryz.ntmps193
    go_wp2_with (first
     | (go_at_call 42; refine q1.mono ?_; rintro e w ⟨rfl, rfl⟩)
     | (go_at_call 229; refine q2.mono ?_; rintro e w ⟨rfl, rfl⟩)
     | (go_at_call 15; refine q3.mono ?_; rintro e w ⟨rfl, rfl⟩)
     | (go_at_call 230; refine q4.mono ?_; rintro e w1 ⟨rfl, hk1⟩))
    go_ret
    exact ⟨rfl, h.kept hk1 (by simp) (by simp) (by simp), hk1.mono (by simp)⟩
   ·rw [putE, putS, if_pos hh, if_pos hh, if_neg hb, if_neg hb, if_neg hm, if_neg hm, putK, putX]
    have hp : placeOf (latestN s base r + 1) base r = base + ((latestN s base r + 1 : Nat) : Int) % r := by
     have v2 := h.valid.top
     simp only [hasRing, Bool.and_eq_true, decide_eq_true_eq] at hh
     rw [placeOf, if_pos]
     simp [isRing]
     omega
    have q5 := fun W => place_any (latestN s base r + 1) (by omega) base r W
    have q6 := fun W => record_any (latestN s base r + 1) y W (by omega) hy
    rw [hp] at q5
    generalize latestN s base r = n at *
    clear hp
    have hx := sec_record (n + 1) y
    generalize record (n + 1) y = x at *
    generalize base + ((n + 1 : Nat) : Int) % r = k at *
    have q7 := fun W (h : DiskAt W d b1 b2 s) => write_any d b1 b2 s k x hx (by omega) W h
    have ho := wrote_ops s k x
    have q8 := fun W (h : DiskAt W d b1 b2 (wroteS s k x)) => flush_any d b1 b2 (wroteS s k x) (by omega) W h
    have e1 : ((n : Int) == 4294967295) = false := by simp; omega
    have e2 : (n : Int) + 1 < 4294967296 := by omega
    simp only [Int.natCast_succ, arr] at q5 q6 q7
    unfold putsE putsS
    by_cases he : wroteE s k = 0
    ·rw [if_pos he, if_pos he]
     rw [he] at q7
     go_enter Tryz.func193, Tryz.ntmps193
     go_wp2_with (first
      | (go_at_call 42; refine q1.mono ?_; rintro e w ⟨rfl, rfl⟩)
      | (go_at_call 229; refine q2.mono ?_; rintro e w ⟨rfl, rfl⟩)
      | (go_at_call 15; refine q3.mono ?_; rintro e w ⟨rfl, rfl⟩)
      | (go_at_call 230; refine q4.mono ?_; rintro e w1 ⟨rfl, hk1⟩)
      | (go_at_call 231; refine (q5 _).mono ?_; rintro e w1 ⟨rfl, rfl⟩)
      | (go_at_call 232; refine (q6 _).mono ?_; rintro e w2 ⟨rfl, hk2⟩; have hD2 := h.kept (hk1.trans hk2) (by simp) (by simp) (by simp))
      | (go_at_call 194; refine (q7 _ hD2).mono ?_; rintro e w3 ⟨rfl, hD3, hk3⟩)
      | (go_at_call 134; refine (q8 _ hD3).mono ?_; rintro e w4 ⟨rfl, hD4, hk4⟩))
     go_ret
     exact ⟨rfl, hD4, (((hk1.trans hk2).mono (by simp)).trans hk3).trans hk4⟩
    ·rw [if_neg he, if_neg he]
     have he' : ((wroteE s k : Int) != 0) = true := by simp; omega
     generalize wroteE s k = ee at *
     go_enter Tryz.func193, Tryz.ntmps193
     go_wp2_with (first
      | (go_at_call 42; refine q1.mono ?_; rintro e w ⟨rfl, rfl⟩)
      | (go_at_call 229; refine q2.mono ?_; rintro e w ⟨rfl, rfl⟩)
      | (go_at_call 15; refine q3.mono ?_; rintro e w ⟨rfl, rfl⟩)
      | (go_at_call 230; refine q4.mono ?_; rintro e w1 ⟨rfl, hk1⟩)
      | (go_at_call 231; refine (q5 _).mono ?_; rintro e w1 ⟨rfl, rfl⟩)
      | (go_at_call 232; refine (q6 _).mono ?_; rintro e w2 ⟨rfl, hk2⟩; have hD2 := h.kept (hk1.trans hk2) (by simp) (by simp) (by simp))
      | (go_at_call 194; refine (q7 _ hD2).mono ?_; rintro e w3 ⟨rfl, hD3, hk3⟩))
     go_ret
     exact ⟨rfl, hD3, ((hk1.trans hk2).mono (by simp)).trans hk3⟩
 ·have hh' : hasRing s base r = false := by simpa using hh
  rw [putE, putS, if_neg hh, if_neg hh]
  rw [hh'] at q2
  go_enter Tryz.func193, Tryz.ntmps193
  go_wp2_with (first
   | (go_at_call 42; refine q1.mono ?_; rintro e w ⟨rfl, rfl⟩)
   | (go_at_call 229; refine q2.mono ?_; rintro e w ⟨rfl, rfl⟩))
  go_ret
  exact ⟨rfl, h, Kept.refl _ _⟩
end Go.Proofs.YtoaeficfmcncjaaGreat
namespace Go.Proofs.YtoaeficfmcncjaaGreat
open Math
end Go.Proofs.YtoaeficfmcncjaaGreat
