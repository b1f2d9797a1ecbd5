/-
  The walks of seal.Open and of the document's Open.
-/
import Derived.Test.YtekjlmnnaaodjaaGreatSealJ
namespace Go.Proofs.YtekjlmnnaaodjaaGreat.Seal
open Go.RowKit
open Math
open Crc

/-- What a sector holds ahead of its sum. -/
def opN (s : List Nat) : Nat := getv 4 s
def opY (s : List Nat) : Nat := getv 8 (s.drop 4)
theorem opN_lt {s : List Nat} (h : ∀ b ∈ s, b < 256) : opN s < 4294967296 := getv_lt (k := 4) h
theorem opY_lt {s : List Nat} (h : ∀ b ∈ s, b < 256) : opY s < 18446744073709551616 := getv_lt (k := 8) (fun b hb => h b (List.mem_of_mem_drop hb))

theorem Arr.bytes4 {W : World} {g t : Nat} {l : List Nat} (h : Arr W g t l) (hl : ∀ c ∈ l, c < 256) (hn : l.length = 16) : BytesAt W.heap.size W (.slice (some ⟨g, 4, none⟩) 12 12) (l.drop 4) := by
  have e : (l.drop 4).length = 12 := by simp [hn]
  refine ⟨fun c hc => hl c (List.mem_of_mem_drop hc), some ⟨g, 4, none⟩, 12, by rw [e], fun h => by simp at h, .inr ⟨g, 4, rfl, by omega, h.lt, fun j hj => ?_⟩⟩
  rw [h.cell (4 + j) (by omega)]
  simp

set_option maxRecDepth 100000 in
set_option maxHeartbeats 400000 in
/-- seal.Open, of a record -/
theorem open_is (s : List Nat) (w : World) (hs : s.length = 16) (hb : ∀ c ∈ s, c < 256) (he : s = recd (opN s) (opY s)) :
    Calls Tryz.prog 64 #[arr s] w fun e w' => e = .returned (.tuple #[.int .u32 (opN s), .int .u64 (opY s), .bool true]) ∧ Below w.heap.size w w' := by
  have hn := opN_lt hb
  have hy := opY_lt hb
  have hA := arr_new w 52 s
  have g1 := get32_any _ _ _ _ (by rw [hs]; omega) (hA.bytes hb hs)
  have g2 := get64_any _ _ _ _ (by simp [hs]) (hA.bytes4 hb hs)
  have eN : getv 4 s = opN s := rfl
  have eY : getv 8 (s.drop 4) = opY s := rfl
  rw [eN] at g1
  rw [eY] at g2
  clear eN eY
  have q := fun w' => record_any (opN s) (opY s) w' hn hy
  have hq : ∀ w : World, (binOp .neq 52 (.agg (s.map enc).toArray) (arr (recd (opN s) (opY s)))).run Tryz.prog w = .ok (.bool false) w := fun w => by
    have := neq_arr 52 16 Tryz.underlying52 s (recd (opN s) (opY s)) hs (recd_length _ _) hb (recd_byte _ _) w
    rw [decide_eq_true he] at this
    exact this
  have hgd : ∀ (x y : Operand) (w : World), (eqGuard .neq 52 x y (.agg (s.map enc).toArray) (arr (recd (opN s) (opY s)))).run Tryz.prog w = .ok () w := fun x y w => guard52 .neq x y s _ w
  have HR : Hid (∀ W, Below (w.alloc (.cells (s.map enc).toArray 52)).heap.size (w.alloc (.cells (s.map enc).toArray 52)) W → W.rangeAt w.heap.size 0 (s.map enc)) := fun W h => (hA.below h hA.lt).range
  have h28 : Tryz.prog.underlying 52 = some (.array 16 5) := Tryz.underlying52
  have hz : (Tryz.prog.info? 52).map (·.size) = some (s.map enc).length := by rw [List.length_map, hs]; exact Tryz.size52
  have hB0 : Below w.heap.size w (w.alloc (.cells (s.map enc).toArray 52)) := below_alloc w _
  have hB := (Below.refl (w.alloc (.cells (s.map enc).toArray 52)).heap.size (w.alloc (.cells (s.map enc).toArray 52))).drew
  clear hA he hs hb
  generalize recd (opN s) (opY s) = r at *
  generalize opN s = n at *
  generalize opY s = y at *
  generalize getB 4 s = t1 at *
  generalize getB 8 (s.drop 4) = t2 at *
  unfold arr at *
  generalize s.map enc = cs at *
  clear s
  go_enter Tryz.func64, Tryz.ntmps64
  go_wp2_with (first
    | (go_at_call 74; refine g1.mono ?_; rintro e w1 ⟨rfl, rfl⟩)
    | (go_at_call 75; refine g2.mono ?_; rintro e w1 ⟨rfl, rfl⟩))
  go_region_held3 (fun W => W.rangeAt w.heap.size 0 cs) (exact HR.out _ hB) (first
    | (go_at_call 34; refine (q _).mono ?_; rintro e w1 ⟨rfl, hB1⟩; replace hB := hB.trans (hB1.mono hB.size)))
  go_wp2
  go_ret3
  exact ⟨rfl, hB0.trans (hB.mono hB0.size)⟩

set_option maxRecDepth 100000 in
set_option maxHeartbeats 400000 in
/-- seal.Open, of what is none -/
theorem open_not (s : List Nat) (w : World) (hs : s.length = 16) (hb : ∀ c ∈ s, c < 256) (he : s ≠ recd (opN s) (opY s)) :
    Calls Tryz.prog 64 #[arr s] w fun e w' => e = .returned (.tuple #[.int .u32 0, .int .u64 0, .bool false]) ∧ Below w.heap.size w w' := by
  have hn := opN_lt hb
  have hy := opY_lt hb
  have hA := arr_new w 52 s
  have g1 := get32_any _ _ _ _ (by rw [hs]; omega) (hA.bytes hb hs)
  have g2 := get64_any _ _ _ _ (by simp [hs]) (hA.bytes4 hb hs)
  have eN : getv 4 s = opN s := rfl
  have eY : getv 8 (s.drop 4) = opY s := rfl
  rw [eN] at g1
  rw [eY] at g2
  clear eN eY
  have q := fun w' => record_any (opN s) (opY s) w' hn hy
  have hq : ∀ w : World, (binOp .neq 52 (.agg (s.map enc).toArray) (arr (recd (opN s) (opY s)))).run Tryz.prog w = .ok (.bool true) w := fun w => by
    have := neq_arr 52 16 Tryz.underlying52 s (recd (opN s) (opY s)) hs (recd_length _ _) hb (recd_byte _ _) w
    rw [decide_eq_false he] at this
    exact this
  have hgd : ∀ (x y : Operand) (w : World), (eqGuard .neq 52 x y (.agg (s.map enc).toArray) (arr (recd (opN s) (opY s)))).run Tryz.prog w = .ok () w := fun x y w => guard52 .neq x y s _ w
  have HR : Hid (∀ W, Below (w.alloc (.cells (s.map enc).toArray 52)).heap.size (w.alloc (.cells (s.map enc).toArray 52)) W → W.rangeAt w.heap.size 0 (s.map enc)) := fun W h => (hA.below h hA.lt).range
  have h28 : Tryz.prog.underlying 52 = some (.array 16 5) := Tryz.underlying52
  have hz : (Tryz.prog.info? 52).map (·.size) = some (s.map enc).length := by rw [List.length_map, hs]; exact Tryz.size52
  have hB0 : Below w.heap.size w (w.alloc (.cells (s.map enc).toArray 52)) := below_alloc w _
  have hB := (Below.refl (w.alloc (.cells (s.map enc).toArray 52)).heap.size (w.alloc (.cells (s.map enc).toArray 52))).drew
  clear hA he hs hb
  generalize recd (opN s) (opY s) = r at *
  generalize opN s = n at *
  generalize opY s = y at *
  generalize getB 4 s = t1 at *
  generalize getB 8 (s.drop 4) = t2 at *
  unfold arr at *
  generalize s.map enc = cs at *
  clear s
  go_enter Tryz.func64, Tryz.ntmps64
  go_wp2_with (first
    | (go_at_call 74; refine g1.mono ?_; rintro e w1 ⟨rfl, rfl⟩)
    | (go_at_call 75; refine g2.mono ?_; rintro e w1 ⟨rfl, rfl⟩))
  go_region_held3 (fun W => W.rangeAt w.heap.size 0 cs) (exact HR.out _ hB) (first
    | (go_at_call 34; refine (q _).mono ?_; rintro e w1 ⟨rfl, hB1⟩; replace hB := hB.trans (hB1.mono hB.size)))
  go_wp2
  go_ret3
  exact ⟨rfl, hB0.trans (hB.mono hB0.size)⟩

/-- What Open tells of a sector. -/
def isRec (s : List Nat) : Bool := decide (s = recd (opN s) (opY s))
def toldN (s : List Nat) : Nat := if isRec s then opN s else 0
def toldY (s : List Nat) : Nat := if isRec s then opY s else 0

set_option maxRecDepth 100000 in
/-- seal.Open -/
theorem open_any (s : List Nat) (w : World) (hs : s.length = 16) (hb : ∀ c ∈ s, c < 256) :
    Calls Tryz.prog 64 #[arr s] w fun e w' => e = .returned (.tuple #[.int .u32 (toldN s : Nat), .int .u64 (toldY s : Nat), .bool (isRec s)]) ∧ Below w.heap.size w w' := by
  by_cases he : s = recd (opN s) (opY s)
  · have h1 : isRec s = true := decide_eq_true he
    have h2 : toldN s = opN s := by unfold toldN; rw [h1]; rfl
    have h3 : toldY s = opY s := by unfold toldY; rw [h1]; rfl
    rw [h1, h2, h3]
    exact open_is s w hs hb he
  · have h1 : isRec s = false := decide_eq_false he
    have h2 : toldN s = 0 := by unfold toldN; rw [h1]; rfl
    have h3 : toldY s = 0 := by unfold toldY; rw [h1]; rfl
    rw [h1, h2, h3]
    exact open_not s w hs hb he

set_option maxRecDepth 100000 in
/-- twainref02.Get32 -/
theorem refGet32_any (n₀ : Nat) (sv : Value) (bs : List Nat) (w : World) (hlen : bs.length ≤ 9223372036854775807) (hI : BytesAt n₀ w sv bs) :
    Calls Tryz.prog 61 #[sv] w fun e w' => e = .returned (.tuple #[.int .u32 (getv 4 bs), .bool (getB 4 bs)]) ∧ w' = w := by
  have hv : getv 4 bs < 4294967296 := getv_lt hI.1
  have hf := refGet_any n₀ sv bs 4 w (by omega) hlen hI
  generalize getv 4 bs = v at *
  generalize getB 4 bs = t at *
  clear hI hlen
  go_enter Tryz.func61, Tryz.ntmps61
  go_wp2_with (go_at_call 62; refine hf.mono ?_; rintro e w' ⟨rfl, rfl⟩)
  go_ret2
  exact ⟨rfl, rfl⟩

/-- A call's own sixteen bytes, and those from the fifth on. -/
theorem own_parts {W : World} {base : Nat} {v : Value} {l : List Nat} (h : W.ownsRow base 5 1 v 16 (l.map enc)) (hl : l.length = 16) (hb : ∀ c ∈ l, c < 256) :
    ∃ g cap, v = .slice (some ⟨g, 0, none⟩) 16 cap ∧ 16 ≤ cap ∧ BytesAt W.heap.size W (.slice (some ⟨g, 0, none⟩) 16 cap) l ∧ BytesAt W.heap.size W (.slice (some ⟨g, 4, none⟩) 12 (cap - 4)) (l.drop 4) := by
  have hB := bytesAt_owns (n₀ := W.heap.size) hb (Nat.le_refl _) (by rw [hl]; exact h)
  obtain ⟨g, cap, rfl, _, hc⟩ := owns_cells h hl (by omega)
  obtain ⟨_, a, cap', e, _, rfl | ⟨b, off, rfl, hcap, hlt, _⟩⟩ := id hB
  · simp at hl
  · injection e with e1 e2 e3
    injection e1 with e1
    injection e1 with e4 e5
    subst e4
    subst e3
    have e : (l.drop 4).length = 12 := by simp [hl]
    refine ⟨g, cap, rfl, by omega, hB, fun c hc => hb c (List.mem_of_mem_drop hc), some ⟨g, 4, none⟩, cap - 4, by rw [e], fun h => by simp at h, .inr ⟨g, 4, rfl, by omega, hlt, fun j hj => ?_⟩⟩
    rw [hc (4 + j) (by omega)]
    simp

set_option maxRecDepth 100000 in
set_option maxHeartbeats 400000 in
/-- twainref05.Open, of a record -/
theorem refOpen_is (s : List Nat) (w : World) (hs : s.length = 16) (hb : ∀ c ∈ s, c < 256) (he : s = recd (opN s) (opY s)) :
    Calls Tryz.prog 44 #[arr s] w fun e w' => e = .returned (.tuple #[.int .u32 (opN s), .int .u64 (opY s), .bool true]) ∧ Below w.heap.size w w' := by
  have hn := opN_lt hb
  have hy := opY_lt hb
  have hA := arr_new w 52 s
  have q := fun w' => refRecord_any (opN s) (opY s) w' hn hy
  have hq : ∀ w : World, (binOp .neq 52 (arr (recd (opN s) (opY s))) (.agg (s.map enc).toArray)).run Tryz.prog w = .ok (.bool false) w := fun w => by
    have := neq_arr 52 16 Tryz.underlying52 (recd (opN s) (opY s)) s (recd_length _ _) hs (recd_byte _ _) hb w
    rw [decide_eq_true he.symm] at this
    exact this
  have hgd : ∀ (x y : Operand) (w : World), (eqGuard .neq 52 x y (arr (recd (opN s) (opY s))) (.agg (s.map enc).toArray)).run Tryz.prog w = .ok () w := fun x y w => guard52 .neq x y _ s w
  have HG : Hid (∀ W v, W.ownsRow ((w.alloc (.cells (s.map enc).toArray 52)).heap.size) 5 1 v 16 (s.map enc) → ∃ g cap, v = .slice (some ⟨g, 0, none⟩) 16 cap ∧ 16 ≤ cap ∧ BytesAt W.heap.size W (.slice (some ⟨g, 0, none⟩) 16 cap) s ∧ BytesAt W.heap.size W (.slice (some ⟨g, 4, none⟩) 12 (cap - 4)) (s.drop 4)) := fun W v h => own_parts h hs hb
  have g1 := fun (W : World) v (h : BytesAt W.heap.size W v s) => refGet32_any W.heap.size v s W (by rw [hs]; omega) h
  have g2 := fun (W : World) v (h : BytesAt W.heap.size W v (s.drop 4)) => refGet_any W.heap.size v (s.drop 4) 8 W (by omega) (by simp [hs]) h
  have eN : getv 4 s = opN s := rfl
  have eY : getv 8 (s.drop 4) = opY s := rfl
  rw [eN] at g1
  rw [eY] at g2
  clear eN eY
  have HR : Hid (∀ W, Below (w.alloc (.cells (s.map enc).toArray 52)).heap.size (w.alloc (.cells (s.map enc).toArray 52)) W → W.rangeAt w.heap.size 0 (s.map enc)) := fun W h => (hA.below h hA.lt).range
  have HV : Hid (∀ j u, (s.map enc)[j]? = some u → ((w.alloc (.cells (s.map enc).toArray 52)).alloc (.cells #[] 5)).cell? ((⟨w.heap.size, 0, none⟩ : Addr).add j) = some u) := (hA.alloc _).values
  have H1 : Hid (∀ v ∈ s.map enc, v.oneCell' = true) := enc_one s
  have h28 : Tryz.prog.underlying 52 = some (.array 16 5) := Tryz.underlying52
  have hz : (Tryz.prog.info? 52).map (·.size) = some (s.map enc).length := by rw [List.length_map, hs]; exact Tryz.size52
  have HZ : Hid ((s.map enc).length = 16 * 1) := by show _ = _; rw [List.length_map, hs]
  have hB0 : Below w.heap.size w (w.alloc (.cells (s.map enc).toArray 52)) := below_alloc w _
  have esz : (w.alloc (.cells (s.map enc).toArray 52)).heap.size = w.heap.size + 1 := World.size_alloc _ _
  have hown0 : ((w.alloc (.cells (s.map enc).toArray 52)).alloc (.cells #[] 5)).ownsRow (w.alloc (.cells (s.map enc).toArray 52)).heap.size 5 1 (.slice (some ⟨(w.alloc (.cells (s.map enc).toArray 52)).heap.size, 0, none⟩) 0 0) 0 [] := World.ownsRow_made _ _ 0 (Nat.le_refl _) (by decide) rfl
  have hB1 : Below (w.alloc (.cells (s.map enc).toArray 52)).heap.size (w.alloc (.cells (s.map enc).toArray 52)) ((w.alloc (.cells (s.map enc).toArray 52)).alloc (.cells #[] 5)) := below_alloc _ _
  rw [esz] at hown0 hB1 HR HG
  obtain ⟨i0, hi, hz0, hz1, hz2⟩ := info_parts Tryz.info5
  clear hA he hs hb esz
  generalize recd (opN s) (opY s) = r at *
  generalize opN s = n at *
  generalize opY s = y at *
  generalize getB 4 s = t1 at *
  generalize getB 8 (s.drop 4) = t2 at *
  unfold arr at *
  generalize s.map enc = cs at *
  go_enter Tryz.func44, Tryz.ntmps44
  go_wp2_with (first
    | (at_builtin; refine wpList_append_own _ rfl _ _ 88 rfl (w.heap.size + 1) 5 i0 (.int .u8 0) 1 1 Tryz.underlying88 hi hz0 hz1 hz2 rfl (by decide) _ 0 [] rfl hown0 ⟨w.heap.size, 0, none⟩ 16 16 cs rfl HZ.out HV.out H1.out (by decide) (by decide) (by simp) ?_; intro v1 w2 hown1 hgrow1 _))
  have hB2 := below_append (by simp) hB1 hown0 hgrow1
  try rw [Nat.zero_add, List.nil_append] at hown1
  obtain ⟨g, cap, rfl, hcap, hI1, hI2⟩ := HG.out _ _ hown1
  replace g1 := g1 _ _ hI1
  replace g2 := g2 _ _ hI2
  have k1 : ¬ (cap = 4) := by omega
  have k2 : (4 : Int) ≤ (cap : Int) := by omega
  have hB := hB2.drew
  clear hown1 hgrow1 hown0 hB1 HG hI1 hI2 HV H1 HZ
  go_wp2_with (first
    | (go_at_call 61; refine g1.mono ?_; rintro e w1 ⟨rfl, rfl⟩)
    | (go_at_call 62; refine g2.mono ?_; rintro e w1 ⟨rfl, rfl⟩))
  go_region_held3 (fun W => W.rangeAt w.heap.size 0 cs) (exact HR.out _ hB) (first
    | (go_at_call 39; refine (q _).mono ?_; rintro e w1 ⟨rfl, hB1⟩; replace hB := hB.trans (hB1.mono (Nat.le_trans (by simp) hB.size))))
  go_wp2
  go_ret3
  exact ⟨rfl, hB0.trans (hB.mono (Nat.le_succ _))⟩

set_option maxRecDepth 100000 in
set_option maxHeartbeats 400000 in
/-- twainref05.Open, of what is none -/
theorem refOpen_not (s : List Nat) (w : World) (hs : s.length = 16) (hb : ∀ c ∈ s, c < 256) (he : s ≠ recd (opN s) (opY s)) :
    Calls Tryz.prog 44 #[arr s] w fun e w' => e = .returned (.tuple #[.int .u32 0, .int .u64 0, .bool false]) ∧ Below w.heap.size w w' := by
  have hn := opN_lt hb
  have hy := opY_lt hb
  have hA := arr_new w 52 s
  have q := fun w' => refRecord_any (opN s) (opY s) w' hn hy
  have hq : ∀ w : World, (binOp .neq 52 (arr (recd (opN s) (opY s))) (.agg (s.map enc).toArray)).run Tryz.prog w = .ok (.bool true) w := fun w => by
    have := neq_arr 52 16 Tryz.underlying52 (recd (opN s) (opY s)) s (recd_length _ _) hs (recd_byte _ _) hb w
    rw [decide_eq_false (Ne.symm he)] at this
    exact this
  have hgd : ∀ (x y : Operand) (w : World), (eqGuard .neq 52 x y (arr (recd (opN s) (opY s))) (.agg (s.map enc).toArray)).run Tryz.prog w = .ok () w := fun x y w => guard52 .neq x y _ s w
  have HG : Hid (∀ W v, W.ownsRow ((w.alloc (.cells (s.map enc).toArray 52)).heap.size) 5 1 v 16 (s.map enc) → ∃ g cap, v = .slice (some ⟨g, 0, none⟩) 16 cap ∧ 16 ≤ cap ∧ BytesAt W.heap.size W (.slice (some ⟨g, 0, none⟩) 16 cap) s ∧ BytesAt W.heap.size W (.slice (some ⟨g, 4, none⟩) 12 (cap - 4)) (s.drop 4)) := fun W v h => own_parts h hs hb
  have g1 := fun (W : World) v (h : BytesAt W.heap.size W v s) => refGet32_any W.heap.size v s W (by rw [hs]; omega) h
  have g2 := fun (W : World) v (h : BytesAt W.heap.size W v (s.drop 4)) => refGet_any W.heap.size v (s.drop 4) 8 W (by omega) (by simp [hs]) h
  have eN : getv 4 s = opN s := rfl
  have eY : getv 8 (s.drop 4) = opY s := rfl
  rw [eN] at g1
  rw [eY] at g2
  clear eN eY
  have HR : Hid (∀ W, Below (w.alloc (.cells (s.map enc).toArray 52)).heap.size (w.alloc (.cells (s.map enc).toArray 52)) W → W.rangeAt w.heap.size 0 (s.map enc)) := fun W h => (hA.below h hA.lt).range
  have HV : Hid (∀ j u, (s.map enc)[j]? = some u → ((w.alloc (.cells (s.map enc).toArray 52)).alloc (.cells #[] 5)).cell? ((⟨w.heap.size, 0, none⟩ : Addr).add j) = some u) := (hA.alloc _).values
  have H1 : Hid (∀ v ∈ s.map enc, v.oneCell' = true) := enc_one s
  have h28 : Tryz.prog.underlying 52 = some (.array 16 5) := Tryz.underlying52
  have hz : (Tryz.prog.info? 52).map (·.size) = some (s.map enc).length := by rw [List.length_map, hs]; exact Tryz.size52
  have HZ : Hid ((s.map enc).length = 16 * 1) := by show _ = _; rw [List.length_map, hs]
  have hB0 : Below w.heap.size w (w.alloc (.cells (s.map enc).toArray 52)) := below_alloc w _
  have esz : (w.alloc (.cells (s.map enc).toArray 52)).heap.size = w.heap.size + 1 := World.size_alloc _ _
  have hown0 : ((w.alloc (.cells (s.map enc).toArray 52)).alloc (.cells #[] 5)).ownsRow (w.alloc (.cells (s.map enc).toArray 52)).heap.size 5 1 (.slice (some ⟨(w.alloc (.cells (s.map enc).toArray 52)).heap.size, 0, none⟩) 0 0) 0 [] := World.ownsRow_made _ _ 0 (Nat.le_refl _) (by decide) rfl
  have hB1 : Below (w.alloc (.cells (s.map enc).toArray 52)).heap.size (w.alloc (.cells (s.map enc).toArray 52)) ((w.alloc (.cells (s.map enc).toArray 52)).alloc (.cells #[] 5)) := below_alloc _ _
  rw [esz] at hown0 hB1 HR HG
  obtain ⟨i0, hi, hz0, hz1, hz2⟩ := info_parts Tryz.info5
  clear hA he hs hb esz
  generalize recd (opN s) (opY s) = r at *
  generalize opN s = n at *
  generalize opY s = y at *
  generalize getB 4 s = t1 at *
  generalize getB 8 (s.drop 4) = t2 at *
  unfold arr at *
  generalize s.map enc = cs at *
  go_enter Tryz.func44, Tryz.ntmps44
  go_wp2_with (first
    | (at_builtin; refine wpList_append_own _ rfl _ _ 88 rfl (w.heap.size + 1) 5 i0 (.int .u8 0) 1 1 Tryz.underlying88 hi hz0 hz1 hz2 rfl (by decide) _ 0 [] rfl hown0 ⟨w.heap.size, 0, none⟩ 16 16 cs rfl HZ.out HV.out H1.out (by decide) (by decide) (by simp) ?_; intro v1 w2 hown1 hgrow1 _))
  have hB2 := below_append (by simp) hB1 hown0 hgrow1
  try rw [Nat.zero_add, List.nil_append] at hown1
  obtain ⟨g, cap, rfl, hcap, hI1, hI2⟩ := HG.out _ _ hown1
  replace g1 := g1 _ _ hI1
  replace g2 := g2 _ _ hI2
  have k1 : ¬ (cap = 4) := by omega
  have k2 : (4 : Int) ≤ (cap : Int) := by omega
  have hB := hB2.drew
  clear hown1 hgrow1 hown0 hB1 HG hI1 hI2 HV H1 HZ
  go_wp2_with (first
    | (go_at_call 61; refine g1.mono ?_; rintro e w1 ⟨rfl, rfl⟩)
    | (go_at_call 62; refine g2.mono ?_; rintro e w1 ⟨rfl, rfl⟩))
  go_region_held3 (fun W => W.rangeAt w.heap.size 0 cs) (exact HR.out _ hB) (first
    | (go_at_call 39; refine (q _).mono ?_; rintro e w1 ⟨rfl, hB1⟩; replace hB := hB.trans (hB1.mono (Nat.le_trans (by simp) hB.size))))
  go_wp2
  go_ret3
  exact ⟨rfl, hB0.trans (hB.mono (Nat.le_succ _))⟩

set_option maxRecDepth 100000 in
/-- twainref05.Open -/
theorem refOpen_any (s : List Nat) (w : World) (hs : s.length = 16) (hb : ∀ c ∈ s, c < 256) :
    Calls Tryz.prog 44 #[arr s] w fun e w' => e = .returned (.tuple #[.int .u32 (toldN s : Nat), .int .u64 (toldY s : Nat), .bool (isRec s)]) ∧ Below w.heap.size w w' := by
  by_cases he : s = recd (opN s) (opY s)
  · have h1 : isRec s = true := decide_eq_true he
    have h2 : toldN s = opN s := by unfold toldN; rw [h1]; rfl
    have h3 : toldY s = opY s := by unfold toldY; rw [h1]; rfl
    rw [h1, h2, h3]
    exact refOpen_is s w hs hb he
  · have h1 : isRec s = false := decide_eq_false he
    have h2 : toldN s = 0 := by unfold toldN; rw [h1]; rfl
    have h3 : toldY s = 0 := by unfold toldY; rw [h1]; rfl
    rw [h1, h2, h3]
    exact refOpen_not s w hs hb he

end Go.Proofs.YtekjlmnnaaodjaaGreat.Seal
