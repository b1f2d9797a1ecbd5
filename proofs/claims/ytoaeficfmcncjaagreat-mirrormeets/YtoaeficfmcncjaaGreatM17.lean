/-
 What waiting tells.
-/
import Derived.RangeFuncNested
import Derived.Test.YtoaeficfmcncjaaGreatM16
namespace Go.Proofs.YtoaeficfmcncjaaGreat.Later
open Go.RowKit Go.Shelf
attribute [local go_sem] Oper.semAt_some
theorem foot_other {W : World} {row : Option Nat} (h : ∀ r, row = some r → ∃ o : Obj, W.heap[r]? = some o ∧ o.isCells = false) : Foot [] W row.toList := fun k hk t c hb => by
 obtain ⟨o, h1, h2⟩ := h k (by simpa using hk)
 unfold Blk at hb
 rw [hb] at h1
 injection h1 with h1
 subst h1
 cases h2
def told (P : List Lv) (k : Nat) : Lv := P[k]?.getD lv0
theorem told_at {P : List Lv} {k : Nat} {x : Lv} (h : P[k]? = some x) : told P k = x := by simp [told, h]
set_option maxRecDepth 100000 in
set_option maxHeartbeats 2000000 in
theorem waiting1_in (F : Fence) (n : Nat) (hf : F.fn 174) (hfm : F.fn 175) (hro : F.round = none) (hn : 1 ≤ n) (l Bq n₀ base q len cap : Nat) (a : Option Addr) (gr : Option Nat) (P : List Lv) (f : Nat → Nat) (hfk : ∀ k, k < len → f k = k) (hlen : P.length = len) (hl : len ≤ 1000000) (J Jx : List Nat → World → Prop)
  (hM : ∀ W, Raw W q a len cap → CallsIn F (n - 1) Tryz.prog 175 #[.pointer (some ⟨q, 0, none⟩)] W fun e w' => e = .returned (.bool true) ∧ w' = W)
  (hY : ∀ pre x W, J pre W → pre.length < len → YieldAt F (n - 1) Tryz.prog l #[.int .i64 ((f x : Nat) : Int), (told P (f x)).val] W fun e W' =>
   (e = .returned (.bool true) ∧ J (pre ++ [x]) W' ∧ Below n₀ W W') ∨ (e = .returned (.bool false) ∧ Jx (pre ++ [x]) W'))
  (W : World) (hJ : AbidesFrom W.heap.size J) (hBq : W.cell? ⟨Bq, 0, none⟩ = some (.pointer (some ⟨q, 0, none⟩))) (hR : Raw W q a len cap) (hr : RowAt 152 base W (.slice a len cap) P gr) (hgr : ∀ g, gr = some g → g < n₀) (hn₀ : n₀ ≤ W.heap.size) (h0 : J [] W) :
  CallsIn F n Tryz.prog 174 #[.func (.yield l) #[] #[], .pointer (some ⟨Bq, 0, none⟩)] W fun e W' => (∃ v, e = .returned v) ∧
   ((∃ ys, ys = List.range len ∧ J ys W') ∨ (∃ pre, (∃ k, k < len ∧ pre = List.range (k + 1)) ∧ Jx pre W')) := by
 have q0 := hM W hR
 have c1 := hR.two.2
 have hcap : len ≤ cap ∧ cap ≤ 9223372036854775807 := (by
  obtain ⟨_, _, e', hcap, hcm⟩ := hr.open
  injection e' with _ _ e3
  rw [e3]
  exact ⟨by omega, hcm⟩)
 obtain ⟨hcap, hcm⟩ := hcap
 replace hlen : Hid (P.length = len) := hlen
 refine callsIn_of_wp Tryz.func174 rfl hf ?_ hro
 simp only [Tryz.ntmps174, List.size_toArray, List.length_cons, List.length_nil, Nat.reduceAdd, Nat.reduceSub, Array.replicate_succ, Array.replicate_zero, List.push_toArray, List.append_toArray, List.nil_append, List.cons_append]
 gi_wp2_with (gi_at_call 175; refine q0.mono ?_; rintro e W ⟨rfl, rfl⟩)
 clear q0 hM
 gi_loopw [13] (fun i wr => ∃ k : Nat, k ≤ len ∧ i = .int .i64 k ∧ J (List.range k) wr ∧ Below n₀ W wr ∧ W.heap.size ≤ wr.heap.size)
  (fun i _ => len - (intOf i).toNat)
 case atStart => exact ⟨0, Nat.zero_le _, rfl, h0, Below.refl _ _, Nat.le_refl _⟩
 case round =>
  obtain ⟨k, hk, rfl, hJs, hnx, hsz⟩ := hrel
  by_cases hlt : k < len
  ·obtain ⟨x, hx⟩ : ∃ x, P[k]? = some x := ⟨_, List.getElem?_eq_getElem (by rw [hlen.out]; exact hlt)⟩
   obtain ⟨g, off, rfl, rfl, hcs⟩ := hr.at hx
   have hg0 := hgr g rfl
   have hcell := fun p => hnx.cell (p := ⟨g, p, none⟩) hg0
   obtain ⟨d0, d1, d2, d3⟩ := hcs [] W (Kept.refl _ _) (by simp)
   rw [← hcell] at d0 d1 d2 d3
   have i1 : (k : Int) < (len : Int) := by omega
   have hJ3 := hJ _ wr (wr.alloc (.cells #[.int .i64 x.id, .int .i64 x.o, .int .i64 x.l, .slice x.sa x.len x.cap] 152)) none hJs (World.grownBy_alloc wr _ none) (fun r e => by cases e)
   obtain ⟨fn, tmps, assign, body, hy, hRd⟩ := hY _ k _ hJ3 (by rw [List.length_range]; exact hlt)
   rw [hfk k hlt, told_at hx] at hy
   unfold Lv.val at hy
   have hb3 : Below n₀ wr (wr.alloc (.cells #[.int .i64 x.id, .int .i64 x.o, .int .i64 x.l, .slice x.sa x.len x.cap] 152)) := (Below.refl _ _).alloc (Nat.le_trans hn₀ hsz) _
   have hz3 := hb3.size
   replace hx : Hid _ := hx
   clear hcs hcell hY hJ hJ3 hr hfk
   gi_wp2
   refine hRd.mono ?_
   rintro e W3 (⟨rfl, hJ4, hk3⟩ | ⟨rfl, hJx3⟩)
   ·gi_wp2
    go_roundw
    case rel => exact ⟨k + 1, by omega, by go_num, by rw [List.range_succ]; exact hJ4, (hnx.trans hb3).trans hk3, Nat.le_trans hsz (Nat.le_trans hz3 hk3.size)⟩
    case measure => simp [intOf]; omega
   ·gi_wp2
    refine bodyPost_ret (results_none rfl _ _ _) rfl ?_
    exact ⟨⟨_, rfl⟩, .inr ⟨_, ⟨k, hlt, by rw [List.range_succ]⟩, hJx3⟩⟩
  ·obtain rfl : k = len := by omega
   have i1 : ¬ ((k : Int) < (k : Int)) := by omega
   gi_wp2
   go_end0
   exact ⟨⟨_, rfl⟩, .inl hJs⟩
set_option maxRecDepth 100000 in
theorem waiting_stops (n : Nat) (hn : 1 ≤ n) {w0 : World} {base q : Nat} {gr : Option Nat} {L : List Lw} (h : QAt w0 base q gr L) (hs : L.length ≤ 1000000) (f : Nat → Nat) (hfk : ∀ k, k < L.length → f k = k) (n₀ Bq : Nat) (w : World) (hk : Below w0.heap.size w0 w) (hn₀ : w0.heap.size ≤ n₀) (hnw : n₀ ≤ w.heap.size) (hb : Bq < w.heap.size) (hc : w.cell? ⟨Bq, 0, none⟩ = some (.pointer (some ⟨q, 0, none⟩))) :
  ∃ P : List Lv, P.map Lv.lw = L ∧ (∀ x ∈ P, x.At w0) ∧ SeqStopsK Fence.wide n Tryz.prog 174 #[.pointer (some ⟨Bq, 0, none⟩)] (fun x : Nat => #[.int .i64 ((f x : Nat) : Int), (told P (f x)).val]) (Below n₀) (fun ys => ys = List.range L.length) (fun pre => ∃ k, k < L.length ∧ pre = List.range (k + 1)) L.length w := by
 obtain ⟨a, cap, P, hR, hr, hl, hat, hPl, hc1, hc2⟩ := h.three
 refine ⟨P, hl, hat, fun l J Jx W hW hJ _ hY h0 => ?_⟩
 have hlt := h.lt
 have hWk : Kept [] w0 W := Kept.of_below (hk.trans (hW.mono hk.size)) []
 exact waiting1_in Fence.wide n trivial trivial rfl hn l Bq n₀ base q L.length cap a gr P f hfk hPl hs J Jx (fun V hV => callsIn_wide.2 (made_any V hV)) hY W hJ ((hW.cell (p := ⟨Bq, 0, none⟩) hb).trans hc) (hR.kept hWk (by simp)) (hr.kept0 hWk) (fun g hg => Nat.lt_of_lt_of_le (hlt.2 g hg).2.1 hn₀) (Nat.le_trans hnw hW.size) h0
end Go.Proofs.YtoaeficfmcncjaaGreat.Later
namespace Go.Proofs.YtoaeficfmcncjaaGreat
theorem Kept.youngs {L M : List Nat} {a b c : World} (h : Kept L a b) (k : Kept M b c) (hM : ∀ x ∈ M, x ∈ L ∨ a.heap.size ≤ x) : Kept L a c :=
 ⟨k.os.trans h.os, k.tape.trans h.tape, k.output.trans h.output, Nat.le_trans h.size k.size, fun i hi hL => (k.block i (Nat.lt_of_lt_of_le hi h.size) (fun hm => by
  rcases hM i hm with e | e
  ·exact hL e
  ·omega)).trans (h.block i hi hL)⟩
end Go.Proofs.YtoaeficfmcncjaaGreat
namespace Go.Proofs.YtoaeficfmcncjaaGreat.Later
open Go.RowKit Go.Shelf
attribute [local go_sem] Oper.semAt_some
theorem kept_put {W : World} {D : Nat} (o : Obj) : Kept [D] W (W.putObj D o) := ⟨rfl, rfl, rfl, by simp [World.putObj], fun k _ hk => World.putObj_heap_other (by simpa [eq_comm] using hk)⟩
theorem foot_one {W : World} {D : Nat} {o : Obj} (h : W.heap[D]? = some o) (ho : o.isCells = false) : Foot [] W [D] := fun k hk t c hb => by
 simp at hk
 subst hk
 unfold Blk at hb
 rw [hb] at h
 injection h with h
 subst h
 cases ho
set_option maxRecDepth 100000 in
theorem results_bool {fn : Func} {p : Tmp} (h : fn.results = #[.cell p 4]) (tmps : Array Value) (w : World) (g : Nat) (v : Value) (hp : tmps[p]? = some (.pointer (some ⟨g, 0, none⟩))) (hv : w.cell? ⟨g, 0, none⟩ = some v) :
  (results fn tmps).run Tryz.prog w = .ok v w := by
 simp [results, h, go_sem, hp, hv]
theorem keepsFrom_of {K : List Nat} {W V : World} (h : Kept K W V) (hK : ∀ k ∈ K, ∃ t c, Blk W k t c) (B : Nat) : KeepsFrom B W V := ⟨h.size, fun k o _ ho hc => (h.block k (Array.getElem?_eq_some_iff.1 ho).1 (fun hm => by
 obtain ⟨t, c, hb⟩ := hK k hm
 unfold Blk at hb
 rw [hb] at ho
 injection ho with ho
 subst ho
 cases hc)).trans ho⟩
theorem blk_own {B : Nat} {g : Nat} {t : TypeId} {cs : Array Value} : OwnFrom B (fun (_ : Unit) W => Blk W g t cs) := fun _ A V row h hg hr => h.kept (kept_grownBy hg) ((foot_other fun r e => (hr r e).2).ne h (by simp))
def overL (L : List Lw) (p m : Int) : Bool := L.any fun x => Span.Math.over x.o x.l p m
set_option maxRecDepth 100000 in
set_option maxHeartbeats 2000000 in
theorem over_in (n : Nat) (hn : 3 ≤ n) {base q : Nat} {gr : Option Nat} {L : List Lw} (p m : Int) (w : World) (h : QAt w base q gr L) (hs : L.length ≤ 1000000) :
  CallsIn Fence.wide n Tryz.prog 126 #[.pointer (some ⟨q, 0, none⟩), .agg #[.int .i64 p, .int .i64 m]] w fun e W' => e = .returned (.bool (overL L p m)) ∧ Kept [] w W' := by
 have h1 : 1 ≤ n := by omega
 have hro : Fence.wide.round = none := rfl
 refine callsIn_of_wp_marks Tryz.func126 rfl trivial ?_ hro
 simp only [Tryz.ntmps126, List.size_toArray, List.length_cons, List.length_nil, Nat.reduceAdd, Nat.reduceSub, Array.replicate_succ, Array.replicate_zero, List.push_toArray, List.append_toArray, List.nil_append, List.cons_append]
 gi_wp2_with (refine ⟨trivial, ?_⟩; gi_at_call 118; refine (callsIn_wide.2 (waiting_any _ _)).mono ?_; rintro e w' ⟨rfl, rfl⟩)
 have hb0 := blk_new w 44 #[.int .i64 p, .int .i64 m]
 have k1 := kept_alloc [] w (.cells #[.int .i64 p, .int .i64 m] 44)
 obtain ⟨W1, hW1⟩ : ∃ W1, w.alloc (.cells #[.int .i64 p, .int .i64 m] 44) = W1 := ⟨_, rfl⟩
 have s1 : W1.heap.size = w.heap.size + 1 := by rw [← hW1]; simp
 rw [hW1] at hb0 k1 ⊢
 have hb1 := blk_new W1 4 #[.bool false]
 have k2 := kept_alloc [] W1 (.cells #[.bool false] 4)
 obtain ⟨W2, hW2⟩ : ∃ W2, W1.alloc (.cells #[.bool false] 4) = W2 := ⟨_, rfl⟩
 have s2 : W2.heap.size = w.heap.size + 1 + 1 := by rw [← hW2]; simp [s1]
 rw [hW2] at hb1 k2 ⊢
 have hb2 := blk_new W2 100 #[.pointer (some ⟨q, 0, none⟩)]
 have k3 := kept_alloc [] W2 (.cells #[.pointer (some ⟨q, 0, none⟩)] 100)
 obtain ⟨W3, hW3⟩ : ∃ W3, W2.alloc (.cells #[.pointer (some ⟨q, 0, none⟩)] 100) = W3 := ⟨_, rfl⟩
 have s3 : W3.heap.size = w.heap.size + 1 + 1 + 1 := by rw [← hW3]; simp [s2]
 rw [hW3] at hb2 k3 ⊢
 rw [s1] at hb1
 rw [s2] at hb2
 replace hb0 := (hb0.kept k2 (by simp)).kept k3 (by simp)
 replace hb1 := hb1.kept k3 (by simp)
 have hk := (k1.trans k2).trans k3
 have hB := hk.below (Nat.le_refl _) (by simp)
 clear hW1 hW2 hW3 s1 s2 k1 k2 k3
 obtain ⟨P, hP, -, hseq⟩ := waiting_stops (n - 1) (by omega) h hs (fun x => x) (fun _ _ => rfl) w.heap.size (w.heap.size + 1 + 1) W3 hB (Nat.le_refl _) hk.size (by omega) ((hb2.cell 0).trans rfl)
 have hPl : P.length = L.length := by rw [← hP, List.length_map]
 refine wpIn_rangeFunc_ownH hro h1 (gf := 174) (lb := #[.pointer (some ⟨w.heap.size + 1 + 1, 0, none⟩)]) rfl trivial (enters_of Tryz.func174 (by kernel_rfl) rfl)
  hseq belowK_t (belowK_b (by omega)) (Below.refl _ _) (fun _ => rfl)
  (fun pre W => (∀ j ∈ pre, Span.Math.over (told P j).o (told P j).l p m = false) ∧ Blk W w.heap.size 44 #[.int .i64 p, .int .i64 m] ∧ Blk W (w.heap.size + 1) 4 #[.bool false] ∧ Kept [] w W)
  (fun c pre W => c = .ret ∧ (∃ j ∈ pre, Span.Math.over (told P j).o (told P j).l p m = true) ∧ Blk W (w.heap.size + 1) 4 #[.bool true] ∧ Kept [] w W)
  (fun pre A B row hs hg hr => ⟨hs.1, blk_own () A B row hs.2.1 hg hr, blk_own () A B row hs.2.2.1 hg hr, hs.2.2.2.youngs (kept_grownBy hg) (fun x hx => by have := (hr x (by simpa using hx)).1; right; omega)⟩)
  (fun c pre A B row hs hg hr => ⟨hs.1, hs.2.1, blk_own () A B row hs.2.2.1 hg hr, hs.2.2.2.youngs (kept_grownBy hg) (fun x hx => by have := (hr x (by simpa using hx)).1; right; omega)⟩)
  ⟨by simp, hb0, hb1, hk⟩
  (fun x a' W => ∃ B', a' = { tmps := #[.pointer (some ⟨q, 0, none⟩), .agg #[.int .i64 p, .int .i64 m], undef, .pointer (some ⟨w.heap.size, 0, none⟩), .pointer (some ⟨w.heap.size + 1, 0, none⟩), undef, .pointer (some ⟨B', 0, none⟩), .pointer (some ⟨q, 0, none⟩), .func (.func 174) #[] #[.pointer (some ⟨w.heap.size + 1 + 1, 0, none⟩)], .int .i64 ((x : Nat) : Int), (told P x).val, undef, undef, undef, undef], defers := [] } ∧ Blk W B' 152 #[.int .i64 (told P x).id, .int .i64 (told P x).o, .int .i64 (told P x).l, .slice (told P x).sa (told P x).len (told P x).cap])
  (fun x a' _ W W' row hs hg hrow => by obtain ⟨B', e, hb⟩ := hs; exact ⟨B', e, blk_own () W W' row hb hg hrow⟩) ?assign ?body ?done ?stop
 case assign =>
  intro l pre x W K hI hK
  unfold Lv.val at hK ⊢
  gi_wp2
  have ka := kept_alloc [] W (.cells #[.int .i64 (told P x).id, .int .i64 (told P x).o, .int .i64 (told P x).l, .slice (told P x).sa (told P x).len (told P x).cap] 152)
  obtain ⟨i1, i2, i3, i4⟩ := hI
  exact hK _ _ (keepsFrom_of ka (by simp) _) (ka.below i4.size (by simp)) ⟨i1, i2.kept ka (by simp), i3.kept ka (by simp), i4.trans ka⟩ ⟨W.heap.size, rfl, blk_new W _ _⟩
 case body =>
  rintro l pre x a' W _ _ ⟨i1, i2, i3, i4⟩ ⟨B', rfl, hb⟩ hlt
  have d1 : W.cell? ⟨B', 1, none⟩ = some (.int .i64 (told P x).o) := (hb.cell 1).trans rfl
  have d2 : W.cell? ⟨B', 2, none⟩ = some (.int .i64 (told P x).l) := (hb.cell 2).trans rfl
  have e0 : W.cell? ⟨w.heap.size, 0, none⟩ = some (.int .i64 p) := (i2.cell 0).trans rfl
  have e1 : W.cell? ⟨w.heap.size, 1, none⟩ = some (.int .i64 m) := (i2.cell 1).trans rfl
  have qo := Span.overlap_any (told P x).o (told P x).l p m W
  have hd2 : 1 ≤ n - 1 - 1 := by omega
  unfold Lv.val
  cases ho : Span.Math.over (told P x).o (told P x).l p m with
  | true =>
   rw [ho] at qo
   gi_wp2_with (refine ⟨trivial, ?_⟩; gi_at_call 178; refine (CallsIn.inRound l (callsIn_wide.2 qo)).mono ?_; rintro e w5 ⟨rfl, hB5⟩; have k5 := Kept.of_below hB5 []; have j3 := i3.kept k5 (by simp); have c3 := (j3.cell 0).trans (show _ = some (Value.bool false) from rfl); have f3 := j3.frozen 0)
   have kS := kept_set (L := [w.heap.size + 1]) (g := w.heap.size + 1) (by simp) w5 0 (.bool true)
   exact ⟨(keepsFrom_of k5 (by simp) _).trans (keepsFrom_of kS (by simpa using ⟨_, _, j3⟩) _), rfl, ⟨x, by simp, ho⟩, j3.set 0 _, (i4.trans k5).youngs kS (by simp)⟩
  | false =>
   rw [ho] at qo
   gi_wp2_with (refine ⟨trivial, ?_⟩; gi_at_call 178; refine (CallsIn.inRound l (callsIn_wide.2 qo)).mono ?_; rintro e w5 ⟨rfl, hB5⟩; have k5 := Kept.of_below hB5 [])
   exact ⟨keepsFrom_of k5 (by simp) _, k5.below i4.size (by simp), ⟨fun j hj => by
    rcases List.mem_append.1 hj with hj | hj
    ·exact i1 j hj
    ·simp at hj
     subst hj
     exact ho, i2.kept k5 (by simp), i3.kept k5 (by simp), i4.trans k5⟩⟩
 case done =>
  rintro D ys W hD rfl ⟨i1, i2, i3, i4⟩ hK
  have c3 := (i3.cell 0).trans (show _ = some (Value.bool false) from rfl)
  have f3 := i3.frozen 0
  have hfalse : overL L p m = false := by
   refine List.any_eq_false.2 fun x hx => ?_
   rw [← hP] at hx
   obtain ⟨y, hy, rfl⟩ := List.mem_map.1 hx
   obtain ⟨j, hj⟩ := List.getElem?_of_mem hy
   have hjl := (List.getElem?_eq_some_iff.1 hj).1
   have := i1 j (by simp; omega)
   rw [told_at hj] at this
   simpa [Lv.lw] using this
  replace hfalse : Hid _ := hfalse
  gi_wp2
  have kS := kept_set (L := [w.heap.size + 1]) (g := w.heap.size + 1) (by simp) W 0 (.bool false)
  have hlD := (Array.getElem?_eq_some_iff.1 hK).1
  have hK' : (W.setCell ⟨w.heap.size + 1, 0, none⟩ (.bool false)).heap[D]? = some (.deferred (some [])) := (kS.block D hlD (by simp; omega)).trans hK
  refine ⟨by simp, .inl ⟨_, _, rfl, run_takeDeferred hK', ?_⟩⟩
  have hkP := kept_put (W := W.setCell ⟨w.heap.size + 1, 0, none⟩ (.bool false)) (D := D) (.deferred none)
  exact ⟨_, results_bool rfl _ _ (w.heap.size + 1) _ rfl ((((i3.set 0 _).kept hkP (by simp; omega)).cell 0).trans rfl), by rw [hfalse.out]; rfl, (i4.youngs kS (by simp)).youngs hkP (by simp; omega)⟩
 case stop =>
  rintro D c pre W hD ⟨k, hk', rfl⟩ ⟨rfl, ⟨j, hj, ho⟩, i3, i4⟩ hK
  have htrue : overL L p m = true := by
   simp at hj
   obtain ⟨y, hy⟩ : ∃ y, P[j]? = some y := ⟨_, List.getElem?_eq_getElem (by omega)⟩
   rw [told_at hy] at ho
   refine List.any_eq_true.2 ⟨y.lw, ?_, ho⟩
   rw [← hP]
   exact List.mem_map.2 ⟨y, List.mem_of_getElem? hy, rfl⟩
  replace htrue : Hid _ := htrue
  gi_wp2
  refine ⟨by simp, .inl ⟨_, _, rfl, run_takeDeferred hK, ?_⟩⟩
  have hkP := kept_put (W := W) (D := D) (.deferred none)
  exact ⟨_, results_bool rfl _ _ (w.heap.size + 1) _ rfl (((i3.kept hkP (by simp; omega)).cell 0).trans rfl), by rw [htrue.out]; rfl, i4.youngs hkP (by simp; omega)⟩
set_option maxRecDepth 100000 in
theorem over_any {base q : Nat} {gr : Option Nat} {L : List Lw} (p m : Int) (w : World) (h : QAt w base q gr L) (hs : L.length ≤ 1000000) :
  Calls Tryz.prog 126 #[.pointer (some ⟨q, 0, none⟩), .agg #[.int .i64 p, .int .i64 m]] w fun e W' => e = .returned (.bool (overL L p m)) ∧ Kept [] w W' := callsIn_wide.1 (over_in 3 (Nat.le_refl _) p m w h hs)
def SpsAt (W : World) (v : Value) (l : List (Int × Int)) : Prop :=
 ∃ a cap, v = .slice a l.length cap ∧ l.length ≤ cap ∧ (l = [] ∨ ∃ b off, a = some ⟨b, off, none⟩ ∧ b < W.heap.size ∧ ∀ j x, l[j]? = some x → W.cell? ⟨b, off + j * 2, none⟩ = some (.int .i64 x.1) ∧ W.cell? ⟨b, off + j * 2 + 1, none⟩ = some (.int .i64 x.2))
def spC (l : List (Int × Int)) : List Value := l.flatMap fun x => [.int .i64 x.1, .int .i64 x.2]
theorem spC_at : ∀ (l : List (Int × Int)) (j : Nat) (x : Int × Int), l[j]? = some x → (spC l)[j * 2]? = some (.int .i64 x.1) ∧ (spC l)[j * 2 + 1]? = some (.int .i64 x.2)
 | [], j, x, h => by simp at h
 | y :: l, 0, x, h => by
  simp at h
  subst h
  exact ⟨rfl, rfl⟩
 | y :: l, j + 1, x, h => by
  have e : ∀ c, (spC (y :: l))[(j + 1) * 2 + c]? = (spC l)[j * 2 + c]? := fun c => by
   show ([.int .i64 y.1, .int .i64 y.2] ++ spC l : List Value)[(j + 1) * 2 + c]? = _
   rw [List.getElem?_append_right (by simp; omega)]
   congr 1
   simp
   omega
  have := spC_at l j x (by simpa using h)
  have e0 := e 0
  rw [Nat.add_zero, Nat.add_zero] at e0
  rw [e0, e 1]
  exact this
theorem sps_owns {W : World} {base : Nat} {v : Value} {l : List (Int × Int)} (h : W.ownsRow base 44 2 v l.length (spC l)) : SpsAt W v l := by
 obtain ⟨_, ⟨rfl, h0⟩ | ⟨g, cap, cur, rfl, hb, hg, h1, h2, h3, h4⟩⟩ := h
 ·have : l = [] := List.eq_nil_of_length_eq_zero h0
  subst this
  exact ⟨none, 0, rfl, Nat.le_refl _, .inl rfl⟩
 ·refine ⟨_, cap, rfl, h1, .inr ⟨g, 0, rfl, (Array.getElem?_eq_some_iff.1 hg).1, fun j x hx => ?_⟩⟩
  have hj := (List.getElem?_eq_some_iff.1 hx).1
  obtain ⟨e1, e2⟩ := spC_at l j x hx
  rw [← h4, List.getElem?_take, if_pos (by omega), Array.getElem?_toList] at e1
  rw [← h4, List.getElem?_take, if_pos (by omega), Array.getElem?_toList] at e2
  rw [cell_of_row W g _ cur _ (0, 0) hg, cell_of_row W g _ cur _ (0, 0) hg, Nat.zero_add]
  exact ⟨e1, e2⟩
def sps (L : List Lw) : List (Int × Int) := L.map fun x => (x.o, x.l)
set_option maxRecDepth 100000 in
theorem Tryz.infoSp : (Tryz.prog.info? 44).map (fun i => (i.zero, i.size, i.bytes)) = some (some (.agg #[.int .i64 0, .int .i64 0]), 2, 16) := by kernel_rfl
def spT (P : List Lv) (pre : List Nat) : List (Int × Int) := pre.map fun j => ((told P j).o, (told P j).l)
theorem spT_all {P : List Lv} {L : List Lw} (h : P.map Lv.lw = L) : spT P (List.range L.length) = sps L := by
 subst h
 apply List.ext_getElem?
 intro j
 simp only [spT, sps, List.getElem?_map, List.length_map]
 by_cases hj : j < P.length
 ·rw [List.getElem?_range hj, List.getElem?_eq_getElem hj]
  simp [told, hj, Lv.lw]
 ·rw [List.getElem?_eq_none (by simpa using hj), List.getElem?_eq_none (by omega)]
  rfl
set_option maxRecDepth 100000 in
set_option maxHeartbeats 2000000 in
theorem spans_in (n : Nat) (hn : 3 ≤ n) {base q : Nat} {gr : Option Nat} {L : List Lw} (w : World) (h : QAt w base q gr L) (hs : L.length ≤ 1000000) :
  CallsIn Fence.wide n Tryz.prog 62 #[.pointer (some ⟨q, 0, none⟩)] w fun e W' => ∃ v, e = .returned v ∧ SpsAt W' v (sps L) ∧ Kept [] w W' := by
 have h1 : 1 ≤ n := by omega
 have hro : Fence.wide.round = none := rfl
 obtain ⟨i0, hi0, hz0, hz1, hz2⟩ := info_parts Tryz.infoSp
 refine callsIn_of_wp_marks Tryz.func62 rfl trivial ?_ hro
 simp only [Tryz.ntmps62, List.size_toArray, List.length_cons, List.length_nil, Nat.reduceAdd, Nat.reduceSub, Array.replicate_succ, Array.replicate_zero, List.push_toArray, List.append_toArray, List.nil_append, List.cons_append]
 gi_wp2_with (refine ⟨trivial, ?_⟩; gi_at_call 118; refine (callsIn_wide.2 (waiting_any _ _)).mono ?_; rintro e w' ⟨rfl, rfl⟩)
 have bO := Boxed.new w 66 (.slice none 0 0)
 have hB0 : Below w.heap.size w (w.alloc (.cells #[.slice none 0 0] 66)) := (Below.refl _ w).alloc (Nat.le_refl _) _
 obtain ⟨W1, hW1⟩ : ∃ W1, w.alloc (.cells #[.slice none 0 0] 66) = W1 := ⟨_, rfl⟩
 have s1 : W1.heap.size = w.heap.size + 1 := by rw [← hW1]; simp
 rw [hW1] at bO hB0 ⊢
 have hb2 := blk_new W1 100 #[.pointer (some ⟨q, 0, none⟩)]
 have k3 := kept_alloc [] W1 (.cells #[.pointer (some ⟨q, 0, none⟩)] 100)
 replace bO := bO.alloc (.cells #[.pointer (some ⟨q, 0, none⟩)] 100)
 obtain ⟨W3, hW3⟩ : ∃ W3, W1.alloc (.cells #[.pointer (some ⟨q, 0, none⟩)] 100) = W3 := ⟨_, rfl⟩
 have s3 : W3.heap.size = w.heap.size + 1 + 1 := by rw [← hW3]; simp [s1]
 rw [hW3] at hb2 k3 bO ⊢
 rw [s1] at hb2
 have hB : Below w.heap.size w W3 := hB0.trans (k3.below (by omega) (by simp))
 clear hW1 hW3 hB0 k3
 obtain ⟨P, hP, -, hseq⟩ := waiting_stops (n - 1) (by omega) h hs (fun x => x) (fun _ _ => rfl) w.heap.size (w.heap.size + 1) W3 hB (Nat.le_refl _) hB.size (by omega) ((hb2.cell 0).trans rfl)
 refine wpIn_rangeFunc_ownH hro h1 (gf := 174) (lb := #[.pointer (some ⟨w.heap.size + 1, 0, none⟩)]) rfl trivial (enters_of Tryz.func174 (by kernel_rfl) rfl)
  hseq belowK_t (belowK_b (by omega)) (Below.refl _ _) (fun _ => rfl)
  (fun pre W => (∃ v, Boxed W w.heap.size 66 v ∧ W.ownsRow w.heap.size 44 2 v pre.length (spC (spT P pre)) ∧ True) ∧ Below w.heap.size w W)
  (fun _ _ _ => False)
  (OwnFrom.and (Own.from (holdsRow_own w.heap.size w.heap.size 66 44 2 (fun pre : List Nat => pre.length) (fun pre => spC (spT P pre)) (fun _ _ => True)) _) (ownFrom_below (Nat.le_refl _) (by omega)))
  (fun _ _ _ _ _ hs _ _ => hs)
  ⟨⟨_, bO, World.ownsRow_nil _ _ _ _, trivial⟩, hB⟩
  (fun x a' W => ∃ B', a' = { tmps := #[.pointer (some ⟨q, 0, none⟩), undef, .slice none 0 0, .pointer (some ⟨w.heap.size, 0, none⟩), undef, .pointer (some ⟨B', 0, none⟩), .pointer (some ⟨q, 0, none⟩), .func (.func 174) #[] #[.pointer (some ⟨w.heap.size + 1, 0, none⟩)], .int .i64 ((x : Nat) : Int), (told P x).val, undef, undef, undef, undef, undef, undef], defers := [] } ∧ Blk W B' 152 #[.int .i64 (told P x).id, .int .i64 (told P x).o, .int .i64 (told P x).l, .slice (told P x).sa (told P x).len (told P x).cap])
  (fun x a' _ W W' row hs hg hrow => by obtain ⟨B', e, hb⟩ := hs; exact ⟨B', e, blk_own () W W' row hb hg hrow⟩) ?assign ?body ?done ?stop
 case assign =>
  intro l pre x W K hI hK
  unfold Lv.val at hK ⊢
  gi_wp2
  have ka := kept_alloc [] W (.cells #[.int .i64 (told P x).id, .int .i64 (told P x).o, .int .i64 (told P x).l, .slice (told P x).sa (told P x).len (told P x).cap] 152)
  obtain ⟨⟨v, hv, hrow, _⟩, hB⟩ := hI
  exact hK _ _ (keepsFrom_of ka (by simp) _) (ka.below hB.size (by simp)) ⟨⟨v, hv.alloc _, hrow.alloc _, trivial⟩, hB.alloc hB.size _⟩ ⟨W.heap.size, rfl, blk_new W _ _⟩
 case body =>
  rintro l pre x a' W _ _ ⟨⟨v, hv, hrow, _⟩, hB⟩ ⟨B', rfl, hb⟩ hlt
  have hc := hv.cell
  have d1 : W.cell? ⟨B', 1, none⟩ = some (.int .i64 (told P x).o) := (hb.cell 1).trans rfl
  have d2 : W.cell? ⟨B', 2, none⟩ = some (.int .i64 (told P x).l) := (hb.cell 2).trans rfl
  have hnew : ∀ (j : Nat) (u : Value), ([.int .i64 (told P x).o, .int .i64 (told P x).l] : List Value)[j]? = some u → (W.alloc (.cells #[.int .i64 (told P x).o, .int .i64 (told P x).l] 44)).cell? (Addr.add ⟨W.heap.size, 0, none⟩ j) = some u := fun j u hj => by
   have := (blk_new W 44 #[.int .i64 (told P x).o, .int .i64 (told P x).l]).cell j
   rw [Go.WideShapes.add_plain, Nat.zero_add, this, ← hj]
   simp
  have hlH : Hid (pre.length ≤ 1000000) := (by show _ ≤ _; omega)
  unfold Lv.val
  gi_wp2_with (gi_at_builtin; refine wpListIn_append_own _ rfl _ _ 66 rfl w.heap.size 44 i0 _ 2 16 Tryz.underlying66 hi0 hz0 hz1 hz2 rfl (by decide) _ _ _ rfl (hrow.alloc _) ⟨W.heap.size, 0, none⟩ 1 1 [.int .i64 (told P x).o, .int .i64 (told P x).l] rfl rfl hnew (by simp [Value.oneCell']) (by have := hlH.out; unfold maxLen; omega) (by have := hlH.out; omega) (by have := hB.size; simp; omega) ?_; intro v' w1 hown' hgrow _; obtain ⟨g', cap', rfl⟩ := ownsRow_succ hown'; obtain ⟨hv1, hv2, hr2, hk2, hb2⟩ := hv.appended (by decide) hrow hB.size (Nat.le_refl _) hown' hgrow; have hc1 := hv1.cell; have hf1 := hv1.frozen)
  exact ⟨hk2.from _, hb2, ⟨⟨_, hv2, by simpa [spT, spC] using hr2, trivial⟩, hB.trans hb2⟩⟩
 case done =>
  rintro D' ys W hD' rfl ⟨⟨v, hv, hrow, _⟩, hB⟩ hK
  have hc := hv.cell
  gi_wp2
  refine ⟨by simp, .inl ⟨_, _, rfl, run_takeDeferred hK, ?_⟩⟩
  have hrow' := ownsRow_putObj hrow (.deferred none) hK rfl
  rw [spT_all hP, show (List.range L.length).length = (sps L).length by simp [sps]] at hrow'
  exact ⟨_, results_tmp rfl _ _ _, v, rfl, sps_owns hrow', Kept.of_below (hB.trans (belowK_b (w := w) (Nat.le_refl _) W D' _ _ (by omega) hK rfl rfl)) []⟩
 case stop =>
  rintro D' c pre W _ _ h _
  exact h.elim
set_option maxRecDepth 100000 in
theorem spans_any {base q : Nat} {gr : Option Nat} {L : List Lw} (w : World) (h : QAt w base q gr L) (hs : L.length ≤ 1000000) :
  Calls Tryz.prog 62 #[.pointer (some ⟨q, 0, none⟩)] w fun e W' => ∃ v, e = .returned v ∧ SpsAt W' v (sps L) ∧ Kept [] w W' := callsIn_wide.1 (spans_in 3 (Nat.le_refl _) w h hs)
end Go.Proofs.YtoaeficfmcncjaaGreat.Later
