/-
 The walk of Next.
-/
import Derived.Test.YtoaeficfmcncjaaGreatM17
import Derived.Test.YtoaeficfmcncjaaGreatM3
namespace Go.Proofs.YtoaeficfmcncjaaGreat.Later
open Go.RowKit Go.Shelf
open Clash (Ow OwsAt)
attribute [local go_sem] Oper.semAt_some
def may (O : List Ow) (x : Lw) : Bool := Clash.verd false O x.o x.l == 0
def pick (O : List Ow) (L : List Lw) : Option Nat := L.findIdx? (may O)
def wentB (O : List Ow) (L : List Lw) : Bool := (pick O L).isSome
def wentW (O : List Ow) (L : List Lw) : Lw := match pick O L with | none => lw0 | some k => L[k]?.getD lw0
def leftL (O : List Ow) (L : List Lw) : List Lw := match pick O L with | none => L | some k => gone L k
theorem pick_none {O : List Ow} {L : List Lw} (h : ∀ (k : Nat) (x : Lw), L[k]? = some x → may O x = false) : pick O L = none := by
 refine List.findIdx?_eq_none_iff.2 fun x hx => ?_
 obtain ⟨k, hk⟩ := List.getElem?_of_mem hx
 exact h k x hk
theorem pick_some {O : List Ow} {L : List Lw} {k : Nat} {x : Lw} (hx : L[k]? = some x) (hm : may O x = true) (h : ∀ (j : Nat) (y : Lw), j < k → L[j]? = some y → may O y = false) : pick O L = some k := by
 have hk := (List.getElem?_eq_some_iff.1 hx)
 refine List.findIdx?_eq_some_iff_getElem.2 ⟨hk.1, by rw [hk.2]; exact hm, fun j hj => ?_⟩
 have hjl : j < L.length := Nat.lt_trans hj hk.1
 rw [h j L[j] hj (List.getElem?_eq_getElem hjl)]
 simp
set_option maxRecDepth 100000 in
theorem results_went {fn : Func} {p r : Tmp} (h : fn.results = #[.cell p 152, .cell r 4]) (tmps : Array Value) (w : World) (g k : Nat) (x : Lv) (b : Bool) (hp : tmps[p]? = some (.pointer (some ⟨g, 0, none⟩))) (hr : tmps[r]? = some (.pointer (some ⟨k, 0, none⟩))) (hv : Blk w g 152 #[.int .i64 x.id, .int .i64 x.o, .int .i64 x.l, .slice x.sa x.len x.cap]) (hb : Blk w k 4 #[.bool b]) :
  (results fn tmps).run Tryz.prog w = .ok (.tuple #[x.val, .bool b]) w := by
 have c0 := (hv.cell 0).trans (show _ = some (Value.int .i64 x.id) from rfl)
 have c1 := (hv.cell 1).trans (show _ = some (Value.int .i64 x.o) from rfl)
 have c2 := (hv.cell 2).trans (show _ = some (Value.int .i64 x.l) from rfl)
 have c3 := (hv.cell 3).trans (show _ = some (Value.slice x.sa x.len x.cap) from rfl)
 have c4 := (hb.cell 0).trans (show _ = some (Value.bool b) from rfl)
 simp [results, h, go_sem, hp, hr, c0, c1, c2, c3, c4, Lv.val]
structure NBox (W : World) (s q : Nat) (oa : Option Addr) (olen ocap : Nat) (y : Lv) (b : Bool) : Prop where
 p0 : Blk W s 100 #[.pointer (some ⟨q, 0, none⟩)]
 p1 : Blk W (s + 1) 233 #[.slice oa olen ocap]
 p2 : Blk W (s + 1 + 1) 152 #[.int .i64 y.id, .int .i64 y.o, .int .i64 y.l, .slice y.sa y.len y.cap]
 p3 : Blk W (s + 1 + 1 + 1) 4 #[.bool b]
theorem NBox.kept {K : List Nat} {W V : World} {s q : Nat} {oa : Option Addr} {olen ocap : Nat} {y : Lv} {b : Bool} (h : NBox W s q oa olen ocap y b) (hk : Kept K W V) (hK : ∀ k ∈ K, k < s ∨ s + 4 ≤ k) : NBox V s q oa olen ocap y b :=
 ⟨h.p0.kept hk (fun hm => by have := hK _ hm; omega), h.p1.kept hk (fun hm => by have := hK _ hm; omega), h.p2.kept hk (fun hm => by have := hK _ hm; omega), h.p3.kept hk (fun hm => by have := hK _ hm; omega)⟩
def wrote (W : World) (s : Nat) (X : Lv) (c : Bool) : World := ((((W.setCell ⟨s + 1 + 1, 0, none⟩ (.int .i64 X.id)).setCell ⟨s + 1 + 1, 1, none⟩ (.int .i64 X.o)).setCell ⟨s + 1 + 1, 2, none⟩ (.int .i64 X.l)).setCell ⟨s + 1 + 1, 3, none⟩ (.slice X.sa X.len X.cap)).setCell ⟨s + 1 + 1 + 1, 0, none⟩ (.bool c)
theorem NBox.tell {W : World} {s q : Nat} {oa : Option Addr} {olen ocap : Nat} {y : Lv} {b : Bool} (h : NBox W s q oa olen ocap y b) (X : Lv) (c : Bool) : NBox (wrote W s X c) s q oa olen ocap X c ∧ Kept [s + 1 + 1, s + 1 + 1 + 1] W (wrote W s X c) := by
 have k34 : Kept [s + 1 + 1] W ((((W.setCell ⟨s + 1 + 1, 0, none⟩ (.int .i64 X.id)).setCell ⟨s + 1 + 1, 1, none⟩ (.int .i64 X.o)).setCell ⟨s + 1 + 1, 2, none⟩ (.int .i64 X.l)).setCell ⟨s + 1 + 1, 3, none⟩ (.slice X.sa X.len X.cap)) :=
  (((kept_set (g := s + 1 + 1) (by simp) W 0 (.int .i64 X.id)).trans (kept_set (g := s + 1 + 1) (by simp) _ 1 (.int .i64 X.o))).trans (kept_set (g := s + 1 + 1) (by simp) _ 2 (.int .i64 X.l))).trans (kept_set (g := s + 1 + 1) (by simp) _ 3 (.slice X.sa X.len X.cap))
 have kl := kept_set (L := [s + 1 + 1 + 1]) (g := s + 1 + 1 + 1) (by simp) ((((W.setCell ⟨s + 1 + 1, 0, none⟩ (.int .i64 X.id)).setCell ⟨s + 1 + 1, 1, none⟩ (.int .i64 X.o)).setCell ⟨s + 1 + 1, 2, none⟩ (.int .i64 X.l)).setCell ⟨s + 1 + 1, 3, none⟩ (.slice X.sa X.len X.cap)) 0 (.bool c)
 refine ⟨⟨(h.p0.kept k34 (by simp; omega)).kept kl (by simp; omega), (h.p1.kept k34 (by simp)).kept kl (by simp), ?_, (h.p3.kept k34 (by simp)).set 0 (.bool c)⟩, (k34.mono (by simp)).trans (kl.mono (by simp))⟩
 exact ((((h.p2.set 0 (.int .i64 X.id)).set 1 (.int .i64 X.o)).set 2 (.int .i64 X.l)).set 3 (.slice X.sa X.len X.cap)).kept kl (by simp)
theorem nbox_own {B : Nat} {s q : Nat} {oa : Option Addr} {olen ocap : Nat} {y : Lv} {b : Bool} : OwnFrom B (fun (_ : Unit) W => NBox W s q oa olen ocap y b) := fun _ A V row h hg hr =>
 ⟨blk_own () A V row h.p0 hg hr, blk_own () A V row h.p1 hg hr, blk_own () A V row h.p2 hg hr, blk_own () A V row h.p3 hg hr⟩
theorem verd_go {O : List Ow} {x : Lw} (h : may O x = true) : Clash.verd false O x.o x.l = 0 := by simpa [may] using h
theorem verd_stay {O : List Ow} {x : Lw} (h : may O x = false) : Clash.verd false O x.o x.l = 3 := by
 unfold may Clash.verd at *
 cases ha : O.any (Clash.ps x.o x.l) with
 | true => simp
 | false => simp [ha] at h
theorem told_lw {P : List Lv} {L : List Lw} (h : P.map Lv.lw = L) {k : Nat} (hk : k < L.length) : L[k]? = some (told P k).lw := by
 subst h
 have hk' : k < P.length := by simpa using hk
 rw [List.getElem?_map, List.getElem?_eq_getElem hk']
 simp [told, hk']
theorem told_mem {P : List Lv} {L : List Lw} (h : P.map Lv.lw = L) {k : Nat} (hk : k < L.length) : told P k ∈ P := by
 subst h
 have hk' : k < P.length := by simpa using hk
 have : told P k = P[k] := by simp [told, hk']
 rw [this]
 exact List.getElem_mem hk'
theorem QAt.keptN {ts : List TypeId} {K : List Nat} {A B : World} {base q : Nat} {gr : Option Nat} {L : List Lw} (h : QAt A base q gr L) (hk : Kept K A B) (hq : q ∉ K) (hg : ∀ g, gr = some g → g ∉ K) (hf : Foot ts A K) (h1 : 5 ∉ ts) : QAt B base q gr L := by
 obtain ⟨v, P, b1, b2, b3, b4⟩ := h.blk
 exact ⟨⟨v, P, b1.kept hk hq, b2.kept hk hg, b3, fun x hx => (b4 x hx).kept hk hf h1⟩, h.low⟩
theorem QAt.cells {W : World} {base q : Nat} {gr : Option Nat} {L : List Lw} (h : QAt W base q gr L) : ∀ k ∈ q :: gr.toList, ∃ t c, Blk W k t c := fun k hk => by
 obtain ⟨v, P, h1, h2, _⟩ := h.blk
 rcases List.mem_cons.1 hk with e | e
 ·subst e
  exact ⟨_, _, h1⟩
 ·obtain ⟨_, _, c, hc⟩ := h2.low k (by simpa using e)
  exact ⟨_, _, hc⟩
set_option maxRecDepth 100000 in
set_option maxHeartbeats 4000000 in
theorem next_in (n : Nat) (hn : 3 ≤ n) {base q : Nat} {gr : Option Nat} {L : List Lw} (oa : Option Addr) (olen ocap : Nat) (O : List Ow) (w : World) (h : QAt w base q gr L) (hs : L.length ≤ 1000000) (hO : OwsAt w oa olen ocap O) (hol : olen ≤ 9223372036854775807) :
  CallsIn Fence.wide n Tryz.prog 149 #[.pointer (some ⟨q, 0, none⟩), .slice oa olen ocap] w fun e W' => ∃ y : Lv, e = .returned (.tuple #[y.val, .bool (wentB O L)]) ∧ y.lw = wentW O L ∧ y.At W' ∧ QAt W' base q gr (leftL O L) ∧ Kept (q :: gr.toList) w W' := by
 have h1 : 1 ≤ n := by omega
 have hro : Fence.wide.round = none := rfl
 refine callsIn_of_wp_marks Tryz.func149 rfl trivial ?_ hro
 simp only [Tryz.ntmps149, List.size_toArray, List.length_cons, List.length_nil, Nat.reduceAdd, Nat.reduceSub, Array.replicate_succ, Array.replicate_zero, List.push_toArray, List.append_toArray, List.nil_append, List.cons_append]
 gi_wp2_with (refine ⟨trivial, ?_⟩; gi_at_call 118; refine (callsIn_wide.2 (waiting_any _ _)).mono ?_; rintro e w' ⟨rfl, rfl⟩)
 have hb0 := blk_new w 100 #[.pointer (some ⟨q, 0, none⟩)]
 have k0 := kept_alloc [] w (.cells #[.pointer (some ⟨q, 0, none⟩)] 100)
 obtain ⟨W1, hW1⟩ : ∃ V, w.alloc (.cells #[.pointer (some ⟨q, 0, none⟩)] 100) = V := ⟨_, rfl⟩
 have s1 : W1.heap.size = w.heap.size + 1 := by rw [← hW1]; simp
 rw [hW1] at hb0 k0 ⊢
 have hb1 := blk_new W1 233 #[.slice oa olen ocap]
 have k1 := kept_alloc [] W1 (.cells #[.slice oa olen ocap] 233)
 obtain ⟨W2, hW2⟩ : ∃ V, W1.alloc (.cells #[.slice oa olen ocap] 233) = V := ⟨_, rfl⟩
 have s2 : W2.heap.size = w.heap.size + 1 + 1 := by rw [← hW2]; simp [s1]
 rw [hW2] at hb1 k1 ⊢
 rw [s1] at hb1
 have hb2 := blk_new W2 152 #[.int .i64 0, .int .i64 0, .int .i64 0, .slice none 0 0]
 have k2 := kept_alloc [] W2 (.cells #[.int .i64 0, .int .i64 0, .int .i64 0, .slice none 0 0] 152)
 obtain ⟨W3, hW3⟩ : ∃ V, W2.alloc (.cells #[.int .i64 0, .int .i64 0, .int .i64 0, .slice none 0 0] 152) = V := ⟨_, rfl⟩
 have s3 : W3.heap.size = w.heap.size + 1 + 1 + 1 := by rw [← hW3]; simp [s2]
 rw [hW3] at hb2 k2 ⊢
 rw [s2] at hb2
 have hb3 := blk_new W3 4 #[.bool false]
 have k3 := kept_alloc [] W3 (.cells #[.bool false] 4)
 obtain ⟨W4, hW4⟩ : ∃ V, W3.alloc (.cells #[.bool false] 4) = V := ⟨_, rfl⟩
 have s4 : W4.heap.size = w.heap.size + 1 + 1 + 1 + 1 := by rw [← hW4]; simp [s3]
 rw [hW4] at hb3 k3 ⊢
 rw [s3] at hb3
 have hb4 := blk_new W4 100 #[.pointer (some ⟨q, 0, none⟩)]
 have k4 := kept_alloc [] W4 (.cells #[.pointer (some ⟨q, 0, none⟩)] 100)
 obtain ⟨W5, hW5⟩ : ∃ V, W4.alloc (.cells #[.pointer (some ⟨q, 0, none⟩)] 100) = V := ⟨_, rfl⟩
 have s5 : W5.heap.size = w.heap.size + 1 + 1 + 1 + 1 + 1 := by rw [← hW5]; simp [s4]
 rw [hW5] at hb4 k4 ⊢
 rw [s4] at hb4
 replace hb0 := (((hb0.kept k1 (by simp)).kept k2 (by simp)).kept k3 (by simp)).kept k4 (by simp)
 replace hb1 := ((hb1.kept k2 (by simp)).kept k3 (by simp)).kept k4 (by simp)
 replace hb2 := (hb2.kept k3 (by simp)).kept k4 (by simp)
 replace hb3 := hb3.kept k4 (by simp)
 have hk := (((k0.trans k1).trans k2).trans k3).trans k4
 have hB := hk.below (Nat.le_refl _) (by simp)
 have hbox : NBox W5 w.heap.size q oa olen ocap lv0 false := ⟨hb0, hb1, hb2, hb3⟩
 clear hW1 hW2 hW3 hW4 hW5 s1 s2 s3 s4 k0 k1 k2 k3 k4 hb0 hb1 hb2 hb3
 obtain ⟨P, hP, hPat, hseq⟩ := waiting_stops (n - 1) (by omega) h hs (fun x => x % L.length) (fun k hk => Nat.mod_eq_of_lt hk) w.heap.size (w.heap.size + 1 + 1 + 1 + 1) W5 hB (Nat.le_refl _) hk.size (by omega) ((hb4.cell 0).trans rfl)
 have hlt := h.lt
 have hfq := h.foot
 have hKlt : ∀ k ∈ q :: gr.toList, k < w.heap.size := fun k hk => by
  rcases List.mem_cons.1 hk with e | e
  ·rw [e]; exact hlt.1
  ·exact (hlt.2 k (by simpa using e)).2.1
 refine wpIn_rangeFunc_ownH hro h1 (gf := 174) (lb := #[.pointer (some ⟨w.heap.size + 1 + 1 + 1 + 1, 0, none⟩)]) rfl trivial (enters_of Tryz.func174 (by kernel_rfl) rfl)
  hseq belowK_t (belowK_b (by omega)) (Below.refl _ _) (fun _ => rfl)
  (fun pre W => (∀ j ∈ pre, may O (told P (j % L.length)).lw = false) ∧ NBox W w.heap.size q oa olen ocap lv0 false ∧ Kept [] w W)
  (fun c pre W => c = .ret ∧ ∃ pre' x, pre = pre' ++ [x] ∧ (∀ j ∈ pre', may O (told P (j % L.length)).lw = false) ∧ may O (told P (x % L.length)).lw = true ∧ NBox W w.heap.size q oa olen ocap (told P (x % L.length)) true ∧ QAt W base q gr (gone L (x % L.length)) ∧ (told P (x % L.length)).At W ∧ Kept (q :: gr.toList) w W)
  (fun pre A B row hs hg hr => ⟨hs.1, nbox_own () A B row hs.2.1 hg hr, hs.2.2.youngs (kept_grownBy hg) (fun x hx => by have := (hr x (by simpa using hx)).1; right; omega)⟩)
  (fun c pre A B row hs hg hr => by
   obtain ⟨rfl, pre', x, e, a1, a2, a3, a4, a5, a6⟩ := hs
   have hF : Foot [] A row.toList := foot_other fun r e => (hr r e).2
   exact ⟨rfl, pre', x, e, a1, a2, nbox_own () A B row a3 hg hr, a4.kept (kept_grownBy hg) hF (by simp) (by simp) (by simp), a5.kept (kept_grownBy hg) hF (by simp), a6.youngs (kept_grownBy hg) (fun x hx => by have := (hr x (by simpa using hx)).1; right; omega)⟩)
  ⟨by simp, hbox, hk⟩
  (fun x a' W => ∃ B', a' = { tmps := #[.pointer (some ⟨q, 0, none⟩), .slice oa olen ocap, .pointer (some ⟨w.heap.size, 0, none⟩), .pointer (some ⟨w.heap.size + 1, 0, none⟩), .pointer (some ⟨w.heap.size + 1 + 1, 0, none⟩), .pointer (some ⟨w.heap.size + 1 + 1 + 1, 0, none⟩), .int .i64 ((x % L.length : Nat) : Int), .pointer (some ⟨B', 0, none⟩), .pointer (some ⟨q, 0, none⟩), .func (.func 174) #[] #[.pointer (some ⟨w.heap.size + 1 + 1 + 1 + 1, 0, none⟩)], .int .i64 ((x % L.length : Nat) : Int), (told P (x % L.length)).val, undef, undef, undef, undef, undef, undef, undef, undef, undef, undef], defers := [] } ∧ w.heap.size + 4 ≤ B' ∧ Blk W B' 152 #[.int .i64 (told P (x % L.length)).id, .int .i64 (told P (x % L.length)).o, .int .i64 (told P (x % L.length)).l, .slice (told P (x % L.length)).sa (told P (x % L.length)).len (told P (x % L.length)).cap])
  (fun x a' _ W W' row hs hg hrow => by obtain ⟨B', e, e2, hb⟩ := hs; exact ⟨B', e, e2, blk_own () W W' row hb hg hrow⟩) ?assign ?body ?done ?stop
 case assign =>
  intro l pre x W K hI hK
  unfold Lv.val at hK ⊢
  gi_wp2
  have ka := kept_alloc [] W (.cells #[.int .i64 (told P (x % L.length)).id, .int .i64 (told P (x % L.length)).o, .int .i64 (told P (x % L.length)).l, .slice (told P (x % L.length)).sa (told P (x % L.length)).len (told P (x % L.length)).cap] 152)
  obtain ⟨i1, i2, i3⟩ := hI
  exact hK _ _ (keepsFrom_of ka (by simp) _) (ka.below i3.size (by simp)) ⟨i1, i2.kept ka (by simp), i3.trans ka⟩ ⟨W.heap.size, rfl, by have := i2.p3.lt; omega, blk_new W _ _⟩
 case body =>
  rintro l pre x a' W _ _ ⟨i1, i2, i3⟩ ⟨B', rfl, hB', hb⟩ hlt'
  have hxl : x % L.length < L.length := Nat.mod_lt _ (by omega)
  obtain ⟨k, hkx⟩ : ∃ k, x % L.length = k := ⟨_, rfl⟩
  have hmem := told_mem hP hxl
  have hlw := told_lw hP hxl
  rw [hkx] at hb hxl hmem hlw ⊢
  obtain ⟨X, hX⟩ : ∃ X, told P k = X := ⟨_, rfl⟩
  rw [hX] at hb hmem hlw ⊢
  have hXA := (hPat X hmem).kept0 i3
  have d0 : W.cell? ⟨B', 0, none⟩ = some (.int .i64 X.id) := (hb.cell 0).trans rfl
  have d1 : W.cell? ⟨B', 1, none⟩ = some (.int .i64 X.o) := (hb.cell 1).trans rfl
  have d2 : W.cell? ⟨B', 2, none⟩ = some (.int .i64 X.l) := (hb.cell 2).trans rfl
  have d3 : W.cell? ⟨B', 3, none⟩ = some (.slice X.sa X.len X.cap) := (hb.cell 3).trans rfl
  have e1 : W.cell? ⟨w.heap.size + 1, 0, none⟩ = some (.slice oa olen ocap) := (i2.p1.cell 0).trans rfl
  have qv := Clash.verdict_any false X.o X.l oa olen ocap O hol W (hO.kept i3)
  have hd2 : 1 ≤ n - 1 - 1 := by omega
  unfold Lv.val
  cases hm : may O X.lw with
  | true =>
   have hv : Clash.verd false O X.o X.l = 0 := verd_go (x := X.lw) hm
   rw [hv] at qv
   have qc := fun V (kV : Kept [] W V) => cut_any V ((h.kept0 i3).kept0 kV) hs k hxl
   clear hv
   gi_wp2_with (first
    | (refine ⟨trivial, ?_⟩; gi_at_call 143; refine (CallsIn.inRound l (callsIn_wide.2 qv)).mono ?_; rintro e w5 ⟨rfl, k5⟩; have j2 := i2.kept k5 (by simp); have e50 := (j2.p0.cell 0).trans (show _ = some (Value.pointer (some ⟨q, 0, none⟩)) from rfl))
    | (refine ⟨trivial, ?_⟩; gi_at_call 208; refine (CallsIn.inRound l (callsIn_wide.2 (qc _ k5))).mono ?_; rintro e w6 ⟨rfl, hQ6, k6⟩; have b6 := (hb.kept k5 (by simp)).kept k6 (fun hm => by have := hKlt B' hm; omega); have j6 := j2.kept k6 (fun k hk => .inl (hKlt k hk)); have f0 := (b6.cell 0).trans (show _ = some (Value.int .i64 X.id) from rfl); have f1 := (b6.cell 1).trans (show _ = some (Value.int .i64 X.o) from rfl); have f2 := (b6.cell 2).trans (show _ = some (Value.int .i64 X.l) from rfl); have f3 := (b6.cell 3).trans (show _ = some (Value.slice X.sa X.len X.cap) from rfl); have r0 := (j6.p2.cell 0).trans (show _ = some (Value.int .i64 0) from rfl); have r1 := (j6.p2.cell 1).trans (show _ = some (Value.int .i64 0) from rfl); have r2 := (j6.p2.cell 2).trans (show _ = some (Value.int .i64 0) from rfl); have r3 := (j6.p2.cell 3).trans (show _ = some (Value.slice none 0 0) from rfl); have z0 := j6.p2.frozen 0; have z1 := j6.p2.frozen 1; have z2 := j6.p2.frozen 2; have z3 := j6.p2.frozen 3; have r4 := (j6.p3.cell 0).trans (show _ = some (Value.bool false) from rfl); have z4 := j6.p3.frozen 0))
   obtain ⟨y6, kS⟩ := j6.tell X true
   obtain ⟨V, hV⟩ : ∃ V, wrote w6 w.heap.size X true = V := ⟨_, rfl⟩
   rw [hV] at y6 kS
   have hF6 : Foot [152, 4] w6 [w.heap.size + 1 + 1, w.heap.size + 1 + 1 + 1] := Foot.cons (Foot.cons (foot_nil _ _) j6.p3 (by simp)) j6.p2 (by simp)
   have hX6 := ((hXA.kept0 k5).kept k6 ((h.kept0 (i3.trans k5)).foot) (by decide)).kept kS hF6 (by decide)
   have hQV : QAt V base q gr (gone L k) := hQ6.keptN kS (fun hm => by have := hlt.1; simp at hm; omega) (fun g hg hm => by have := (hlt.2 g hg).2.1; simp at hm; omega) hF6 (by decide)
   have hkV : Kept (q :: gr.toList) w V := (((i3.trans k5).mono (by simp)).trans k6).youngs kS (by simp; omega)
   have hkf := ((keepsFrom_of k5 (by simp) W5.heap.size).trans (keepsFrom_of k6 (h.kept0 (i3.trans k5)).cells _)).trans (keepsFrom_of kS (by simpa using ⟨⟨_, _, j6.p2⟩, ⟨_, _, j6.p3⟩⟩) _)
   refine ⟨?_, ?_⟩
   ·rw [← hV] at hkf
    exact hkf
   ·rw [← hV] at hkV y6 hQV hX6
    exact ⟨rfl, pre, x, rfl, i1, by rw [hkx, hX]; exact hm, by rw [hkx, hX]; exact y6, by rw [hkx]; exact hQV, by rw [hkx, hX]; exact hX6, hkV⟩
  | false =>
   have hv : Clash.verd false O X.o X.l = 3 := verd_stay (x := X.lw) hm
   rw [hv] at qv
   clear hv
   gi_wp2_with (refine ⟨trivial, ?_⟩; gi_at_call 143; refine (CallsIn.inRound l (callsIn_wide.2 qv)).mono ?_; rintro e w5 ⟨rfl, k5⟩)
   exact ⟨keepsFrom_of k5 (by simp) _, k5.below i3.size (by simp), fun j hj => by
    rcases List.mem_append.1 hj with hj | hj
    ·exact i1 j hj
    ·simp at hj
     subst hj
     rw [hkx, hX]
     exact hm, i2.kept k5 (by simp), i3.trans k5⟩
 case done =>
  rintro D ys W hD rfl ⟨i1, i2, i3⟩ hK
  have hpk : pick O L = none := pick_none fun k x hx => by
   have hkl := (List.getElem?_eq_some_iff.1 hx).1
   have := i1 k (by simpa using hkl)
   rw [Nat.mod_eq_of_lt hkl] at this
   rw [told_lw hP hkl] at hx
   rw [← Option.some.inj hx]
   exact this
  have hgone : Hid (wentB O L = false ∧ wentW O L = lw0 ∧ leftL O L = L) := (by refine ⟨?_, ?_, ?_⟩ <;> simp [wentB, wentW, leftL, hpk])
  have r0 := (i2.p2.cell 0).trans (show _ = some (Value.int .i64 0) from rfl)
  have r1 := (i2.p2.cell 1).trans (show _ = some (Value.int .i64 0) from rfl)
  have r2 := (i2.p2.cell 2).trans (show _ = some (Value.int .i64 0) from rfl)
  have r3 := (i2.p2.cell 3).trans (show _ = some (Value.slice none 0 0) from rfl)
  have z0 := i2.p2.frozen 0
  have z1 := i2.p2.frozen 1
  have z2 := i2.p2.frozen 2
  have z3 := i2.p2.frozen 3
  have r4 := (i2.p3.cell 0).trans (show _ = some (Value.bool false) from rfl)
  have z4 := i2.p3.frozen 0
  obtain ⟨y6, kS⟩ := i2.tell lv0 false
  have hlD := (Array.getElem?_eq_some_iff.1 hK).1
  have hK' : (wrote W w.heap.size lv0 false).heap[D]? = some (.deferred (some [])) := (kS.block D hlD (by simp; omega)).trans hK
  clear hpk
  gi_wp2
  refine ⟨by simp, .inl ⟨_, _, rfl, run_takeDeferred hK', ?_⟩⟩
  have hkP := kept_put (W := wrote W w.heap.size lv0 false) (D := D) (.deferred none)
  have yP := y6.kept hkP (by simp; omega)
  have hkk : Kept [] w ((wrote W w.heap.size lv0 false).putObj D (.deferred none)) := (i3.youngs kS (by simp; omega)).youngs hkP (by simp; omega)
  refine ⟨_, results_went rfl _ _ (w.heap.size + 1 + 1) (w.heap.size + 1 + 1 + 1) lv0 false rfl rfl yP.p2 yP.p3, lv0, by rw [hgone.out.1], by rw [hgone.out.2.1]; rfl, lv0_at _, by rw [hgone.out.2.2]; exact h.kept0 hkk, hkk.mono (by simp)⟩
 case stop =>
  rintro D c pre W hD ⟨k, hk', rfl⟩ ⟨rfl, pre', x, e, a1, a2, a3, a4, a5, a6⟩ hK
  rw [List.range_succ] at e
  obtain ⟨rfl, e2⟩ := List.append_inj' e rfl
  simp at e2
  subst e2
  rw [Nat.mod_eq_of_lt hk'] at a2 a3 a4 a5
  have hlw := told_lw hP hk'
  have hpk : pick O L = some k := pick_some hlw a2 fun j y hj hy => by
   have hjl := Nat.lt_trans hj hk'
   have := a1 j (by simpa using hj)
   rw [Nat.mod_eq_of_lt hjl] at this
   rw [told_lw hP hjl] at hy
   rw [← Option.some.inj hy]
   exact this
  have hgone : Hid (wentB O L = true ∧ wentW O L = (told P k).lw ∧ leftL O L = gone L k) := (by refine ⟨?_, ?_, ?_⟩ <;> simp [wentB, wentW, leftL, hpk, hlw])
  clear hpk
  gi_wp2
  refine ⟨by simp, .inl ⟨_, _, rfl, run_takeDeferred hK, ?_⟩⟩
  have hkP := kept_put (W := W) (D := D) (.deferred none)
  have hFP : Foot [] W [D] := foot_one hK rfl
  have yP := a3.kept hkP (by simp; omega)
  exact ⟨_, results_went rfl _ _ (w.heap.size + 1 + 1) (w.heap.size + 1 + 1 + 1) (told P k) true rfl rfl yP.p2 yP.p3, told P k, by rw [hgone.out.1], by rw [hgone.out.2.1], a5.kept hkP hFP (by simp), by rw [hgone.out.2.2]; exact a4.kept hkP hFP (by simp) (by simp) (by simp), a6.youngs hkP (by simp; omega)⟩
set_option maxRecDepth 100000 in
theorem next_any {base q : Nat} {gr : Option Nat} {L : List Lw} (oa : Option Addr) (olen ocap : Nat) (O : List Ow) (w : World) (h : QAt w base q gr L) (hs : L.length ≤ 1000000) (hO : OwsAt w oa olen ocap O) (hol : olen ≤ 9223372036854775807) :
  Calls Tryz.prog 149 #[.pointer (some ⟨q, 0, none⟩), .slice oa olen ocap] w fun e W' => ∃ y : Lv, e = .returned (.tuple #[y.val, .bool (wentB O L)]) ∧ y.lw = wentW O L ∧ y.At W' ∧ QAt W' base q gr (leftL O L) ∧ Kept (q :: gr.toList) w W' := callsIn_wide.1 (next_in 3 (Nat.le_refl _) oa olen ocap O w h hs hO hol)
end Go.Proofs.YtoaeficfmcncjaaGreat.Later
namespace Go.Proofs.YtoaeficfmcncjaaGreat.Pack
open Seal.Math
structure Ms where
 k : Int
 i : Int
 o : Int
 m : Nat
 s : Bool
 d : List Nat
def bit (s : Bool) : Nat := if s then 1 else 0
def Fine (x : Ms) : Prop :=
 1 ≤ x.k ∧ x.k ≤ 8 ∧ (x.k = 1 ∨ x.s = false ∧ x.m = 0) ∧ (2 ≤ x.k ∧ x.k ≤ 5 → 1 ≤ x.i ∧ x.i ≤ 72057594037927935) ∧ (¬ (2 ≤ x.k ∧ x.k ≤ 5) → x.i = 0) ∧
 (x.k = 2 → 0 ≤ x.o ∧ x.o ≤ 255) ∧ (x.k = 6 ∨ x.k = 7 → 0 ≤ x.o ∧ x.o ≤ 63) ∧ (¬ (x.k = 2 ∨ x.k = 6 ∨ x.k = 7) → x.o = 0) ∧
 (x.k = 2 → x.d.length % 16 = 0 ∧ 16 ≤ x.d.length ∧ x.d.length ≤ 128) ∧ (x.k = 6 → x.d.length = 64) ∧ (¬ (x.k = 2 ∨ x.k = 6) → x.d.length = 0)
def fineD (x : Ms) : Decidable (Fine x) := by
 unfold Fine
 infer_instance
def good (x : Ms) : Bool := @decide (Fine x) (fineD x)
theorem good_in {x : Ms} (h : Fine x) : good x = true := @decide_eq_true _ (fineD x) h
theorem good_out {x : Ms} (h : ¬ Fine x) : good x = false := @decide_eq_false _ (fineD x) h
theorem fine_of {x : Ms} (h : good x = true) : Fine x := @of_decide_eq_true _ (fineD x) h
def wasL (x : Ms) : List Nat := if x.k = 1 then bit x.s :: be 8 x.m else []
def idL (x : Ms) : List Nat := if 2 ≤ x.k ∧ x.k ≤ 5 then be 8 (x.i % 18446744073709551616).toNat else []
def offL (x : Ms) : List Nat := if x.k = 2 ∨ x.k = 6 ∨ x.k = 7 then be 2 (x.o % 65536).toNat else []
def hd (x : Ms) : List Nat := x.k.toNat :: (wasL x ++ (idL x ++ offL x))
theorem not_fine_kind {x : Ms} (h : x.k < 1 ∨ 8 < x.k) : ¬ Fine x := fun hf => by
 have := hf.1
 have := hf.2.1
 omega
end Go.Proofs.YtoaeficfmcncjaaGreat.Pack
namespace Go.Proofs.YtoaeficfmcncjaaGreat.Mirror
open Math
open Flight (Fw busy addL turnL endL endOk exts addOk)
open Later (Lw overL wentB wentW leftL lw0)
open Clash (Ow verd)
open Pack (Ms)
def ownsM (F : List (Int × Fw)) : List Ow := F.map fun x => ⟨x.2.o, x.2.l, !decide (x.2.st = 1)⟩
def storeE (d : Dk) (w : Lw) : Nat := if areaE d w.o w.l w.bs = 0 then flushE (areaS d w.o w.l w.bs) else areaE d w.o w.l w.bs
def storeS (d : Dk) (w : Lw) : Dk := if areaE d w.o w.l w.bs = 0 then flushS (areaS d w.o w.l w.bs) else areaS d w.o w.l w.bs
def msgOf (k : Int) (w : Lw) : Ms := if k = 2 then ⟨2, w.id, w.o, 0, false, w.bs⟩ else ⟨k, w.id, 0, 0, false, []⟩
structure Mr where
 d : Dk
 most : Nat
 hot : List Nat
 fly : List (Int × Fw)
 lat : List Lw
 arb : Bool
def fitsB (m : Mr) (o l : Int) (n : Nat) : Bool := Span.Math.good o l (dataN m.d : Nat) && decide ((n : Int) = l * 16)
def freeB (m : Mr) (t o l : Int) : Bool := !(Table.look m.fly t).isSome && (!busy m.fly o l && (!overL m.lat o l && Hot.fits m.most (Span.Math.ext o l) (exts m.fly) m.hot))
def heatH (m : Mr) (o l : Int) : List Nat := Hot.used m.most (Span.Math.ext o l) (exts m.fly) m.hot
def heatT (m : Mr) (o l : Int) : Bool := decide (Hot.mask (heatH m o l) ≠ Hot.mask m.hot)
def heatE (m : Mr) (o l : Int) : Nat := if heatT m o l then logE m.d (Hot.mask (heatH m o l)) else 0
def heatD (m : Mr) (o l : Int) : Dk := if heatT m o l then logS m.d (Hot.mask (heatH m o l)) else m.d
def askB (m : Mr) (t o l : Int) (n : Nat) : Bool := decide (1 ≤ t) && fitsB m o l n
def wrE (m : Mr) (w : Lw) : Nat :=
 if askB m w.id w.o w.l w.bs.length then if freeB m w.id w.o w.l then if heatE m w.o w.l = 0 then storeE (heatD m w.o w.l) w else heatE m w.o w.l else 0 else 2
def wrB (m : Mr) (w : Lw) : Bool := askB m w.id w.o w.l w.bs.length && freeB m w.id w.o w.l && decide (wrE m w = 0)
def wrS (m : Mr) (w : Lw) : Mr :=
 if askB m w.id w.o w.l w.bs.length then if freeB m w.id w.o w.l then
  if heatE m w.o w.l = 0 then { m with d := storeS (heatD m w.o w.l) w, hot := heatH m w.o w.l, fly := if storeE (heatD m w.o w.l) w = 0 then addL m.fly w.id w.o w.l w.bs else m.fly }
  else { m with d := heatD m w.o w.l, hot := heatH m w.o w.l }
 else m else m
def wrO (m : Mr) (w : Lw) : List Ms := if wrB m w then [msgOf 2 w] else []
def wOf (x : Ms) : Lw := ⟨x.i, x.o, ((x.d.length / 16 : Nat) : Int), x.d⟩
def dtV (m : Mr) (x : Ms) : Int := verd m.arb (ownsM m.fly) x.o ((x.d.length / 16 : Nat) : Int)
def dtE (m : Mr) (x : Ms) : Nat := if dtV m x = 0 then storeE m.d (wOf x) else 0
def dtO (m : Mr) (x : Ms) : List Ms := if dtV m x = 0 then if storeE m.d (wOf x) = 0 then [msgOf 3 (wOf x)] else [] else if dtV m x = 1 then [msgOf 4 (wOf x)] else if dtV m x = 2 then [msgOf 5 (wOf x)] else []
def dtS (m : Mr) (x : Ms) : Mr := if dtV m x = 0 then { m with d := storeS m.d (wOf x) } else if dtV m x = 3 then { m with lat := m.lat ++ [wOf x] } else m
def tkE (m : Mr) (x : Ms) : Nat := if Pack.good x then if x.k = 2 then dtE m x else 0 else 2
def tkO (m : Mr) (x : Ms) : List Ms := if Pack.good x then if x.k = 2 then dtO m x else [] else []
def tkT (m : Mr) (x : Ms) : List Int := if Pack.good x then if x.k = 3 ∨ x.k = 4 then if endOk m.fly x.i then [x.i] else [] else [] else []
def tkS (m : Mr) (x : Ms) : Mr := if Pack.good x then if x.k = 2 then dtS m x else if x.k = 3 ∨ x.k = 4 then { m with fly := endL m.fly x.i } else if x.k = 5 then { m with fly := turnL m.fly x.i 1 } else m else m
def applyR (O : List Ow) : Nat → Dk → List Lw → List Lw → Dk × List Lw × List Lw × Nat
 | 0, d, q, acc => (d, q, acc, 0)
 | n + 1, d, q, acc => if wentB O q then
   if storeE d (wentW O q) = 0 then applyR O n (storeS d (wentW O q)) (leftL O q) (acc ++ [wentW O q]) else (storeS d (wentW O q), leftL O q, acc, storeE d (wentW O q))
  else (d, q, acc, 0)
def lwOf (x : Int × Fw) : Lw := ⟨x.1, x.2.o, x.2.l, x.2.bs⟩
def againL (F : List (Int × Fw)) : List Lw := (F.filter fun x => decide (x.2.st = 1)).map lwOf
def resendR (q : List Lw) : List Lw → Dk → List (Int × Fw) → List Lw → Dk × List (Int × Fw) × List Lw × Nat
 | [], d, F, acc => (d, F, acc, 0)
 | w :: ws, d, F, acc => if overL q w.o w.l then resendR q ws d F acc else
   if storeE d w = 0 then resendR q ws (storeS d w) (turnL F w.id 0) (acc ++ [w]) else (storeS d w, F, acc, storeE d w)
def appR (m : Mr) : Dk × List Lw × List Lw × Nat := applyR (ownsM m.fly) m.lat.length m.d m.lat []
def resR (m : Mr) : Dk × List (Int × Fw) × List Lw × Nat := resendR (appR m).2.1 (againL m.fly) (appR m).1 m.fly []
def goE (m : Mr) : Nat := if (appR m).2.2.2 = 0 then (resR m).2.2.2 else (appR m).2.2.2
def goO (m : Mr) : List Ms := if goE m = 0 then (appR m).2.2.1.map (msgOf 3) ++ (resR m).2.2.1.map (msgOf 2) else []
def goS (m : Mr) : Mr := if (appR m).2.2.2 = 0 then { m with d := (resR m).1, fly := (resR m).2.1, lat := (appR m).2.1 } else { m with d := (appR m).1, lat := (appR m).2.1 }
end Go.Proofs.YtoaeficfmcncjaaGreat.Mirror
