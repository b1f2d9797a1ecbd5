/-
  A queue that no call made; the walk of LaterNone.
-/
import Derived.Test.YthlnhmdeoapoeaaLtH
namespace Go.Proofs.Ythlnhmdeoapoeaa.Later
open Go.RowKit Go.Shelf

attribute [local go_sem] Oper.semAt_some

/-- A queue that no call made. -/
def NoQ (W : World) (p : Option Addr) : Prop := p = none ∨ ∃ k, p = some ⟨k, 0, none⟩ ∧ Blk W k 58 #[.bool false, .slice none 0 0]
theorem NoQ.kept {A B : World} {p : Option Addr} (h : NoQ A p) (hk : Kept [] A B) : NoQ B p := by
  rcases h with h | ⟨k, h1, h2⟩
  · exact .inl h
  · exact .inr ⟨k, h1, h2.kept hk (by simp)⟩
set_option maxRecDepth 100000 in
/-- isMade -/
theorem made_none (p : Option Addr) (w : World) (h : NoQ w p) : Calls Try.prog 23 #[.pointer p] w fun e w' => e = .returned (.bool false) ∧ w' = w := by
  rcases h with rfl | ⟨k, rfl, h⟩
  · go_enter Try.func23, Try.ntmps23
    go_wp2
    go_ret
    exact ⟨rfl, rfl⟩
  · have c0 := (h.cell 0).trans (show _ = some (Value.bool false) from rfl)
    go_enter Try.func23, Try.ntmps23
    go_wp2
    go_ret
    exact ⟨rfl, rfl⟩
set_option maxRecDepth 100000 in
/-- Len -/
theorem len_none (p : Option Addr) (w : World) (h : NoQ w p) : Calls Try.prog 13 #[.pointer p] w fun e w' => e = .returned (.int .i64 0) ∧ w' = w := by
  have q := made_none p w h
  clear h
  go_enter Try.func13, Try.ntmps13
  go_wp2_with (go_at_call 23; refine q.mono ?_; rintro e w ⟨rfl, rfl⟩)
  go_ret
  exact ⟨rfl, rfl⟩
set_option maxRecDepth 100000 in
/-- Push -/
theorem push_none (p : Option Addr) (id o l : Int) (sa : Option Addr) (len cap : Nat) (w : World) (h : NoQ w p) : Calls Try.prog 11 #[.pointer p, .int .i64 id, .agg #[.int .i64 o, .int .i64 l], .slice sa len cap] w fun e w' => e = .returned (.bool false) ∧ Kept [] w w' := by
  have ka := kept_alloc [] w (.cells #[.int .i64 o, .int .i64 l] 24)
  have q := made_none p _ (h.kept ka)
  clear h
  go_enter Try.func11, Try.ntmps11
  go_wp2_with (go_at_call 23; refine q.mono ?_; rintro e w1 ⟨rfl, rfl⟩)
  go_ret
  exact ⟨rfl, ka⟩
set_option maxRecDepth 100000 in
set_option maxHeartbeats 1000000 in
/-- waiting's closure: no round. -/
theorem waiting1_none (F : Fence) (n : Nat) (hf : F.fn 27) (_hfm : F.fn 23) (hro : F.round = none) (l Bq : Nat) (p : Option Addr) (J : List Unit → World → Prop) (W : World)
    (hM : CallsIn F (n - 1) Try.prog 23 #[.pointer p] W fun e w' => e = .returned (.bool false) ∧ w' = W) (hn : 1 ≤ n) (hBq : W.cell? ⟨Bq, 0, none⟩ = some (.pointer p)) (h0 : J [] W) :
    CallsIn F n Try.prog 27 #[.func (.yield l) #[] #[], .pointer (some ⟨Bq, 0, none⟩)] W fun e W' => (∃ v, e = .returned v) ∧ J [] W' := by
  refine callsIn_of_wp Try.func27 rfl hf ?_ hro
  simp only [Try.ntmps27, List.size_toArray, List.length_cons, List.length_nil, Nat.reduceAdd, Nat.reduceSub, Array.replicate_succ, Array.replicate_zero, List.push_toArray, List.append_toArray, List.nil_append, List.cons_append]
  gi_wp2_with (gi_at_call 23; refine hM.mono ?_; rintro e W ⟨rfl, rfl⟩)
  refine bodyPost_ret (results_none rfl _ _ _) rfl ?_
  exact ⟨⟨_, rfl⟩, h0⟩
set_option maxRecDepth 100000 in
theorem waiting_stops_none (n : Nat) (hn : 1 ≤ n) (p : Option Addr) (Bq : Nat) (w : World) (h : NoQ w p) (hb : Bq < w.heap.size) (hc : w.cell? ⟨Bq, 0, none⟩ = some (.pointer p)) :
    SeqStopsK Fence.wide n Try.prog 27 #[.pointer (some ⟨Bq, 0, none⟩)] (fun _ : Unit => #[.int .i64 0, lv0.val]) (fun _ _ => True) (fun ys => ys = []) (fun _ => False) 0 w := fun l J Jx W hW _ _ _ h0 => by
  have hWk : Kept [] w W := Kept.of_below hW []
  refine (waiting1_none Fence.wide n trivial trivial rfl l Bq p J W (callsIn_wide.2 (made_none p W (h.kept hWk))) hn ((hW.cell (p := ⟨Bq, 0, none⟩) hb).trans hc) h0).mono ?_
  rintro e W' ⟨h1, h2⟩
  exact ⟨h1, .inl ⟨[], rfl, h2⟩⟩
set_option maxRecDepth 100000 in
set_option maxHeartbeats 2000000 in
/-- Over -/
theorem over_none_in (n : Nat) (hn : 3 ≤ n) (p : Option Addr) (o l : Int) (w : World) (h : NoQ w p) :
    CallsIn Fence.wide n Try.prog 14 #[.pointer p, .agg #[.int .i64 o, .int .i64 l]] w fun e W' => e = .returned (.bool false) ∧ Kept [] w W' := by
  have h1 : 1 ≤ n := by omega
  have hro : Fence.wide.round = none := rfl
  refine callsIn_of_wp_marks Try.func14 rfl trivial ?_ hro
  simp only [Try.ntmps14, List.size_toArray, List.length_cons, List.length_nil, Nat.reduceAdd, Nat.reduceSub, Array.replicate_succ, Array.replicate_zero, List.push_toArray, List.append_toArray, List.nil_append, List.cons_append]
  gi_wp2_with (refine ⟨trivial, ?_⟩; gi_at_call 19; refine (callsIn_wide.2 (waiting_any _ _)).mono ?_; rintro e w' ⟨rfl, rfl⟩)
  have hb0 := blk_new w 24 #[.int .i64 o, .int .i64 l]
  have k0 := kept_alloc [] w (.cells #[.int .i64 o, .int .i64 l] 24)
  obtain ⟨W1, hW1⟩ : ∃ V, w.alloc (.cells #[.int .i64 o, .int .i64 l] 24) = V := ⟨_, rfl⟩
  have s1 : W1.heap.size = w.heap.size + 1 := by rw [← hW1]; simp
  rw [hW1] at hb0 k0 ⊢
  have hb1 := blk_new W1 4 #[.bool false]
  have k1 := kept_alloc [] W1 (.cells #[.bool false] 4)
  obtain ⟨W2, hW2⟩ : ∃ V, W1.alloc (.cells #[.bool false] 4) = V := ⟨_, rfl⟩
  have s2 : W2.heap.size = w.heap.size + 1 + 1 := by rw [← hW2]; simp [s1]
  rw [hW2] at hb1 k1 ⊢
  rw [s1] at hb1
  have hb2 := blk_new W2 26 #[.pointer p]
  have k2 := kept_alloc [] W2 (.cells #[.pointer p] 26)
  obtain ⟨W3, hW3⟩ : ∃ V, W2.alloc (.cells #[.pointer p] 26) = V := ⟨_, rfl⟩
  have s3 : W3.heap.size = w.heap.size + 1 + 1 + 1 := by rw [← hW3]; simp [s2]
  rw [hW3] at hb2 k2 ⊢
  rw [s2] at hb2
  replace hb0 := (hb0.kept k1 (by simp)).kept k2 (by simp)
  replace hb1 := hb1.kept k2 (by simp)
  have hk := (k0.trans k1).trans k2
  refine wpIn_rangeFunc_ownH hro h1 (gf := 27) (lb := #[.pointer (some ⟨w.heap.size + 1 + 1, 0, none⟩)]) rfl trivial (enters_of Try.func27 (by kernel_rfl) rfl)
    (waiting_stops_none (n - 1) (by omega) p _ W3 (h.kept hk) (by omega) ((hb2.cell 0).trans rfl)) (fun _ _ => trivial) (fun _ _ _ _ _ _ _ _ => trivial) (Below.refl _ _) (fun _ => rfl)
    (fun _ W => Blk W (w.heap.size + 1) 4 #[.bool false] ∧ Kept [] w W) (fun _ _ _ => False)
    (fun _ A B row hs hg hr => ⟨blk_own () A B row hs.1 hg hr, hs.2.youngs (kept_grownBy hg) (fun x hx => by have := (hr x (by simpa using hx)).1; right; omega)⟩)
    (fun _ _ _ _ _ hs _ _ => hs) ⟨hb1, hk⟩ (fun _ _ _ => True) (fun _ _ _ _ _ _ hs _ _ => hs) ?assign ?body ?done ?stop
  case assign =>
    intro l pre x W K hI hK
    unfold lv0 Lv.val
    gi_wp2
    have ka := kept_alloc [] W (.cells #[.int .i64 0, .int .i64 0, .int .i64 0, .slice none 0 0] 37)
    exact hK _ _ (keepsFrom_of ka (by simp) _) trivial ⟨hI.1.kept ka (by simp), hI.2.trans ka⟩ trivial
  case body =>
    intro l pre x a' W _ _ _ _ hlt
    exact absurd hlt (Nat.not_lt_zero _)
  case done =>
    rintro D ys W hD rfl ⟨i3, i4⟩ hK
    have c3 := (i3.cell 0).trans (show _ = some (Value.bool false) from rfl)
    have f3 := i3.frozen 0
    gi_wp2
    have kS := kept_set (L := [w.heap.size + 1]) (g := w.heap.size + 1) (by simp) W 0 (.bool false)
    have hlD := (Array.getElem?_eq_some_iff.1 hK).1
    have hK' : (W.setCell ⟨w.heap.size + 1, 0, none⟩ (.bool false)).heap[D]? = some (.deferred (some [])) := (kS.block D hlD (by simp; omega)).trans hK
    refine ⟨by simp, .inl ⟨_, _, rfl, run_takeDeferred hK', ?_⟩⟩
    have hkP := kept_put (W := W.setCell ⟨w.heap.size + 1, 0, none⟩ (.bool false)) (D := D) (.deferred none)
    exact ⟨_, results_bool rfl _ _ (w.heap.size + 1) _ rfl ((((i3.set 0 _).kept hkP (by simp; omega)).cell 0).trans rfl), rfl, (i4.youngs kS (by simp)).youngs hkP (by simp; omega)⟩
  case stop =>
    rintro D c pre W _ h _
    exact h.elim
set_option maxRecDepth 100000 in
theorem over_none (p : Option Addr) (o l : Int) (w : World) (h : NoQ w p) : Calls Try.prog 14 #[.pointer p, .agg #[.int .i64 o, .int .i64 l]] w fun e W' => e = .returned (.bool false) ∧ Kept [] w W' := callsIn_wide.1 (over_none_in 3 (Nat.le_refl _) p o l w h)
set_option maxRecDepth 100000 in
set_option maxHeartbeats 2000000 in
/-- Spans -/
theorem spans_none_in (n : Nat) (hn : 3 ≤ n) (p : Option Addr) (w : World) (h : NoQ w p) :
    CallsIn Fence.wide n Try.prog 17 #[.pointer p] w fun e W' => e = .returned (.slice none 0 0) ∧ Kept [] w W' := by
  have h1 : 1 ≤ n := by omega
  have hro : Fence.wide.round = none := rfl
  refine callsIn_of_wp_marks Try.func17 rfl trivial ?_ hro
  simp only [Try.ntmps17, List.size_toArray, List.length_cons, List.length_nil, Nat.reduceAdd, Nat.reduceSub, Array.replicate_succ, Array.replicate_zero, List.push_toArray, List.append_toArray, List.nil_append, List.cons_append]
  gi_wp2_with (refine ⟨trivial, ?_⟩; gi_at_call 19; refine (callsIn_wide.2 (waiting_any _ _)).mono ?_; rintro e w' ⟨rfl, rfl⟩)
  have hb0 := blk_new w 50 #[.slice none 0 0]
  have k0 := kept_alloc [] w (.cells #[.slice none 0 0] 50)
  obtain ⟨W1, hW1⟩ : ∃ V, w.alloc (.cells #[.slice none 0 0] 50) = V := ⟨_, rfl⟩
  have s1 : W1.heap.size = w.heap.size + 1 := by rw [← hW1]; simp
  rw [hW1] at hb0 k0 ⊢
  have hb1 := blk_new W1 26 #[.pointer p]
  have k1 := kept_alloc [] W1 (.cells #[.pointer p] 26)
  obtain ⟨W2, hW2⟩ : ∃ V, W1.alloc (.cells #[.pointer p] 26) = V := ⟨_, rfl⟩
  have s2 : W2.heap.size = w.heap.size + 1 + 1 := by rw [← hW2]; simp [s1]
  rw [hW2] at hb1 k1 ⊢
  rw [s1] at hb1
  replace hb0 := hb0.kept k1 (by simp)
  have hk := k0.trans k1
  refine wpIn_rangeFunc_ownH hro h1 (gf := 27) (lb := #[.pointer (some ⟨w.heap.size + 1, 0, none⟩)]) rfl trivial (enters_of Try.func27 (by kernel_rfl) rfl)
    (waiting_stops_none (n - 1) (by omega) p _ W2 (h.kept hk) (by omega) ((hb1.cell 0).trans rfl)) (fun _ _ => trivial) (fun _ _ _ _ _ _ _ _ => trivial) (Below.refl _ _) (fun _ => rfl)
    (fun _ W => Blk W (w.heap.size) 50 #[.slice none 0 0] ∧ Kept [] w W) (fun _ _ _ => False)
    (fun _ A B row hs hg hr => ⟨blk_own () A B row hs.1 hg hr, hs.2.youngs (kept_grownBy hg) (fun x hx => by have := (hr x (by simpa using hx)).1; right; omega)⟩)
    (fun _ _ _ _ _ hs _ _ => hs) ⟨hb0, hk⟩ (fun _ _ _ => True) (fun _ _ _ _ _ _ hs _ _ => hs) ?assign ?body ?done ?stop
  case assign =>
    intro l pre x W K hI hK
    unfold lv0 Lv.val
    gi_wp2
    have ka := kept_alloc [] W (.cells #[.int .i64 0, .int .i64 0, .int .i64 0, .slice none 0 0] 37)
    exact hK _ _ (keepsFrom_of ka (by simp) _) trivial ⟨hI.1.kept ka (by simp), hI.2.trans ka⟩ trivial
  case body =>
    intro l pre x a' W _ _ _ _ hlt
    exact absurd hlt (Nat.not_lt_zero _)
  case done =>
    rintro D ys W hD rfl ⟨i3, i4⟩ hK
    have c3 := (i3.cell 0).trans (show _ = some (Value.slice none 0 0) from rfl)
    gi_wp2
    refine ⟨by simp, .inl ⟨_, _, rfl, run_takeDeferred hK, ?_⟩⟩
    have hkP := kept_put (W := W) (D := D) (.deferred none)
    exact ⟨_, results_tmp rfl _ _ _, rfl, i4.youngs hkP (by simp; omega)⟩
  case stop =>
    rintro D c pre W _ h _
    exact h.elim
set_option maxRecDepth 100000 in
theorem spans_none (p : Option Addr) (w : World) (h : NoQ w p) : Calls Try.prog 17 #[.pointer p] w fun e W' => e = .returned (.slice none 0 0) ∧ Kept [] w W' := callsIn_wide.1 (spans_none_in 3 (Nat.le_refl _) p w h)
theorem wrote_two {W : World} {s : Nat} {c : Array Value} {b : Bool} (h2 : Blk W (s + 1 + 1) 37 c) (h3 : Blk W (s + 1 + 1 + 1) 4 #[.bool b]) (X : Lv) (d : Bool) (hc : c.size = 4 := by rfl) : Blk (wrote W s X d) (s + 1 + 1) 37 #[.int .i64 X.id, .int .i64 X.o, .int .i64 X.l, .slice X.sa X.len X.cap] ∧ Blk (wrote W s X d) (s + 1 + 1 + 1) 4 #[.bool d] ∧ Kept [s + 1 + 1, s + 1 + 1 + 1] W (wrote W s X d) := by
  have k34 : Kept [s + 1 + 1] W ((((W.setCell ⟨s + 1 + 1, 0, none⟩ (.int .i64 X.id)).setCell ⟨s + 1 + 1, 1, none⟩ (.int .i64 X.o)).setCell ⟨s + 1 + 1, 2, none⟩ (.int .i64 X.l)).setCell ⟨s + 1 + 1, 3, none⟩ (.slice X.sa X.len X.cap)) :=
    (((kept_set (g := s + 1 + 1) (by simp) W 0 (.int .i64 X.id)).trans (kept_set (g := s + 1 + 1) (by simp) _ 1 (.int .i64 X.o))).trans (kept_set (g := s + 1 + 1) (by simp) _ 2 (.int .i64 X.l))).trans (kept_set (g := s + 1 + 1) (by simp) _ 3 (.slice X.sa X.len X.cap))
  have kl := kept_set (L := [s + 1 + 1 + 1]) (g := s + 1 + 1 + 1) (by simp) ((((W.setCell ⟨s + 1 + 1, 0, none⟩ (.int .i64 X.id)).setCell ⟨s + 1 + 1, 1, none⟩ (.int .i64 X.o)).setCell ⟨s + 1 + 1, 2, none⟩ (.int .i64 X.l)).setCell ⟨s + 1 + 1, 3, none⟩ (.slice X.sa X.len X.cap)) 0 (.bool d)
  refine ⟨?_, (h3.kept k34 (by simp)).set 0 (.bool d), (k34.mono (by simp)).trans (kl.mono (by simp))⟩
  have := ((((h2.set 0 (.int .i64 X.id)).set 1 (.int .i64 X.o)).set 2 (.int .i64 X.l)).set 3 (.slice X.sa X.len X.cap)).kept kl (by simp)
  rw [show (((c.setIfInBounds 0 (.int .i64 X.id)).setIfInBounds 1 (.int .i64 X.o)).setIfInBounds 2 (.int .i64 X.l)).setIfInBounds 3 (.slice X.sa X.len X.cap) = #[.int .i64 X.id, .int .i64 X.o, .int .i64 X.l, .slice X.sa X.len X.cap] from ?_] at this
  · exact this
  · obtain ⟨l⟩ := c
    match l, hc with
    | [a, b, c, d], _ => rfl
set_option maxRecDepth 100000 in
set_option maxHeartbeats 2000000 in
/-- Next -/
theorem next_none_in (n : Nat) (hn : 3 ≤ n) (p : Option Addr) (oa : Option Addr) (olen ocap : Nat) (w : World) (h : NoQ w p) :
    CallsIn Fence.wide n Try.prog 8 #[.pointer p, .slice oa olen ocap] w fun e W' => e = .returned (.tuple #[lv0.val, .bool false]) ∧ Kept [] w W' := by
  have h1 : 1 ≤ n := by omega
  have hro : Fence.wide.round = none := rfl
  refine callsIn_of_wp_marks Try.func8 rfl trivial ?_ hro
  simp only [Try.ntmps8, List.size_toArray, List.length_cons, List.length_nil, Nat.reduceAdd, Nat.reduceSub, Array.replicate_succ, Array.replicate_zero, List.push_toArray, List.append_toArray, List.nil_append, List.cons_append]
  gi_wp2_with (refine ⟨trivial, ?_⟩; gi_at_call 19; refine (callsIn_wide.2 (waiting_any _ _)).mono ?_; rintro e w' ⟨rfl, rfl⟩)
  have hb0 := blk_new w 26 #[.pointer p]
  have k0 := kept_alloc [] w (.cells #[.pointer p] 26)
  obtain ⟨W1, hW1⟩ : ∃ V, w.alloc (.cells #[.pointer p] 26) = V := ⟨_, rfl⟩
  have s1 : W1.heap.size = w.heap.size + 1 := by rw [← hW1]; simp
  rw [hW1] at hb0 k0 ⊢
  have hb1 := blk_new W1 40 #[.slice oa olen ocap]
  have k1 := kept_alloc [] W1 (.cells #[.slice oa olen ocap] 40)
  obtain ⟨W2, hW2⟩ : ∃ V, W1.alloc (.cells #[.slice oa olen ocap] 40) = V := ⟨_, rfl⟩
  have s2 : W2.heap.size = w.heap.size + 1 + 1 := by rw [← hW2]; simp [s1]
  rw [hW2] at hb1 k1 ⊢
  rw [s1] at hb1
  have hb2 := blk_new W2 37 #[.int .i64 0, .int .i64 0, .int .i64 0, .slice none 0 0]
  have k2 := kept_alloc [] W2 (.cells #[.int .i64 0, .int .i64 0, .int .i64 0, .slice none 0 0] 37)
  obtain ⟨W3, hW3⟩ : ∃ V, W2.alloc (.cells #[.int .i64 0, .int .i64 0, .int .i64 0, .slice none 0 0] 37) = V := ⟨_, rfl⟩
  have s3 : W3.heap.size = w.heap.size + 1 + 1 + 1 := by rw [← hW3]; simp [s2]
  rw [hW3] at hb2 k2 ⊢
  rw [s2] at hb2
  have hb3 := blk_new W3 4 #[.bool false]
  have k3 := kept_alloc [] W3 (.cells #[.bool false] 4)
  obtain ⟨W4, hW4⟩ : ∃ V, W3.alloc (.cells #[.bool false] 4) = V := ⟨_, rfl⟩
  have s4 : W4.heap.size = w.heap.size + 1 + 1 + 1 + 1 := by rw [← hW4]; simp [s3]
  rw [hW4] at hb3 k3 ⊢
  rw [s3] at hb3
  have hb4 := blk_new W4 26 #[.pointer p]
  have k4 := kept_alloc [] W4 (.cells #[.pointer p] 26)
  obtain ⟨W5, hW5⟩ : ∃ V, W4.alloc (.cells #[.pointer p] 26) = V := ⟨_, rfl⟩
  have s5 : W5.heap.size = w.heap.size + 1 + 1 + 1 + 1 + 1 := by rw [← hW5]; simp [s4]
  rw [hW5] at hb4 k4 ⊢
  rw [s4] at hb4
  replace hb0 := (((hb0.kept k1 (by simp)).kept k2 (by simp)).kept k3 (by simp)).kept k4 (by simp)
  replace hb1 := ((hb1.kept k2 (by simp)).kept k3 (by simp)).kept k4 (by simp)
  replace hb2 := (hb2.kept k3 (by simp)).kept k4 (by simp)
  replace hb3 := hb3.kept k4 (by simp)
  have hk := (((k0.trans k1).trans k2).trans k3).trans k4
  refine wpIn_rangeFunc_ownH hro h1 (gf := 27) (lb := #[.pointer (some ⟨w.heap.size + 1 + 1 + 1 + 1, 0, none⟩)]) rfl trivial (enters_of Try.func27 (by kernel_rfl) rfl)
    (waiting_stops_none (n - 1) (by omega) p _ W5 (h.kept hk) (by omega) ((hb4.cell 0).trans rfl)) (fun _ _ => trivial) (fun _ _ _ _ _ _ _ _ => trivial) (Below.refl _ _) (fun _ => rfl)
    (fun _ W => Blk W (w.heap.size + 1 + 1) 37 #[.int .i64 0, .int .i64 0, .int .i64 0, .slice none 0 0] ∧ Blk W (w.heap.size + 1 + 1 + 1) 4 #[.bool false] ∧ Kept [] w W) (fun _ _ _ => False)
    (fun _ A B row hs hg hr => ⟨blk_own () A B row hs.1 hg hr, blk_own () A B row hs.2.1 hg hr, hs.2.2.youngs (kept_grownBy hg) (fun x hx => by have := (hr x (by simpa using hx)).1; right; omega)⟩)
    (fun _ _ _ _ _ hs _ _ => hs) ⟨hb2, hb3, hk⟩ (fun _ _ _ => True) (fun _ _ _ _ _ _ hs _ _ => hs) ?assign ?body ?done ?stop
  case assign =>
    intro l pre x W K hI hK
    unfold lv0 Lv.val
    gi_wp2
    have ka := kept_alloc [] W (.cells #[.int .i64 0, .int .i64 0, .int .i64 0, .slice none 0 0] 37)
    exact hK _ _ (keepsFrom_of ka (by simp) _) trivial ⟨hI.1.kept ka (by simp), hI.2.1.kept ka (by simp), hI.2.2.trans ka⟩ trivial
  case body =>
    intro l pre x a' W _ _ _ _ hlt
    exact absurd hlt (Nat.not_lt_zero _)
  case done =>
    rintro D ys W hD rfl ⟨i2, i3, i4⟩ hK
    have r0 := (i2.cell 0).trans (show _ = some (Value.int .i64 0) from rfl)
    have r1 := (i2.cell 1).trans (show _ = some (Value.int .i64 0) from rfl)
    have r2 := (i2.cell 2).trans (show _ = some (Value.int .i64 0) from rfl)
    have r3 := (i2.cell 3).trans (show _ = some (Value.slice none 0 0) from rfl)
    have z0 := i2.frozen 0
    have z1 := i2.frozen 1
    have z2 := i2.frozen 2
    have z3 := i2.frozen 3
    have r4 := (i3.cell 0).trans (show _ = some (Value.bool false) from rfl)
    have z4 := i3.frozen 0
    obtain ⟨y2, y3, kS⟩ := wrote_two i2 i3 lv0 false
    have hlD := (Array.getElem?_eq_some_iff.1 hK).1
    have hK' : (wrote W w.heap.size lv0 false).heap[D]? = some (.deferred (some [])) := (kS.block D hlD (by simp; omega)).trans hK
    gi_wp2
    refine ⟨by simp, .inl ⟨_, _, rfl, run_takeDeferred hK', ?_⟩⟩
    have hkP := kept_put (W := wrote W w.heap.size lv0 false) (D := D) (.deferred none)
    exact ⟨_, results_went rfl _ _ (w.heap.size + 1 + 1) (w.heap.size + 1 + 1 + 1) lv0 false rfl rfl (y2.kept hkP (by simp; omega)) (y3.kept hkP (by simp; omega)), rfl, (i4.youngs kS (by simp; omega)).youngs hkP (by simp; omega)⟩
  case stop =>
    rintro D c pre W _ h _
    exact h.elim
set_option maxRecDepth 100000 in
theorem next_none (p : Option Addr) (oa : Option Addr) (olen ocap : Nat) (w : World) (h : NoQ w p) : Calls Try.prog 8 #[.pointer p, .slice oa olen ocap] w fun e W' => e = .returned (.tuple #[lv0.val, .bool false]) ∧ Kept [] w W' := callsIn_wide.1 (next_none_in 3 (Nat.le_refl _) p oa olen ocap w h)
set_option maxRecDepth 100000 in
set_option maxHeartbeats 4000000 in
/-- LaterNone -/
theorem none_walk (nx : Bool) (id o l : Int) (sa : Option Addr) (len cap : Nat) (oa : Option Addr) (olen ocap : Nat) (w : World) :
    Calls Try.prog 5 #[.agg #[.bool nx, .int .i64 id, .int .i64 o, .int .i64 l, .slice sa len cap, .slice oa olen ocap]] w fun e w' => e = .returned (.bool true) ∧ Kept [] w w' := by
  have k1 := kept_alloc [] w (.cells #[.bool nx, .int .i64 id, .int .i64 o, .int .i64 l, .slice sa len cap, .slice oa olen ocap] 35)
  have hb1 := blk_new w 35 #[.bool nx, .int .i64 id, .int .i64 o, .int .i64 l, .slice sa len cap, .slice oa olen ocap]
  have k2 := kept_alloc [] (w.alloc (.cells #[.bool nx, .int .i64 id, .int .i64 o, .int .i64 l, .slice sa len cap, .slice oa olen ocap] 35)) (.cells #[.bool false, .slice none 0 0] 58)
  have hb2 := blk_new (w.alloc (.cells #[.bool nx, .int .i64 id, .int .i64 o, .int .i64 l, .slice sa len cap, .slice oa olen ocap] 35)) 58 #[.bool false, .slice none 0 0]
  rw [World.size_alloc] at hb2
  have k3 := kept_alloc [] ((w.alloc (.cells #[.bool nx, .int .i64 id, .int .i64 o, .int .i64 l, .slice sa len cap, .slice oa olen ocap] 35)).alloc (.cells #[.bool false, .slice none 0 0] 58)) (.cells #[.pointer none, .pointer (some ⟨w.heap.size + 1, 0, none⟩)] 26)
  have hb3 := blk_new ((w.alloc (.cells #[.bool nx, .int .i64 id, .int .i64 o, .int .i64 l, .slice sa len cap, .slice oa olen ocap] 35)).alloc (.cells #[.bool false, .slice none 0 0] 58)) 26 #[.pointer none, .pointer (some ⟨w.heap.size + 1, 0, none⟩)]
  rw [World.size_alloc, World.size_alloc] at hb3
  replace hb1 := (hb1.kept k2 (by simp)).kept k3 (by simp)
  replace hb2 := hb2.kept k3 (by simp)
  have k0 := (k1.trans k2).trans k3
  clear k1 k2 k3
  obtain ⟨W0, hW⟩ : ∃ W0, ((w.alloc (.cells #[.bool nx, .int .i64 id, .int .i64 o, .int .i64 l, .slice sa len cap, .slice oa olen ocap] 35)).alloc (.cells #[.bool false, .slice none 0 0] 58)).alloc (.cells #[.pointer none, .pointer (some ⟨w.heap.size + 1, 0, none⟩)] 26) = W0 := ⟨_, rfl⟩
  rw [hW] at hb1 hb2 hb3 k0
  go_enter Try.func5, Try.ntmps5
  go_wp2_with fail
  clear hW
  go_loopw [13] (fun i wr => ∃ j : Nat, j ≤ 2 ∧ i = .int .i64 j ∧ Kept [] W0 wr) (fun i _ => 2 - (RowKit.intOf i).toNat)
  case atStart => exact ⟨0, by omega, rfl, Kept.refl _ _⟩
  case round =>
    obtain ⟨j, hj, rfl, hk⟩ := hrel
    by_cases hlt : j < 2
    · obtain ⟨p, hp, hN⟩ : ∃ p, wr.cell? ⟨w.heap.size + 2, j, none⟩ = some (.pointer p) ∧ NoQ wr p := by
        have hc := (hb3.kept hk (by simp)).cell j
        rcases (by omega : j = 0 ∨ j = 1) with rfl | rfl
        · exact ⟨none, hc, .inl rfl⟩
        · exact ⟨_, hc, .inr ⟨_, rfl, hb2.kept hk (by simp)⟩⟩
      have i1 : (j : Int) < 2 := by omega
      have hm1 : Hid (2 - (j + 1) < 2 - j) := by show _ < _; omega
      have cc : Hid (∀ V, Kept [] wr V → V.cell? ⟨w.heap.size, 1, none⟩ = some (.int .i64 id) ∧ V.cell? ⟨w.heap.size, 2, none⟩ = some (.int .i64 o) ∧ V.cell? ⟨w.heap.size, 3, none⟩ = some (.int .i64 l) ∧ V.cell? ⟨w.heap.size, 4, none⟩ = some (.slice sa len cap)) := fun V hv => by
        have hb := (hb1.kept hk (by simp)).kept hv (by simp)
        exact ⟨(hb.cell 1).trans rfl, (hb.cell 2).trans rfl, (hb.cell 3).trans rfl, (hb.cell 4).trans rfl⟩
      obtain ⟨c1, c2, c3, c4⟩ := cc.out wr (Kept.refl _ _)
      have hNh : Hid (∀ V, Kept [] wr V → NoQ V p) := fun V hv => hN.kept hv
      have qg := next_none p none 0 0 wr hN
      unfold lv0 Lv.val at qg
      simp only at qg
      clear hb1 hb2 hb3 hN
      go_wp2_with (first
        | (go_at_call 8; refine qg.mono ?_; rintro e w1 ⟨rfl, hk1⟩; have ka := kept_alloc [] w1 (.cells #[.int .i64 0, .int .i64 0, .int .i64 0, .slice none 0 0] 37); have hr2 := hk1.trans ka; obtain ⟨e1, e2, e3, e4⟩ := cc.out _ hr2; have qa := push_none p id o l sa len cap _ (hNh.out _ hr2); clear c1 c2 c3 c4)
        | (go_at_call 11; refine qa.mono ?_; rintro e w3 ⟨rfl, hk3⟩; have hr3 := hr2.trans hk3; obtain ⟨f1, f2, f3, f4⟩ := cc.out _ hr3; have qb := over_none p o l _ (hNh.out _ hr3))
        | (go_at_call 14; refine qb.mono ?_; rintro e w4 ⟨rfl, hk4⟩; have hr4 := hr3.trans hk4; have qn := len_none p _ (hNh.out _ hr4); have qx := spans_none p _ (hNh.out _ hr4))
        | (go_at_call 13; refine qn.mono ?_; rintro e w4 ⟨rfl, rfl⟩)
        | (go_at_call 17; refine qx.mono ?_; rintro e w6 ⟨rfl, hk6⟩; have hr6 := hr4.trans hk6))
      go_roundw
      case rel => exact ⟨j + 1, by omega, by go_num, hk.trans hr6⟩
      case measure => simpa [RowKit.intOf] using hm1.out
    · obtain rfl : j = 2 := by omega
      have q := lives_any wr
      clear hb1 hb2 hb3
      go_wp2_with (go_at_call 6; refine q.mono ?_; rintro e w1 ⟨rfl, hk1⟩)
      go_ret
      exact ⟨rfl, (k0.trans hk).trans hk1⟩
end Go.Proofs.Ythlnhmdeoapoeaa.Later
