/-
  The walks of Remove and Add of twainref15: rows joined, a row put in its place.
-/
import Derived.Test.YtkidaofoljmdoaaTbD
namespace Go.Proofs.Ytkidaofoljmdoaa.Table
open Go.RowKit

theorem owns_kept0 {A B : World} {base : Nat} {e : TypeId} {z n : Nat} {v : Value} {l : List Value} (h : A.ownsRow base e z v n l) (hk : Kept [] A B) : B.ownsRow base e z v n l :=
  h.kept (row := none) ⟨hk.os, hk.tape, hk.output, hk.size, fun j hj _ => hk.block j hj (by simp)⟩ (by cases v.ownBlock <;> simp)
theorem kept_of_grown {A B : World} {ob : Option Nat} (h : A.grownBy B ob) : Kept ob.toList A B := ⟨h.os, h.tape, h.output, h.size, fun k hk hn => h.block k hk (fun e => hn (by rw [← e]; simp))⟩
theorem Qv.At.grown {A B : World} {lo hi : Nat} {x : Qv} {ob : Option Nat} (h : x.At lo hi A) (hh : hi ≤ A.heap.size) (hg : A.grownBy B ob) (hb : ∀ k, ob = some k → k < lo ∨ hi ≤ k) : x.At lo hi B :=
  h.kept hh (kept_of_grown hg) (fun k hk => hb k (by simpa using hk))
set_option maxRecDepth 100000 in
set_option maxHeartbeats 1000000 in
/-- Remove -/
theorem rremove_any {lo hi r most : Nat} {P : List (Int × Qv)} (k : Int) (w : World) (h : RTab w lo hi r most P) (hlo : lo ≤ w.heap.size) :
    Calls Try.prog 12 #[.pointer (some ⟨r, 0, none⟩), .int .i64 k] w fun e w' => e = .returned (.bool (look P k).isSome) ∧ RTab w' lo w'.heap.size r most (remL P k) ∧ Kept [r] w w' := by
  have q := rplace_any k w h
  have hf := h.fine.rem k
  cases hk : look P k with
  | none =>
    have hL : remL P k = P := by unfold remL; rw [hk]; simp
    rw [hL]
    rw [hk] at q
    clear hf hL
    generalize place P k = n at *
    go_enter Try.func12, Try.ntmps12
    go_wp2_with (first
      | (go_at_call 24; refine q.mono ?_; rintro e w1 ⟨rfl, hk1⟩))
    go_ret
    exact ⟨rfl, (h.kept0 hk1).raise, hk1.mono (by simp)⟩
  | some x =>
    have hL : remL P k = P.take (place P k) ++ P.drop (place P k + 1) := by unfold remL; rw [hk]; simp [del]
    rw [hL] at hf ⊢
    rw [hk] at q
    have hpl := (List.getElem?_eq_some_iff.1 (look_at h.fine.rise hk)).1
    have hfew : P.length ≤ 16 := Nat.le_trans h.fine.few h.top
    have hih := h.hih
    have hrlt := h.lt
    have hbyt : Hid (∀ p ∈ P, p.2.At lo hi w) := h.byt
    have hrlo := h.rlo
    have htop := h.top
    obtain ⟨v, hr, hrow⟩ := h.row
    obtain ⟨a, cap, ev, -⟩ := id hrow
    obtain ⟨len, hle⟩ : ∃ len, P.length = len := ⟨_, rfl⟩
    rw [hle] at ev
    subst ev
    generalize place P k = n at *
    have hn : Hid (n ≤ P.length) := by show _ ≤ _; omega
    have hn1 : Hid (n + 1 ≤ P.length) := by show _ ≤ _; omega
    have hl1 : Hid (([] : List (Int × Qv)).length + (P.take n).length ≤ 2000) := by show _ ≤ _; simp; omega
    have hl2 : Hid ((P.take n).length + (P.drop (n + 1)).length ≤ 2000) := by show _ ≤ _; simp; omega
    have fR : ∀ W, Kept [] w W → W.cell? ⟨r, 0, none⟩ = some (.slice a len cap) := fun W hk => ((hr.kept hk (by simp)).cell 0).trans rfl
    have fI : Hid (∀ W, Kept [] w W → RowsAt lo hi W (.slice a len cap) P) := fun W hk => hrow.kept hih hk (by simp)
    have fr0 : Hid (∀ W : World, (W.alloc (.cells #[] 62)).ownsRow W.heap.size 62 5 (.slice (some ⟨W.heap.size, 0, none⟩) 0 0) ([] : List (Int × Qv)).length (rowC [])) := fun W => World.ownsRow_made W #[] 0 (Nat.le_refl _) (by unfold maxLen; omega) rfl
    replace hf : Hid (Fine most (P.take n ++ P.drop (n + 1))) := hf
    have hsum : (n : Int) + 1 = ((n + 1 : Nat) : Int) := by omega
    replace hsum : Hid _ := hsum
    clear hk hL hle hrow h
    go_enter Try.func12, Try.ntmps12
    go_wp2_with (first
      | (go_at_call 24; refine q.mono ?_; rintro e w1 ⟨rfl, hk1⟩; have ka := kept_alloc [] w1 (.cells #[] 62); have r0 : Hid _ := fr0.out w1; have cR := fR _ (hk1.trans ka); have hs1 := hk1.size)
      | (refine wpList_take rfl _ _ rfl lo hi (.slice a len cap) P n rfl rfl (fI.out _ (hk1.trans ka)) hn.out ?_; intro u1 hu1; replace hu1 : Hid (RowsAt lo hi _ u1 (P.take n)) := hu1)
      | (at_builtin; refine wpList_append_rows rfl _ _ rfl w1.heap.size _ _ lo hi [] (P.take n) rfl (fr0.out w1) rfl hu1.out hl1.out (by simp) ?_; intro v3 w3 hr3 hg3 hw3; have hk3 : Kept [] w1 w3 := kept_grown (fr0.out w1) hg3 w1 ka (Nat.le_refl _); have cR3 := fR w3 (hk1.trans hk3); clear hg3 hu1 hw3)
      | (refine wpList_drop rfl _ _ rfl lo hi (.slice a len cap) P (n + 1) rfl (by first | rfl | (simp; done)) (fI.out _ (hk1.trans hk3)) hn1.out ?_; intro u4 hu4; replace hu4 : Hid (RowsAt lo hi _ u4 (P.drop (n + 1))) := hu4)
      | (at_builtin; refine wpList_append_rows rfl _ _ rfl w1.heap.size _ _ lo hi (P.take n) (P.drop (n + 1)) rfl hr3 rfl hu4.out hl2.out hk3.size ?_; intro v5 w5 hr5 hg5 hw5; have hk5 : Kept [] w1 w5 := kept_grown hr3 hg5 w1 hk3 (Nat.le_refl _); have hrr5 := hr.kept (hk1.trans hk5) (by simp); have cR5 := fR w5 (hk1.trans hk5); have f5 := hrr5.frozen 0; have n5 := rows_of_owns hr5; obtain ⟨a5, cap5, e5, -⟩ := id n5; obtain ⟨m5, hm5⟩ : ∃ m5, (P.take n ++ P.drop (n + 1)).length = m5 := ⟨_, rfl⟩; rw [hm5] at e5; subst e5; replace hm5 : Hid _ := hm5; clear hg5 hu4 hw5))
    go_ret
    have hrow5 := hrr5.set 0 (.slice a5 m5 cap5)
    have hkept := kept_set (L := [r]) (g := r) (by simp) w5 0 (.slice a5 m5 cap5)
    have hk05 := hk1.trans hk5
    refine ⟨rfl, ⟨⟨_, hrow5, (n5.kept (Nat.le_refl _) hkept (by simp; omega)).mono (by omega) hkept.size⟩, fun p hp => ?_, hf.out, htop, hrlo, Nat.le_refl _⟩, (hk05.mono (by simp)).trans hkept⟩
    have hm : p ∈ P := by
      rcases List.mem_append.1 hp with hp | hp
      · exact List.mem_of_mem_take hp
      · exact List.mem_of_mem_drop hp
    exact ((hbyt.out p hm).kept hih ((hk05.mono (by simp)).trans hkept) (by simp; omega)).mono (Nat.le_refl _) (Nat.le_trans hih (Nat.le_trans hk05.size hkept.size))
set_option maxRecDepth 100000 in
set_option maxHeartbeats 2000000 in
/-- Add -/
theorem radd_any {lo hi r most : Nat} {P : List (Int × Qv)} (k : Int) (h1 : k ≤ 9223372036854775807) (x : Qv) (lx hx : Nat) (w : World) (h : RTab w lo hi r most P) (hq : x.At lx hx w) (hhx : hx ≤ w.heap.size) (hlen : x.len ≤ 1000) (hlo : lo ≤ w.heap.size) :
    Calls Try.prog 10 #[.pointer (some ⟨r, 0, none⟩), .int .i64 k, x.val] w fun e w' => e = .returned (.int .i64 (addE most P k)) ∧ (∃ y : Qv, y.rq = x.rq ∧ RTab w' lo w'.heap.size r most (addL most P k y)) ∧ Kept [r] w w' := by
  have k0 := kept_alloc [] w (.cells #[.int .i64 x.k, .int .i64 x.o, .int .i64 x.l, .slice x.sa x.len x.cap] 35)
  have hb0 := blk_new w 35 #[.int .i64 x.k, .int .i64 x.o, .int .i64 x.l, .slice x.sa x.len x.cap]
  have ht0 := h.kept0 k0
  have q := rplace_any k _ ht0
  have hf := fun y => h.fine.add h1 y
  by_cases hbad : k < 1 ∨ (look P k).isSome = true
  · have hE := addE_arg (most := most) hbad
    have hL : ∀ y, addL most P k y = P := fun y => by unfold addL; rw [hE, if_neg (by decide)]
    simp only [hE, hL]
    clear hE hL hf
    generalize place P k = n at *
    unfold Qv.val
    by_cases hklt : k < 1
    · generalize (look P k).isSome = z at *
      clear hbad
      go_enter Try.func10, Try.ntmps10
      go_wp2_with (first
        | (go_at_call 24; refine q.mono ?_; rintro e w1 ⟨rfl, hk1⟩))
      go_ret
      exact ⟨rfl, ⟨x, rfl, (ht0.kept0 hk1).raise⟩, (k0.trans hk1).mono (by simp)⟩
    · have hs : (look P k).isSome = true := by rcases hbad with hb | hb; exact absurd hb hklt; exact hb
      rw [hs] at q
      clear hbad hs
      go_enter Try.func10, Try.ntmps10
      go_wp2_with (first
        | (go_at_call 24; refine q.mono ?_; rintro e w1 ⟨rfl, hk1⟩))
      go_ret
      exact ⟨rfl, ⟨x, rfl, (ht0.kept0 hk1).raise⟩, (k0.trans hk1).mono (by simp)⟩
  · have hn1 : ¬ k < 1 := fun e => hbad (.inl e)
    have hs : (look P k).isSome = false := by
      cases e : (look P k).isSome with
      | true => exact absurd (.inr e) hbad
      | false => rfl
    rw [hs] at q
    have hfew : P.length ≤ 16 := Nat.le_trans h.fine.few h.top
    have hih := h.hih
    have hrlt := h.lt
    have hbyt : Hid (∀ p ∈ P, p.2.At lo hi w) := h.byt
    have hrlo := h.rlo
    have htop := h.top
    obtain ⟨v, hr, hrow⟩ := h.row
    obtain ⟨a, cap, ev, -⟩ := id hrow
    have fR : ∀ W, Kept [] w W → W.cell? ⟨r, 0, none⟩ = some v ∧ W.cell? ⟨r, 1, none⟩ = some (.int .i64 (most : Int)) := fun W hk => ⟨((hr.kept hk (by simp)).cell 0).trans rfl, ((hr.kept hk (by simp)).cell 1).trans rfl⟩
    have fI : Hid (∀ W, Kept [] w W → RowsAt lo hi W v P) := fun W hk => hrow.kept hih hk (by simp)
    have hpl := place_le P k
    by_cases hfull : most ≤ P.length
    · have hE := addE_full hbad hfull
      have hL : ∀ y, addL most P k y = P := fun y => by unfold addL; rw [hE, if_neg (by decide)]
      simp only [hE, hL]
      obtain ⟨len, hle⟩ : ∃ len, P.length = len := ⟨_, rfl⟩
      rw [hle] at ev hfull
      subst ev
      have hd : (most : Int) ≤ (len : Int) := by omega
      clear hE hL hf hbad hs hle hrow fI
      generalize place P k = n at *
      unfold Qv.val
      go_enter Try.func10, Try.ntmps10
      go_wp2_with (first
        | (go_at_call 24; refine q.mono ?_; rintro e w1 ⟨rfl, hk1⟩; have c0 := fun m => (fR (w1.drewN m) ((k0.trans hk1).trans (kept_drewN [] _ _))).1; have c1 := fun m => (fR (w1.drewN m) ((k0.trans hk1).trans (kept_drewN [] _ _))).2))
      go_quiet (fail)
      go_wp2_with fail
      go_ret
      exact ⟨rfl, ⟨x, rfl, (ht0.kept0 (hk1.trans (kept_drewN [] _ _))).raise⟩, (k0.trans (hk1.trans (kept_drewN [] _ _))).mono (by simp)⟩
    · have hE := addE_ok hbad hfull
      have hL : ∀ y, addL most P k y = P.take (place P k) ++ (k, y) :: P.drop (place P k) := fun y => by unfold addL; rw [hE, if_pos rfl]; rfl
      simp only [hL] at hf
      simp only [hE, hL]
      obtain ⟨len, hle⟩ : ∃ len, P.length = len := ⟨_, rfl⟩
      rw [hle] at ev hfull
      have hd : ¬ ((most : Int) ≤ (len : Int)) := by omega
      generalize place P k = n at *
      have hn : Hid (n ≤ P.length) := hpl
      have hl1 : Hid (([] : List (Int × Qv)).length + (P.take n).length ≤ 2000) := by show _ ≤ _; simp; omega
      have hl2 : Hid (∀ y, (P.take n).length + [((k, y) : Int × Qv)].length ≤ 2000) := fun y => by simp; omega
      have hl3 : Hid (∀ y, (P.take n ++ [((k, y) : Int × Qv)]).length + (P.drop n).length ≤ 2000) := fun y => by simp; omega
      have fr0 : Hid (∀ W : World, (W.alloc (.cells #[] 62)).ownsRow W.heap.size 62 5 (.slice (some ⟨W.heap.size, 0, none⟩) 0 0) ([] : List (Int × Qv)).length (rowC [])) := fun W => World.ownsRow_made W #[] 0 (Nat.le_refl _) (by unfold maxLen; omega) rfl
      replace hf : Hid (∀ y, Fine most (P.take n ++ (k, y) :: P.drop n)) := hf
      subst ev
      have fX : ∀ W, Kept [] w W → x.At lx hx W ∧ hx ≤ W.heap.size := fun W hk => ⟨hq.kept hhx hk (by simp), Nat.le_trans hhx hk.size⟩
      have fB : ∀ W, Kept [] (w.alloc (.cells #[.int .i64 x.k, .int .i64 x.o, .int .i64 x.l, .slice x.sa x.len x.cap] 35)) W → W.cell? ⟨w.heap.size, 0, none⟩ = some (.int .i64 x.k) ∧ W.cell? ⟨w.heap.size, 1, none⟩ = some (.int .i64 x.o) ∧ W.cell? ⟨w.heap.size, 2, none⟩ = some (.int .i64 x.l) ∧ W.cell? ⟨w.heap.size, 3, none⟩ = some (.slice x.sa x.len x.cap) := fun W hk => load_req (hb0.kept hk (by simp))
      clear hE hL hbad hs hle hrow ht0 hb0 h hq hfull hpl
      unfold Qv.val
      go_enter Try.func10, Try.ntmps10
      go_wp2_with (first
        | (go_at_call 24; refine q.mono ?_; rintro e w1 ⟨rfl, hk1⟩; have c0 := fun m => (fR (w1.drewN m) ((k0.trans hk1).trans (kept_drewN [] _ _))).1; have c1 := fun m => (fR (w1.drewN m) ((k0.trans hk1).trans (kept_drewN [] _ _))).2))
      go_quiet (fail)
      obtain ⟨w2, hw2⟩ : ∃ w2, w1.drewN nq = w2 := ⟨_, rfl⟩
      have hkb : Kept [] (w.alloc (.cells #[.int .i64 x.k, .int .i64 x.o, .int .i64 x.l, .slice x.sa x.len x.cap] 35)) w2 := by rw [← hw2]; exact hk1.trans (kept_drewN [] _ _)
      rw [hw2]
      clear hw2 c0 c1 hk1 q
      have hk2 := k0.trans hkb
      have ka := kept_alloc [] w2 (.cells #[] 62)
      have cR := (fR _ (hk2.trans ka)).1
      have hs2 := hk2.size
      replace hkb : Hid _ := hkb
      go_wp2_with (first
        | (refine wpList_take rfl _ _ rfl lo hi (.slice a len cap) P n rfl rfl (fI.out _ (hk2.trans ka)) hn.out ?_; intro u1 hu1; replace hu1 : Hid (RowsAt lo hi _ u1 (P.take n)) := hu1)
        | (at_builtin; refine wpList_append_rows rfl _ _ rfl w2.heap.size (.slice (some ⟨w2.heap.size, 0, none⟩) 0 0) _ lo hi [] (P.take n) rfl (fr0.out w2) rfl hu1.out hl1.out (by simp) ?_; intro v3 w3 hr3 hg3 hw3; have hk3 : Kept [] w2 w3 := kept_grown (fr0.out w2) hg3 w2 ka (Nat.le_refl _); obtain ⟨b0, b1, b2, b3⟩ := fB w3 (hkb.out.trans hk3); have qc := rcopy_any x lx hx w3 (fX w3 (hk2.trans hk3)).1 (fX w3 (hk2.trans hk3)).2 hlen; unfold Qv.val at qc; clear hg3 hu1)
        | (go_at_call 25; refine qc.mono ?_; rintro e w4 ⟨y, rfl, hy, hyA, hk4⟩; replace hy : Hid (y.rq = x.rq) := hy; have k5 := kept_alloc [] w4 (.cells #[.int .i64 k, .int .i64 y.k, .int .i64 y.o, .int .i64 y.l, .slice y.sa y.len y.cap] 62); have hk5 := (hk3.trans hk4).trans k5; have hr5 := owns_kept0 hr3 (hk4.trans k5); have hy5 : Hid (y.At w3.heap.size w4.heap.size (w4.alloc (.cells #[.int .i64 k, .int .i64 y.k, .int .i64 y.o, .int .i64 y.l, .slice y.sa y.len y.cap] 62))) := hyA.kept (Nat.le_refl _) k5 (by simp); have hu5 : Hid (RowsAt w4.heap.size (w4.heap.size + 1) (w4.alloc (.cells #[.int .i64 k, .int .i64 y.k, .int .i64 y.o, .int .i64 y.l, .slice y.sa y.len y.cap] 62)) (.slice (some ⟨w4.heap.size, 0, none⟩) 1 1) [(k, y)]) := rows_one w4 k y; replace hr5 : Hid ((w4.alloc (.cells #[.int .i64 k, .int .i64 y.k, .int .i64 y.o, .int .i64 y.l, .slice y.sa y.len y.cap] 62)).ownsRow w2.heap.size 62 5 v3 (P.take n).length (rowC (P.take n))) := hr5; have hbig := hk5.size; replace hbig : Hid _ := hbig)
        | (at_builtin; refine wpList_append_rows rfl _ _ rfl w2.heap.size v3 _ w4.heap.size (w4.heap.size + 1) (P.take n) [(k, y)] rfl hr5.out rfl hu5.out (hl2.out y) hbig.out ?_; intro v6 w6 hr6 hg6 hw6; have hk6 : Kept [] w2 w6 := kept_grown hr5.out hg6 w2 hk5 (Nat.le_refl _); have hy6 := hy5.out.grown (Nat.le_trans (Nat.le_refl _) k5.size) hg6 (fun k e => .inl (hr3.lt k e).2); have hz6 := hg6.size; have cR6 := (fR w6 (hk2.trans hk6)).1; replace hz6 : Hid _ := hz6; replace hw6 : Hid _ := hw6; clear hg6 hu5 hr5)
        | (refine wpList_drop rfl _ _ rfl lo hi (.slice a len cap) P n rfl rfl (fI.out _ (hk2.trans hk6)) hn.out ?_; intro u7 hu7; replace hu7 : Hid (RowsAt lo hi _ u7 (P.drop n)) := hu7)
        | (at_builtin; refine wpList_append_rows rfl _ _ rfl w2.heap.size v6 _ lo hi (P.take n ++ [(k, y)]) (P.drop n) rfl hr6 rfl hu7.out (hl3.out y) hk6.size ?_; intro v8 w8 hr8 hg8 hw8; have hk8 : Kept [] w2 w8 := kept_grown hr6 hg8 w2 hk6 (Nat.le_refl _); have hrr8 := hr.kept (hk2.trans hk8) (by simp); have cR8 := (fR w8 (hk2.trans hk8)).1; have f8 := hrr8.frozen 0; have n8 := rows_of_owns hr8; obtain ⟨a8, cap8, e8, -⟩ := id n8; obtain ⟨m8, hm8⟩ : ∃ m8, (P.take n ++ [((k, y) : Int × Qv)] ++ P.drop n).length = m8 := ⟨_, rfl⟩; rw [hm8] at e8; subst e8; replace hm8 : Hid _ := hm8; have hy8 : Hid (y.At w3.heap.size w4.heap.size w8) := hy6.grown (Nat.le_trans k5.size hz6.out) hg8 (fun k e => (by rcases hw6.out with e6 | e6; (exact .inl (hr3.lt k (e6.symm.trans e)).2); (rw [e6] at e; injection e with e; right; rw [← e]; simp))); have hz8 := hg8.size; replace hz8 : Hid _ := hz8; clear hg8 hu7 hw8))
      go_ret
      have hrow8 := hrr8.set 0 (.slice a8 m8 cap8)
      have hkept := kept_set (L := [r]) (g := r) (by simp) w8 0 (.slice a8 m8 cap8)
      have hk08 := hk2.trans hk8
      have eL : P.take n ++ [((k, y) : Int × Qv)] ++ P.drop n = P.take n ++ (k, y) :: P.drop n := by simp
      rw [eL] at n8
      have hs3 := hk3.size
      have hs48 : w4.heap.size ≤ w8.heap.size := Nat.le_trans (Nat.le_trans k5.size hz6.out) hz8.out
      refine ⟨rfl, ⟨y, hy.out, ⟨⟨_, hrow8, (n8.kept (Nat.le_refl _) hkept (by simp; omega)).mono (by omega) hkept.size⟩, fun p hp => ?_, hf.out y, htop, hrlo, Nat.le_refl _⟩⟩, (hk08.mono (by simp)).trans hkept⟩
      rcases List.mem_append.1 hp with hp | hp
      · exact ((hbyt.out p (List.mem_of_mem_take hp)).kept hih ((hk08.mono (by simp)).trans hkept) (by simp; omega)).mono (Nat.le_refl _) (Nat.le_trans hih (Nat.le_trans hk08.size hkept.size))
      · rcases List.mem_cons.1 hp with rfl | hp
        · exact (hy8.out.kept hs48 hkept (by simp; omega)).mono (by omega) (Nat.le_trans hs48 hkept.size)
        · exact ((hbyt.out p (List.mem_of_mem_drop hp)).kept hih ((hk08.mono (by simp)).trans hkept) (by simp; omega)).mono (Nat.le_refl _) (Nat.le_trans hih (Nat.le_trans hk08.size hkept.size))
end Go.Proofs.Ytkidaofoljmdoaa.Table
