import Derived.Test.YtpphlcjabnbblaaItC
/-
  The walk of Delete of twainref14.
-/
namespace Go.Proofs.Ytpphlcjabnbblaa.Itree
open Go.RowKit

set_option maxRecDepth 100000 in
set_option maxHeartbeats 4000000 in
/-- Delete -/
theorem rDelete_any (r : Nat) (ob : Option Nat) (L : List It) (x : It) (w : World) (h : RT w r ob L) :
    Calls Try.prog 10 #[.pointer (some ⟨r, 0, none⟩), .agg #[.int .i64 x.o, .int .i64 x.l], .int .i64 x.i] w fun e w' => e = .returned (.bool (there L x)) ∧ (∃ ob', RT w' r ob' (delL L x) ∧ (∀ k, ob' = some k → ob = some k ∨ w.heap.size ≤ k)) ∧ Kept [r] w w' := by
  have hka := kept_alloc [] w (.cells #[.int .i64 x.o, .int .i64 x.l] 24)
  have hkb := kept_alloc [] (w.alloc (.cells #[.int .i64 x.o, .int .i64 x.l] 24)) (.cells #[.int .i64 x.o, .int .i64 x.l, .int .i64 x.i] 66)
  have hxb := blk_new (w.alloc (.cells #[.int .i64 x.o, .int .i64 x.l] 24)) 66 #[.int .i64 x.o, .int .i64 x.l, .int .i64 x.i]
  rw [show (w.alloc (.cells #[.int .i64 x.o, .int .i64 x.l] 24)).heap.size = w.heap.size + 1 by simp] at hxb
  have hrt := (h.kept hka (by simp) (by simp)).kept hkb (by simp) (by simp)
  have hrlt : r < w.heap.size := by
    obtain ⟨v, h1, _⟩ := h.row
    exact h1.lt
  have qpl := rplace_any r ob L x _ hrt
  unfold It.val at qpl
  have hpl := place_le L x
  have hfew := h.few
  have hth : Hid (there L x = decide (L[place L x]? = some x)) := rfl
  have hdL : Hid (delL L x = if there L x then L.take (place L x) ++ L.drop (place L x + 1) else L) := rfl
  generalize place L x = n at *
  go_enter Try.func10, Try.ntmps10
  go_wp2_with (first
    | (go_at_call 29; refine qpl.mono ?_; rintro e w1 ⟨rfl, hk1⟩))
  have hk01 := (hka.trans hkb).trans hk1
  have hx1 := hxb.kept hk1 (by simp)
  have ht1 := hrt.kept hk1 (by simp) (by simp)
  clear qpl hrt hka hkb hxb hk1
  obtain ⟨v, hr1, a, cap, rfl, hc, hm, hrow⟩ := ht1.row
  have hoff := ht1.off
  have x0 := (hx1.cell 0).trans (show _ = some (Value.int .i64 x.o) from rfl)
  have x1 := (hx1.cell 1).trans (show _ = some (Value.int .i64 x.l) from rfl)
  have x2 := (hx1.cell 2).trans (show _ = some (Value.int .i64 x.i) from rfl)
  obtain ⟨len, hlen⟩ : ∃ len, L.length = len := ⟨_, rfl⟩
  rw [hlen] at hr1 hc hpl hfew
  have cR := (hr1.cell 0).trans (show _ = some (Value.slice a len cap) from rfl)
  by_cases hnl : n < len
  · rcases hrow with ⟨-, -, -, h4⟩ | ⟨b, off, rfl, rfl, hbl, hcs⟩
    · rw [h4] at hlen
      simp at hlen
      omega
    obtain ⟨y, hy⟩ : ∃ y, L[n]? = some y := ⟨_, List.getElem?_eq_getElem (by rw [hlen]; exact hnl)⟩
    have hry := hcs n y hy
    have y0 : w1.cell? ⟨b, off + n * 3, none⟩ = some (.int .i64 y.o) := hry 0 _ rfl
    have y1 : w1.cell? ⟨b, off + n * 3 + 1, none⟩ = some (.int .i64 y.l) := hry 1 _ rfl
    have y2 : w1.cell? ⟨b, off + n * 3 + 2, none⟩ = some (.int .i64 y.i) := hry 2 _ rfl
    have qe := fun W => neq_item y x W
    unfold It.val at qe
    have i0 : ¬ ((len : Int) ≤ (n : Int)) := by omega
    have i1 : (n : Int) < (len : Int) := by omega
    have i2 : (n : Int) < (cap : Int) := by omega
    have i3 : (len : Int) ≤ (cap : Int) := by omega
    by_cases hyx : y = x
    · have hT : there L x = true := by
        rw [hth.out, hy, hyx]
        simp
      have hdL' : delL L x = L.take n ++ L.drop (n + 1) := by rw [hdL.out, if_pos hT]
      rw [decide_eq_true hyx] at qe
      have hI : ItemsAt w1 (.slice (some ⟨b, off, none⟩) L.length cap) (some b) L := ⟨_, cap, rfl, by omega, hm, .inr ⟨b, off, rfl, rfl, hbl, hcs⟩⟩
      replace hT : Hid _ := hT
      replace hdL' : Hid _ := hdL'
      clear hth hdL hcs hry hy hyx h ht1
      go_quiet (fail)
      go_upto_region 5 with fail
      have kq := kept_drewN [] w1 nq
      have hI2 := hI.kept kq (by simp)
      have hr2 := hr1.kept kq (by simp)
      generalize w1.drewN nq = wc at *
      clear x0 x1 x2 y0 y1 y2 cR
      have fR : ∀ W, Kept [] wc W → W.cell? ⟨r, 0, none⟩ = some (.slice (some ⟨b, off, none⟩) len cap) := fun W hk => ((hr2.kept hk (by simp)).cell 0).trans rfl
      have ka := kept_alloc [] wc (.cells #[] 66)
      have r0 : Hid ((wc.alloc (.cells #[] 66)).ownsRow wc.heap.size 66 3 (.slice (some ⟨wc.heap.size, 0, none⟩) 0 0) ([] : List It).length (rowC [])) := World.ownsRow_made wc #[] 0 (Nat.le_refl _) (by unfold maxLen; omega) rfl
      have cR0 := fR _ ka
      have hnle : (n : Int) ≤ (cap : Int) := by omega
      have i4 : (n : Int) + 1 ≤ (len : Int) := by omega
      have hu1 : Hid (ItemsAt (wc.alloc (.cells #[] 66)) (.slice (some ⟨b, off, none⟩) n cap) (some b) (L.take n)) := (hI2.take n (by omega)).kept ka (by simp)
      have hlt1 := hk01.size
      have hlt2 := kq.size
      by_cases hcn : cap = n + 1
      · obtain rfl : len = n + 1 := by omega
        subst hcn
        go_wp2_with (first
          | (at_builtin; refine wpList_append_items rfl _ _ rfl wc.heap.size _ _ (some b) [] (L.take n) rfl r0.out rfl hu1.out (by simp; omega) (by simp) ?_; intro v4 w4 hr4 hg4; have hk4 : Kept [] wc w4 := kept_grown (n := wc.heap.size) r0.out hg4 wc ka (Nat.le_refl _) rfl; have cR4 := fR w4 hk4; have hu3 : Hid (ItemsAt w4 (.slice (some ⟨b, off, none⟩) 0 0) (some b) (L.drop (n + 1))) := (hI2.drop_all (n + 1) (by omega)).kept hk4 (by simp); clear hg4 hu1)
          | (at_builtin; refine wpList_append_items rfl _ _ rfl wc.heap.size _ _ (some b) (L.take n) (L.drop (n + 1)) rfl hr4 rfl hu3.out (by simp; omega) hk4.size ?_; intro v5 w5 hr5 hg5; have hk5 : Kept [] wc w5 := kept_grown (n := wc.heap.size) hr4 hg5 wc hk4 (Nat.le_refl _) rfl; have hrr5 := hr2.kept hk5 (by simp); have cR5 := fR w5 hk5; have f5 := hrr5.frozen 0; have n5 := items_of_owns hr5; obtain ⟨a5, cap5, e5, -⟩ := id n5; obtain ⟨m5, hm5⟩ : ∃ m5, (L.take n ++ L.drop (n + 1)).length = m5 := ⟨_, rfl⟩; rw [hm5] at e5; subst e5; replace hm5 : Hid _ := hm5; clear hg5 hu3))
        go_ret
        have hrow5 := hrr5.set 0 (.slice a5 m5 cap5)
        rw [hT.out, hdL'.out]
        have hob := hr5.lt
        have hkept := kept_set (L := [r]) (g := r) (by simp) w5 0 (.slice a5 m5 cap5)
        have hnr : ∀ k, (Value.slice a5 m5 cap5).ownBlock = some k → w.heap.size ≤ k := fun k hk => by
          have := (hob k hk).1
          omega
        refine ⟨rfl, ⟨(Value.slice a5 m5 cap5).ownBlock, ⟨⟨_, hrow5, ?_⟩, ?_, by simp; omega⟩, ?_⟩, (((hk01.trans kq).trans hk5).mono (by simp)).trans hkept⟩
        · exact n5.kept hkept (fun b' e => by have := hnr b' e; simp; omega)
        · intro e
          have := hnr r e
          omega
        · exact fun k e => .inr (hnr k e)
      · go_wp2_with (first
          | (at_builtin; refine wpList_append_items rfl _ _ rfl wc.heap.size _ _ (some b) [] (L.take n) rfl r0.out rfl hu1.out (by simp; omega) (by simp) ?_; intro v4 w4 hr4 hg4; have hk4 : Kept [] wc w4 := kept_grown (n := wc.heap.size) r0.out hg4 wc ka (Nat.le_refl _) rfl; have cR4 := fR w4 hk4; have hu3 : Hid (ItemsAt w4 (.slice (some ⟨b, off + (n + 1) * 3, none⟩) (L.length - (n + 1)) (cap - (n + 1))) (some b) (L.drop (n + 1))) := (hI2.drop (n + 1) (by omega)).kept hk4 (by simp); rw [hlen] at hu3; clear hg4 hu1)
          | (at_builtin; refine wpList_append_items rfl _ _ rfl wc.heap.size _ _ (some b) (L.take n) (L.drop (n + 1)) rfl hr4 rfl hu3.out (by simp; omega) hk4.size ?_; intro v5 w5 hr5 hg5; have hk5 : Kept [] wc w5 := kept_grown (n := wc.heap.size) hr4 hg5 wc hk4 (Nat.le_refl _) rfl; have hrr5 := hr2.kept hk5 (by simp); have cR5 := fR w5 hk5; have f5 := hrr5.frozen 0; have n5 := items_of_owns hr5; obtain ⟨a5, cap5, e5, -⟩ := id n5; obtain ⟨m5, hm5⟩ : ∃ m5, (L.take n ++ L.drop (n + 1)).length = m5 := ⟨_, rfl⟩; rw [hm5] at e5; subst e5; replace hm5 : Hid _ := hm5; clear hg5 hu3))
        go_ret
        have hrow5 := hrr5.set 0 (.slice a5 m5 cap5)
        rw [hT.out, hdL'.out]
        have hob := hr5.lt
        have hkept := kept_set (L := [r]) (g := r) (by simp) w5 0 (.slice a5 m5 cap5)
        have hnr : ∀ k, (Value.slice a5 m5 cap5).ownBlock = some k → w.heap.size ≤ k := fun k hk => by
          have := (hob k hk).1
          omega
        refine ⟨rfl, ⟨(Value.slice a5 m5 cap5).ownBlock, ⟨⟨_, hrow5, ?_⟩, ?_, by simp; omega⟩, ?_⟩, (((hk01.trans kq).trans hk5).mono (by simp)).trans hkept⟩
        · exact n5.kept hkept (fun b' e => by have := hnr b' e; simp; omega)
        · intro e
          have := hnr r e
          omega
        · exact fun k e => .inr (hnr k e)
    · have hT : there L x = false := by
        rw [hth.out, hy]
        simp [hyx]
      rw [decide_eq_false hyx] at qe
      replace hT : Hid _ := hT
      clear hcs hry hy hyx h
      go_quiet (fail)
      go_wp2_with fail
      go_ret
      have kq := kept_drewN [] w1 nq
      rw [hdL.out, hT.out, if_neg (by decide)]
      exact ⟨rfl, ⟨some b, ht1.kept kq (by simp) (by simp), fun k e => .inl (by first | exact e | simpa using e)⟩, (hk01.trans kq).mono (by simp)⟩
  · have hT : there L x = false := by
      rw [hth.out, List.getElem?_eq_none (by omega)]
      rfl
    have i0 : (len : Int) ≤ (n : Int) := by omega
    replace hT : Hid _ := hT
    clear hrow h
    go_quiet (fail)
    go_wp2_with fail
    go_ret
    have kq := kept_drewN [] w1 nq
    rw [hdL.out, hT.out, if_neg (by decide)]
    exact ⟨rfl, ⟨ob, ht1.kept kq (by simp) (by simp), fun k e => .inl (by first | exact e | simpa using e)⟩, (hk01.trans kq).mono (by simp)⟩
end Go.Proofs.Ytpphlcjabnbblaa.Itree

