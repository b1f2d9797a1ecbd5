/-
  What waiting tells.
-/
import Derived.Test.YthlnhmdeoapoeaaLtC
import Derived.RangeFuncNested
import Derived.RangeFuncBox
import Derived.RangeFuncLeaves
import Derived.RangeFuncCalls
import Derived.RangeFuncMany
import Derived.Shelf.Abstract
import Derived.Shelf.RegionOpen
import Derived.OwnWalkIn
import Derived.TacticsInMore
import Derived.LoopNIn
import Derived.LoopIn
namespace Go.Proofs.Ythlnhmdeoapoeaa.Later
open Go.RowKit Go.Shelf

attribute [local go_sem] Oper.semAt_some

/-- What is no block of cells. -/
theorem foot_other {W : World} {row : Option Nat} (h : ∀ r, row = some r → ∃ o : Obj, W.heap[r]? = some o ∧ o.isCells = false) : Foot [] W row.toList := fun k hk t c hb => by
  obtain ⟨o, h1, h2⟩ := h k (by simpa using hk)
  unfold Blk at hb
  rw [hb] at h1
  injection h1 with h1
  subst h1
  cases h2
/-- What is told of a place. -/
def told (P : List Lv) (k : Nat) : Lv := P[k]?.getD lv0
theorem told_at {P : List Lv} {k : Nat} {x : Lv} (h : P[k]? = some x) : told P k = x := by simp [told, h]
set_option maxRecDepth 100000 in
set_option maxHeartbeats 2000000 in
/-- waiting's closure, for every loop body that keeps what lay below n₀. -/
theorem waiting1_in (F : Fence) (n : Nat) (hf : F.fn 27) (hfm : F.fn 23) (hro : F.round = none) (hn : 1 ≤ n) (l Bq n₀ base q len cap : Nat) (a : Option Addr) (gr : Option Nat) (P : List Lv) (f : Nat → Nat) (hfk : ∀ k, k < len → f k = k) (hlen : P.length = len) (hl : len ≤ 1000000) (J Jx : List Nat → World → Prop)
    (hM : ∀ W, Raw W q a len cap → CallsIn F (n - 1) Try.prog 23 #[.pointer (some ⟨q, 0, none⟩)] W fun e w' => e = .returned (.bool true) ∧ w' = W)
    (hY : ∀ pre x W, J pre W → pre.length < len → YieldAt F (n - 1) Try.prog l #[.int .i64 ((f x : Nat) : Int), (told P (f x)).val] W fun e W' =>
      (e = .returned (.bool true) ∧ J (pre ++ [x]) W' ∧ Below n₀ W W') ∨ (e = .returned (.bool false) ∧ Jx (pre ++ [x]) W'))
    (W : World) (hJ : AbidesFrom W.heap.size J) (hBq : W.cell? ⟨Bq, 0, none⟩ = some (.pointer (some ⟨q, 0, none⟩))) (hR : Raw W q a len cap) (hr : RowAt 37 base W (.slice a len cap) P gr) (hgr : ∀ g, gr = some g → g < n₀) (hn₀ : n₀ ≤ W.heap.size) (h0 : J [] W) :
    CallsIn F n Try.prog 27 #[.func (.yield l) #[] #[], .pointer (some ⟨Bq, 0, none⟩)] W fun e W' => (∃ v, e = .returned v) ∧
      ((∃ ys, ys = List.range len ∧ J ys W') ∨ (∃ pre, (∃ k, k < len ∧ pre = List.range (k + 1)) ∧ Jx pre W')) := by
  have q0 := hM W hR
  have c1 := hR.two.2
  have hcap : len ≤ cap ∧ cap ≤ 9223372036854775807 := (by
    obtain ⟨_, _, e', hcap, hcm⟩ := hr.open
    injection e' with _ _ e3
    rw [e3]
    exact ⟨by omega, hcm⟩)
  obtain ⟨hcap, hcm⟩ := hcap
  replace hlen : Hid (P.length = len) := hlen
  refine callsIn_of_wp Try.func27 rfl hf ?_ hro
  simp only [Try.ntmps27, List.size_toArray, List.length_cons, List.length_nil, Nat.reduceAdd, Nat.reduceSub, Array.replicate_succ, Array.replicate_zero, List.push_toArray, List.append_toArray, List.nil_append, List.cons_append]
  gi_wp2_with (gi_at_call 23; refine q0.mono ?_; rintro e W ⟨rfl, rfl⟩)
  clear q0 hM
  gi_loopw [13] (fun i wr => ∃ k : Nat, k ≤ len ∧ i = .int .i64 k ∧ J (List.range k) wr ∧ Below n₀ W wr ∧ W.heap.size ≤ wr.heap.size)
    (fun i _ => len - (intOf i).toNat)
  case atStart => exact ⟨0, Nat.zero_le _, rfl, h0, Below.refl _ _, Nat.le_refl _⟩
  case round =>
    obtain ⟨k, hk, rfl, hJs, hnx, hsz⟩ := hrel
    by_cases hlt : k < len
    · obtain ⟨x, hx⟩ : ∃ x, P[k]? = some x := ⟨_, List.getElem?_eq_getElem (by rw [hlen.out]; exact hlt)⟩
      obtain ⟨g, off, rfl, rfl, hcs⟩ := hr.at hx
      have hg0 := hgr g rfl
      have hcell := fun p => hnx.cell (p := ⟨g, p, none⟩) hg0
      obtain ⟨d0, d1, d2, d3⟩ := hcs [] W (Kept.refl _ _) (by simp)
      rw [← hcell] at d0 d1 d2 d3
      have i1 : (k : Int) < (len : Int) := by omega
      have hJ3 := hJ _ wr (wr.alloc (.cells #[.int .i64 x.id, .int .i64 x.o, .int .i64 x.l, .slice x.sa x.len x.cap] 37)) none hJs (World.grownBy_alloc wr _ none) (fun r e => by cases e)
      obtain ⟨fn, tmps, assign, body, hy, hRd⟩ := hY _ k _ hJ3 (by rw [List.length_range]; exact hlt)
      rw [hfk k hlt, told_at hx] at hy
      unfold Lv.val at hy
      have hb3 : Below n₀ wr (wr.alloc (.cells #[.int .i64 x.id, .int .i64 x.o, .int .i64 x.l, .slice x.sa x.len x.cap] 37)) := (Below.refl _ _).alloc (Nat.le_trans hn₀ hsz) _
      have hz3 := hb3.size
      replace hx : Hid _ := hx
      clear hcs hcell hY hJ hJ3 hr hfk
      gi_wp2
      refine hRd.mono ?_
      rintro e W3 (⟨rfl, hJ4, hk3⟩ | ⟨rfl, hJx3⟩)
      · gi_wp2
        go_roundw
        case rel => exact ⟨k + 1, by omega, by go_num, by rw [List.range_succ]; exact hJ4, (hnx.trans hb3).trans hk3, Nat.le_trans hsz (Nat.le_trans hz3 hk3.size)⟩
        case measure => simp [intOf]; omega
      · gi_wp2
        refine bodyPost_ret (results_none rfl _ _ _) rfl ?_
        exact ⟨⟨_, rfl⟩, .inr ⟨_, ⟨k, hlt, by rw [List.range_succ]⟩, hJx3⟩⟩
    · obtain rfl : k = len := by omega
      have i1 : ¬ ((k : Int) < (k : Int)) := by omega
      gi_wp2
      go_end0
      exact ⟨⟨_, rfl⟩, .inl hJs⟩
set_option maxRecDepth 100000 in
/-- What waiting hands back tells all, in order, or a part, from the first on. -/
theorem waiting_stops (n : Nat) (hn : 1 ≤ n) {w0 : World} {base q : Nat} {gr : Option Nat} {L : List Lw} (h : QAt w0 base q gr L) (hs : L.length ≤ 1000000) (f : Nat → Nat) (hfk : ∀ k, k < L.length → f k = k) (n₀ Bq : Nat) (w : World) (hk : Below w0.heap.size w0 w) (hn₀ : w0.heap.size ≤ n₀) (hnw : n₀ ≤ w.heap.size) (hb : Bq < w.heap.size) (hc : w.cell? ⟨Bq, 0, none⟩ = some (.pointer (some ⟨q, 0, none⟩))) :
    ∃ P : List Lv, P.map Lv.lw = L ∧ (∀ x ∈ P, x.At w0) ∧ SeqStopsK Fence.wide n Try.prog 27 #[.pointer (some ⟨Bq, 0, none⟩)] (fun x : Nat => #[.int .i64 ((f x : Nat) : Int), (told P (f x)).val]) (Below n₀) (fun ys => ys = List.range L.length) (fun pre => ∃ k, k < L.length ∧ pre = List.range (k + 1)) L.length w := by
  obtain ⟨a, cap, P, hR, hr, hl, hat, hPl, hc1, hc2⟩ := h.three
  refine ⟨P, hl, hat, fun l J Jx W hW hJ _ hY h0 => ?_⟩
  have hlt := h.lt
  have hWk : Kept [] w0 W := Kept.of_below (hk.trans (hW.mono hk.size)) []
  exact waiting1_in Fence.wide n trivial trivial rfl hn l Bq n₀ base q L.length cap a gr P f hfk hPl hs J Jx (fun V hV => callsIn_wide.2 (made_any V hV)) hY W hJ ((hW.cell (p := ⟨Bq, 0, none⟩) hb).trans hc) (hR.kept hWk (by simp)) (hr.kept0 hWk) (fun g hg => Nat.lt_of_lt_of_le (hlt.2 g hg).2.1 hn₀) (Nat.le_trans hnw hW.size) h0
end Go.Proofs.Ythlnhmdeoapoeaa.Later
