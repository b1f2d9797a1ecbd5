/-
  The walk of FlightApart.
-/
import Derived.Test.YtollfckgjhklcaaFlP
import Derived.Test.YtollfckgjhklcaaFlX
import Derived.Deep.Cut
import Derived.Deep.CutBlock
namespace Go.Proofs.Ytollfckgjhklcaa.Flight
open Go.RowKit Go.Maps Go.Sort
open Table (Rising ins del tks)

theorem addL_length (L : List (Int × Fw)) (t o l : Int) (bs : List Nat) : (addL L t o l bs).length ≤ L.length + 1 := by
  unfold addL
  split
  · rw [Table.ins_length]
    exact Nat.le_refl _
  · omega
theorem endL_length (L : List (Int × Fw)) (t : Int) : (endL L t).length ≤ L.length := by
  unfold endL del
  split
  · simp
    omega
  · exact Nat.le_refl _
/-- Bytes that came in, at every later world of the flights. -/
theorem far_row {W0 A : World} {lo hi f b p : Nat} {F : List Nat} {L : List (Int × Fw)} (h : FlAt A lo hi f b p F L) (hk : Kept [] W0 A) (hlo : W0.heap.size ≤ lo) {v : Value} {bs : List Nat} (hv : ByteRow W0.heap.size W0 v bs) : ∀ W, Kept F A W → ByteRow W.heap.size W v bs :=
  (hv.kept (Nat.le_refl _) hk (by simp)).far hk.size (fun k hk' => Nat.le_trans hlo (h.young.2.2 k hk'))
theorem two_new (W : World) (t u : TypeId) (c d : Array Value) : Blk ((W.alloc (.cells c t)).alloc (.cells d u)).drew W.heap.size t c ∧ Blk ((W.alloc (.cells c t)).alloc (.cells d u)).drew (W.heap.size + 1) u d ∧ Kept [] W ((W.alloc (.cells c t)).alloc (.cells d u)).drew := by
  have k1 := kept_alloc [] W (.cells c t)
  have k2 := kept_alloc [] (W.alloc (.cells c t)) (.cells d u)
  have b1 := (blk_new W t c).kept k2 (by simp)
  have b2 := blk_new (W.alloc (.cells c t)) u d
  rw [show (W.alloc (.cells c t)).heap.size = W.heap.size + 1 by simp] at b2
  exact ⟨b1.kept (kept_drew [] _) (by simp), b2.kept (kept_drew [] _) (by simp), (k1.trans k2).trans (kept_drew [] _)⟩
/-- Two that are there. -/
theorem two_apart {L : List (Int × Fw)} (hg : Good L) {xs : List Fv} (hx : (xs.map fun x => (x.t, x.fw)) = L) {i k : Nat} (hki : k < i) {x y : Fv} (hi : xs[i]? = some x) (hk : xs[k]? = some y) : ¬ x.t ≤ y.t ∧ (¬ x.o < y.o + y.l ∨ ¬ y.o < x.o + x.l) ∧ Span.Math.plain x.o x.l = true ∧ Span.Math.plain y.o y.l = true := by
  have h1 := fv_at_list hx hi
  have h2 := fv_at_list hx hk
  have hlt := (List.getElem?_eq_some_iff.1 h1)
  have hlt2 := (List.getElem?_eq_some_iff.1 h2)
  have r := List.pairwise_iff_getElem.1 hg.rising k i hlt2.1 hlt.1 hki
  have a := List.pairwise_iff_getElem.1 hg.apart k i hlt2.1 hlt.1 hki
  rw [hlt.2, hlt2.2] at r a
  have f1 := hg.fine _ (List.mem_of_getElem? h1)
  have f2 := hg.fine _ (List.mem_of_getElem? h2)
  have p1 : Span.Math.plain x.o x.l = true := f1.2.1
  have p2 : Span.Math.plain y.o y.l = true := f2.2.1
  have l1 : 1 ≤ x.l := f1.2.2.1
  have l2 : 1 ≤ y.l := f2.2.2.1
  have r' : y.t < x.t := r
  refine ⟨by omega, ?_, p1, p2⟩
  rcases Classical.em (x.o < y.o + y.l) with e | e
  · right
    intro e2
    have : Span.Math.over y.o y.l x.o x.l = true := Span.Math.over_true p2 p1 (by omega)
    have a' : Span.Math.over y.o y.l x.o x.l = false := a
    rw [this] at a'
    cases a'
  · exact .inl e
/-- Bytes of which there is one. -/
theorem byt_open {lo hi : Nat} {W : World} {so : Option Addr} {n co c : Nat} {bs r : List Nat} (h : Byt lo hi W (.slice so n co) bs) (hb : bs = c :: r) : ∃ g off cur, so = some ⟨g, off, none⟩ ∧ n = bs.length ∧ bs.length ≤ co ∧ lo ≤ g ∧ g < hi ∧ Blk W g 5 cur ∧ cur[off]? = some (.int .u8 (c : Int)) := by
  obtain ⟨_, a, cap, e, _, h0 | ⟨g, off, cur, e2, hl, h1, h3, h2, hc⟩⟩ := h
  · rw [h0] at hb
    cases hb
  · injection e with e3 e4 e5
    refine ⟨g, off, cur, e3.trans e2, e4, by omega, h1, h3, h2, ?_⟩
    have := hc 0 (by rw [hb]; simp)
    rw [Nat.add_zero] at this
    rw [this, hb]
    rfl
/-- One write that is on its way. -/
def oneL (bs : List Nat) : List (Int × Fw) := [(1, ⟨1, 1, bs, 0⟩)]
theorem one_add (bs : List Nat) : addOk [] 1 1 1 = true ∧ addL [] 1 1 1 bs = oneL bs := ⟨by decide, rfl⟩
theorem one_found {bs : List Nat} {y : Fv} (h : Found (oneL bs) 1 y) : y.bs = bs := congrArg Fw.bs h.2
theorem one_list {bs : List Nat} {xs : List Fv} (h : (xs.map fun x => (x.t, x.fw)) = oneL bs) : ∃ x, xs = [x] ∧ x.bs = bs := by
  have hl := congrArg List.length h
  simp [oneL] at hl
  obtain ⟨x, rfl⟩ := List.length_eq_one_iff.1 hl
  refine ⟨x, rfl, ?_⟩
  have := congrArg (fun l => l.head?.map fun p : Int × Fw => p.2.bs) h
  simpa [oneL, Fv.fw] using this
/-- The bytes that were given may be turned. -/
theorem own_step {w wr w5 w6 w7 : World} {so : Option Addr} {n5 co c : Nat} {BS r : List Nat} {f b p : Nat} {F F' : List Nat} {L L' : List (Int × Fw)} (hk0 : Kept [] w wr) (hk5 : Kept [] wr w5) (hB5 : Byt wr.heap.size w5.heap.size w5 (.slice so n5 co) BS) (hne : BS = c :: r)
    (h6 : FlAt w6 w5.heap.size w6.heap.size f b p F L') (hk6 : Kept [] w5 w6) (h7 : FlAt w7 w5.heap.size w7.heap.size f b p F' L) (hk7 : Kept (b :: F) w6 w7) :
    ∃ g off, so = some ⟨g, off, none⟩ ∧ n5 = BS.length ∧ BS.length ≤ co ∧ w7.cell? ⟨g, off, none⟩ = some (.int .u8 (c : Int)) ∧ w7.frozen? ⟨g, off, none⟩ = false ∧ ∀ v, FlAt (w7.setCell ⟨g, off, none⟩ v) w5.heap.size w7.heap.size f b p F' L ∧ Kept [] w (w7.setCell ⟨g, off, none⟩ v) := by
  obtain ⟨g, off, cur, rfl, rfl, hco, hlo, hhi, hb, hc⟩ := byt_open hB5 hne
  have hb7 := (hb.kept hk6 (by simp)).kept hk7 (fun hm => by
    rcases List.mem_cons.1 hm with e | e
    · have := h6.young.2.1
      omega
    · have := h6.young.2.2 _ e
      omega)
  have hk7' : Kept [] w w7 := h6.past ((hk0.trans hk5).trans hk6) (Nat.le_trans hk0.size hk5.size) hk7
  have sw := hk0.size
  refine ⟨g, off, rfl, rfl, hco, (hb7.cell off).trans hc, hb7.frozen off, fun v => ⟨?_, hk7'.young (kept_set (L := [g]) (g := g) (by simp) w7 off v) (by omega)⟩⟩
  refine h7.kept (kept_set (L := [g]) (g := g) (by simp) w7 off v) ?_ ?_ (fun k hk => ?_) ?_
  · have := h7.young.1
    simp
    omega
  · have := h7.young.2.1
    simp
    omega
  · have := h7.young.2.2 k hk
    simp
    omega
  · simp
    exact .inl hhi
/-- The bytes that were told may be turned. -/
theorem told_step {w A B : World} {lo hi f b p : Nat} {F : List Nat} {L : List (Int × Fw)} {y : Fv} {c : Nat} {BS r : List Nat} (hkw : Kept [] w A) (h : FlAt A lo hi f b p F L) (hk : Kept [] A B) (hyA : y.At A.heap.size B.heap.size B) (hyb : y.bs = BS) (hne : BS = c :: r) (C : World) (hC : Kept [] B C) :
    ∃ g off, y.sa = some ⟨g, off, none⟩ ∧ y.len = BS.length ∧ BS.length ≤ y.cap ∧ C.cell? ⟨g, off, none⟩ = some (.int .u8 (c : Int)) ∧ C.frozen? ⟨g, off, none⟩ = false ∧ ∀ v, FlAt (C.setCell ⟨g, off, none⟩ v) lo hi f b p F L ∧ Kept [] w (C.setCell ⟨g, off, none⟩ v) := by
  have hyC := hyA.kept0 hC
  obtain ⟨g, off, cur, e1, e2, hco, hlo, hhi, hb, hc⟩ := byt_open (bs := y.bs) hyC (hyb.trans hne)
  rw [hyb] at e2 hco
  have lts := h.lts
  have hh := h.hih
  have hkC := hk.trans hC
  refine ⟨g, off, e1, e2, hco, (hb.cell off).trans hc, hb.frozen off, fun v => ⟨?_, (hkw.trans hkC).young (kept_set (L := [g]) (g := g) (by simp) C off v) (Nat.le_trans hkw.size hlo)⟩⟩
  refine (h.kept0 hkC).kept (kept_set (L := [g]) (g := g) (by simp) C off v) ?_ ?_ (fun k hk => ?_) ?_
  · have := lts.1
    simp
    omega
  · have := lts.2.1
    simp
    omega
  · have := lts.2.2 k hk
    simp
    omega
  · simp
    exact .inr (.inl (by omega))
set_option maxRecDepth 100000 in
set_option maxHeartbeats 1000000 in
theorem apart_early (a0 : Option Addr) (len cap : Nat) (a1 : Option Addr) (lenb capb : Nat) (hlen : len ≤ 9223372036854775807) (hlenb : lenb ≤ 9223372036854775807) (w : World) (h : 60 < len ∨ 200 < lenb) :
    Calls Try.prog 3 #[.slice a0 len cap, .slice a1 lenb capb] w fun e w' => e = .returned (.bool true) ∧ Kept [] w w' := by
  have q := lives_any w
  by_cases h1 : 60 < len
  · have e1 : (60 : Int) < (len : Int) := by omega
    go_enter Try.func3, Try.ntmps3
    go_wp2_with (go_at_call 5; refine q.mono ?_; rintro e w1 ⟨rfl, hk1⟩)
    go_ret
    exact ⟨rfl, hk1⟩
  · have e1 : ¬ ((60 : Int) < (len : Int)) := by omega
    have e2 : (200 : Int) < (lenb : Int) := by omega
    go_enter Try.func3, Try.ntmps3
    go_wp2_with (go_at_call 5; refine q.mono ?_; rintro e w1 ⟨rfl, hk1⟩)
    go_ret
    exact ⟨rfl, hk1⟩
set_option maxRecDepth 100000 in
set_option maxHeartbeats 4000000 in
theorem apart_play (a0 : Option Addr) (len cap : Nat) (acts : List Ac) (hlen : len ≤ 60) (a1 : Option Addr) (lenb capb : Nat) (bs : List Nat) (hlenb : lenb ≤ 200) (w : World) (hacts : AcsAt w.heap.size w a0 len cap acts) (hbig : ∀ x ∈ acts, x.bs.length ≤ 140737488351232) (hbs : ByteRow w.heap.size w (.slice a1 lenb capb) bs) :
    Calls Try.prog 3 #[.slice a0 len cap, .slice a1 lenb capb] w fun e w' => e = .returned (.bool true) ∧ Kept [] w w' := by
  have q := new_any w
  have e1 : ¬ ((60 : Int) < (len : Int)) := by omega
  have e2 : ¬ ((200 : Int) < (lenb : Int)) := by omega
  have hbl : Hid (bs.length = lenb) := by
    obtain ⟨_, _, _, e, _⟩ := hbs
    injection e with _ e _
    exact e.symm
  replace hbs : Hid (ByteRow w.heap.size w (.slice a1 lenb capb) bs) := hbs
  replace hbig : Hid (∀ x ∈ acts, x.bs.length ≤ 140737488351232) := hbig
  go_enter Try.func3, Try.ntmps3
  go_wp2_with (go_at_call 6; refine q.mono ?_; rintro e w1 ⟨f, b, p, F, rfl, h1, hk1⟩)
  go_loopw [30] (fun i wr => ∃ (k : Nat) (F : List Nat) (L : List (Int × Fw)), i = .int .i64 k ∧ k ≤ len ∧ FlAt wr w.heap.size wr.heap.size f b p F L ∧ L.length ≤ k ∧ Kept [] w wr) (fun i _ => len - (RowKit.intOf i).toNat)
  case atStart => exact ⟨0, F, [], rfl, Nat.zero_le _, h1, by simp, hk1⟩
  case round =>
    clear h1 hk1
    obtain ⟨k, F, L, rfl, hk, hF, hLk, hkr⟩ := hrel
    have hlo : Hid (w.heap.size ≤ wr.heap.size) := hkr.size
    by_cases hlt : k < len
    · have hlt' : (k : Int) < (len : Int) := by omega
      have hk1 : (k : Int) + 1 < 9223372036854775808 := by omega
      obtain ⟨x, g, off, hx, hok, rfl, d0, d1, d2, d3, d4, d5⟩ := (hacts.kept (Nat.le_refl _) hkr (by simp)).at hlt
      have hxm := List.mem_of_getElem? hx
      have hxr := (hacts.2.1 x hxm).row
      have hxb := hbig.out x hxm
      have ka := kept_alloc [] wr (.cells #[.int .i64 x.k, .int .i64 x.t, .int .i64 x.n, .int .i64 x.o, .int .i64 x.l, .slice x.sa x.len x.cap] 30)
      have hFa := (hF.kept0 ka).up
      have hloa : Hid (w.heap.size ≤ (wr.alloc (.cells #[.int .i64 x.k, .int .i64 x.t, .int .i64 x.n, .int .i64 x.o, .int .i64 x.l, .slice x.sa x.len x.cap] 30)).heap.size) := Nat.le_trans hkr.size ka.size
      have hmm : Hid (len - ((k : Int) + 1).toNat < len - (k : Int).toNat) := (show _ < _ by omega)
      have cc : ∀ j, (wr.alloc (.cells #[.int .i64 x.k, .int .i64 x.t, .int .i64 x.n, .int .i64 x.o, .int .i64 x.l, .slice x.sa x.len x.cap] 30)).cell? ⟨wr.heap.size, j, none⟩ = (#[.int .i64 x.k, .int .i64 x.t, .int .i64 x.n, .int .i64 x.o, .int .i64 x.l, .slice x.sa x.len x.cap] : Array Value)[j]? := fun j => (blk_new wr 30 _).cell j
      by_cases hkind : x.k = 2
      · have e3 : (x.k == 2) = true := by simp [hkind]
        replace hkind : Hid _ := hkind
        have qe := end_any x.t hok.t0 hok.t1 _ hFa (by omega) hloa.out
        clear hF cc
        go_wp2_with (first
          | (go_at_call 7; refine qe.mono ?_; rintro e w2 ⟨F', rfl, h2, hF2, hk2⟩))
        go_roundw
        case rel => exact ⟨k + 1, F', _, by go_num, by omega, h2.up, Nat.le_trans (endL_length L x.t) (by omega), hFa.past (hkr.trans ka) (Nat.le_refl _) hk2⟩
        case measure => exact hmm.out
      · have e3 : (x.k == 2) = false := by simp [hkind]
        replace hkind : Hid _ := hkind
        have qd := add_any x.t x.o x.l (.slice x.sa x.len x.cap) x.bs hok.t0 hok.t1 hok.it _ hFa (by omega) hloa.out (far_row hFa (hkr.trans ka) (Nat.le_refl _) hxr) hxb
        clear hF cc
        go_wp2_with (first
          | (go_at_call 8; refine qd.mono ?_; rintro e w2 ⟨F', rfl, h2, hF2, hk2⟩))
        go_roundw
        case rel => exact ⟨k + 1, F', _, by go_num, by omega, h2.up, Nat.le_trans (addL_length L x.t x.o x.l x.bs) (by omega), hFa.past (hkr.trans ka) (Nat.le_refl _) hk2⟩
        case measure => exact hmm.out
    · obtain rfl : k = len := by omega
      have hlt' : ¬ ((k : Int) < (k : Int)) := by omega
      have ql := list_any wr hF (by omega)
      clear hacts
      go_wp2_with (go_at_call 9; refine ql.mono ?_; rintro e w2 ⟨v, rfl, ⟨xs, hxL, -, hxW⟩, hk2⟩; obtain ⟨a, cp, rfl, hcp, hcase⟩ := hxW.open; have hxn : xs.length = L.length := (by rw [← hxL]; simp); obtain ⟨n, hnn⟩ : ∃ n, xs.length = n := ⟨_, rfl⟩; rw [hnn] at hxn hcp ⊢; replace hnn : Hid _ := hnn; replace hxn : Hid _ := hxn)
      have hn60 : n ≤ 60 := by have := hxn.out; omega
      have hkw2 : Kept [] w w2 := hkr.trans hk2
      have hgood := hF.good
      replace hcase : Hid (xs = [] ∨ ∃ g off, a = some ⟨g, off, none⟩ ∧ wr.heap.size ≤ g ∧ Lies 36 w2 g off xs) := hcase
      obtain ⟨wo, rfl⟩ : ∃ wo, wo = wr := ⟨_, rfl⟩
      go_loopw [54] (fun i wq => ∃ j : Nat, i = .int .i64 j ∧ j ≤ n ∧ Kept [] w2 wq) (fun i _ => n - (RowKit.intOf i).toNat)
      case atStart => exact ⟨0, rfl, Nat.zero_le _, Kept.refl _ _⟩
      case round =>
        obtain ⟨i, rfl, hi, hkq⟩ := hrel
        by_cases hin : i < n
        · have hin' : (i : Int) < (n : Int) := by omega
          obtain ⟨g, off, rfl, hg, hL⟩ : ∃ g off, a = some ⟨g, off, none⟩ ∧ wo.heap.size ≤ g ∧ Lies 36 w2 g off xs := by
            rcases hcase.out with h0 | h0
            · have := hnn.out
              rw [h0] at this
              simp at this
              omega
            · exact h0
          have hi1 : (i : Int) + 1 < 9223372036854775808 := by omega
          have hmi : Hid (n - ((i : Int) + 1).toNat < n - (i : Int).toNat) := (show _ < _ by omega)
          obtain ⟨x, hx⟩ : ∃ x, xs[i]? = some x := ⟨_, List.getElem?_eq_getElem (by rw [hnn.out]; exact hin)⟩
          obtain ⟨wq, rfl⟩ : ∃ wq, wq = wr := ⟨_, rfl⟩
          go_wp2_with fail
          go_loopw [10] (fun m wz => ∃ j : Nat, m = .int .i64 j ∧ j ≤ i ∧ Kept [] w2 wz) (fun m _ => i - (RowKit.intOf m).toNat)
          case atStart => exact ⟨0, rfl, Nat.zero_le _, hkq⟩
          case round =>
            obtain ⟨m, rfl, hm, hkm⟩ := hrel
            by_cases hmi2 : m < i
            · have hmi' : (m : Int) < (i : Int) := by omega
              have hmn : m < n := by omega
              have hmn' : (m : Int) < (n : Int) := by omega
              have hm1 : (m : Int) + 1 < 9223372036854775808 := by omega
              have hmm : Hid (i - ((m : Int) + 1).toNat < i - (m : Int).toNat) := (show _ < _ by omega)
              obtain ⟨y, hy⟩ : ∃ y, xs[m]? = some y := ⟨_, List.getElem?_eq_getElem (by rw [hnn.out]; exact hmn)⟩
              obtain ⟨t1, t2, t3, t4⟩ := two_apart hgood hxL hmi2 hx hy
              have hcx := fun V (hv : Kept [] wr V) => hL.at hx (hkm.trans hv) (by simp)
              have hcy := fun V (hv : Kept [] wr V) => hL.at hy (hkm.trans hv) (by simp)
              obtain ⟨-, x1, x2, -⟩ := hcx wr.drew (kept_drew [] _)
              obtain ⟨-, y1, y2, -⟩ := hcy wr.drew (kept_drew [] _)
              have x3 := fun o => (hcx (wr.alloc o).drew ((kept_alloc [] wr o).trans (kept_drew [] _))).2.1
              have x4 := fun o => (hcx (wr.alloc o).drew ((kept_alloc [] wr o).trans (kept_drew [] _))).2.2.1
              have y3 := fun o => (hcy (wr.alloc o).drew ((kept_alloc [] wr o).trans (kept_drew [] _))).2.1
              have y4 := fun o => (hcy (wr.alloc o).drew ((kept_alloc [] wr o).trans (kept_drew [] _))).2.2.1
              have x5 := fun o p => (hcx ((wr.alloc o).alloc p).drew (((kept_alloc [] wr o).trans (kept_alloc [] _ p)).trans (kept_drew [] _))).2.1
              have x6 := fun o p => (hcx ((wr.alloc o).alloc p).drew (((kept_alloc [] wr o).trans (kept_alloc [] _ p)).trans (kept_drew [] _))).2.2.1
              have y5 := fun o p => (hcy ((wr.alloc o).alloc p).drew (((kept_alloc [] wr o).trans (kept_alloc [] _ p)).trans (kept_drew [] _))).2.1
              have y6 := fun o p => (hcy ((wr.alloc o).alloc p).drew (((kept_alloc [] wr o).trans (kept_alloc [] _ p)).trans (kept_drew [] _))).2.2.1
              replace hx : Hid _ := hx
              replace hy : Hid _ := hy
              replace t1 : Hid _ := t1
              replace t2 : Hid _ := t2
              go_wp2_with fail
              go_cut [11, 12] from 62 to 72 (fun s11 s12 W => ∃ bu bv, s11 = .pointer (some ⟨bu, 0, none⟩) ∧ s12 = .pointer (some ⟨bv, 0, none⟩) ∧ Blk W bu 28 #[.int .i64 x.o, .int .i64 x.l] ∧ Blk W bv 28 #[.int .i64 y.o, .int .i64 y.l] ∧ Kept [] wr W)
              case first =>
                go_region
                · go_wp2_with fail
                  go_meet
                  obtain ⟨h1, h2, h3⟩ := two_new wr 28 28 #[.int .i64 x.o, .int .i64 x.l] #[.int .i64 y.o, .int .i64 y.l]
                  exact ⟨_, _, rfl, rfl, h1, h2, h3⟩
                · go_wp2_with fail
                  go_meet
                  obtain ⟨h1, h2, h3⟩ := two_new wr 28 28 #[.int .i64 y.o, .int .i64 y.l] #[.int .i64 x.o, .int .i64 x.l]
                  exact ⟨_, _, rfl, rfl, h2, h1, h3⟩
              case rest =>
                obtain ⟨bu, bv, rfl, rfl, hbu, hbv, hkc⟩ := hcut
                clear x1 x2 x3 x4 x5 x6 y1 y2 y3 y4 y5 y6
                have px := Span.Math.of_plain t3
                have py := Span.Math.of_plain t4
                have z1 := fun nn => (hcx (wc.drewN nn) (hkc.trans (kept_drewN [] _ nn))).1
                have z2 := fun nn => (hcy (wc.drewN nn) (hkc.trans (kept_drewN [] _ nn))).1
                have u0 := fun nn => ((hbu.kept (kept_drewN [] _ nn) (by simp)).cell 0).trans (show _ = some (Value.int .i64 x.o) from rfl)
                have u1 := fun nn => ((hbu.kept (kept_drewN [] _ nn) (by simp)).cell 1).trans (show _ = some (Value.int .i64 x.l) from rfl)
                have v0 := fun nn => ((hbv.kept (kept_drewN [] _ nn) (by simp)).cell 0).trans (show _ = some (Value.int .i64 y.o) from rfl)
                have v1 := fun nn => ((hbv.kept (kept_drewN [] _ nn) (by simp)).cell 1).trans (show _ = some (Value.int .i64 y.l) from rfl)
                have e5 : decide (x.t ≤ y.t) = false := decide_eq_false t1.out
                clear hcx hcy hbu hbv
                by_cases e6 : x.o < y.o + y.l
                · have e7 : decide (y.o < x.o + x.l) = false := decide_eq_false (by have := t2.out; omega)
                  have e8 : decide (x.o < y.o + y.l) = true := decide_eq_true e6
                  clear e6
                  go_wp2_with fail
                  go_quiet (fail)
                  go_wp2_with fail
                  go_roundw
                  case rel => exact ⟨m + 1, by go_num, by omega, hkm.trans (hkc.trans (kept_drewN [] _ _))⟩
                  case measure => exact hmm.out
                · have e8 : decide (x.o < y.o + y.l) = false := decide_eq_false e6
                  clear e6
                  go_wp2_with fail
                  go_quiet (fail)
                  go_wp2_with fail
                  go_roundw
                  case rel => exact ⟨m + 1, by go_num, by omega, hkm.trans (hkc.trans (kept_drewN [] _ _))⟩
                  case measure => exact hmm.out
            · obtain rfl : m = i := by omega
              have hmi' : ¬ ((m : Int) < (m : Int)) := by omega
              go_wp2_with fail
              go_roundw
              case rel => exact ⟨m + 1, by go_num, by omega, hkm⟩
              case measure => exact hmi.out
        · obtain rfl : i = n := by omega
          have hin' : ¬ ((i : Int) < (i : Int)) := by omega
          have hk0 : Kept [] w wr := hkw2.trans hkq
          clear hF hgood
          cases bs with
          | nil =>
            have hl0 : Hid (lenb = 0) := hbl.out.symm
            have e9 : ((lenb : Int) == 0) = true := by rw [hl0.out]; rfl
            have q5 := lives_any wr
            go_wp2_with (first
              | (go_at_call 5; refine q5.mono ?_; rintro e w5 ⟨rfl, hk5⟩))
            go_ret
            exact ⟨rfl, hk0.trans hk5⟩
          | cons c bs' =>
            obtain ⟨BS, hBS⟩ : ∃ BS, c :: bs' = BS := ⟨_, rfl⟩
            rw [hBS] at hbs hbl
            have hne : Hid (BS = c :: bs') := hBS.symm
            have hl1 : Hid (1 ≤ lenb) := (show _ ≤ _ by rw [← hbl.out, ← hBS]; simp)
            have e9 : ((lenb : Int) == 0) = false := by
              have := hl1.out
              simp
              omega
            have hlen' : Hid (BS.length ≤ 140737488351232) := (show _ ≤ _ by rw [hbl.out]; omega)
            clear hBS
            have ka := kept_alloc [] wr (.cells #[] 5)
            have hb1 : Hid (ByteRow w.heap.size (wr.alloc (.cells #[] 5)) (.slice a1 lenb capb) BS) := hbs.out.kept (Nat.le_refl _) (hk0.trans ka) (by simp)
            have r0 : Hid ((wr.alloc (.cells #[] 5)).ownsRow wr.heap.size 5 1 (.slice (some ⟨wr.heap.size, 0, none⟩) 0 0) 0 []) := World.ownsRow_made wr #[] 0 (Nat.le_refl _) (by unfold maxLen; omega) rfl
            have sw := hk0.size
            go_wp2_with (first
              | (at_builtin; refine wpList_append_bytes rfl _ _ rfl wr.heap.size _ _ w.heap.size BS rfl r0.out rfl hb1.out hlen'.out (by simp) ?_; intro so n5 co w5 hB5 hg5; have hk5 : Kept [] wr w5 := kept_grown r0.out hg5 wr ka (Nat.le_refl _); clear hg5; have q6 := new_any w5)
              | (go_at_call 6; refine q6.mono ?_; rintro e w6 ⟨f2, b2, p2, F2, rfl, h6, hk6⟩; clear q6; have hB6 := hB5.kept hk6 (by simp); have s6 := hk6.size; have q7 := add_any 1 1 1 (.slice so n5 co) BS (by omega) (by omega) (by constructor <;> decide) w6 h6 (by simp) s6 (hB6.far s6 (fun k hk => .inr (.inl (h6.young.2.2 k hk)))) hlen'.out; rw [(one_add BS).1, (one_add BS).2] at q7)
              | (go_at_call 8; refine q7.mono ?_; rintro e w7 ⟨F3, rfl, h7, -, hk7⟩; clear q7; obtain ⟨g5, off5, rfl, rfl, hco5, c7, f7, hst⟩ := own_step hk0 hk5 hB5 hne.out h6 hk6 h7 hk7; have hp5 : (0 : Int) < (BS.length : Int) := (by have := congrArg List.length hne.out; simp at this; omega); have q8 := fun v => get_any 1 (by omega) (by omega) _ (hst v).1; clear hB5 hB6)
              | (go_at_call 10; refine (q8 _).mono ?_; clear q8; rintro e w9 ⟨⟨yt, yo, yl, ysa, ylen, ycap, yst, ybs⟩, rfl, hyf, hyA, hk9⟩; replace hyf : Hid (ybs = BS) := one_found hyf; have ka9 := kept_alloc [] w9 (.cells #[.int .i64 yt, .int .i64 yo, .int .i64 yl, .slice ysa ylen ycap, .int .i64 yst] 36); have hcn := conv_txt (hyA.kept0 ka9).in; dsimp only at hcn; rw [hyf.out] at hcn; have hcb := conv_txt (hbs.out.kept (Nat.le_refl _) (((hst _).2.trans hk9).trans ka9) (by simp)); have hT := told_step (hst _).2 (hst _).1 hk9 hyA hyf.out hne.out _ ka9; unfold Fv.val; dsimp only at hT ⊢; obtain ⟨g9, off9, rfl, rfl, hco9, c9, f9, hst9⟩ := hT; have q10 := fun v => list_any _ (hst9 v).1 (by simp [oneL]); clear hyA)
              | (go_at_call 9; refine (q10 _).mono ?_; clear q10; rintro e w11 ⟨v11, rfl, hLi, hk11⟩; have hk11' := (hst9 _).2.trans hk11))
            obtain ⟨xs2, hxs, hxA, hxW2⟩ := hLi
            obtain ⟨x, rfl, hxb⟩ := one_list hxs
            rcases hxW2 with ⟨_, h0⟩ | ⟨gg, oo, cp2, rfl, -, hcp2, hL11⟩
            · cases h0
            · have S0 : ∀ V, Kept [] w11 V → V.cell? ⟨gg, oo + 3, none⟩ = some (.slice x.sa x.len x.cap) ∧ (convert 23 9 (.slice x.sa x.len x.cap)).run Try.prog V = .ok (.string (txt BS)) V ∧ (convert 23 9 (.slice a1 lenb capb)).run Try.prog V = .ok (.string (txt BS)) V := fun V hv => by
                have h3 := (hL11.at (i := 0) rfl hv (by simp)).2.2.2.1
                have hx' := conv_txt ((hxA x (by simp)).kept0 hv).in
                rw [hxb] at hx'
                exact ⟨by simpa using h3, hx', conv_txt (hbs.out.kept (Nat.le_refl _) (hk11'.trans hv) (by simp))⟩
              have qv := fun V => lives_any V
              have hkd := kept_drew [] w11
              clear hst hst9 hL11 hxA c7 f7 c9 f9 hcn hcb h6 h7
              go_region_held3 (fun V => V.cell? ⟨gg, oo + 3, none⟩ = some (.slice x.sa x.len x.cap) ∧ (convert 23 9 (.slice x.sa x.len x.cap)).run Try.prog V = .ok (.string (txt BS)) V ∧ (convert 23 9 (.slice a1 lenb capb)).run Try.prog V = .ok (.string (txt BS)) V) (exact S0 _ hkd) (first
                | (go_at_call 5; refine (qv _).mono ?_; rintro e w12 ⟨rfl, hk12⟩; replace hkd := hkd.trans hk12))
              go_wp2_with fail
              go_ret
              exact ⟨rfl, hk11'.trans hkd⟩
end Go.Proofs.Ytollfckgjhklcaa.Flight
