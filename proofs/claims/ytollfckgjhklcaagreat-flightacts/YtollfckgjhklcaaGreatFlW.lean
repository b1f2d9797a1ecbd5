/-
  The document's flights in memory: the walks of Busy, Get, Turn and End.
-/
import Derived.Test.YtollfckgjhklcaaGreatFlV
namespace Go.Proofs.YtollfckgjhklcaaGreat.Flight
open Go.RowKit Go.Maps Go.Sort
open Table (Rising ins del tks)

/-- Blocks of the document's flights. -/
def Mine (W : World) (lo r : Nat) (K : List Nat) : Prop := ∀ k ∈ K, lo ≤ k ∧ (k = r ∨ ∃ cur, Blk W k 42 cur)
/-- What a call leaves. -/
def RDone (w w' : World) (lo r : Nat) (L : List (Int × Fw)) : Prop := ∃ P, tl P = L ∧ RFl w' lo w'.heap.size r P ∧ ∃ K, Kept K w w' ∧ Mine w lo r K
theorem rdone_same {w w' : World} {lo hi r : Nat} {P : List Fv} (h : RFl w lo hi r P) (hk : Kept [] w w') : RDone w w' lo r (tl P) := ⟨P, rfl, (h.kept0 hk).up, [], hk, fun k hk => by simp at hk⟩
theorem busy_hit {L : List (Int × Fw)} {p m : Int} {j : Nat} {x : Int × Fw} (hx : L[j]? = some x) (h : Span.Math.over x.2.o x.2.l p m = true) : busy L p m = true := List.any_eq_true.2 ⟨x, List.mem_of_getElem? hx, h⟩
theorem busy_all {L : List (Int × Fw)} {p m : Int} (h : ∀ j x, j < L.length → L[j]? = some x → Span.Math.over x.2.o x.2.l p m = false) : busy L p m = false := by
  unfold busy
  rw [List.any_eq_false]
  intro x hx
  obtain ⟨j, hj⟩ := List.getElem?_of_mem hx
  rw [h j x (List.getElem?_eq_some_iff.1 hj).1 hj]
  decide
set_option maxRecDepth 100000 in
set_option maxHeartbeats 1000000 in
/-- Busy -/
theorem rbusy_any {lo hi r : Nat} {P : List Fv} (o l : Int) (w : World) (h : RFl w lo hi r P) (hn6 : P.length ≤ 600) :
    Calls Tryz.prog 17 #[.pointer (some ⟨r, 0, none⟩), .agg #[.int .i64 o, .int .i64 l]] w fun e w' => e = .returned (.bool (busy (tl P) o l)) ∧ Kept [] w w' := by
  have ka := kept_alloc [] w (.cells #[.int .i64 o, .int .i64 l] 24)
  have hb0 := blk_new w 24 #[.int .i64 o, .int .i64 l]
  obtain ⟨v, hr, a, cap, rfl, hc, hm, hrow⟩ := h.row
  obtain ⟨W0, hW0⟩ : ∃ W0, w.alloc (.cells #[.int .i64 o, .int .i64 l] 24) = W0 := ⟨_, rfl⟩
  rw [hW0] at ka hb0
  obtain ⟨len, hlen⟩ : ∃ len, P.length = len := ⟨_, rfl⟩
  rw [hlen] at hr hc hn6
  have c0 := ((hr.kept ka (by simp)).cell 0).trans (show _ = some (Value.slice a len cap) from rfl)
  replace hlen : Hid (P.length = len) := hlen
  clear hr h
  go_enter Tryz.func17, Tryz.ntmps17
  go_wp2_with fail
  go_loopw [12] (fun i wr => ∃ j : Nat, j ≤ len ∧ i = .int .i64 j ∧ Hid (∀ m x, m < j → P[m]? = some x → Span.Math.over x.o x.l o l = false) ∧ Kept [] W0 wr) (fun i _ => len - (RowKit.intOf i).toNat)
  case atStart => exact ⟨0, by omega, rfl, fun m x hm => by omega, Kept.refl _ _⟩
  case round =>
    obtain ⟨j, hj, rfl, hso, hk⟩ := hrel
    by_cases hlt : j < len
    · obtain ⟨-, -, h4⟩ | ⟨b, off, rfl, -, hL⟩ := hrow
      · have := hlen.out
        rw [h4] at this
        simp at this
        omega
      obtain ⟨y, hy⟩ : ∃ y, P[j]? = some y := ⟨_, List.getElem?_eq_getElem (by rw [hlen.out]; exact hlt)⟩
      obtain ⟨d0, d1, d2, d3, d4⟩ := hL.at hy (ka.trans hk) (by simp)
      have hil : (j : Int) < (len : Int) := by omega
      have hj1 : (j : Int) + 1 < 9223372036854775808 := by omega
      have hb1 := hb0.kept (hk.trans (kept_alloc [] wr (.cells #[.int .i64 y.t, .int .i64 y.o, .int .i64 y.l, .slice y.sa y.len y.cap, .int .i64 y.st] 42))) (by simp)
      have s0 := (hb1.cell 0).trans (show _ = some (Value.int .i64 o) from rfl)
      have s1 := (hb1.cell 1).trans (show _ = some (Value.int .i64 l) from rfl)
      have q := fun W => Span.refOverlap_any y.o y.l o l W
      cases hov : Span.Math.over y.o y.l o l with
      | true =>
        rw [hov] at q
        have hB : Hid (busy (tl P) o l = true) := busy_hit (tl_at hy) hov
        clear hov hL hy
        go_wp2_with (go_at_call 39; refine (q _).mono ?_; rintro e w2 ⟨rfl, hb2⟩)
        go_ret
        exact ⟨by rw [hB.out]; rfl, (ka.trans hk).trans ((kept_alloc [] _ _).trans (Kept.of_below hb2 []))⟩
      | false =>
        rw [hov] at q
        have hso2 : Hid (∀ m x, m < j + 1 → P[m]? = some x → Span.Math.over x.o x.l o l = false) := fun m x hm hx => by
          by_cases e : m = j
          · subst e
            rw [hy] at hx
            rw [← Option.some.inj hx]
            exact hov
          · exact hso.out m x (by omega) hx
        clear hov hL hy
        go_wp2_with (go_at_call 39; refine (q _).mono ?_; rintro e w2 ⟨rfl, hb2⟩)
        go_roundw
        case rel => exact ⟨j + 1, by omega, by go_num, hso2, hk.trans ((kept_alloc [] _ _).trans (Kept.of_below hb2 []))⟩
        case measure => show len - (((j : Int) + 1).toNat) < len - ((j : Int).toNat); omega
    · obtain rfl : j = len := by omega
      have i1 : ¬ ((j : Int) < (j : Int)) := by omega
      have hB : Hid (busy (tl P) o l = false) := busy_all fun m x hm hx => by
        unfold tl at hx
        rw [List.getElem?_map] at hx
        cases hp : P[m]? with
        | none => rw [hp] at hx; cases hx
        | some y =>
          rw [hp] at hx
          rw [← Option.some.inj hx]
          exact hso.out m y (by rw [tl_length, hlen.out] at hm; exact hm) hp
      clear hrow
      go_wp2_with fail
      go_ret
      exact ⟨by rw [hB.out]; rfl, ka.trans hk⟩
set_option maxRecDepth 100000 in
theorem results_rwrite {fn : Func} {p u : Tmp} (h : fn.results = #[.cell p 42, .tmp u]) (tmps : Array Value) (w : World) (g : Nat) (cs : List Value) (hp : tmps.getD p undef = .pointer (some ⟨g, 0, none⟩)) (hg : Blk w g 42 cs.toArray) (hl : cs.length = 5) :
    (results fn tmps).run Tryz.prog w = .ok (.tuple #[.agg cs.toArray, tmps.getD u undef]) w := by
  have hl := run_loadVar_row (P := Tryz.prog) w g 42 42 cs.toArray (0, 0) _ hg Tryz.underlying42 (by rfl) (by rw [List.size_toArray, hl]; exact Tryz.sizeRW)
  rw [results_cell_tmp h, hp]
  simp [asAddr, hl, Result.andThen]
set_option maxRecDepth 100000 in
set_option maxHeartbeats 1000000 in
/-- Get -/
theorem rget_any {lo hi r : Nat} {P : List Fv} (k : Int) (w : World) (h : RFl w lo hi r P) (hn6 : P.length ≤ 600) :
    Calls Tryz.prog 13 #[.pointer (some ⟨r, 0, none⟩), .int .i64 k] w fun e w' => ∃ y : Fv, e = .returned (.tuple #[y.val, .bool (Table.look (tl P) k).isSome]) ∧ Found (tl P) k y ∧ y.At w.heap.size w'.heap.size w' ∧ Kept [] w w' := by
  have ka := kept_alloc [] w (.cells #[.int .i64 0, .int .i64 0, .int .i64 0, .slice none 0 0, .int .i64 0] 42)
  have hb0 := blk_new w 42 #[.int .i64 0, .int .i64 0, .int .i64 0, .slice none 0 0, .int .i64 0]
  have q := rplace_any k _ (h.kept0 ka) hn6
  cases hk : Table.look (tl P) k with
  | none =>
    rw [hk] at q
    have hfd : Found (tl P) k fv0 := ⟨by rw [hk]; rfl, by rw [hk]; rfl⟩
    generalize Table.place (tl P) k = n at *
    go_enter Tryz.func13, Tryz.ntmps13
    go_wp2_with (first
      | (go_at_call 32; refine q.mono ?_; rintro e w1 ⟨rfl, hk1⟩; have hb1 := hb0.kept hk1 (by simp))
      | (refine wpList_store_blk rfl 42 _ _ rfl w.heap.size 42 _ [.int .i64 0, .int .i64 0, .int .i64 0, .slice none 0 0, .int .i64 0] rfl rfl hb1 rfl Tryz.sizeRW (by simp [Value.oneCell']) ?_; intro w2 hb2 hk2 hz2))
    refine bodyPost_ret (results_rwrite rfl _ _ w.heap.size _ rfl hb2 rfl) rfl ⟨fv0, rfl, hfd, fv0_at _ _ _, ?_⟩
    exact (ka.trans hk1).young hk2 (Nat.le_refl _)
  | some rr =>
    rw [hk] at q
    obtain ⟨x, hat, hxt, hxw⟩ := tl_look h.good.rising hk
    have hpl := (List.getElem?_eq_some_iff.1 hat).1
    have hx := h.byt _ (List.mem_of_getElem? hat)
    have hl := h.fit.short _ (List.mem_of_getElem? (tl_at hat))
    have hfd : Hid (∀ y : Fv, y.t = x.t → y.fw = x.fw → Found (tl P) k y) := fun y h1 h2 => ⟨by rw [hk, h1, hxt]; rfl, by rw [hk, h2, hxw]; rfl⟩
    obtain ⟨v, hr, a, cap, rfl, hc, hm, ⟨-, -, h4⟩ | ⟨b, off, rfl, hlo, hL⟩⟩ := h.row
    · rw [h4] at hat
      simp at hat
    have hih := h.hih
    generalize Table.place (tl P) k = n at *
    obtain ⟨len, hle⟩ : ∃ len, P.length = len := ⟨_, rfl⟩
    rw [hle] at hr hc hpl hn6
    replace hx : Hid (x.At lo hi w) := hx
    replace hl : Hid (x.bs.length ≤ 140737488351232) := hl
    have i1 : (n : Int) < (len : Int) := by omega
    have i2 : (n : Int) < (cap : Int) := by omega
    have hS : ∀ W, Kept [] w W → W.cell? ⟨r, 0, none⟩ = some (.slice (some ⟨b, off, none⟩) len cap) ∧ W.cell? ⟨b, off + n * 5, none⟩ = some (.int .i64 x.t) ∧ W.cell? ⟨b, off + n * 5 + 1, none⟩ = some (.int .i64 x.o) ∧ W.cell? ⟨b, off + n * 5 + 2, none⟩ = some (.int .i64 x.l) ∧ W.cell? ⟨b, off + n * 5 + 3, none⟩ = some (.slice x.sa x.len x.cap) ∧ W.cell? ⟨b, off + n * 5 + 4, none⟩ = some (.int .i64 x.st) := fun W hkW =>
      ⟨((hr.kept hkW (by simp)).cell 0).trans rfl, hL.at hat hkW (by simp)⟩
    replace hS : Hid _ := hS
    replace hxt : Hid _ := hxt
    replace hxw : Hid _ := hxw
    clear hk hat hL hr hle h
    go_enter Tryz.func13, Tryz.ntmps13
    go_wp2_with (first
      | (go_at_call 32; refine q.mono ?_; rintro e w1 ⟨rfl, hk1⟩; have hb1 := hb0.kept hk1 (by simp); obtain ⟨s0, s1, s2, s3, s4, s5⟩ := hS.out w1 (ka.trans hk1); have hx1 := hx.out.kept0 (ka.trans hk1); have qa := rcopied_any x hi w1 hx1.in (Nat.le_trans hih (ka.trans hk1).size) hl.out; unfold Fv.val at qa)
      | (go_at_call 34; refine qa.mono ?_; rintro e w2 ⟨y, rfl, hyt, hyw, hyA, hk2⟩; replace hyt : Hid _ := hyt; replace hyw : Hid _ := hyw; have hb2 := hb1.kept hk2 (by simp))
      | (refine wpList_store_blk rfl 42 _ _ rfl w.heap.size 42 _ [.int .i64 y.t, .int .i64 y.o, .int .i64 y.l, .slice y.sa y.len y.cap, .int .i64 y.st] rfl rfl hb2 rfl Tryz.sizeRW (by simp [Value.oneCell']) ?_; intro w3 hb3 hk3 hz3))
    have hs1 := hk1.size
    simp at hs1
    refine bodyPost_ret (results_rwrite rfl _ _ w.heap.size _ rfl hb3 rfl) rfl ⟨y, rfl, hfd.out y hyt.out hyw.out, (hyA.kept hk3 (by simp; exact .inl (by omega))).mono (by omega) hk3.size, ?_⟩
    exact ((ka.trans hk1).trans hk2).young hk3 (Nat.le_refl _)
/-- A state set in its place. -/
theorem Lies.turn {ty : TypeId} {W : World} {g off i : Nat} {xs : List Fv} {x : Fv} (h : Lies ty W g off xs) (hx : xs[i]? = some x) (s : Int) : Lies ty (W.setCell ⟨g, off + i * 5 + 4, none⟩ (.int .i64 s)) g off (xs.set i { x with st := s }) := by
  obtain ⟨cur, hB, hsz, hcs⟩ := h
  have hi : i < xs.length := (List.getElem?_eq_some_iff.1 hx).1
  refine ⟨_, hB.set (off + i * 5 + 4) (.int .i64 s), by simpa using hsz, fun j u hu c hc => ?_⟩
  by_cases e : i = j
  · rw [← e] at hu ⊢
    rw [List.getElem?_set_self hi] at hu
    rw [← Option.some.inj hu]
    by_cases e4 : c = 4
    · subst e4
      rw [Array.getElem?_setIfInBounds_self_of_lt (by omega)]
      rfl
    · rw [Array.getElem?_setIfInBounds_ne (by omega), hcs i x hx c hc]
      have : c = 0 ∨ c = 1 ∨ c = 2 ∨ c = 3 := by omega
      rcases this with rfl | rfl | rfl | rfl <;> rfl
  · rw [List.getElem?_set_ne e] at hu
    have hj : j < xs.length := (List.getElem?_eq_some_iff.1 hu).1
    rw [Array.getElem?_setIfInBounds_ne (by omega)]
    exact hcs j u hu c hc
theorem tl_turn {P : List Fv} (hr : Rising (tl P)) {k : Int} {n : Nat} {x : Fv} (hx : P[n]? = some x) (hk : x.t = k) (s : Int) : tl (P.set n { x with st := s }) = setSt (tl P) k s := by
  apply List.ext_getElem?
  intro j
  unfold setSt
  rw [List.getElem?_map]
  have hn : n < P.length := (List.getElem?_eq_some_iff.1 hx).1
  by_cases e : n = j
  · rw [← e, tl_at (List.getElem?_set_self hn), tl_at hx]
    simp [hk, Fv.fw]
  · unfold tl
    rw [List.getElem?_map, List.getElem?_set_ne e, List.getElem?_map]
    cases hp : P[j]? with
    | none => rfl
    | some y =>
      have hne : y.t ≠ k := by
        rw [← hk]
        intro e2
        have h1 := List.getElem?_eq_some_iff.1 (tl_at hx)
        have h2 := List.getElem?_eq_some_iff.1 (tl_at hp)
        rcases Nat.lt_or_gt_of_ne e with h | h
        · have := List.pairwise_iff_getElem.1 hr n j h1.1 h2.1 h
          rw [h1.2, h2.2] at this
          simp at this
          omega
        · have := List.pairwise_iff_getElem.1 hr j n h2.1 h1.1 h
          rw [h1.2, h2.2] at this
          simp at this
          omega
      simp [hne]
set_option maxRecDepth 100000 in
set_option maxHeartbeats 1000000 in
/-- Turn -/
theorem rturn_any {lo hi r : Nat} {P : List Fv} (k s : Int) (w : World) (h : RFl w lo hi r P) (hn6 : P.length ≤ 600) :
    Calls Tryz.prog 9 #[.pointer (some ⟨r, 0, none⟩), .int .i64 k, .int .i64 s] w fun e w' => e = .returned (.bool (turnOk (tl P) k s)) ∧ RDone w w' lo r (turnL (tl P) k s) := by
  have q := rplace_any k w h hn6
  unfold turnL turnOk
  cases hk : Table.look (tl P) k with
  | none =>
    rw [hk] at q
    simp only [Option.isSome_none, Bool.false_and, Bool.false_eq_true, if_false]
    generalize Table.place (tl P) k = n at *
    go_enter Tryz.func9, Tryz.ntmps9
    go_wp2_with (first
      | (go_at_call 32; refine q.mono ?_; rintro e w1 ⟨rfl, hk1⟩))
    go_ret
    exact ⟨rfl, rdone_same h hk1⟩
  | some rr =>
    rw [hk] at q
    simp only [Option.isSome_some, Bool.true_and]
    by_cases hst : 0 ≤ s ∧ s ≤ 2
    · rw [decide_eq_true hst, if_pos rfl]
      obtain ⟨x, hat, hxt, hxw⟩ := tl_look h.good.rising hk
      have e1 := tl_turn h.good.rising hat hxt s
      have hgood : Hid (Good (setSt (tl P) k s)) := by have := h.good.turn k s; unfold turnL turnOk at this; rw [hk, decide_eq_true hst] at this; exact this
      have hfit : Hid (Fit (setSt (tl P) k s)) := by have := h.fit.turn k s; unfold turnL turnOk at this; rw [hk, decide_eq_true hst] at this; exact this
      have hpl := (List.getElem?_eq_some_iff.1 hat).1
      obtain ⟨v, hr, a, cap, rfl, hc, hm, ⟨-, -, h4⟩ | ⟨b, off, rfl, hlo, hL⟩⟩ := h.row
      · rw [h4] at hat
        simp at hat
      have hih := h.hih
      have hyo := h.young
      have hbyt : Hid (∀ x ∈ P, x.At lo hi w) := h.byt
      generalize Table.place (tl P) k = n at *
      obtain ⟨len, hle⟩ : ∃ len, P.length = len := ⟨_, rfl⟩
      rw [hle] at hr hc hpl hn6
      have i1 : (n : Int) < (len : Int) := by omega
      have hs0 : ¬ s < 0 := by omega
      have hs2 : ¬ s > 2 := by omega
      replace hle : Hid (P.length = len) := hle
      replace e1 : Hid _ := e1
      replace hat : Hid _ := hat
      replace hxt : Hid _ := hxt
      replace hxw : Hid _ := hxw
      obtain ⟨cur, hB, hsz, hcs⟩ := id hL
      have hB' : Hid (Blk w b 42 cur) := hB
      have hLH : Hid (Lies 42 w b off P) := hL
      clear hk hL hcs hsz hst
      go_enter Tryz.func9, Tryz.ntmps9
      go_wp2_with (first
        | (go_at_call 32; refine q.mono ?_; rintro e w1 ⟨rfl, hk1⟩; have c0 := ((hr.kept hk1 (by simp)).cell 0).trans (show _ = some (Value.slice (some ⟨b, off, none⟩) len cap) from rfl); have c4 := (hLH.out.at hat.out hk1 (by simp)).2.2.2.2; have f4 := (hB'.out.kept hk1 (by simp)).frozen (off + n * 5 + 4)))
      go_ret
      have hk2 := kept_set (L := [b]) (g := b) (by simp) w1 (off + n * 5 + 4) (.int .i64 s)
      have hoff : ∀ j ∈ [b], Off lo hi w1 j := fun j hj => by simp at hj; rw [hj]; exact off_blk (hB'.out.kept hk1 (by simp)) (by decide)
      have hne : r ∉ [b] := fun hm => by
        simp at hm
        have hbb := hB'.out
        rw [← hm] at hbb
        unfold Blk at hr hbb
        rw [hr] at hbb
        injection hbb with hbb
        injection hbb with _ hbb _
        exact absurd hbb (by decide)
      refine ⟨rfl, P.set n { x with st := s }, e1.out, ⟨⟨_, (hr.kept hk1 (by simp)).kept hk2 hne, ?_⟩, fun y hy => ?_, ?_, ?_, hyo, Nat.le_refl _⟩, [b], (hk1.mono (by simp)).trans hk2, fun j hj => ?_⟩
      · exact ⟨_, cap, by rw [List.length_set, hle.out], by rw [List.length_set, hle.out]; exact hc, hm, .inr ⟨b, off, rfl, hlo, (hLH.out.kept hk1 (by simp)).turn hat.out s⟩⟩
      · have hyA : ∀ y ∈ P, y.At lo (w1.setCell ⟨b, off + n * 5 + 4, none⟩ (.int .i64 s)).heap.size (w1.setCell ⟨b, off + n * 5 + 4, none⟩ (.int .i64 s)) := fun y hy => (((hbyt.out y hy).kept0 hk1).kept hk2 hoff).mono (Nat.le_refl _) (Nat.le_trans hih (Nat.le_trans hk1.size hk2.size))
        rcases List.mem_or_eq_of_mem_set hy with hy | hy
        · exact hyA y hy
        · rw [hy]
          exact hyA x (List.mem_of_getElem? hat.out)
      · rw [e1.out]
        exact hgood.out
      · rw [e1.out]
        exact hfit.out
      · simp at hj
        rw [hj]
        exact ⟨hlo, .inr ⟨cur, hB'.out⟩⟩
    · rw [decide_eq_false hst, if_neg (by decide)]
      generalize Table.place (tl P) k = n at *
      by_cases hs0 : s < 0
      · clear hst
        go_enter Tryz.func9, Tryz.ntmps9
        go_wp2_with (first
          | (go_at_call 32; refine q.mono ?_; rintro e w1 ⟨rfl, hk1⟩))
        go_ret
        exact ⟨rfl, rdone_same h hk1⟩
      · have hs2 : s > 2 := by omega
        clear hst
        go_enter Tryz.func9, Tryz.ntmps9
        go_wp2_with (first
          | (go_at_call 32; refine q.mono ?_; rintro e w1 ⟨rfl, hk1⟩))
        go_ret
        exact ⟨rfl, rdone_same h hk1⟩
end Go.Proofs.YtollfckgjhklcaaGreat.Flight
