/-
  The walks of the document's May and First.
-/
import Derived.Test.YtfmhifhgmkffhaaWtC
import Derived.Deep.CutRange
import Derived.Deep.CutBlock
namespace Go.Proofs.Ytfmhifhgmkffhaa.Wait
open Go.RowKit

set_option maxRecDepth 100000 in
set_option maxHeartbeats 1000000 in
/-- twainref16.May of a place where there is none -/
theorem rmay_out (i : Int) (a fa sa : Option Addr) (len cap fl fc sl sc : Nat) (h : i < 0 ∨ (len : Int) ≤ i) (w : World) :
    Calls Try.prog 8 #[.slice a len cap, .int .i64 i, .slice fa fl fc, .slice sa sl sc] w fun e w' => e = .returned (.bool false) ∧ Kept [] w w' := by
  by_cases h0 : i < 0
  · clear h
    go_enter Try.func8, Try.ntmps8
    go_wp2_with fail
    go_ret
    exact ⟨rfl, Kept.refl _ _⟩
  · have h1 : (len : Int) ≤ i := by omega
    clear h
    go_enter Try.func8, Try.ntmps8
    go_wp2_with fail
    go_ret
    exact ⟨rfl, Kept.refl _ _⟩
set_option maxRecDepth 100000 in
set_option maxHeartbeats 1000000 in
/-- twainref16.May of an item of no kind -/
theorem rmay_bad (j : Nat) (b off len cap fl fc sl sc : Nat) (fa sa : Option Addr) (k : Int) (hk : k < 0 ∨ 2 < k) (hj : j < len) (w : World) (c1 : w.cell? ⟨b, off + j * 4 + 1, none⟩ = some (.int .i64 k)) :
    Calls Try.prog 8 #[.slice (some ⟨b, off, none⟩) len cap, .int .i64 (j : Int), .slice fa fl fc, .slice sa sl sc] w fun e w' => e = .returned (.bool false) ∧ Kept [] w w' := by
  have i0 : ¬ ((j : Int) < 0) := by omega
  have i1 : ¬ ((len : Int) ≤ (j : Int)) := by omega
  have i2 : (j : Int) < (len : Int) := by omega
  by_cases h0 : k < 0
  · clear hk
    go_enter Try.func8, Try.ntmps8
    go_wp2_with fail
    go_ret
    exact ⟨rfl, Kept.refl _ _⟩
  · have h1 : 2 < k := by omega
    clear hk
    go_enter Try.func8, Try.ntmps8
    go_wp2_with fail
    go_ret
    exact ⟨rfl, Kept.refl _ _⟩
theorem mayX_hit1 {x : It} {A F : List It} {S : List (Int × Int)} (h : A.any (h1 x) = true) : mayX x A F S = false := by simp [mayX, h]
theorem mayX_hit2 {x : It} {A F : List It} {S : List (Int × Int)} (h : F.any (h2 x) = true) : mayX x A F S = false := by simp [mayX, h]
theorem mayX_hit3 {x : It} {A F : List It} {S : List (Int × Int)} (h : S.any (h3 x) = true) : mayX x A F S = false := by simp [mayX, h]
theorem mayX_all {x : It} {A F : List It} {S : List (Int × Int)} (hk : 0 ≤ x.k ∧ x.k ≤ 2) (e1 : A.any (h1 x) = false) (e2 : F.any (h2 x) = false) (e3 : S.any (h3 x) = false) : mayX x A F S = true := by
  unfold mayX
  rw [e1, e2, e3]
  simp [hk]
theorem miss_more {α : Type} {L : List α} {p : α → Bool} {kk : Nat} {y : α} (hA : ∀ i y, i < kk → L[i]? = some y → p y = false) (hy : L[kk]? = some y) (h : p y = false) : ∀ i y, i < kk + 1 → L[i]? = some y → p y = false := fun i z hi hz => by
  by_cases e : i = kk
  · subst e
    rw [hy] at hz
    cases hz
    exact h
  · exact hA i z (by omega) hz

set_option maxRecDepth 100000 in
set_option maxHeartbeats 8000000 in
/-- twainref16.May of an item -/
theorem rmay_in (j : Nat) (a fa sa : Option Addr) (len cap fl fc sl sc : Nat) (L F : List It) (S : List (Int × Int)) (hj : j < len) (hl : len ≤ 9223372036854775807) (hfl : fl ≤ 9223372036854775807) (hsl : sl ≤ 9223372036854775807) (w : World) (hL : ItsAt w a len cap L) (hF : ItsAt w fa fl fc F) (hS : SpsAt w sa sl sc S) :
    Calls Try.prog 8 #[.slice a len cap, .int .i64 (j : Int), .slice fa fl fc, .slice sa sl sc] w fun e w' => e = .returned (.bool (mayN L F S j)) ∧ Kept [] w w' := by
  obtain ⟨⟨xt, xk, xo, xl⟩, b, off, hx, rfl, hb, hcs⟩ := hL.at hj
  simp only at hcs
  have hT := hL.take (Nat.le_of_lt hj)
  have hcap := hL.2.1
  rw [mayN_some hx]
  by_cases hbad : xk < 0 ∨ 2 < xk
  · rw [mayX_bad (x := ⟨xt, xk, xo, xl⟩) hbad]
    exact rmay_bad j b off len cap fl fc sl sc fa sa xk hbad hj w (hcs w (Kept.refl _ _)).2.1
  have hkind : Hid (0 ≤ xk ∧ xk ≤ 2) := by show _ ∧ _; omega
  have i0 : ¬ ((j : Int) < 0) := by omega
  have i1 : ¬ ((len : Int) ≤ (j : Int)) := by omega
  have i2 : (j : Int) < (len : Int) := by omega
  have i3 : ¬ (xk < 0) := by omega
  have i4 : ¬ (2 < xk) := by omega
  obtain ⟨c0, c1, c2, c3⟩ := hcs w (Kept.refl _ _)
  obtain ⟨r, hr⟩ : ∃ r, mayX ⟨xt, xk, xo, xl⟩ (L.take j) F S = r := ⟨_, rfl⟩
  rw [hr]
  replace hr : Hid (mayX ⟨xt, xk, xo, xl⟩ (L.take j) F S = r) := hr
  generalize L.take j = A at *
  have kX := kept_alloc [] w (.cells #[.int .i64 xt, .int .i64 xk, .int .i64 xo, .int .i64 xl] 42)
  have hX := blk_new w 42 #[.int .i64 xt, .int .i64 xk, .int .i64 xo, .int .i64 xl]
  clear hL hcs hbad hx
  go_enter Try.func8, Try.ntmps8
  go_wp2_with fail
  obtain ⟨wX, hwX⟩ : ∃ wX, w.alloc (.cells #[.int .i64 xt, .int .i64 xk, .int .i64 xo, .int .i64 xl] 42) = wX := ⟨_, rfl⟩
  rw [hwX] at kX hX ⊢
  obtain ⟨bX, hbX⟩ : ∃ bX, w.heap.size = bX := ⟨_, rfl⟩
  rw [hbX] at hX ⊢
  clear hwX hbX c0 c1 c2 c3
  replace hT := hT.kept kX
  replace hF := hF.kept kX
  replace hS := hS.kept kX
  go_loopw [10] (fun i wr => ∃ kk : Nat, kk ≤ j ∧ i = .int .i64 kk ∧ Kept [] wX wr ∧ Hid (∀ i y, i < kk → A[i]? = some y → h1 ⟨xt, xk, xo, xl⟩ y = false)) (fun i _ => j - (RowKit.intOf i).toNat)
  case atStart => exact ⟨0, Nat.zero_le _, rfl, Kept.refl _ _, fun i y hi => absurd hi (Nat.not_lt_zero _)⟩
  case round =>
    obtain ⟨kk, hkk, rfl, hk, hA⟩ := hrel
    by_cases hlt : kk < j
    · obtain ⟨⟨yt, yk, yo, yl⟩, b', off', hy, e0, hb', hcy⟩ := hT.at hlt
      simp only at hcy
      obtain ⟨rfl, rfl⟩ : b = b' ∧ off = off' := by simpa using e0
      have j1 : (kk : Int) < (j : Int) := by omega
      have j2 : (kk : Int) < (len : Int) := by omega
      have hm1 : Hid (j - (kk + 1) < j - kk) := by show _ < _; omega
      have hy' : Hid (A[kk]? = some ⟨yt, yk, yo, yl⟩) := hy
      have cyD := fun n => hcy (wr.drewN n) (hk.trans (kept_drewN [] _ n))
      have cxD := fun n => (show (wr.drewN n).cell? ⟨bX, 1, none⟩ = some (.int .i64 xk) from ((hX.kept (hk.trans (kept_drewN [] _ n)) (by simp)).cell 1).trans rfl)
      clear e0 hy
      by_cases h1y : yk = 1
      · subst h1y
        by_cases h2x : xk = 2
        · subst h2x
          have hit : Hid (r = false) := by show _ = _; rw [← hr.out]; exact mayX_hit1 (any_hit hy'.out (by simp [h1]))
          clear hr hA hy' hcy hm1 hT
          go_wp2_with fail
          go_quiet (fail)
          go_wp2_with fail
          go_ret
          exact ⟨by rw [hit.out]; rfl, (kX.trans hk).trans (kept_drewN [] _ _)⟩
        · have h2b : (xk == 2) = false := by simp [h2x]
          have q := fun V => Span.refOverlap_any yo yl xo xl V
          have hov : Hid (h1 ⟨xt, xk, xo, xl⟩ ⟨yt, 1, yo, yl⟩ = Span.Math.over yo yl xo xl) := by show _ = _; simp [h1, h2b]
          have hkd := hk.trans (kept_drew [] wr)
          have hcells : ∀ W, Kept [] wX W → W.cell? ⟨b, off + kk * 4 + 1, none⟩ = some (.int .i64 1) ∧ W.cell? ⟨b, off + kk * 4 + 2, none⟩ = some (.int .i64 yo) ∧ W.cell? ⟨b, off + kk * 4 + 3, none⟩ = some (.int .i64 yl) ∧ W.cell? ⟨bX, 1, none⟩ = some (.int .i64 xk) ∧ W.cell? ⟨bX, 2, none⟩ = some (.int .i64 xo) ∧ W.cell? ⟨bX, 3, none⟩ = some (.int .i64 xl) := fun W hkW =>
            ⟨(hcy W hkW).2.1, (hcy W hkW).2.2.1, (hcy W hkW).2.2.2, ((hX.kept hkW (by simp)).cell 1).trans rfl, ((hX.kept hkW (by simp)).cell 2).trans rfl, ((hX.kept hkW (by simp)).cell 3).trans rfl⟩
          clear cyD cxD hcy
          cases hv : Span.Math.over yo yl xo xl with
          | true =>
            rw [hv] at q hov
            have hit : Hid (r = false) := by show _ = _; rw [← hr.out]; exact mayX_hit1 (any_hit hy'.out hov.out)
            clear hr hA hy' hm1 hT hv hov
            go_wp2_with fail
            go_region_held3 (fun W => W.cell? ⟨b, off + kk * 4 + 1, none⟩ = some (.int .i64 1) ∧ W.cell? ⟨b, off + kk * 4 + 2, none⟩ = some (.int .i64 yo) ∧ W.cell? ⟨b, off + kk * 4 + 3, none⟩ = some (.int .i64 yl) ∧ W.cell? ⟨bX, 1, none⟩ = some (.int .i64 xk) ∧ W.cell? ⟨bX, 2, none⟩ = some (.int .i64 xo) ∧ W.cell? ⟨bX, 3, none⟩ = some (.int .i64 xl)) (exact hcells _ hkd) (first
              | (go_at_call 27; refine (q _).mono ?_; rintro e w1 ⟨rfl, hB1⟩; replace hkd := hkd.trans (Kept.of_below hB1 [])))
            go_wp2_with fail
            go_ret
            exact ⟨by rw [hit.out]; rfl, kX.trans hkd⟩
          | false =>
            rw [hv] at q hov
            clear hr hT hv
            go_wp2_with fail
            go_region_held3 (fun W => W.cell? ⟨b, off + kk * 4 + 1, none⟩ = some (.int .i64 1) ∧ W.cell? ⟨b, off + kk * 4 + 2, none⟩ = some (.int .i64 yo) ∧ W.cell? ⟨b, off + kk * 4 + 3, none⟩ = some (.int .i64 yl) ∧ W.cell? ⟨bX, 1, none⟩ = some (.int .i64 xk) ∧ W.cell? ⟨bX, 2, none⟩ = some (.int .i64 xo) ∧ W.cell? ⟨bX, 3, none⟩ = some (.int .i64 xl)) (exact hcells _ hkd) (first
              | (go_at_call 27; refine (q _).mono ?_; rintro e w1 ⟨rfl, hB1⟩; replace hkd := hkd.trans (Kept.of_below hB1 [])))
            go_wp2_with fail
            go_roundw
            case rel => exact ⟨kk + 1, by omega, by go_num, hkd, miss_more hA.out hy'.out hov.out⟩
            case measure => simpa [RowKit.intOf] using hm1.out
      · have h1b : (yk == 1) = false := by simp [h1y]
        have hno : Hid (h1 ⟨xt, xk, xo, xl⟩ ⟨yt, yk, yo, yl⟩ = false) := by show _ = _; simp [h1, h1b]
        clear hr hcy hT
        go_wp2_with fail
        go_quiet (fail)
        go_wp2_with fail
        go_roundw
        case rel => exact ⟨kk + 1, by omega, by go_num, hk.trans (kept_drewN [] _ _), miss_more hA.out hy'.out hno.out⟩
        case measure => simpa [RowKit.intOf] using hm1.out
    · have j1 : ¬ ((kk : Int) < (j : Int)) := by omega
      obtain rfl : kk = j := by omega
      have hlen : A.length = kk := hT.1
      have hn1 : Hid (A.any (h1 ⟨xt, xk, xo, xl⟩) = false) := any_miss fun i y hi hy => hA.out i y (by omega) hy
      obtain ⟨wo, rfl⟩ : ∃ wo, wo = wr := ⟨_, rfl⟩
      replace hX := hX.kept hk (by simp)
      replace hF := hF.kept hk
      replace hS := hS.kept hk
      replace kX := kX.trans hk
      clear hA hT hk hlen
      go_wp2_with fail
      go_loopw [71] (fun i wr => ∃ kk : Nat, kk ≤ fl ∧ i = .int .i64 kk ∧ Kept [] wo wr ∧ Hid (∀ i y, i < kk → F[i]? = some y → h2 ⟨xt, xk, xo, xl⟩ y = false)) (fun i _ => fl - (RowKit.intOf i).toNat)
      case atStart => exact ⟨0, Nat.zero_le _, rfl, Kept.refl _ _, fun i y hi => absurd hi (Nat.not_lt_zero _)⟩
      case round =>
        obtain ⟨kk, hkk, rfl, hk, hA⟩ := hrel
        by_cases hlt : kk < fl
        · obtain ⟨⟨yt, yk, yo, yl⟩, b', off', hy, rfl, hb', hcy⟩ := hF.at hlt
          simp only at hcy
          have f1 := hF.2.1
          have j1 : (kk : Int) < (fl : Int) := by omega
          have hm1 : Hid (fl - (kk + 1) < fl - kk) := by show _ < _; omega
          have hy' : Hid (F[kk]? = some ⟨yt, yk, yo, yl⟩) := hy
          obtain ⟨y0, y1, y2, y3⟩ := hcy wr hk
          have kY := kept_alloc [] wr (.cells #[.int .i64 yt, .int .i64 yk, .int .i64 yo, .int .i64 yl] 42)
          have hXY := hX.kept (hk.trans kY) (by simp)
          have x0 := (hXY.cell 0).trans (show _ = some (Value.int .i64 xt) from rfl)
          have x1 := (hXY.cell 1).trans (show _ = some (Value.int .i64 xk) from rfl)
          have x2 := (hXY.cell 2).trans (show _ = some (Value.int .i64 xo) from rfl)
          have x3 := (hXY.cell 3).trans (show _ = some (Value.int .i64 xl) from rfl)
          clear hy hcy hXY hF hX
          by_cases h2x : xk = 2
          · subst h2x
            by_cases hlt2 : yt < xt
            · have hit : Hid (r = false) := by show _ = _; rw [← hr.out]; exact mayX_hit2 (any_hit hy'.out (by simp [h2, hlt2]))
              clear hr
              go_wp2_with fail
              go_ret
              exact ⟨by rw [hit.out]; rfl, kX.trans (hk.trans kY)⟩
            · have hno : Hid (h2 ⟨xt, 2, xo, xl⟩ ⟨yt, yk, yo, yl⟩ = false) := by show _ = _; simp [h2]; omega
              clear hr
              go_wp2_with fail
              go_roundw
              case rel => exact ⟨kk + 1, by omega, by go_num, hk.trans kY, miss_more hA.out hy'.out hno.out⟩
              case measure => simpa [RowKit.intOf] using hm1.out
          · have h2b : (xk == 2) = false := by simp [h2x]
            have h2c : (xk != 2) = true := by simp [h2x]
            have q := fun V => Span.refOverlap_any yo yl xo xl V
            have hov : Hid (h2 ⟨xt, xk, xo, xl⟩ ⟨yt, yk, yo, yl⟩ = Span.Math.over yo yl xo xl) := by show _ = _; simp [h2, h2b, h2c]
            cases hv : Span.Math.over yo yl xo xl with
            | true =>
              rw [hv] at q hov
              have hit : Hid (r = false) := by show _ = _; rw [← hr.out]; exact mayX_hit2 (any_hit hy'.out hov.out)
              clear hr hv hov
              go_wp2_with (go_at_call 27; refine (q _).mono ?_; rintro e w1 ⟨rfl, hB1⟩)
              go_ret
              exact ⟨by rw [hit.out]; rfl, kX.trans ((hk.trans kY).trans (Kept.of_below hB1 []))⟩
            | false =>
              rw [hv] at q hov
              clear hr hv
              go_wp2_with (go_at_call 27; refine (q _).mono ?_; rintro e w1 ⟨rfl, hB1⟩)
              go_roundw
              case rel => exact ⟨kk + 1, by omega, by go_num, (hk.trans kY).trans (Kept.of_below hB1 []), miss_more hA.out hy'.out hov.out⟩
              case measure => simpa [RowKit.intOf] using hm1.out
        · have j1 : ¬ ((kk : Int) < (fl : Int)) := by omega
          obtain rfl : kk = fl := by omega
          have hlen : F.length = kk := hF.1
          have hn2 : Hid (F.any (h2 ⟨xt, xk, xo, xl⟩) = false) := any_miss fun i y hi hy => hA.out i y (by omega) hy
          obtain ⟨wp, rfl⟩ : ∃ wp, wp = wr := ⟨_, rfl⟩
          replace hX := hX.kept hk (by simp)
          replace hS := hS.kept hk
          replace kX := kX.trans hk
          clear hA hF hk hlen
          go_wp2_with fail
          go_loopw [100] (fun i wr => ∃ kk : Nat, kk ≤ sl ∧ i = .int .i64 kk ∧ Kept [] wp wr ∧ Hid (∀ i y, i < kk → S[i]? = some y → h3 ⟨xt, xk, xo, xl⟩ y = false)) (fun i _ => sl - (RowKit.intOf i).toNat)
          case atStart => exact ⟨0, Nat.zero_le _, rfl, Kept.refl _ _, fun i y hi => absurd hi (Nat.not_lt_zero _)⟩
          case round =>
            obtain ⟨kk, hkk, rfl, hk, hA⟩ := hrel
            by_cases hlt : kk < sl
            · obtain ⟨⟨yo, yl⟩, b', off', hy, rfl, hb', hcy⟩ := hS.at hlt
              simp only at hcy
              have f1 := hS.2.1
              have j1 : (kk : Int) < (sl : Int) := by omega
              have hm1 : Hid (sl - (kk + 1) < sl - kk) := by show _ < _; omega
              have hy' : Hid (S[kk]? = some (yo, yl)) := hy
              obtain ⟨y0, y1⟩ := hcy wr hk
              have kY := kept_alloc [] wr (.cells #[.int .i64 yo, .int .i64 yl] 37)
              have hXY := hX.kept (hk.trans kY) (by simp)
              have x1 := (hXY.cell 1).trans (show _ = some (Value.int .i64 xk) from rfl)
              have x2 := (hXY.cell 2).trans (show _ = some (Value.int .i64 xo) from rfl)
              have x3 := (hXY.cell 3).trans (show _ = some (Value.int .i64 xl) from rfl)
              clear hy hcy hXY hS hX
              by_cases h2x : xk = 1
              · subst h2x
                have q := fun V => Span.refOverlap_any yo yl xo xl V
                have hov : Hid (h3 ⟨xt, 1, xo, xl⟩ (yo, yl) = Span.Math.over yo yl xo xl) := by show _ = _; simp [h3]
                cases hv : Span.Math.over yo yl xo xl with
                | true =>
                  rw [hv] at q hov
                  have hit : Hid (r = false) := by show _ = _; rw [← hr.out]; exact mayX_hit3 (any_hit hy'.out hov.out)
                  clear hr hv hov
                  go_wp2_with (go_at_call 27; refine (q _).mono ?_; rintro e w1 ⟨rfl, hB1⟩)
                  go_ret
                  exact ⟨by rw [hit.out]; rfl, kX.trans ((hk.trans kY).trans (Kept.of_below hB1 []))⟩
                | false =>
                  rw [hv] at q hov
                  clear hr hv
                  go_wp2_with (go_at_call 27; refine (q _).mono ?_; rintro e w1 ⟨rfl, hB1⟩)
                  go_roundw
                  case rel => exact ⟨kk + 1, by omega, by go_num, (hk.trans kY).trans (Kept.of_below hB1 []), miss_more hA.out hy'.out hov.out⟩
                  case measure => simpa [RowKit.intOf] using hm1.out
              · have h2b : (xk == 1) = false := by simp [h2x]
                have hno : Hid (h3 ⟨xt, xk, xo, xl⟩ (yo, yl) = false) := by show _ = _; simp [h3, h2b]
                clear hr
                go_wp2_with fail
                go_roundw
                case rel => exact ⟨kk + 1, by omega, by go_num, hk.trans kY, miss_more hA.out hy'.out hno.out⟩
                case measure => simpa [RowKit.intOf] using hm1.out
            · have j1 : ¬ ((kk : Int) < (sl : Int)) := by omega
              obtain rfl : kk = sl := by omega
              have hlen : S.length = kk := hS.1
              have hn3 : Hid (S.any (h3 ⟨xt, xk, xo, xl⟩) = false) := any_miss fun i y hi hy => hA.out i y (by omega) hy
              have hall : Hid (r = true) := by show _ = _; rw [← hr.out]; exact mayX_all hkind.out hn1.out hn2.out hn3.out
              clear hA hS hlen hr hX
              go_wp2_with fail
              go_ret
              exact ⟨by rw [hall.out]; rfl, kX.trans hk⟩
set_option maxRecDepth 100000 in
/-- twainref16.May -/
theorem rmay_any (i : Int) (a fa sa : Option Addr) (len cap fl fc sl sc : Nat) (L F : List It) (S : List (Int × Int)) (hl : len ≤ 9223372036854775807) (hfl : fl ≤ 9223372036854775807) (hsl : sl ≤ 9223372036854775807) (w : World) (hL : ItsAt w a len cap L) (hF : ItsAt w fa fl fc F) (hS : SpsAt w sa sl sc S) :
    Calls Try.prog 8 #[.slice a len cap, .int .i64 i, .slice fa fl fc, .slice sa sl sc] w fun e w' => e = .returned (.bool (mayZ L F S i)) ∧ Kept [] w w' := by
  by_cases h : i < 0 ∨ (len : Int) ≤ i
  · rw [mayZ_out (by rw [hL.1]; exact h)]
    exact rmay_out i a fa sa len cap fl fc sl sc h w
  · obtain ⟨j, rfl⟩ : ∃ j : Nat, i = j := ⟨i.toNat, by omega⟩
    rw [mayZ_nat]
    exact rmay_in j a fa sa len cap fl fc sl sc L F S (by omega) hl hfl hsl w hL hF hS

set_option maxRecDepth 100000 in
set_option maxHeartbeats 1000000 in
/-- twainref16.First -/
theorem rfirst_any (f : Int) (a fa sa : Option Addr) (len cap fl fc sl sc : Nat) (L F : List It) (S : List (Int × Int)) (hl : len ≤ 9223372036854775807) (hfl : fl ≤ 9223372036854775807) (hsl : sl ≤ 9223372036854775807) (w : World) (hL : ItsAt w a len cap L) (hF : ItsAt w fa fl fc F) (hS : SpsAt w sa sl sc S) :
    Calls Try.prog 10 #[.slice a len cap, .int .i64 f, .slice fa fl fc, .slice sa sl sc] w fun e w' => FSaid (mayN L F S) len f e ∧ Kept [] w w' := by
  have hq := fun W j (hj : j < len) (hk : Kept [] w W) => rmay_in j a fa sa len cap fl fc sl sc L F S hj hl hfl hsl W (hL.kept hk) (hF.kept hk) (hS.kept hk)
  generalize mayN L F S = m at *
  clear hL hF hS
  go_enter Try.func10, Try.ntmps10
  go_wp2_with fail
  go_loopw [10] (fun i wr => ∃ kk : Nat, kk ≤ len ∧ i = .int .i64 kk ∧ Kept [] w wr ∧ Hid (0 ≤ f → ∀ j : Nat, f ≤ j → j < kk → m j = false)) (fun i _ => len - (RowKit.intOf i).toNat)
  case atStart => exact ⟨0, Nat.zero_le _, rfl, Kept.refl _ _, fun _ j h1 h2 => by omega⟩
  case round =>
    obtain ⟨kk, hkk, rfl, hk, hA⟩ := hrel
    by_cases hlt : kk < len
    · have i1 : (kk : Int) < (len : Int) := by omega
      have q := hq wr kk hlt hk
      have hm1 : Hid (len - (kk + 1) < len - kk) := by show _ < _; omega
      clear hq
      by_cases h0 : f < 0
      · have h0' : ¬ (0 ≤ f) := by omega
        clear q
        go_wp2_with fail
        go_roundw
        case rel => exact ⟨kk + 1, by omega, by go_num, hk, fun h => by omega⟩
        case measure => simpa [RowKit.intOf] using hm1.out
      · have h0' : 0 ≤ f := by omega
        by_cases h1 : f ≤ (kk : Int)
        · cases hm : m kk with
          | true =>
            rw [hm] at q
            replace hm : Hid (m kk = true) := hm
            go_wp2_with (go_at_call 8; refine q.mono ?_; rintro e w1 ⟨rfl, hk1⟩)
            go_ret2
            exact ⟨⟨_, _, rfl, .inl ⟨rfl, kk, rfl, h0', h1, hlt, hm.out, fun i g1 g2 => hA.out h0' i g1 g2⟩⟩, hk.trans hk1⟩
          | false =>
            rw [hm] at q
            replace hm : Hid (m kk = false) := hm
            go_wp2_with (go_at_call 8; refine q.mono ?_; rintro e w1 ⟨rfl, hk1⟩)
            go_roundw
            case rel =>
              refine ⟨kk + 1, by omega, by go_num, hk.trans hk1, fun _ j g1 g2 => ?_⟩
              by_cases e : j = kk
              · subst e
                exact hm.out
              · exact hA.out h0' j g1 (by omega)
            case measure => simpa [RowKit.intOf] using hm1.out
        · clear q
          go_wp2_with fail
          go_roundw
          case rel => exact ⟨kk + 1, by omega, by go_num, hk, fun _ j g1 g2 => by omega⟩
          case measure => simpa [RowKit.intOf] using hm1.out
    · have i1 : ¬ ((kk : Int) < (len : Int)) := by omega
      obtain rfl : kk = len := by omega
      clear hq
      go_wp2_with fail
      go_ret2
      exact ⟨⟨_, _, rfl, .inr ⟨rfl, rfl, fun h0 i g1 g2 => hA.out h0 i g1 g2⟩⟩, hk⟩
end Go.Proofs.Ytfmhifhgmkffhaa.Wait
