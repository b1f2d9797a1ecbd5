/-
  The walks of May and of First.
-/
import Derived.Test.YtfmhifhgmkffhaaWtB
import Derived.Laws.EntriesVeiled
namespace Go.Proofs.Ytfmhifhgmkffhaa.Wait
open Go.RowKit

theorem ItsAt.take {W : World} {a : Option Addr} {len cap : Nat} {L : List It} (h : ItsAt W a len cap L) {j : Nat} (hj : j ≤ len) : ItsAt W a j cap (L.take j) := by
  obtain ⟨h1, h2, h3⟩ := h
  refine ⟨by rw [List.length_take]; omega, by omega, ?_⟩
  rcases h3 with h3 | ⟨b, off, h3, h4, h5⟩
  · left
    omega
  · refine .inr ⟨b, off, h3, h4, fun i x hx => ?_⟩
    rw [List.getElem?_take] at hx
    split at hx
    · exact h5 i x hx
    · cases hx

theorem two_new (W : World) (t u : TypeId) (c d : Array Value) : Blk ((W.alloc (.cells c t)).alloc (.cells d u)).drew W.heap.size t c ∧ Blk ((W.alloc (.cells c t)).alloc (.cells d u)).drew (W.heap.size + 1) u d ∧ Kept [] W ((W.alloc (.cells c t)).alloc (.cells d u)).drew := by
  have k1 := kept_alloc [] W (.cells c t)
  have k2 := kept_alloc [] (W.alloc (.cells c t)) (.cells d u)
  have b1 := (blk_new W t c).kept k2 (by simp)
  have b2 := blk_new (W.alloc (.cells c t)) u d
  rw [show (W.alloc (.cells c t)).heap.size = W.heap.size + 1 by simp] at b2
  exact ⟨b1.kept (kept_drew [] _) (by simp), b2.kept (kept_drew [] _) (by simp), (k1.trans k2).trans (kept_drew [] _)⟩

set_option maxRecDepth 100000 in
set_option maxHeartbeats 1000000 in
/-- May of a place where there is none -/
theorem may_out (i : Int) (a fa sa : Option Addr) (len cap fl fc sl sc : Nat) (h : i < 0 ∨ (len : Int) ≤ i) (w : World) :
    Calls Try.prog 7 #[.slice a len cap, .int .i64 i, .slice fa fl fc, .slice sa sl sc] w fun e w' => e = .returned (.bool false) ∧ Kept [] w w' := by
  have k1 := kept_alloc [] w (.cells #[.slice fa fl fc] 27)
  have k2 := kept_alloc [] (w.alloc (.cells #[.slice fa fl fc] 27)) (.cells #[.slice sa sl sc] 23)
  by_cases h0 : i < 0
  · clear h
    go_enter Try.func7, Try.ntmps7
    go_wp2_with fail
    go_ret
    exact ⟨rfl, k1.trans k2⟩
  · have h1 : (len : Int) ≤ i := by omega
    clear h
    go_enter Try.func7, Try.ntmps7
    go_wp2_with fail
    go_ret
    exact ⟨rfl, k1.trans k2⟩
set_option maxRecDepth 100000 in
set_option maxHeartbeats 4000000 in
/-- May of an item -/
theorem may_in (j : Nat) (a fa sa : Option Addr) (len cap fl fc sl sc : Nat) (L F : List It) (S : List (Int × Int)) (hj : j < len) (hl : len ≤ 9223372036854775807) (hfl : fl ≤ 9223372036854775807) (hsl : sl ≤ 9223372036854775807) (w : World) (hL : ItsAt w a len cap L) (hF : ItsAt w fa fl fc F) (hS : SpsAt w sa sl sc S) :
    Calls Try.prog 7 #[.slice a len cap, .int .i64 (j : Int), .slice fa fl fc, .slice sa sl sc] w fun e w' => e = .returned (.bool (mayN L F S j)) ∧ Kept [] w w' := by
  obtain ⟨⟨xt, xk, xo, xl⟩, b, off, hx, rfl, hb, hcs⟩ := hL.at hj
  simp only at hcs
  have hT := hL.take (Nat.le_of_lt hj)
  have hjc : j ≤ cap := Nat.le_trans (Nat.le_of_lt hj) hL.2.1
  rw [mayN_some hx]
  have k1 := kept_alloc [] w (.cells #[.slice fa fl fc] 27)
  have hb1 := blk_new w 27 #[.slice fa fl fc]
  have k2 := kept_alloc [] (w.alloc (.cells #[.slice fa fl fc] 27)) (.cells #[.slice sa sl sc] 23)
  have hb2 := blk_new (w.alloc (.cells #[.slice fa fl fc] 27)) 23 #[.slice sa sl sc]
  rw [show (w.alloc (.cells #[.slice fa fl fc] 27)).heap.size = w.heap.size + 1 by simp] at hb2
  have hb1 := hb1.kept k2 (by simp)
  have i0 : ¬ ((j : Int) < 0) := by omega
  have i1 : ¬ ((len : Int) ≤ (j : Int)) := by omega
  have i2 : (j : Int) < (len : Int) := by omega
  have k12 := k1.trans k2
  generalize hA : L.take j = A at *
  obtain ⟨r, hr⟩ : ∃ r, mayX ⟨xt, xk, xo, xl⟩ A F S = r := ⟨_, rfl⟩
  rw [hr]
  replace hr : Hid (mayX ⟨xt, xk, xo, xl⟩ A F S = r) := hr
  clear hA hL k1 k2
  go_enter Try.func7, Try.ntmps7
  go_upto_region 3 with fail
  obtain ⟨W1, hW1⟩ : ∃ W1, (w.alloc (.cells #[.slice fa fl fc] 27)).alloc (.cells #[.slice sa sl sc] 23) = W1 := ⟨_, rfl⟩
  rw [hW1] at hb1 hb2 k12 ⊢
  clear hW1
  have f0 := hcs W1.drew (k12.trans (kept_drew [] _))
  have f1 := fun o => hcs (W1.alloc o).drew (k12.trans ((kept_alloc [] W1 o).trans (kept_drew [] _)))
  have f2 := fun o p => hcs ((W1.alloc o).alloc p).drew (k12.trans (((kept_alloc [] W1 o).trans (kept_alloc [] _ p)).trans (kept_drew [] _)))
  clear hcs
  go_cut [9, 10] from 25 to 58 (fun s9 s10 W => ∃ bI bA, s9 = .pointer (some ⟨bI, 0, none⟩) ∧ s10 = .pointer (some ⟨bA, 0, none⟩) ∧ Blk W bI 39 #[.int .i64 xt, .int .i64 xk, .int .i64 xo, .int .i64 xl] ∧ Blk W bA 27 #[.slice (some ⟨b, off, none⟩) j cap] ∧ Kept [] W1 W)
  case first =>
    go_region
    · go_wp2_with fail
      go_meet
      obtain ⟨h1, h2, h3⟩ := two_new W1 39 27 #[.int .i64 xt, .int .i64 xk, .int .i64 xo, .int .i64 xl] #[.slice (some ⟨b, off, none⟩) j cap]
      exact ⟨_, _, rfl, rfl, h1, h2, h3⟩
    · go_wp2_with fail
      go_meet
      obtain ⟨h1, h2, h3⟩ := two_new W1 27 39 #[.slice (some ⟨b, off, none⟩) j cap] #[.int .i64 xt, .int .i64 xk, .int .i64 xo, .int .i64 xl]
      exact ⟨_, _, rfl, rfl, h2, h1, h3⟩
  case rest =>
    obtain ⟨bI, bA, rfl, rfl, hI, hA, hk1⟩ := hcut
    clear f0 f1 f2
    have kC := kept_alloc [] wc (.cells #[.func (.func 13) #[] #[.pointer (some ⟨bI, 0, none⟩)]] 43)
    have hC := blk_new wc 43 #[.func (.func 13) #[] #[.pointer (some ⟨bI, 0, none⟩)]]
    have hkE := k12.trans (hk1.trans kC)
    have hE : Env (wc.alloc (.cells #[.func (.func 13) #[] #[.pointer (some ⟨bI, 0, none⟩)]] 43)) ⟨xt, xk, xo, xl⟩ A F S bI bA wc.heap.size w.heap.size (w.heap.size + 1) (some ⟨b, off, none⟩) fa sa j cap fl fc sl sc :=
      ⟨hI.kept kC (by simp), hA.kept kC (by simp), hC, hb1.kept (hk1.trans kC) (by simp), hb2.kept (hk1.trans kC) (by simp), hT.kept hkE, hF.kept hkE, hS.kept hkE, by omega, hfl, hsl⟩
    have ck := (hE.item.cell 1).trans (show _ = some (Value.int .i64 xk) from rfl)
    clear hI hA hk1 kC hC hb1 hb2 hT hF hS k12
    by_cases h0 : xk = 0
    · subst h0
      have qn := fun o (hg : Blk ((wc.alloc (.cells #[.func (.func 13) #[] #[.pointer (some ⟨bI, 0, none⟩)]] 43)).alloc o) (wc.heap.size + 1) 26 #[.func (.func 15) #[] #[.pointer (some ⟨w.heap.size, 0, none⟩), .pointer (some ⟨wc.heap.size, 0, none⟩)], .func (.func 18) #[] #[.pointer (some ⟨bA, 0, none⟩), .pointer (some ⟨wc.heap.size, 0, none⟩)]]) => none_read bA wc.heap.size (w.heap.size) (wc.heap.size + 1) 26 _ _ _ hg (fun V hk => may2_any (hE.kept ((kept_alloc [] _ o).trans hk))) (fun V hk => may3_any (hE.kept ((kept_alloc [] _ o).trans hk)))
      have hgn := blk_new (wc.alloc (.cells #[.func (.func 13) #[] #[.pointer (some ⟨bI, 0, none⟩)]] 43)) 26 #[.func (.func 15) #[] #[.pointer (some ⟨w.heap.size, 0, none⟩), .pointer (some ⟨wc.heap.size, 0, none⟩)], .func (.func 18) #[] #[.pointer (some ⟨bA, 0, none⟩), .pointer (some ⟨wc.heap.size, 0, none⟩)]]
      rw [show (wc.alloc (.cells #[.func (.func 13) #[] #[.pointer (some ⟨bI, 0, none⟩)]] 43)).heap.size = wc.heap.size + 1 by simp] at hgn
      have qq := qn _ hgn
      have hr' := hr.out
      rw [mayX_read rfl] at hr'
      rw [hr'] at qq
      clear hr'
      clear qn hgn hE
      go_wp2_with (go_at_call 26; refine qq.mono ?_; rintro e w2 ⟨rfl, hk2⟩)
      go_ret
      exact ⟨rfl, (hkE.trans (kept_alloc [] _ _)).trans hk2⟩
    · by_cases h1 : xk = 1
      · subst h1
        have qn := fun o (hg : Blk ((wc.alloc (.cells #[.func (.func 13) #[] #[.pointer (some ⟨bI, 0, none⟩)]] 43)).alloc o) (wc.heap.size + 1) 26 #[.func (.func 15) #[] #[.pointer (some ⟨w.heap.size, 0, none⟩), .pointer (some ⟨wc.heap.size, 0, none⟩)], .func (.func 18) #[] #[.pointer (some ⟨bA, 0, none⟩), .pointer (some ⟨wc.heap.size, 0, none⟩)], .func (.func 20) #[] #[.pointer (some ⟨w.heap.size + 1, 0, none⟩), .pointer (some ⟨wc.heap.size, 0, none⟩)]]) => none_write bA wc.heap.size (w.heap.size) (w.heap.size + 1) (wc.heap.size + 1) 26 _ _ _ _ hg (fun V hk => may2_any (hE.kept ((kept_alloc [] _ o).trans hk))) (fun V hk => may3_any (hE.kept ((kept_alloc [] _ o).trans hk))) (fun V hk => may4_any (hE.kept ((kept_alloc [] _ o).trans hk)))
        have hgn := blk_new (wc.alloc (.cells #[.func (.func 13) #[] #[.pointer (some ⟨bI, 0, none⟩)]] 43)) 26 #[.func (.func 15) #[] #[.pointer (some ⟨w.heap.size, 0, none⟩), .pointer (some ⟨wc.heap.size, 0, none⟩)], .func (.func 18) #[] #[.pointer (some ⟨bA, 0, none⟩), .pointer (some ⟨wc.heap.size, 0, none⟩)], .func (.func 20) #[] #[.pointer (some ⟨w.heap.size + 1, 0, none⟩), .pointer (some ⟨wc.heap.size, 0, none⟩)]]
        rw [show (wc.alloc (.cells #[.func (.func 13) #[] #[.pointer (some ⟨bI, 0, none⟩)]] 43)).heap.size = wc.heap.size + 1 by simp] at hgn
        have qq := qn _ hgn
        have hr' := hr.out
        rw [mayX_write rfl] at hr'
        rw [hr'] at qq
        clear hr'
        clear qn hgn hE
        go_wp2_with (go_at_call 26; refine qq.mono ?_; rintro e w2 ⟨rfl, hk2⟩)
        go_ret
        exact ⟨rfl, (hkE.trans (kept_alloc [] _ _)).trans hk2⟩
      · by_cases h2 : xk = 2
        · subst h2
          have qn := fun o (hg : Blk ((wc.alloc (.cells #[.func (.func 13) #[] #[.pointer (some ⟨bI, 0, none⟩)]] 43)).alloc o) (wc.heap.size + 1) 26 #[.func (.func 22) #[] #[.pointer (some ⟨bA, 0, none⟩)], .func (.func 24) #[] #[.pointer (some ⟨w.heap.size, 0, none⟩), .pointer (some ⟨bI, 0, none⟩)]]) => none_flush bI bA (w.heap.size) (wc.heap.size + 1) 26 _ _ _ hg (fun V hk => may5_any (hE.kept ((kept_alloc [] _ o).trans hk))) (fun V hk => may6_any (hE.kept ((kept_alloc [] _ o).trans hk)))
          have hgn := blk_new (wc.alloc (.cells #[.func (.func 13) #[] #[.pointer (some ⟨bI, 0, none⟩)]] 43)) 26 #[.func (.func 22) #[] #[.pointer (some ⟨bA, 0, none⟩)], .func (.func 24) #[] #[.pointer (some ⟨w.heap.size, 0, none⟩), .pointer (some ⟨bI, 0, none⟩)]]
          rw [show (wc.alloc (.cells #[.func (.func 13) #[] #[.pointer (some ⟨bI, 0, none⟩)]] 43)).heap.size = wc.heap.size + 1 by simp] at hgn
          have qq := qn _ hgn
          have hr' := hr.out
          rw [mayX_flush rfl] at hr'
          rw [hr'] at qq
          clear hr'
          clear qn hgn hE
          go_wp2_with (go_at_call 26; refine qq.mono ?_; rintro e w2 ⟨rfl, hk2⟩)
          go_ret
          exact ⟨rfl, (hkE.trans (kept_alloc [] _ _)).trans hk2⟩
        · have e0 : (xk == 0) = false := by simp [h0]
          have e1 : (xk == 1) = false := by simp [h1]
          have e2 : (xk == 2) = false := by simp [h2]
          have hr' := hr.out
          rw [mayX_bad (x := ⟨xt, xk, xo, xl⟩) (by show xk < 0 ∨ 2 < xk; omega)] at hr'
          subst hr'
          clear hE
          go_wp2_with fail
          go_ret
          exact ⟨rfl, hkE⟩
set_option maxRecDepth 100000 in
/-- May -/
theorem may_any (i : Int) (a fa sa : Option Addr) (len cap fl fc sl sc : Nat) (L F : List It) (S : List (Int × Int)) (hl : len ≤ 9223372036854775807) (hfl : fl ≤ 9223372036854775807) (hsl : sl ≤ 9223372036854775807) (w : World) (hL : ItsAt w a len cap L) (hF : ItsAt w fa fl fc F) (hS : SpsAt w sa sl sc S) :
    Calls Try.prog 7 #[.slice a len cap, .int .i64 i, .slice fa fl fc, .slice sa sl sc] w fun e w' => e = .returned (.bool (mayZ L F S i)) ∧ Kept [] w w' := by
  by_cases h : i < 0 ∨ (len : Int) ≤ i
  · rw [mayZ_out (by rw [hL.1]; exact h)]
    exact may_out i a fa sa len cap fl fc sl sc h w
  · obtain ⟨j, rfl⟩ : ∃ j : Nat, i = j := ⟨i.toNat, by omega⟩
    rw [mayZ_nat]
    exact may_in j a fa sa len cap fl fc sl sc L F S (by omega) hl hfl hsl w hL hF hS

/-- What a First answers. -/
def FSaid (m : Nat → Bool) (n : Nat) (f : Int) (e : Ending) : Prop := ∃ r ok, e = .returned (.tuple #[.int .i64 r, .bool ok]) ∧ IsFirst m n f r ok
set_option maxRecDepth 100000 in
set_option maxHeartbeats 1000000 in
/-- First -/
theorem first_any (f : Int) (a fa sa : Option Addr) (len cap fl fc sl sc : Nat) (L F : List It) (S : List (Int × Int)) (hl : len ≤ 9223372036854775807) (hfl : fl ≤ 9223372036854775807) (hsl : sl ≤ 9223372036854775807) (w : World) (hL : ItsAt w a len cap L) (hF : ItsAt w fa fl fc F) (hS : SpsAt w sa sl sc S) :
    Calls Try.prog 9 #[.slice a len cap, .int .i64 f, .slice fa fl fc, .slice sa sl sc] w fun e w' => FSaid (mayN L F S) len f e ∧ Kept [] w w' := by
  by_cases h0 : f < 0
  · go_enter Try.func9, Try.ntmps9
    go_wp2_with fail
    go_ret2
    exact ⟨⟨_, _, rfl, .inr ⟨rfl, rfl, fun h => by omega⟩⟩, Kept.refl _ _⟩
  · obtain ⟨n, rfl⟩ : ∃ n : Nat, f = n := ⟨f.toNat, by omega⟩
    have hq := fun W j (hj : j < len) (hk : Kept [] w W) => may_in j a fa sa len cap fl fc sl sc L F S hj hl hfl hsl W (hL.kept hk) (hF.kept hk) (hS.kept hk)
    generalize mayN L F S = m at *
    clear hL hF hS
    go_enter Try.func9, Try.ntmps9
    go_wp2_with fail
    go_loopw [10] (fun i wr => ∃ kk : Nat, n ≤ kk ∧ i = .int .i64 kk ∧ Kept [] w wr ∧ Hid (∀ j : Nat, n ≤ j → j < kk → m j = false)) (fun i _ => len - (RowKit.intOf i).toNat)
    case atStart => exact ⟨n, Nat.le_refl _, rfl, Kept.refl _ _, fun j h1 h2 => by omega⟩
    case round =>
      obtain ⟨kk, hkk, rfl, hk, hA⟩ := hrel
      by_cases hlt : kk < len
      · have i1 : (kk : Int) < (len : Int) := by omega
        have q := hq wr kk hlt hk
        have hm1 : Hid (len - (kk + 1) < len - kk) := by show _ < _; omega
        clear hq
        cases hm : m kk with
        | true =>
          rw [hm] at q
          replace hm : Hid (m kk = true) := hm
          go_wp2_with (go_at_call 7; refine q.mono ?_; rintro e w1 ⟨rfl, hk1⟩)
          go_ret2
          exact ⟨⟨_, _, rfl, .inl ⟨rfl, kk, rfl, by omega, by omega, hlt, hm.out, fun i g1 g2 => hA.out i (by omega) g2⟩⟩, hk.trans hk1⟩
        | false =>
          rw [hm] at q
          replace hm : Hid (m kk = false) := hm
          go_wp2_with (go_at_call 7; refine q.mono ?_; rintro e w1 ⟨rfl, hk1⟩)
          go_roundw
          case rel =>
            refine ⟨kk + 1, by omega, by go_num, hk.trans hk1, fun j g1 g2 => ?_⟩
            by_cases e : j = kk
            · subst e
              exact hm.out
            · exact hA.out j g1 (by omega)
          case measure => simpa [RowKit.intOf] using hm1.out
      · have i1 : ¬ ((kk : Int) < (len : Int)) := by omega
        clear hq
        go_wp2_with fail
        go_ret2
        exact ⟨⟨_, _, rfl, .inr ⟨rfl, rfl, fun _ i g1 g2 => hA.out i (by omega) (by omega)⟩⟩, hk⟩
end Go.Proofs.Ytfmhifhgmkffhaa.Wait
