/-
  WaitTells' walk.
-/
import Derived.Test.YtfmhifhgmkffhaaWtF
namespace Go.Proofs.Ytfmhifhgmkffhaa.Wait
open Go.RowKit

set_option maxRecDepth 100000 in
set_option maxHeartbeats 1000000 in
theorem tells_early (a fa sa : Option Addr) (len cap fl fc sl sc : Nat) (i : Int) (h : 40 < len ∨ 40 < fl ∨ 40 < sl) (w : World) :
    Calls Try.prog 3 #[.slice a len cap, .slice fa fl fc, .agg #[.slice sa sl sc, .int .i64 i]] w fun e w' => e = .returned (.bool true) ∧ Kept [] w w' := by
  have kA := kept_alloc [] w (.cells #[.slice sa sl sc, .int .i64 i] 25)
  have hB := blk_new w 25 #[.slice sa sl sc, .int .i64 i]
  have c0 := fun n => ((hB.kept (kept_drewN [] _ n) (by simp)).cell 0).trans (show _ = some (Value.slice sa sl sc) from rfl)
  have c1 := fun n => ((hB.kept (kept_drewN [] _ n) (by simp)).cell 1).trans (show _ = some (Value.int .i64 i) from rfl)
  have q := fun W => lives_any W
  clear hB
  by_cases h1 : 40 < len
  · have g1 : (40 : Int) < (len : Int) := by omega
    clear h h1
    go_enter Try.func3, Try.ntmps3
    go_wp2_with fail
    go_quiet (fail)
    go_wp2_with (go_at_call 5; refine (q _).mono ?_; rintro e w1 ⟨rfl, hk1⟩)
    go_ret
    exact ⟨rfl, (kA.trans (kept_drewN [] _ _)).trans hk1⟩
  · have g1 : ¬ ((40 : Int) < (len : Int)) := by omega
    by_cases h2 : 40 < fl
    · have g2 : (40 : Int) < (fl : Int) := by omega
      clear h h1 h2
      go_enter Try.func3, Try.ntmps3
      go_wp2_with fail
      go_quiet (fail)
      go_wp2_with (go_at_call 5; refine (q _).mono ?_; rintro e w1 ⟨rfl, hk1⟩)
      go_ret
      exact ⟨rfl, (kA.trans (kept_drewN [] _ _)).trans hk1⟩
    · have g2 : ¬ ((40 : Int) < (fl : Int)) := by omega
      have g3 : (40 : Int) < (sl : Int) := by omega
      clear h h1 h2
      go_enter Try.func3, Try.ntmps3
      go_wp2_with fail
      go_quiet (fail)
      go_wp2_with (go_at_call 5; refine (q _).mono ?_; rintro e w1 ⟨rfl, hk1⟩)
      go_ret
      exact ⟨rfl, (kA.trans (kept_drewN [] _ _)).trans hk1⟩

set_option maxRecDepth 100000 in
set_option maxHeartbeats 4000000 in
theorem tells_play (a fa sa : Option Addr) (len cap fl fc sl sc : Nat) (i : Int) (L F : List It) (S : List (Int × Int)) (h1 : len ≤ 40) (h2 : fl ≤ 40) (h3 : sl ≤ 40) (w : World) (hL : ItsAt w a len cap L) (hF : ItsAt w fa fl fc F) (hS : SpsAt w sa sl sc S) :
    Calls Try.prog 3 #[.slice a len cap, .slice fa fl fc, .agg #[.slice sa sl sc, .int .i64 i]] w fun e w' => e = .returned (.bool true) ∧ Kept [] w w' := by
  have kA := kept_alloc [] w (.cells #[.slice sa sl sc, .int .i64 i] 25)
  have hB := blk_new w 25 #[.slice sa sl sc, .int .i64 i]
  have c0 := fun n => ((hB.kept (kept_drewN [] _ n) (by simp)).cell 0).trans (show _ = some (Value.slice sa sl sc) from rfl)
  have c1 := fun n => ((hB.kept (kept_drewN [] _ n) (by simp)).cell 1).trans (show _ = some (Value.int .i64 i) from rfl)
  have g1 : ¬ ((40 : Int) < (len : Int)) := by omega
  have g2 : ¬ ((40 : Int) < (fl : Int)) := by omega
  have g3 : ¬ ((40 : Int) < (sl : Int)) := by omega
  have q1 := fun W (k : Kept [] w W) => items_any a len cap L h1 W (hL.kept k)
  have q2 := fun W (k : Kept [] w W) => items_any fa fl fc F h2 W (hF.kept k)
  have hlL := hL.1
  have hlF := hF.1
  clear hB
  go_enter Try.func3, Try.ntmps3
  go_wp2_with fail
  go_quiet (fail)
  generalize hw0 : World.drewN _ _ = w0
  have hk0 : Kept [] w w0 := by rw [← hw0]; exact kA.trans (kept_drewN [] _ _)
  clear hw0 c0 c1 kA
  go_wp2_with (first
    | (go_at_call 6; refine (q1 _ hk0).mono ?_; rintro e w1 ⟨v, rfl, hO, hk1⟩; obtain ⟨xa, xc, e1, hX⟩ := hO.its; rw [hlL] at e1 hX; subst e1; replace hk1 := hk0.trans hk1; clear q1 hO)
    | (go_at_call 6; refine (q2 _ hk1).mono ?_; rintro e w2 ⟨v, rfl, hO, hk2⟩; obtain ⟨ya, yc, e2, hY⟩ := hO.its; rw [hlF] at e2 hY; subst e2; replace hX := hX.kept hk2; replace hk1 := hk1.trans hk2; clear q2 hO hk2))
  have qm := fun W (k : Kept [] w2 W) j => may_any j xa ya sa len xc fl yc sl sc L F S (by omega) (by omega) (by omega) W (hX.kept k) (hY.kept k) (hS.kept (hk1.trans k))
  have qr := fun W (k : Kept [] w2 W) j => rmay_any j a fa sa len cap fl fc sl sc L F S (by omega) (by omega) (by omega) W (hL.kept (hk1.trans k)) (hF.kept (hk1.trans k)) (hS.kept (hk1.trans k))
  have qf := fun W (k : Kept [] w2 W) => first_any i xa ya sa len xc fl yc sl sc L F S (by omega) (by omega) (by omega) W (hX.kept k) (hY.kept k) (hS.kept (hk1.trans k))
  have qg := fun W (k : Kept [] w2 W) => rfirst_any i a fa sa len cap fl fc sl sc L F S (by omega) (by omega) (by omega) W (hL.kept (hk1.trans k)) (hF.kept (hk1.trans k)) (hS.kept (hk1.trans k))
  have ql := fun W => lives_any W
  have hn : Hid (len ≤ 40) := h1
  clear hlL hlF hL hF hS hX hY h1 h2 h3 hk0
  go_loopw [11] (fun i wr => ∃ kk : Int, -1 ≤ kk ∧ kk ≤ (len : Int) + 1 ∧ i = .int .i64 kk ∧ Kept [] w2 wr) (fun i _ => ((len : Int) + 1 - RowKit.intOf i).toNat)
  case atStart => exact ⟨-1, by omega, by omega, rfl, Kept.refl _ _⟩
  case round =>
    obtain ⟨kk, hk0, hkk, rfl, hk⟩ := hrel
    by_cases hlt : kk ≤ (len : Int)
    · have q3 := qm wr hk kk
      have q4 := fun W (k : Kept [] wr W) => qr W (hk.trans k) kk
      have hm1 : Hid (((len : Int) + 1 - (kk + 1)).toNat < ((len : Int) + 1 - kk).toNat) := by show _ < _; omega
      have hb : Hid (kk ≤ (len : Int)) := hlt
      generalize mayZ L F S kk = z at *
      clear qm qr qf qg ql
      go_wp2_with (first
        | (go_at_call 7; refine q3.mono ?_; rintro e w3 ⟨rfl, hk3⟩)
        | (go_at_call 8; refine (q4 _ hk3).mono ?_; rintro e w4 ⟨rfl, hk4⟩))
      go_roundw
      case rel => exact ⟨kk + 1, by omega, by have := hb.out; omega, rfl, (hk.trans hk3).trans hk4⟩
      case measure => simpa [RowKit.intOf] using hm1.out
    · have q3 := fun W (k : Kept [] wr W) => qm W (hk.trans k) i
      have q4 := fun W (k : Kept [] wr W) => qr W (hk.trans k) i
      have q5 := qf wr hk
      have q6 := fun W (k : Kept [] wr W) => qg W (hk.trans k)
      generalize mayZ L F S i = z at *
      clear qm qr qf qg
      go_wp2_with (first
        | (go_at_call 9; refine q5.mono ?_; rintro e w3 ⟨⟨r, ok, rfl, hF1⟩, hk3⟩; replace hF1 : Hid (IsFirst _ _ _ _ _) := hF1)
        | (go_at_call 10; refine (q6 _ hk3).mono ?_; rintro e w4 ⟨⟨r', ok', rfl, hF2⟩, hk4⟩; obtain ⟨e1, e2⟩ := first_one hF1.out hF2; subst e1; subst e2; replace hk3 := hk3.trans hk4; clear hk4 hF2 hF1)
        | (go_at_call 7; refine (q3 _ hk3).mono ?_; rintro e w5 ⟨rfl, hk5⟩; replace hk3 := hk3.trans hk5; clear hk5)
        | (go_at_call 8; refine (q4 _ hk3).mono ?_; rintro e w6 ⟨rfl, hk6⟩; replace hk3 := hk3.trans hk6; clear hk6)
        | (go_at_call 5; refine (ql _).mono ?_; rintro e w7 ⟨rfl, hk7⟩))
      go_ret
      exact ⟨rfl, ((hk1.trans hk).trans hk3).trans hk7⟩
end Go.Proofs.Ytfmhifhgmkffhaa.Wait
