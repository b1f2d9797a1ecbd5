/-
  Take, by the plain session; a session that no call made; lives.
-/
import Derived.Test.YtnbkbakbjllmcaaSsE
import Derived.Test.YtnbkbakbjllmcaaWrI
namespace Go.Proofs.Ytnbkbakbjllmcaa.Session
open Go.RowKit
open Outbox (Ob nums OutAt Bv Byt NoByt RowAt NRow)
open Inbox (InAt)
open Keep (KpAt)
open Wire (Ps Pv bytesL parseM parseE)

set_option maxRecDepth 100000 in
/-- Take -/
theorem take_any {base : Nat} {F : Foot} {s : Ss} (w : World) (h : SsAt w base F s) (v : Value) (bs : List Nat) (lo hi : Nat) (hv : Wire.ByteRow lo hi w v bs) (hh : hi ≤ w.heap.size) (hlen : bs.length ≤ 1000) (hs : s.ob.n + s.ob.l.length ≤ 1000000) (hb : ∀ b ∈ s.ob.l, b.length ≤ 1000) (hbw : base ≤ w.heap.size) :
    Calls Try.prog 10 #[.pointer (some ⟨F.o, 0, none⟩), v] w fun e w' => ∃ v' P F' sb lb cb, e = .returned (.tuple #[.agg #[.bool (s.isNew bs), .bool (s.has bs), .slice sb lb cb], v']) ∧ (∀ K : List Nat, (∀ k ∈ K, k ∈ F'.l ∨ k < w.heap.size) → Far K w' ⟨sb, lb, cb, s.gotB bs⟩) ∧ Told w.heap.size w' v' P (s.takeL bs) ∧ After w base F F' (s.taken bs) w' := by
  by_cases hd : s.deaf bs = true
  · refine (take_deaf w h v bs lo hi hv hh hlen hd).mono ?_
    rintro e w' ⟨rfl, hk⟩
    have e1 : s.isNew bs = false := by unfold Ss.isNew; rw [hd]; rfl
    have e2 : s.mine bs = false := by unfold Ss.mine; rw [hd]; rfl
    have e3 : s.has bs = false := by unfold Ss.has; rw [e2]; rfl
    have e4 : s.turned bs = s := by unfold Ss.turned; rw [e1]; rfl
    have e5 : s.taken bs = s := by unfold Ss.taken Ss.acked; rw [e3, e2, e4]; rfl
    have e6 : s.takeL bs = [] := by unfold Ss.takeL; rw [hd]; rfl
    have e7 : s.gotB bs = [] := by unfold Ss.gotB; rw [e3]; rfl
    rw [e1, e3, e5, e6, e7]
    exact ⟨_, [], F, none, 0, 0, rfl, fun _ _ => far_nil _ _, told_nil _ _, h.kept0 hk, rfl, hk.mono (by simp), fun k hm => .inl hm⟩
  · have hd' : s.deaf bs = false := by simpa using hd
    have hE : parseE bs = 0 := by
      unfold Ss.deaf at hd'
      simp at hd'
      exact hd'.1
    by_cases hm : (parseM bs).t = s.my
    · have em : s.mine bs = true := by
        unfold Ss.mine
        rw [hd']
        simpa using hm
      have ea : s.acked bs = Ss.ackd { (s.turned bs) with age := 0 } (parseM bs).a := by
        unfold Ss.acked
        rw [if_pos em]
        rfl
      have eh : s.has bs = opHas { (s.turned bs) with age := 0 } (parseM bs) := by
        unfold Ss.has
        rw [em]
        rfl
      have et : s.taken bs = opS { (s.turned bs) with age := 0 } (parseM bs) := by
        unfold Ss.taken
        rw [eh, ea]
        unfold opHas opS
        by_cases hk : (parseM bs).k = 3
        · rw [if_pos hk, decide_eq_true hk, Bool.true_and]
          unfold Ss.gone Inbox.takeL
          show (if Inbox.takeB (s.turned bs).last (parseM bs).s = true then _ else _) = _
          cases ht : Inbox.takeB (s.turned bs).last (parseM bs).s with
          | false =>
            rw [if_neg (by simp)]
            show _ = Ss.mk _ _ _ (if Inbox.takeB (s.turned bs).last (parseM bs).s = true then _ else _) _ _
            rw [ht]
            rfl
          | true =>
            rw [if_pos rfl]
            show _ = Ss.mk _ _ _ (if Inbox.takeB (s.turned bs).last (parseM bs).s = true then _ else _) _ _
            rw [ht]
            rfl
        · rw [if_neg hk, decide_eq_false hk, Bool.false_and, if_neg (by simp)]
      have eL : s.takeL bs = opL { (s.turned bs) with age := 0 } (parseM bs) := by
        unfold Ss.takeL opL
        rw [hd', em, et, ea]
        unfold Ss.free
        rw [em]
        rfl
      have eB : s.gotB bs = opB { (s.turned bs) with age := 0 } (parseM bs) := by
        unfold Ss.gotB opB
        rw [eh]
      rw [eh, et, eL, eB]
      cases hN : s.isNew bs with
      | false =>
        refine (take_old_mine w h v bs lo hi hv hh hlen hE hN hd' hm hs hb hbw).mono ?_
        rintro e w' ⟨v', P, F', sb, lb, cb, rfl, h1, h2, h3⟩
        exact ⟨v', P, F', sb, lb, cb, rfl, h1, h2, h3⟩
      | true =>
        refine (take_new_mine w h v bs lo hi hv hh hlen hE hN hd' hm hs hb hbw).mono ?_
        rintro e w' ⟨v', P, F', sb, lb, cb, rfl, h1, h2, h3⟩
        exact ⟨v', P, F', sb, lb, cb, rfl, h1, h2, h3⟩
    · have em : s.mine bs = false := by
        unfold Ss.mine
        rw [decide_eq_false hm]
        simp
      have eh : s.has bs = false := by unfold Ss.has; rw [em]; rfl
      have et : s.taken bs = s.turned bs := by unfold Ss.taken Ss.acked; rw [eh, em]; rfl
      have eL : s.takeL bs = [bytesL (s.turned bs).ping] := by unfold Ss.takeL; rw [hd', em, et]; rfl
      have eB : s.gotB bs = [] := by unfold Ss.gotB; rw [eh]; rfl
      rw [eh, et, eL, eB]
      cases hN : s.isNew bs with
      | false =>
        refine (take_old_other w h v bs lo hi hv hh hlen hE hN hd' hm hs hb hbw).mono ?_
        rintro e w' ⟨v', P, F', rfl, h1, h2⟩
        exact ⟨v', P, F', none, 0, 0, rfl, fun _ _ => far_nil _ _, h1, h2⟩
      | true =>
        refine (take_new_other w h v bs lo hi hv hh hlen hE hN hd' hm hs hb hbw).mono ?_
        rintro e w' ⟨v', P, F', rfl, h1, h2⟩
        exact ⟨v', P, F', none, 0, 0, rfl, fun _ _ => far_nil _ _, h1, h2⟩
/-- A session that no call made: nil, or noughts. -/
def NoSs (W : World) (p : Option Addr) : Prop := p = none ∨ ∃ o, p = some ⟨o, 0, none⟩ ∧ Blk W o 56 #[.int .i64 0, .int .u32 0, .int .u32 0, .pointer none, .pointer none, .pointer none]
theorem NoSs.kept {A B : World} {p : Option Addr} (h : NoSs A p) (hk : Kept [] A B) : NoSs B p := h.imp id fun ⟨o, e, hb⟩ => ⟨o, e, hb.kept hk (by simp)⟩
end Go.Proofs.Ytnbkbakbjllmcaa.Session
