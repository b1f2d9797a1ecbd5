/-
  Plain words: which settings and which requests may be; a kind's word; how many extents at most eight sectors have.
-/
import Derived.Test.YtmpblohagchhaaaSpanMath
import Derived.Test.YtmpblohagchhaaaBitsMath
namespace Go.Proofs.Ytmpblohagchhaaa.Request

/-- Is x a multiple of s, from a to b? -/
def lim (x a b s : Int) : Bool := decide (a ≤ x) && (decide (x ≤ b) && decide (x % s = 0))
/-- May the settings be? -/
def cgood (z h t n p : Int) : Bool := lim z 4 256 4 && (lim h 3 16 1 && (lim t 1 16 1 && (lim n 1 64 1 && lim p 2 100 1)))
/-- Does a span lie among n sectors, and is it short enough? -/
def fits (o l n : Int) : Bool := Span.Math.good o l n && decide (l ≤ 8)
/-- May a request of kind k, of that span, with m bytes, be asked of n sectors? -/
def may (k o l : Int) (m : Nat) (n : Int) : Bool :=
  if k = 0 then fits o l n && decide (m = 0) else if k = 1 then fits o l n && decide ((m : Int) = 16 * l) else if k = 2 then decide (o = 0) && (decide (l = 0) && decide (m = 0)) else false
/-- What Check says. -/
def errN (b : Bool) : Int := if b then 0 else 5
/-- A kind's word. -/
def wordOf (n : Int) : ByteArray :=
  if n = 0 then { data := #[114, 101, 97, 100] } else if n = 1 then { data := #[119, 114, 105, 116, 101] } else if n = 2 then { data := #[102, 108, 117, 115, 104] } else { data := #[117, 110, 107, 110, 111, 119, 110] }
theorem word_none {n : Int} (h : n < 0 ∨ 2 < n) : wordOf n = { data := #[117, 110, 107, 110, 111, 119, 110] } := by
  unfold wordOf
  rw [if_neg (by omega), if_neg (by omega), if_neg (by omega)]
theorem may_none {k o l n : Int} {m : Nat} (h : k < 0 ∨ 2 < k) : may k o l m n = false := by
  unfold may
  rw [if_neg (by omega), if_neg (by omega), if_neg (by omega)]
theorem fits_in {o l n : Int} (h : fits o l n = true) : 0 ≤ o ∧ 1 ≤ l ∧ l ≤ 8 ∧ o + l ≤ n ∧ Span.Math.plain o l = true := by
  unfold fits Span.Math.good at h
  rw [Bool.and_eq_true, Bool.and_eq_true] at h
  obtain ⟨⟨h1, h2⟩, h3⟩ := h
  have a := Span.Math.of_plain h1
  have b := of_decide_eq_true h2
  have c := of_decide_eq_true h3
  exact ⟨a.1, b.1, c, b.2, h1⟩
theorem may_fits {k o l n : Int} {m : Nat} (h : may k o l m n = true) (hk : k ≠ 2) : fits o l n = true := by
  unfold may at h
  by_cases h0 : k = 0
  · rw [if_pos h0, Bool.and_eq_true] at h
    exact h.1
  · rw [if_neg h0] at h
    by_cases h1 : k = 1
    · rw [if_pos h1, Bool.and_eq_true] at h
      exact h.1
    · rw [if_neg h1, if_neg hk] at h
      cases h
theorem may_flush {o l n : Int} {m : Nat} (h : may 2 o l m n = true) : o = 0 ∧ l = 0 ∧ m = 0 := by
  unfold may at h
  rw [if_neg (by omega), if_neg (by omega), if_pos rfl, Bool.and_eq_true, Bool.and_eq_true] at h
  exact ⟨of_decide_eq_true h.1, of_decide_eq_true h.2.1, of_decide_eq_true h.2.2⟩
theorem cgood_z {z h t n p : Int} (g : cgood z h t n p = true) : z ≤ 256 := by
  unfold cgood lim at g
  rw [Bool.and_eq_true, Bool.and_eq_true, Bool.and_eq_true] at g
  exact of_decide_eq_true g.1.2.1
theorem row_len : ∀ f, f < 64 → ∀ n, n < 4 → f + n ≤ 64 → (Bits.Math.elems (Span.Math.row f n)).length = n := by decide +kernel
/-- At most eight sectors have at most three extents. -/
theorem three {o l n : Int} (h : fits o l n = true) (hn : n ≤ 256) : 1 ≤ (Bits.Math.elems (Span.Math.ext o l)).length ∧ (Bits.Math.elems (Span.Math.ext o l)).length ≤ 3 := by
  obtain ⟨h1, h2, h3, h4, h5⟩ := fits_in h
  rw [Span.Math.ext_row h5 h2 (by omega), row_len _ (by omega) _ (by omega) (by omega)]
  omega
end Go.Proofs.Ytmpblohagchhaaa.Request
