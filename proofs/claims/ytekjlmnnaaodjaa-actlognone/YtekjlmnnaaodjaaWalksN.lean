/-
  The walks of the document's disk: in, burns, SetFuse, Write, Read, Durable.
-/
import Derived.Test.YtekjlmnnaaodjaaWalksM
namespace Go.Proofs.Ytekjlmnnaaodjaa
open Go.RowKit Go.Maps Go.Shelf
open Math

theorem nf_zero {f : Int} : nf f = 0 ↔ f = 0 := by unfold nf; split <;> omega
theorem nf_pos {f : Int} : 0 < nf f ↔ 0 < f := by unfold nf; split <;> omega
theorem nf_dec {f : Int} (h : 0 < f) : nf f - 1 = nf (f - 1) ∧ nf f = f := by
  unfold nf
  rw [if_neg (by omega), if_neg (by omega)]
  exact ⟨rfl, rfl⟩
theorem nf_low (f : Int) (h : -9223372036854775808 ≤ f) (h2 : f ≤ 9223372036854775807) : -1 ≤ nf f ∧ nf f ≤ 9223372036854775807 := by unfold nf; split <;> omega
theorem nf_nf (k : Int) : nf k = if k < 0 then -1 else k := rfl
/-- What a write leaves. -/
theorem rc_laid (s : Dk) (i : Nat) (x : List Nat) : ∀ k, rc (laid s (i : Int) x) k = upF (upF (rc s) i { rc s i with b := x }) i { upF (rc s) i { rc s i with b := x } i with c := true } k := fun k => by
  by_cases e : k = i
  · subst e
    simp [upF_same, rc, laid, upd_same]
  · have e2 : (k : Int) ≠ (i : Int) := by omega
    simp [upF_other _ _ e, rc, laid, upd_other _ _ e2]
end Go.Proofs.Ytekjlmnnaaodjaa
