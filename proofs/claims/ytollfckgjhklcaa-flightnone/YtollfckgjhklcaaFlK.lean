/-
  Tickets as keys of the map: what they read as.
-/
import Derived.Test.YtollfckgjhklcaaFlA
import Derived.DeepKeys3
import Derived.Maps.RangeWalk
import Derived.Sort.MapsRangeIn
import Derived.Lib.SlKeysI
namespace Go.Proofs.Ytollfckgjhklcaa.Flight
open Go.RowKit Go.Maps Go.Sort

set_option maxRecDepth 100000 in
theorem Try.wideK : (match Try.prog.underlying 58 with | some (.array _ _) | some (.struct _) => true | _ => false) = true := by kernel_rfl
set_option maxRecDepth 100000 in
theorem Try.keyTypeAtK : Try.prog.keyTypeAt 2 58 = true := by kernel_rfl
set_option maxRecDepth 100000 in
theorem Try.tiledK : Try.prog.tiled 2 58 = true := by kernel_rfl
set_option maxRecDepth 100000 in
theorem keyedK : Go.Maps.Keyed Try.prog 58 := Go.Maps.Keyed.of_law (deep_law (m := 2) (by omega) Try.keyTypeAtK Try.tiledK Try.wideK)
/-- What a ticket reads as. -/
def kl (k : Int) : Lit := .string (keyBytes [.int .i64 k])
set_option maxRecDepth 100000 in
theorem Try.keyTypeK : Try.prog.keyType 58 = true := by kernel_rfl
set_option maxRecDepth 100000 in
theorem Try.cellsK : Try.prog.cellsOf 58 = 1 := by kernel_rfl
set_option maxRecDepth 100000 in
theorem Try.cells3 : Try.prog.cellsOf 3 = 1 := by kernel_rfl
set_option maxRecDepth 100000 in
theorem Try.sizeT : ∃ n, Try.prog.types.size = n + 1 := ⟨Try.prog.types.size - 1, by kernel_rfl⟩
set_option maxRecDepth 100000 in
theorem lits3 (d : Nat) (v : Value) : Try.prog.keyLits (d + 1) 3 [v] = match v with | .int .i64 k => if (Lit.int .i64 k).wf = true then some [.int .i64 k] else none | _ => none := by
  rw [Program.keyLits.eq_def]
  simp only [Try.underlying3]
  cases v <;> simp
  split <;> rename_i h
  · obtain ⟨rfl, h⟩ := h
    simp [h]
  · split <;> rename_i h2
    · injection h2 with h2 h3
      subst h2 h3
      simpa using h
    · rfl
set_option maxRecDepth 100000 in
theorem litsK (d : Nat) (cs : List Value) : Try.prog.keyLits (d + 1) 58 cs = match cs with | [v] => Try.prog.keyLits d 3 [v] | _ => none := by
  rw [Program.keyLits.eq_def]
  simp only [Try.underlying58]
  match cs with
  | [] => simp [Try.cellsK]
  | [v] =>
    simp [Try.cellsK, Try.cells3]
    cases Try.prog.keyLits d 3 [v] <;> simp
  | v :: u :: r => simp [Try.cellsK]
set_option maxRecDepth 100000 in
theorem formedK (v : Value) : (Value.agg #[v]).formed Try.prog 58 = true := by simp [Value.formed, Try.underlying58, Try.cellsK]
set_option maxRecDepth 100000 in
theorem keyOf_mk {k : Int} (hw : (Lit.int .i64 k).wf = true) : keyOf Try.prog 58 (.agg #[.int .i64 k]) = some (kl k) := by
  obtain ⟨n, hn⟩ := Try.sizeT
  unfold keyOf
  rw [Try.underlying58]
  simp only [Try.keyTypeK, formedK, hn, Value.cells, litsK, lits3, hw, Bool.and_self, if_true, Option.map_some]
  rfl
set_option maxRecDepth 100000 in
theorem keyOf_inv {v : Value} {l : Lit} (h : keyOf Try.prog 58 v = some l) : ∃ k, v = .agg #[.int .i64 k] ∧ l = kl k ∧ (Lit.int .i64 k).wf = true := by
  obtain ⟨xs, L, rfl, hL, rfl⟩ := keyOf_top Try.wideK h
  obtain ⟨n, hn⟩ := Try.sizeT
  rw [hn, litsK] at hL
  obtain ⟨cs⟩ := xs
  match cs, hL with
  | [u], hL =>
    simp only [lits3] at hL
    split at hL
    · split at hL
      · injection hL with hL
        subst hL
        exact ⟨_, rfl, rfl, by assumption⟩
      · cases hL
    · cases hL
theorem kl_inj {a b : Int} (ha : (Lit.int .i64 a).wf = true) (hb : (Lit.int .i64 b).wf = true) (h : kl a = kl b) : a = b := by
  have := keyedK.inj (keyOf_mk ha) (h ▸ keyOf_mk hb)
  injection this with this
  have := congrArg (fun l : Array Value => l[0]?) this
  simpa using this
theorem wf_i64 {k : Int} (h0 : -9223372036854775808 ≤ k) (h1 : k ≤ 9223372036854775807) : (Lit.int .i64 k).wf = true := WalkArith.wf_i64 ⟨h0, h1⟩
theorem of_wf {k : Int} (h : (Lit.int .i64 k).wf = true) : -9223372036854775808 ≤ k ∧ k ≤ 9223372036854775807 := by
  simp [Lit.wf, IntKind.min, IntKind.max, IntKind.signed, IntKind.bits] at h
  omega
end Go.Proofs.Ytollfckgjhklcaa.Flight
