/-
  Tickets as keys of the map: what they read as.
-/
import Derived.Test.YtollfckgjhklcaaGreatFlA
import Derived.DeepKeys3
import Derived.Maps.RangeWalk
import Derived.Sort.MapsRangeIn
import Derived.Lib.SlKeysI
namespace Go.Proofs.YtollfckgjhklcaaGreat.Flight
open Go.RowKit Go.Maps Go.Sort

set_option maxRecDepth 100000 in
theorem Tryz.wideK : (match Tryz.prog.underlying 71 with | some (.array _ _) | some (.struct _) => true | _ => false) = true := by kernel_rfl
set_option maxRecDepth 100000 in
theorem Tryz.keyTypeAtK : Tryz.prog.keyTypeAt 2 71 = true := by kernel_rfl
set_option maxRecDepth 100000 in
theorem Tryz.tiledK : Tryz.prog.tiled 2 71 = true := by kernel_rfl
set_option maxRecDepth 100000 in
theorem keyedK : Go.Maps.Keyed Tryz.prog 71 := Go.Maps.Keyed.of_law (deep_law (m := 2) (by omega) Tryz.keyTypeAtK Tryz.tiledK Tryz.wideK)
/-- What a ticket reads as. -/
def kl (k : Int) : Lit := .string (keyBytes [.int .i64 k])
set_option maxRecDepth 100000 in
theorem Tryz.keyTypeK : Tryz.prog.keyType 71 = true := by kernel_rfl
set_option maxRecDepth 100000 in
theorem Tryz.cellsK : Tryz.prog.cellsOf 71 = 1 := by kernel_rfl
set_option maxRecDepth 100000 in
theorem Tryz.cells3 : Tryz.prog.cellsOf 3 = 1 := by kernel_rfl
set_option maxRecDepth 100000 in
theorem Tryz.sizeT : ∃ n, Tryz.prog.types.size = n + 1 := ⟨Tryz.prog.types.size - 1, by kernel_rfl⟩
set_option maxRecDepth 100000 in
theorem lits3 (d : Nat) (v : Value) : Tryz.prog.keyLits (d + 1) 3 [v] = match v with | .int .i64 k => if (Lit.int .i64 k).wf = true then some [.int .i64 k] else none | _ => none := by
  rw [Program.keyLits.eq_def]
  simp only [Tryz.underlying3]
  cases v <;> simp
  split <;> rename_i h
  · obtain ⟨rfl, h⟩ := h
    simp [h]
  · split <;> rename_i h2
    · injection h2 with h2 h3
      subst h2 h3
      simpa using h
    · rfl
set_option maxRecDepth 100000 in
theorem litsK (d : Nat) (cs : List Value) : Tryz.prog.keyLits (d + 1) 71 cs = match cs with | [v] => Tryz.prog.keyLits d 3 [v] | _ => none := by
  rw [Program.keyLits.eq_def]
  simp only [Tryz.underlying71]
  match cs with
  | [] => simp [Tryz.cellsK]
  | [v] =>
    simp [Tryz.cellsK, Tryz.cells3]
    cases Tryz.prog.keyLits d 3 [v] <;> simp
  | v :: u :: r => simp [Tryz.cellsK]
set_option maxRecDepth 100000 in
theorem formedK (v : Value) : (Value.agg #[v]).formed Tryz.prog 71 = true := by simp [Value.formed, Tryz.underlying71, Tryz.cellsK]
set_option maxRecDepth 100000 in
theorem keyOf_mk {k : Int} (hw : (Lit.int .i64 k).wf = true) : keyOf Tryz.prog 71 (.agg #[.int .i64 k]) = some (kl k) := by
  obtain ⟨n, hn⟩ := Tryz.sizeT
  unfold keyOf
  rw [Tryz.underlying71]
  simp only [Tryz.keyTypeK, formedK, hn, Value.cells, litsK, lits3, hw, Bool.and_self, if_true, Option.map_some]
  rfl
set_option maxRecDepth 100000 in
theorem keyOf_inv {v : Value} {l : Lit} (h : keyOf Tryz.prog 71 v = some l) : ∃ k, v = .agg #[.int .i64 k] ∧ l = kl k ∧ (Lit.int .i64 k).wf = true := by
  obtain ⟨xs, L, rfl, hL, rfl⟩ := keyOf_top Tryz.wideK h
  obtain ⟨n, hn⟩ := Tryz.sizeT
  rw [hn, litsK] at hL
  obtain ⟨cs⟩ := xs
  match cs, hL with
  | [u], hL =>
    simp only [lits3] at hL
    split at hL
    · split at hL
      · injection hL with hL
        subst hL
        exact ⟨_, rfl, rfl, by assumption⟩
      · cases hL
    · cases hL
theorem kl_inj {a b : Int} (ha : (Lit.int .i64 a).wf = true) (hb : (Lit.int .i64 b).wf = true) (h : kl a = kl b) : a = b := by
  have := keyedK.inj (keyOf_mk ha) (h ▸ keyOf_mk hb)
  injection this with this
  have := congrArg (fun l : Array Value => l[0]?) this
  simpa using this
theorem wf_i64 {k : Int} (h0 : -9223372036854775808 ≤ k) (h1 : k ≤ 9223372036854775807) : (Lit.int .i64 k).wf = true := WalkArith.wf_i64 ⟨h0, h1⟩
theorem of_wf {k : Int} (h : (Lit.int .i64 k).wf = true) : -9223372036854775808 ≤ k ∧ k ≤ 9223372036854775807 := by
  simp [Lit.wf, IntKind.min, IntKind.max, IntKind.signed, IntKind.bits] at h
  omega
end Go.Proofs.YtollfckgjhklcaaGreat.Flight
