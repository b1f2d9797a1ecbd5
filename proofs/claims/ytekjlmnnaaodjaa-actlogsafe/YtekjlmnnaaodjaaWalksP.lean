/-
  The walks of the document's disk: Cached; two rows of numbers compared.
-/
import Derived.Test.YtekjlmnnaaodjaaWalksO
import Derived.Maps.AppendAt
import Derived.Maps.OwnRows
namespace Go.Proofs.Ytekjlmnnaaodjaa
open Go.RowKit Go.Maps Go.Shelf
open Math

set_option maxRecDepth 100000 in
theorem Try.info3 : (Try.prog.info? 3).map (fun i => (i.zero, i.size, i.bytes)) = some (some (.int .i64 0), 1, 8) := by kernel_rfl
theorem rc_one (x : Rc) : ∀ v ∈ x.cells, v.oneCell' = true := by
  intro v hv
  simp only [Rc.cells, List.mem_cons, List.mem_append, List.mem_map, List.not_mem_nil, or_false] at hv
  rcases hv with ⟨y, _, rfl⟩ | ⟨y, _, rfl⟩ | rfl <;> rfl
theorem nums_nil (W : World) (base : Nat) : Nums W base (.slice none 0 0) [] := World.ownsRow_nil W base 3 1
theorem Nums.block {W : World} {base : Nat} {v : Value} {l : List Nat} (h : Nums W base v l) : ∀ k, v.ownBlock = some k → base ≤ k := fun k hk => (World.ownsRow.lt h k hk).1
theorem Kept.of_own {w w' : World} {v : Value} {base : Nat} (h : w.grownBy w' v.ownBlock) (hv : ∀ k, v.ownBlock = some k → base ≤ k) {w0 : World} (h0 : Kept [] w0 w) (hb : base = w0.heap.size) : Kept [] w0 w' :=
  ⟨h.os.trans h0.os, h.tape.trans h0.tape, h.output.trans h0.output, Nat.le_trans h0.size h.size, fun k hk _ => (h.block k (Nat.lt_of_lt_of_le hk h0.size) (fun e => by have := hv k e.symm; omega)).trans (h0.block k hk (by simp))⟩

theorem kept_drewN (L : List Nat) (w : World) (n : Nat) : Kept L w (w.drewN n) := ⟨rfl, rfl, rfl, Nat.le_refl _, fun _ _ _ => rfl⟩
/-- A row of numbers, told place by place. -/
theorem Nums.told {W : World} {base : Nat} {v : Value} {l : List Nat} (h : Nums W base v l) : ∃ a cap, v = .slice a l.length cap ∧ (l = [] ∨ ∃ g, a = some ⟨g, 0, none⟩ ∧ g < W.heap.size ∧ ∀ j k : Nat, l[j]? = some k → W.cell? ⟨g, j, none⟩ = some (.int .i64 (k : Int))) := by
  rcases h.open with ⟨rfl, rfl⟩ | ⟨g, cap, rfl, _, hg, _, hc⟩
  · exact ⟨_, _, rfl, .inl rfl⟩
  · exact ⟨_, _, rfl, .inr ⟨g, rfl, hg, hc⟩⟩
end Go.Proofs.Ytekjlmnnaaodjaa
