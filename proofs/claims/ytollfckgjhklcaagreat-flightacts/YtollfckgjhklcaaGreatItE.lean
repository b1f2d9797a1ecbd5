import Derived.Test.YtollfckgjhklcaaGreatItD
/-
  Ids in a row; the walks of Overlaps and Ids of twainref14.
-/
namespace Go.Proofs.YtollfckgjhklcaaGreat.Itree
open Go.RowKit

/-- Ids in a row that a call has made, from block base on. -/
def IdsAt (W : World) (base : Nat) (v : Value) (l : List Int) : Prop := W.ownsRow base 3 1 v l.length (l.map (Value.int .i64))
theorem ids_nil (W : World) (base : Nat) : IdsAt W base (.slice none 0 0) [] := World.ownsRow_nil W base 3 1
theorem IdsAt.kept {K : List Nat} {A B : World} {base : Nat} {v : Value} {l : List Int} (h : IdsAt A base v l) (hk : Kept K A B) (hK : ∀ k ∈ K, k < base) : IdsAt B base v l := by
  refine ⟨h.1, ?_⟩
  rcases h.2 with hn | ⟨g, cap, cur, hv, hb, hg, rest⟩
  · exact .inl hn
  · refine .inr ⟨g, cap, cur, hv, hb, ?_, rest⟩
    rw [hk.block g (Array.getElem?_eq_some_iff.1 hg).1 (fun hm => by have := hK g hm; omega)]
    exact hg
theorem IdsAt.mono {W : World} {base base' : Nat} {v : Value} {l : List Int} (h : IdsAt W base v l) (hb : base' ≤ base) : IdsAt W base' v l := by
  refine ⟨h.1, ?_⟩
  rcases h.2 with hn | ⟨g, cap, cur, hv, hg0, rest⟩
  · exact .inl hn
  · exact .inr ⟨g, cap, cur, hv, by omega, rest⟩
/-- As they read. -/
theorem IdsAt.ints {W : World} {base : Nat} {v : Value} {l : List Int} (h : IdsAt W base v l) : Bits.IntsAt W.heap.size W v l := by
  obtain ⟨_, ⟨rfl, h0⟩ | ⟨g, cap, cur, rfl, hb, hg, h1, h2, h3, h4⟩⟩ := h
  · have : l = [] := by simpa using h0
    subst this
    exact ⟨none, 0, rfl, .inl rfl⟩
  · refine ⟨some ⟨g, 0, none⟩, cap, rfl, .inr ⟨g, 0, rfl, (Array.getElem?_eq_some_iff.1 hg).1, fun j hj => ?_⟩⟩
    have e := congrArg (fun t => t[j]?) h4
    simp only [Nat.mul_one] at e
    rw [List.getElem?_take_of_lt hj, List.getElem?_map, List.getElem?_eq_getElem hj] at e
    rw [cell_of_row W g (0 + j) _ 3 (0, 0) hg]
    simpa [hj] using e
/-- It has a length. -/
theorem IdsAt.slice {W : World} {base : Nat} {v : Value} {l : List Int} (h : IdsAt W base v l) : ∃ a cap, v = .slice a l.length cap := by
  obtain ⟨_, ⟨rfl, h0⟩ | ⟨g, cap, cur, rfl, _⟩⟩ := h
  · exact ⟨none, 0, by rw [h0]⟩
  · exact ⟨_, cap, rfl⟩
section
variable {ops : Array Oper} {rest : List Oper} {o : Oper} {a : Act} {w : World} {Q : Exit → Act → World → Prop}
set_option maxRecDepth 100000 in
/-- An id appended. -/
theorem wpList_append_id (hgd : o.guard = none) (s x : Operand) (ho : o.op = .call { callee := .builtin .append, args := #[s, x], argTypes := #[103, 103] })
    (base : Nat) (v : Value) (l : List Int) (id : Int) (q : Nat) (hs : a.eval s = v) (hown : IdsAt w base v l) (hx : a.eval x = .slice (some ⟨q, 0, none⟩) 1 1) (hc : w.cell? ⟨q, 0, none⟩ = some (.int .i64 id)) (hlen : l.length ≤ 2000000) (hb : base ≤ w.heap.size)
    (h : ∀ v' w', IdsAt w' base v' (l ++ [id]) → w.grownBy w' v.ownBlock → wpList Tryz.prog ops Q rest (a.put o.dst v') w') : wpList Tryz.prog ops Q (o :: rest) a w := by
  have hi3 : (Tryz.prog.info? 3).map (fun i => (i.zero, i.size, i.bytes)) = some (some (.int .i64 0), 1, 8) := by kernel_rfl
  obtain ⟨i0, hi, hz0, hz1, hz2⟩ := info_parts hi3
  refine wpList_append_own _ hgd s x 103 ho base 3 i0 (.int .i64 0) 1 8 Tryz.underlying103 hi hz0 hz1 hz2 rfl (by decide) v l.length (l.map (Value.int .i64)) hs hown ⟨q, 0, none⟩ 1 1 [.int .i64 id] hx rfl ?_ ?_ (by unfold maxLen; omega) (by omega) hb ?_
  · intro j u hu
    have hj : j = 0 := by
      have := (List.getElem?_eq_some_iff.1 hu).1
      simpa using this
    subst hj
    simp at hu
    subst hu
    exact hc
  · intro u hu
    simp at hu
    subst hu
    rfl
  · intro v' w' h3 h4 _
    refine h v' w' ?_ h4
    unfold IdsAt
    rw [List.length_append, List.map_append]
    exact h3
end

end Go.Proofs.YtollfckgjhklcaaGreat.Itree

