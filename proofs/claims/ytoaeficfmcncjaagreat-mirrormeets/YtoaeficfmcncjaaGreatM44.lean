/-
 What Take stands on.
-/
import Derived.Test.YtoaeficfmcncjaaGreatM43
namespace Go.Proofs.YtoaeficfmcncjaaGreat.Mirror
open Go.RowKit
open Math
open Flight (Fw Fv FlAt Off)
open Later (Lw Lv QAt Foot RowAt)
open Pack (Ms Mv)
variable {lo m d b1 b2 : Nat} {K : List Nat} {M : Mr}
set_option maxRecDepth 100000 in
theorem turn_to (t s : Int) (h0 : -9223372036854775808 ≤ t) (h1 : t ≤ 9223372036854775807) (w : World) (H : MiAt w lo m d b1 b2 K M) (hF : M.fly.length ≤ 600) :
  ∃ f, w.cell? ⟨m, 0, none⟩ = some (.pointer (some ⟨f, 0, none⟩)) ∧ ∀ W, Kept [] w W → Calls Tryz.prog 81 #[.pointer (some ⟨f, 0, none⟩), .int .i64 t, .int .i64 s] W fun e w' => e = .returned (.bool (Flight.turnOk M.fly t s)) ∧ w'.cell? ⟨m, 0, none⟩ = some (.pointer (some ⟨f, 0, none⟩)) ∧ Goes W w' lo m d b1 b2 K K { M with fly := Flight.turnL M.fly t s } := by
 obtain ⟨f, b, p, q, h, hi, F, gr, rfl, H⟩ := H
 refine ⟨f, H.five.1, fun W hW => ?_⟩
 replace H := H.kept hW (by simp) (clean_nil _)
 refine (Flight.turn_any t s h0 h1 W H.fly hF).mono ?_
 rintro e w' ⟨rfl, hf, hk⟩
 obtain ⟨h2, h3, h4⟩ := H.flew hf (fun j hj => .inl hj) (hk.mono (by simp))
 exact ⟨rfl, h2.five.1, ⟨⟨_, _, _, _, _, _, _, _, rfl, h2⟩, h3, h4.mono (fun k hk => List.mem_append.2 (.inl hk))⟩⟩
theorem same_set {W : World} {g : Nat} {ty : TypeId} {u : Value} (hb : Blk W g ty #[u]) : ∃ V, W.setCell ⟨g, 0, none⟩ u = V ∧ Kept [g] W V ∧ Blk V g ty #[u] :=
 ⟨_, rfl, kept_set (by simp) _ _ _, hb.set 0 _⟩
theorem msg_cells {W : World} {g : Nat} {a b c d e f : Value} (h : Blk W g 47 #[a, b, c, d, e, f]) : W.cell? ⟨g, 0, none⟩ = some a ∧ W.cell? ⟨g, 1, none⟩ = some b ∧ W.cell? ⟨g, 2, none⟩ = some c ∧ W.cell? ⟨g, 3, none⟩ = some d ∧ W.cell? ⟨g, 4, none⟩ = some e ∧ W.cell? ⟨g, 5, none⟩ = some f :=
 ⟨(h.cell 0).trans rfl, (h.cell 1).trans rfl, (h.cell 2).trans rfl, (h.cell 3).trans rfl, (h.cell 4).trans rfl, (h.cell 5).trans rfl⟩
theorem lv_of (x : Mv) (h : x.len = x.d.length) : (lvOf x).lw = wOf x.ms := by
 simp [lvOf, Lv.lw, wOf, Mv.ms, h]
theorem dt_is (M : Mr) (x : Ms) : dtE M x = mtE M (wOf x) ∧ dtS M x = mtS M (wOf x) ∧ dtO M x = if mtE M (wOf x) = 0 then mtP M (wOf x) else [] := by
 have e : dtV M x = mtV M (wOf x) := rfl
 unfold dtE dtS dtO mtE mtS mtP vE vS vP
 rw [e]
 generalize mtV M (wOf x) = V
 generalize storeE M.d (wOf x) = E
 generalize storeS M.d (wOf x) = D
 refine ⟨rfl, rfl, ?_⟩
 by_cases h0 : V = 0
 ·simp [h0]
 ·simp [h0]
theorem irow_form {base : Nat} {W : World} {v : Value} {l : List Int} (h : IRow base W v l) : ∃ sa cap, v = .slice sa l.length cap := by
 rcases h.2 with ⟨rfl, h0⟩ | ⟨g, cap, cur, rfl, _⟩
 ·exact ⟨none, 0, by rw [h0]⟩
 ·exact ⟨_, cap, rfl⟩
theorem irow_lt {base : Nat} {W : World} {v : Value} {l : List Int} (h : IRow base W v l) : ∀ k, v.ownBlock = some k → base ≤ k ∧ k < W.heap.size := World.ownsRow.lt h
theorem irow_low {base base' : Nat} {W : World} {v : Value} {l : List Int} (h : IRow base W v l) (hb : base' ≤ base) : IRow base' W v l := by
 refine ⟨h.1, ?_⟩
 rcases h.2 with h0 | ⟨g, cap, cur, rfl, hb2, h1⟩
 ·exact .inl h0
 ·exact .inr ⟨g, cap, cur, rfl, Nat.le_trans hb hb2, h1⟩
end Go.Proofs.YtoaeficfmcncjaaGreat.Mirror
