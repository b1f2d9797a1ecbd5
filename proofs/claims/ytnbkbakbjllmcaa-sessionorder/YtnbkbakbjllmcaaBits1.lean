/-
  Texts of ours, joined: BitsA, BitsB, BitsC.
-/
import Derived.Test.YtnbkbakbjllmcaaProg
import Derived.Test.YtnbkbakbjllmcaaBitsMath
import Derived.WalkKit
import Derived.WalkSpells
import Derived.WalkLawsBesides
import Derived.Laws.BitsAllLaws
import Derived.Laws.ShiftsVarLaws
import Derived.Below
import Derived.LoopTactic
import Derived.Deep.QuietTactic
import Derived.BigQuiet
import Derived.WalkSmall
import Derived.RegionTactic
import Derived.Maps.AppendAt
import Derived.RangeFuncCalls
import Derived.RangeFuncLeaves
import Derived.RangeFuncBox
import Derived.Shelf.Abstract
import Derived.Shelf.RegionOpen
import Derived.OwnWalkIn
import Derived.TacticsInMore
import Derived.LoopNIn
import Derived.LoopIn
/-
  The walks of layer 1's functions without an iterator: what each call answers, in the plain words of the Math text.
-/
namespace Go.Proofs.Ytnbkbakbjllmcaa.Bits
open Go.RowKit
open Math

theorem ret_int {k : IntKind} {a b : Int} (h : a = b) : Ending.returned (.int k a) = .returned (.int k b) := by rw [h]
theorem ret_bool {a b : Bool} (h : a = b) : Ending.returned (.bool a) = .returned (.bool b) := by rw [h]


/-- What the set has become behind k rounds. -/
def cc : Nat → Nat → Nat
  | 0, x => x
  | 1, x => c1 x
  | 2, x => c2 x
  | 3, x => c3 x
  | 4, x => c4 x
  | 5, x => c5 x
  | _, x => c6 x










end Go.Proofs.Ytnbkbakbjllmcaa.Bits

/-
  The walks of the document's List, Of and Ints: what each call answers, in the plain words of the Math text.
-/
namespace Go.Proofs.Ytnbkbakbjllmcaa.Bits
open Go.RowKit
open Math

/-- The slice value sv holds the ints zs, in a block below n₀ where there is one. -/
def IntsAt (n₀ : Nat) (W : World) (sv : Value) (zs : List Int) : Prop :=
  ∃ a cap, sv = .slice a zs.length cap ∧ (zs = [] ∨ ∃ b off, a = some ⟨b, off, none⟩ ∧ b < n₀ ∧ ∀ j, j < zs.length → W.cell? ⟨b, off + j, none⟩ = some (.int .i64 (zs[j]?.getD 0)))
theorem IntsAt.below {n₀ : Nat} {A B : World} (h : Below n₀ A B) {sv : Value} {zs : List Int} : IntsAt n₀ A sv zs → IntsAt n₀ B sv zs
  | ⟨a, cap, e, .inl r⟩ => ⟨a, cap, e, .inl r⟩
  | ⟨a, cap, e, .inr ⟨b, off, e2, hb, hc⟩⟩ => ⟨a, cap, e, .inr ⟨b, off, e2, hb, fun j hj => (h.cell (p := ⟨b, off + j, none⟩) hb).trans (hc j hj)⟩⟩
theorem IntsAt.mono {n m : Nat} {A : World} {sv : Value} {zs : List Int} (hn : n ≤ m) : IntsAt n A sv zs → IntsAt m A sv zs
  | ⟨a, cap, e, .inl r⟩ => ⟨a, cap, e, .inl r⟩
  | ⟨a, cap, e, .inr ⟨b, off, e2, hb, hc⟩⟩ => ⟨a, cap, e, .inr ⟨b, off, e2, by omega, hc⟩⟩

def enc (i : Nat) : Value := .int .i64 (i : Int)
set_option maxRecDepth 100000 in
theorem Try.info3 : (Try.prog.info? 3).map (fun i => (i.zero, i.size, i.bytes)) = some (some (.int .i64 0), 1, 8) := by kernel_rfl




end Go.Proofs.Ytnbkbakbjllmcaa.Bits

/-
  The walks over the two iterators: slices.Values and members; and of Of and List, which range over them.
-/
namespace Go.Proofs.Ytnbkbakbjllmcaa.Bits
open Go.RowKit Go.Shelf
open Math

attribute [local go_sem] Oper.semAt_some

/-- What has come when k rounds are over. -/
def upto {α : Type} (f : Nat → α) (k : Nat) : List α := (List.range k).map f


end Go.Proofs.Ytnbkbakbjllmcaa.Bits

