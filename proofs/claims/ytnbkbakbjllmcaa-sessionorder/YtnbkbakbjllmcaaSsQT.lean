/-
  SessionOrder: what a packet that comes rests on.
-/
import Derived.Test.YtnbkbakbjllmcaaSsP
import Derived.Deep.CutRange
import Derived.Deep.CutBlock
namespace Go.Proofs.Ytnbkbakbjllmcaa.Session
open Go.RowKit
open Outbox (Ob nums OutAt Bv Byt NoByt RowAt NRow)
open Wire (Ps Pv bytesL parseM parseE)
set_option linter.unusedVariables false

theorem taken_w (s : Ss) (b : List Nat) : (s.taken b).ob.w = s.ob.w := by
  have h1 : (s.turned b).ob.w = s.ob.w := by
    unfold Ss.turned
    split <;> rfl
  rw [(taken_is s b).2.2]
  unfold Ss.acked
  split
  · exact (ack_w _ _).trans h1
  · exact h1
theorem sub_rest {Y : List Bv} {wy : List (List Nat)} (h : Y.map Bv.bs = wy) (N : Nat) : ∀ c ∈ ((Y.take N) ++ (Y.drop (N + 1))).map Bv.bs, c ∈ wy := fun c hc => by
  rw [List.map_append] at hc
  rw [← h]
  rcases List.mem_append.1 hc with hc | hc
  · rw [List.map_take] at hc
    exact List.mem_of_mem_take hc
  · rw [List.map_drop] at hc
    exact List.mem_of_mem_drop hc
end Go.Proofs.Ytnbkbakbjllmcaa.Session
