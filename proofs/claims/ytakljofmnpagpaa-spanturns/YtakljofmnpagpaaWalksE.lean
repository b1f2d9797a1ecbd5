/-
  The walk of the law's own small test, and of the law SpanMeets' and SpanTells' parts that go together.
-/
import Derived.Test.YtakljofmnpagpaaWalksD
namespace Go.Proofs.Ytakljofmnpagpaa
open Go.RowKit
open Math

theorem meet_lives : mOff 2 3 4 2 = 4 ∧ mLen 2 3 4 2 = 1 ∧ over 2 3 4 2 = true := by decide +kernel
theorem ext_lives : ext 3 2 = 3 := by decide +kernel

/-- The law's own small test: the chapter's example. -/
theorem lives_any (w : World) : Calls Try.prog 16 #[] w fun e w' => e = .returned (.bool true) ∧ Below w.heap.size w w' := by
  have mc := meet_any 2 3 4 2
  rw [meet_lives.1, meet_lives.2.1, meet_lives.2.2] at mc
  have xc := extents_any 3 2
  rw [ext_lives] at xc
  have hb := Below.refl w.heap.size w
  go_enter Try.func16, Try.ntmps16
  go_wp2_with (first
    | (go_at_call 17; refine (mc _).mono ?_; rintro e w1 ⟨rfl, hB⟩; replace hb := (hb.trans (hB.mono hb.size)).alloc (hb.trans (hB.mono hb.size)).size (.cells #[.int .i64 4, .int .i64 1] 23); clear hB)
    | (go_at_call 12; refine (xc _).mono ?_; rintro e w1 ⟨rfl, hB⟩; replace hb := hb.trans (hB.mono hb.size); clear hB))
  go_ret
  exact ⟨rfl, hb⟩
end Go.Proofs.Ytakljofmnpagpaa
