/-
  The walk of the law SealGets.
-/
import Derived.Test.YtkiaeeojgcmcaaaWalksL
namespace Go.Proofs.Ytkiaeeojgcmcaaa
open Go.RowKit
open Math
open Crc
namespace sealGets

theorem walkLong (a : Option Addr) (len cap : Nat) (cs : List Value) (w : World) (h : 2000 < len) (hl : len ≤ 9223372036854775807) (hz : cs.length = 16) :
    Calls Try.prog 4 #[.slice a len cap, .agg cs.toArray] w fun e w' => e = .returned (.bool true) ∧ Below w.heap.size w w' := by
  have hB0 : Below w.heap.size w (w.alloc (.cells cs.toArray 28)) := below_alloc w _
  have HZ : Hid (cs.length = 16) := hz
  clear hz
  go_enter Try.func4, Try.ntmps4
  go_wp2_with (go_at_call 6; refine (lives_any _).mono ?_; rintro e w1 ⟨rfl, hB⟩)
  go_ret
  exact ⟨rfl, hB0.trans (hB.mono hB0.size)⟩

set_option maxHeartbeats 1000000 in
theorem walkShort (sv : Value) (bs s : List Nat) (w : World) (hlen : bs.length ≤ 2000) (hs : s.length = 16) (hb : ∀ c ∈ s, c < 256) (hI : BytesAt w.heap.size w sv bs) :
    Calls Try.prog 4 #[sv, .agg (s.map enc).toArray] w fun e w' => e = .returned (.bool true) ∧ Below w.heap.size w w' := by
  have q11 := fun w' (h : Below w.heap.size w w') => get_any sv bs w' (by omega) ((hI.below h).mono h.size)
  have q12 := fun w' (h : Below w.heap.size w w') => refGet5_any sv bs w' (by omega) ((hI.below h).mono h.size)
  have q13 := fun w' => open_any s w' hs hb
  have q14 := fun w' => refOpen_any s w' hs hb
  obtain ⟨a, len, cap, rfl, hl2⟩ : ∃ a len cap, sv = .slice a len cap ∧ len ≤ 2000 := by obtain ⟨_, a, cap, e, _⟩ := hI; exact ⟨a, _, cap, e, hlen⟩
  have hA := arr_new w 28 s
  have HZ : Hid ((Try.prog.info? 28).map (·.size) = some s.length) := by show _ = _; rw [hs]; exact Try.size28
  have hB : Below w.heap.size w (w.alloc (.cells (s.map enc).toArray 28)) := below_alloc w _
  have HC : Hid (∀ (W : World) v, BytesAt W.heap.size W v (gotL bs) → (convert 22 9 v).run Try.prog W = .ok (.string (txt (gotL bs))) W) := fun W v h => conv_txt h
  generalize txt (gotL bs) = S at *
  generalize gotL bs = gl at *
  generalize gotE bs = ge at *
  generalize isRec s = ir at *
  generalize toldN s = tn at *
  generalize toldY s = ty at *
  clear hI hlen hs hb
  go_enter Try.func4, Try.ntmps4
  go_wp2_with (first
    | (refine wpList_load_arr rfl 28 _ rfl w.heap.size 28 s rfl hA _ _ Try.underlying28 HZ.out ?_)
    | (go_at_call 11; refine (q11 _ hB).mono ?_; rintro e w1 ⟨v1, rfl, hI1, hB1⟩; replace hA := hA.below hB1 hA.lt; replace hB := hB.trans (hB1.mono hB.size))
    | (go_at_call 12; refine (q12 _ hB).mono ?_; rintro e w2 ⟨v2, rfl, hI2, hB2⟩; replace hI1 := hI1.next hB2; replace hA := hA.below hB2 hA.lt; replace hB := hB.trans (hB2.mono hB.size))
    | (go_at_call 13; refine (q13 _).mono ?_; rintro e w3 ⟨rfl, hB3⟩; replace hI1 := hI1.next hB3; replace hI2 := hI2.next hB3; replace hA := hA.below hB3 hA.lt; replace hB := hB.trans (hB3.mono hB.size))
    | (go_at_call 14; refine (q14 _).mono ?_; rintro e w4 ⟨rfl, hB4⟩; replace hI1 := hI1.next hB4; replace hI2 := hI2.next hB4; have hc1 := HC.out _ _ hI1; have hc2 := HC.out _ _ hI2; replace hB := hB.trans (hB4.mono hB.size))
    | (go_at_call 6; refine (lives_any _).mono ?_; rintro e w5 ⟨rfl, hB5⟩; replace hB := hB.trans (hB5.mono hB.size)))
  go_ret
  exact ⟨rfl, hB⟩
end sealGets
end Go.Proofs.Ytkiaeeojgcmcaaa
