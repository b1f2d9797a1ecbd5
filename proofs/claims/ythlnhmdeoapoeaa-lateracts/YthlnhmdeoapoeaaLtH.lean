/-
  lives.
-/
import Derived.Test.YthlnhmdeoapoeaaLtG
import Derived.Lib.SlBytesConst
namespace Go.Proofs.Ythlnhmdeoapoeaa.Later
open Go.RowKit
open Clash (Ow OwsAt)

/-- A byte in a slice of its own. -/
theorem byte_one (W : World) (c : Nat) (hc : c < 256) : ByteRow (W.heap.size + 1) (W.alloc (.cells #[.int .u8 (c : Int)] 5 (1, 2))) (.slice (some ⟨W.heap.size, 0, none⟩) 1 1) [c] := by
  refine ⟨by simpa using hc, some ⟨W.heap.size, 0, none⟩, 1, rfl, fun e => (by cases e), .inr ⟨W.heap.size, 0, rfl, Nat.le_refl _, by omega, fun j hj => ?_⟩⟩
  have hj0 : j = 0 := by simpa using hj
  subst hj0
  exact (World.cell?_alloc_mark W #[.int .u8 (c : Int)] 5 (1, 2) 0).trans rfl
set_option maxRecDepth 100000 in
/-- Push, of a queue that was made since. -/
theorem push_young {X W : World} {base q : Nat} {gr : Option Nat} {L : List Lw} (hQ : QAt W base q gr L) (h0 : Kept [] X W) (hb : X.heap.size ≤ base) (id o l : Int) (hs : L.length ≤ 999999) (v : Value) (hi : Nat) (bs : List Nat) (hv : ByteRow hi W v bs) (hhi : hi ≤ W.heap.size) (hlen : bs.length ≤ 140737488351232) :
    Calls Try.prog 11 #[.pointer (some ⟨q, 0, none⟩), .int .i64 id, .agg #[.int .i64 o, .int .i64 l], v] W fun e w' => e = .returned (.bool true) ∧ ∃ gr', QAt w' base q gr' (L ++ [⟨id, o, l, bs⟩]) ∧ Kept [] X w' := by
  refine (push_any id o l W hQ hs v hi bs hv hhi hlen).mono ?_
  rintro e w' ⟨rfl, gr', h1, h2, _⟩
  exact ⟨rfl, gr', h1, hQ.young h0 hb h2⟩
set_option maxRecDepth 100000 in
/-- Next, of a queue that was made since. -/
theorem next_young {X W : World} {base q : Nat} {gr : Option Nat} {L : List Lw} (hQ : QAt W base q gr L) (h0 : Kept [] X W) (hb : X.heap.size ≤ base) (hs : L.length ≤ 1000000) (oa : Option Addr) (olen ocap : Nat) (O : List Ow) (hO : OwsAt W oa olen ocap O) (hol : olen ≤ 9223372036854775807) :
    Calls Try.prog 8 #[.pointer (some ⟨q, 0, none⟩), .slice oa olen ocap] W fun e W' => ∃ y : Lv, e = .returned (.tuple #[y.val, .bool (wentB O L)]) ∧ y.lw = wentW O L ∧ y.At W' ∧ QAt W' base q gr (leftL O L) ∧ Kept [] X W' := by
  refine (next_any oa olen ocap O W hQ hs hO hol).mono ?_
  rintro e w' ⟨y, rfl, h1, h2, h3, h4⟩
  exact ⟨y, rfl, h1, h2, h3, hQ.young h0 hb h4⟩
/-- An own write in a slice of its own. -/
theorem own_one (W : World) (x : Ow) : OwsAt (W.alloc (.cells #[.int .i64 x.o, .int .i64 x.l, .bool x.s] 54)) (some ⟨W.heap.size, 0, none⟩) 1 1 [x] := by
  have hb := blk_new W 54 #[.int .i64 x.o, .int .i64 x.l, .bool x.s]
  refine ⟨rfl, Nat.le_refl _, .inr ⟨W.heap.size, 0, rfl, by simp, fun j y hy i v hv => ?_⟩⟩
  have hj : j = 0 := by
    have := (List.getElem?_eq_some_iff.1 hy).1
    simpa using this
  subst hj
  simp at hy
  subst hy
  rw [hb.cell]
  simpa [Ow.cells] using hv
def lA : List Lw := [⟨1, 0, 2, []⟩]
def lB : List Lw := [⟨1, 0, 2, []⟩, ⟨2, 4, 2, [98]⟩]
def oA : List Ow := [⟨1, 1, true⟩]
theorem pick_lB : pick oA lB = some 1 := by decide
set_option maxRecDepth 100000 in
set_option maxHeartbeats 2000000 in
/-- lives -/
theorem lives_any (w : World) : Calls Try.prog 6 #[] w fun e w' => e = .returned (.bool true) ∧ Kept [] w w' := by
  have hcv : ∀ (W : World) (x : Int), (convert 32 32 (.slice (some ⟨W.heap.size, 0, none⟩) 1 1)).run Try.prog (W.alloc (.cells #[.int .u8 x] 5)) = .ok (.slice (some ⟨W.heap.size, 0, none⟩) 1 1) (W.alloc (.cells #[.int .u8 x] 5 (1, 2))) := fun W x => Lib.run_convert_bytes_const (P := Try.prog) W 32 5 #[.int .u8 x] 1 1 Try.underlying32 Try.underlying5
  have qn := new_any w
  have q1 : ∀ W gr, QAt W w.heap.size w.heap.size gr [] → Kept [] w W → Calls Try.prog 11 #[.pointer (some ⟨w.heap.size, 0, none⟩), .int .i64 1, .agg #[.int .i64 0, .int .i64 2], .slice none 0 0] W fun e w' => e = .returned (.bool true) ∧ ∃ gr', QAt w' w.heap.size w.heap.size gr' lA ∧ Kept [] w w' := fun W gr hQ hk =>
    push_young hQ hk (Nat.le_refl _) 1 0 2 (by simp) (.slice none 0 0) 0 [] (byteRow_nil _ _) (Nat.zero_le _) (by simp)
  have q2 : ∀ W gr, QAt W w.heap.size w.heap.size gr lA → Kept [] w W → Calls Try.prog 11 #[.pointer (some ⟨w.heap.size, 0, none⟩), .int .i64 2, .agg #[.int .i64 4, .int .i64 2], .slice (some ⟨W.heap.size, 0, none⟩) 1 1] (W.alloc (.cells #[.int .u8 98] 5 (1, 2))) fun e w' => e = .returned (.bool true) ∧ ∃ gr', QAt w' w.heap.size w.heap.size gr' lB ∧ Kept [] w w' := fun W gr hQ hk => by
    have ka := kept_alloc [] W (.cells #[.int .u8 98] 5 (1, 2))
    exact push_young (hQ.kept0 ka) (hk.trans ka) (Nat.le_refl _) 2 4 2 (by simp [lA]) _ _ [98] (byte_one W 98 (by omega)) (by simp) (by simp)
  have q3 : ∀ W gr, QAt W w.heap.size w.heap.size gr lB → Kept [] w W → Calls Try.prog 8 #[.pointer (some ⟨w.heap.size, 0, none⟩), .slice (some ⟨W.heap.size, 0, none⟩) 1 1] (W.alloc (.cells #[.int .i64 1, .int .i64 1, .bool true] 54)) fun e w' => ∃ yo yl sa len cap, e = .returned (.tuple #[.agg #[.int .i64 2, .int .i64 yo, .int .i64 yl, .slice sa len cap], .bool true]) ∧ Byt w' (.slice sa len cap) [98] ∧ QAt w' w.heap.size w.heap.size gr lA ∧ Kept [] w w' := fun W gr hQ hk => by
    have ka := kept_alloc [] W (.cells #[.int .i64 1, .int .i64 1, .bool true] 54)
    refine (next_young (hQ.kept0 ka) (hk.trans ka) (Nat.le_refl _) (by simp [lB]) _ 1 1 oA (own_one W ⟨1, 1, true⟩) (by omega)).mono ?_
    rintro e w' ⟨y, rfl, h1, h2, h3, h4⟩
    have e1 : wentB oA lB = true := by simp [wentB, pick_lB]
    have e2 : wentW oA lB = ⟨2, 4, 2, [98]⟩ := by unfold wentW; rw [pick_lB]; rfl
    have e3 : leftL oA lB = lA := by unfold leftL; rw [pick_lB]; rfl
    rw [e2] at h1
    rw [e3] at h3
    rw [e1]
    obtain ⟨yi, yo, yl, sa, len, cap, bs⟩ := y
    obtain rfl : yi = 2 := congrArg Lw.id h1
    obtain rfl : bs = [98] := congrArg Lw.bs h1
    exact ⟨yo, yl, sa, len, cap, rfl, h2, h3, h4⟩
  have q4 : ∀ W gr, QAt W w.heap.size w.heap.size gr lA → Calls Try.prog 13 #[.pointer (some ⟨w.heap.size, 0, none⟩)] W fun e w' => e = .returned (.int .i64 1) ∧ w' = W := fun W gr hQ => len_any W hQ
  have ht : txt [98] = ⟨#[98]⟩ := by decide
  go_enter Try.func6, Try.ntmps6
  go_wp2_with (first
    | (go_at_call 7; refine qn.mono ?_; rintro e w1 ⟨rfl, h1, hz1, hk1⟩; replace hz1 : Hid _ := hz1; clear qn)
    | (go_at_call 11; refine (q1 _ _ h1 hk1).mono ?_; rintro e w2 ⟨rfl, gr2, h2, hk2⟩; clear q1)
    | (go_at_call 11; refine (q2 _ _ h2 hk2).mono ?_; rintro e w3 ⟨rfl, gr3, h3, hk3⟩; clear q2)
    | (go_at_call 8; refine (q3 _ _ h3 hk3).mono ?_; rintro e w4 ⟨yo, yl, sa, len, cap, rfl, hyA, h4, hk4⟩; clear q3; have ka4 := kept_alloc [] w4 (.cells #[.int .i64 2, .int .i64 yo, .int .i64 yl, .slice sa len cap] 37); have hcn := conv_txt (Byt.row (Byt.kept hyA ka4 (foot_nil [] _) (by simp))); rw [ht] at hcn; have h5 := h4.kept0 ka4; have hk5 := hk4.trans ka4)
    | (go_at_call 13; refine (q4 _ _ h5).mono ?_; rintro e w5 ⟨rfl, rfl⟩))
  go_ret
  exact ⟨rfl, hk5⟩
end Go.Proofs.Ythlnhmdeoapoeaa.Later
