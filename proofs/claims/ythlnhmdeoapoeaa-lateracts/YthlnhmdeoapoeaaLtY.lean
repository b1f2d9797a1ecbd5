/-
  Both queues beside each other.
-/
import Derived.Test.YthlnhmdeoapoeaaLtL
import Derived.Test.YthlnhmdeoapoeaaLtK
import Derived.Test.YthlnhmdeoapoeaaLtH
import Derived.Test.YthlnhmdeoapoeaaClD
namespace Go.Proofs.Ythlnhmdeoapoeaa.Later
open Go.RowKit
open Clash (Ow OwsAt)

/-- The kinds of blocks that the calls turn. -/
def turned : List TypeId := [58, 37, 31, 42]
/-- What is turned lies from lo on, and is of these kinds. -/
structure Far (lo : Nat) (W V : World) : Prop where
  os : V.os = W.os
  tape : V.tape = W.tape
  output : V.output = W.output
  size : W.heap.size ≤ V.heap.size
  low : ∀ k, k < lo → k < W.heap.size → V.heap[k]? = W.heap[k]?
  blk : ∀ g t c, Blk W g t c → t ∉ turned → Blk V g t c
theorem Far.of {lo : Nat} {K : List Nat} {W V : World} (h : Kept K W V) (hf : Foot turned W K) (hl : ∀ k ∈ K, lo ≤ k) : Far lo W V :=
  ⟨h.os, h.tape, h.output, h.size, fun k hk hw => h.block k hw (fun hm => by have := hl k hm; omega), fun g t c hb ht => hb.kept h (hf.ne hb ht)⟩
theorem Far.of0 {lo : Nat} {W V : World} (h : Kept [] W V) : Far lo W V := Far.of h (foot_nil _ _) (by simp)
theorem Far.trans {lo : Nat} {A B C : World} (h : Far lo A B) (k : Far lo B C) : Far lo A C :=
  ⟨k.os.trans h.os, k.tape.trans h.tape, k.output.trans h.output, Nat.le_trans h.size k.size, fun i hi hA => (k.low i hi (Nat.lt_of_lt_of_le hA h.size)).trans (h.low i hi hA), fun g t c hb ht => k.blk g t c (h.blk g t c hb ht) ht⟩
theorem Far.past {lo : Nat} {X W V : World} (h : Far lo W V) (h0 : Kept [] X W) (hx : X.heap.size ≤ lo) : Kept [] X V :=
  ⟨h.os.trans h0.os, h.tape.trans h0.tape, h.output.trans h0.output, Nat.le_trans h0.size h.size, fun k hk _ => (h.low k (by omega) (Nat.lt_of_lt_of_le hk h0.size)).trans (h0.block k hk (by simp))⟩
/-- Both queues. -/
structure Two (W : World) (lo q r : Nat) (L1 L2 : List Lw) : Prop where
  q : ∃ g, QAt W lo q g L1
  r : ∃ g, RQ W lo r g L2
theorem Two.kept0 {A B : World} {lo q r : Nat} {L1 L2 : List Lw} (h : Two A lo q r L1 L2) (hk : Kept [] A B) : Two B lo q r L1 L2 := by
  obtain ⟨⟨g, h1⟩, ⟨g', h2⟩⟩ := h
  exact ⟨⟨g, h1.kept0 hk⟩, ⟨g', h2.kept0 hk⟩⟩
theorem QAt.lower {W : World} {base base' q : Nat} {gr : Option Nat} {L : List Lw} (h : QAt W base q gr L) (hb : base' ≤ base) : QAt W base' q gr L := by
  obtain ⟨v, P, h1, h2, h3⟩ := h.blk
  exact ⟨⟨v, P, h1, h2.mono hb, h3⟩, Nat.le_trans hb h.low⟩
theorem QAt.far {W V : World} {lo q : Nat} {g : Option Nat} {L : List Lw} (h : QAt W lo q g L) (hk : Kept (q :: g.toList) W V) : Far lo W V :=
  Far.of hk (h.foot.mono (by simp [turned])) (fun k hm => by
    have := h.low
    rcases List.mem_cons.1 hm with e | e
    · omega
    · exact (h.lt.2 k (by simpa using e)).1)
theorem RQ.far {W V : World} {lo q : Nat} {g : Option Nat} {L : List Lw} (h : RQ W lo q g L) (hk : Kept (q :: g.toList) W V) : Far lo W V :=
  Far.of hk (h.foot.mono (by simp [turned])) (fun k hm => by
    have := h.low
    rcases List.mem_cons.1 hm with e | e
    · omega
    · exact (h.lt.2 k (by simpa using e)).1)
set_option maxRecDepth 100000 in
theorem two_push {W : World} {lo q r : Nat} {L1 L2 : List Lw} (hT : Two W lo q r L1 L2) (id o l : Int) (hs : L1.length ≤ 999999) (v : Value) (hi : Nat) (bs : List Nat) (hv : ByteRow hi W v bs) (hhi : hi ≤ W.heap.size) (hlen : bs.length ≤ 140737488351232) :
    Calls Try.prog 11 #[.pointer (some ⟨q, 0, none⟩), .int .i64 id, .agg #[.int .i64 o, .int .i64 l], v] W fun e w' => e = .returned (.bool true) ∧ Two w' lo q r (L1 ++ [⟨id, o, l, bs⟩]) L2 ∧ Far lo W w' := by
  obtain ⟨⟨g, hQ⟩, ⟨g', hR⟩⟩ := hT
  refine (push_any id o l W hQ hs v hi bs hv hhi hlen).mono ?_
  rintro e w' ⟨rfl, gr', h1, h2, _⟩
  exact ⟨rfl, ⟨⟨gr', h1⟩, ⟨g', hR.kept h2 hQ.foot (by decide) (by decide) (by decide)⟩⟩, hQ.far h2⟩
set_option maxRecDepth 100000 in
theorem two_rpush {W : World} {lo q r : Nat} {L1 L2 : List Lw} (hT : Two W lo q r L1 L2) (id o l : Int) (hs : L2.length ≤ 999999) (v : Value) (hi : Nat) (bs : List Nat) (hv : ByteRow hi W v bs) (hhi : hi ≤ W.heap.size) (hlen : bs.length ≤ 140737488351232) :
    Calls Try.prog 12 #[.pointer (some ⟨r, 0, none⟩), .int .i64 id, .agg #[.int .i64 o, .int .i64 l], v] W fun e w' => e = .returned (.tuple #[]) ∧ Two w' lo q r L1 (L2 ++ [⟨id, o, l, bs⟩]) ∧ Far lo W w' := by
  obtain ⟨⟨g, hQ⟩, ⟨g', hR⟩⟩ := hT
  refine (rpush_any id o l W hR hs v hi bs hv hhi hlen).mono ?_
  rintro e w' ⟨rfl, gr', h1, h2, _⟩
  exact ⟨rfl, ⟨⟨g, hQ.kept h2 hR.foot (by decide) (by decide) (by decide)⟩, ⟨gr', h1⟩⟩, hR.far h2⟩
set_option maxRecDepth 100000 in
theorem two_next {W : World} {lo q r : Nat} {L1 L2 : List Lw} (hT : Two W lo q r L1 L2) (hs : L1.length ≤ 1000000) (oa : Option Addr) (olen ocap : Nat) (O : List Ow) (hO : OwsAt W oa olen ocap O) (hol : olen ≤ 9223372036854775807) :
    Calls Try.prog 8 #[.pointer (some ⟨q, 0, none⟩), .slice oa olen ocap] W fun e w' => ∃ y : Lv, e = .returned (.tuple #[y.val, .bool (wentB O L1)]) ∧ y.lw = wentW O L1 ∧ y.At w' ∧ Two w' lo q r (leftL O L1) L2 ∧ Far lo W w' := by
  obtain ⟨⟨g, hQ⟩, ⟨g', hR⟩⟩ := hT
  refine (next_any oa olen ocap O W hQ hs hO hol).mono ?_
  rintro e w' ⟨y, rfl, h1, h2, h3, h4⟩
  exact ⟨y, rfl, h1, h2, ⟨⟨g, h3⟩, ⟨g', hR.kept h4 hQ.foot (by decide) (by decide) (by decide)⟩⟩, hQ.far h4⟩
set_option maxRecDepth 100000 in
theorem two_rnext {W : World} {lo q r : Nat} {L1 L2 : List Lw} (hT : Two W lo q r L1 L2) (hs : L2.length ≤ 100000) (oa : Option Addr) (olen ocap : Nat) (O : List Ow) (hO : OwsAt W oa olen ocap O) (hol : olen ≤ 9223372036854775807) :
    Calls Try.prog 10 #[.pointer (some ⟨r, 0, none⟩), .slice oa olen ocap] W fun e w' => ∃ y : Lv, e = .returned (.tuple #[y.val, .bool (wentB O L2)]) ∧ y.lw = wentW O L2 ∧ y.At w' ∧ Two w' lo q r L1 (leftL O L2) ∧ Far lo W w' ∧ Kept [r] W w' ∧ Foot [31] W [r] := by
  obtain ⟨⟨g, hQ⟩, ⟨g', hR⟩⟩ := hT
  have hf : Foot [31] W [r] := by
    obtain ⟨v, P, b, _⟩ := hR.blk
    exact Foot.cons (foot_nil _ _) b (by simp)
  refine (rnext_any oa olen ocap O W hR hs hO hol).mono ?_
  rintro e w' ⟨y, rfl, h1, h2, h3, h4⟩
  exact ⟨y, rfl, h1, h2, ⟨⟨g, hQ.kept h4 hf (by decide) (by decide) (by decide)⟩, h3⟩, hR.far (h4.mono (by simp)), h4, hf⟩
theorem leftL_length (O : List Ow) (L : List Lw) : (leftL O L).length ≤ L.length := by
  unfold leftL
  split
  · exact Nat.le_refl _
  · unfold gone
    rw [List.length_append, List.length_take, List.length_drop]
    omega
/-- What the law looks at behind each call. -/
structure Look (W : World) (q r : Nat) (L : List Lw) (o l : Int) : Prop where
  len : Calls Try.prog 13 #[.pointer (some ⟨q, 0, none⟩)] W fun e w' => e = .returned (.int .i64 (L.length : Int)) ∧ Kept [] W w'
  over : Calls Try.prog 14 #[.pointer (some ⟨q, 0, none⟩), .agg #[.int .i64 o, .int .i64 l]] W fun e w' => e = .returned (.bool (overL L o l)) ∧ Kept [] W w'
  rover : Calls Try.prog 15 #[.pointer (some ⟨r, 0, none⟩), .agg #[.int .i64 o, .int .i64 l]] W fun e w' => e = .returned (.bool (overL L o l)) ∧ Kept [] W w'
  spans : Calls Try.prog 17 #[.pointer (some ⟨q, 0, none⟩)] W fun e w' => ∃ v, e = .returned v ∧ SpsAt w' v (sps L) ∧ Kept [] W w'
  rspans : Calls Try.prog 18 #[.pointer (some ⟨r, 0, none⟩)] W fun e w' => ∃ v, e = .returned v ∧ SpsAt w' v (sps L) ∧ Kept [] W w'
theorem two_look {W : World} {lo q r : Nat} {L : List Lw} (hT : Two W lo q r L L) (hs : L.length ≤ 1000) (o l : Int) : Look W q r L o l := by
  obtain ⟨⟨g, hQ⟩, ⟨g', hR⟩⟩ := hT
  refine ⟨(len_any W hQ).mono ?_, over_any o l W hQ (by omega), rover_any o l W hR (by omega), spans_any W hQ (by omega), rspans_any W hR (by omega)⟩
  rintro e w' ⟨rfl, rfl⟩
  exact ⟨rfl, Kept.refl _ _⟩
theorem two_rcell {W : World} {lo q r : Nat} {L1 L2 : List Lw} (hT : Two W lo q r L1 L2) : ∃ a cap, ∀ V, Kept [] W V → V.cell? ⟨r, 0, none⟩ = some (.slice a L2.length cap) := by
  obtain ⟨-, ⟨g', hR⟩⟩ := hT
  obtain ⟨a, cap, P, h1, _⟩ := hR.three
  exact ⟨a, cap, fun V hk => (h1.kept hk (by simp)).one⟩
end Go.Proofs.Ythlnhmdeoapoeaa.Later
