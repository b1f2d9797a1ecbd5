import Derived.Test.YtnbkbakbjllmcaaOtE
/-
  The walk of Body; an Out that no call made.
-/
namespace Go.Proofs.Ytnbkbakbjllmcaa.Outbox
open Go.RowKit

set_option maxRecDepth 100000 in
set_option maxHeartbeats 1000000 in
/-- Body, of none that is there -/
theorem body_out {o m A : Nat} {a : Option Addr} {L cap : Nat} (w : World) (h : Raw w o m A a L cap) (h1 : 1 ≤ m) (hs : A + L ≤ 1000000) (n : Int) (hn : n ≤ (A : Int) ∨ ((A + L : Nat) : Int) < n) :
    Calls Try.prog 44 #[.pointer (some ⟨o, 0, none⟩), .int .i64 n] w fun e w' => e = .returned (.tuple #[.slice none 0 0, .bool false]) ∧ Kept [] w w' := by
  obtain ⟨B, hB⟩ : ∃ B, A + L = B := ⟨_, rfl⟩
  rw [hB] at hn
  have q := made_any w h h1
  have qw := last_any w h B hB hs
  obtain ⟨c0, c1, c2⟩ := h.three
  clear hB
  by_cases hn1 : n ≤ (A : Int)
  · go_enter Try.func44, Try.ntmps44
    go_wp2_with (first
      | (go_at_call 40; refine q.mono ?_; rintro e w ⟨rfl, rfl⟩))
    go_ret2
    exact ⟨rfl, Kept.refl _ _⟩
  · have hn2 : (B : Int) < n := by omega
    go_enter Try.func44, Try.ntmps44
    go_wp2_with (first
      | (go_at_call 40; refine q.mono ?_; rintro e w ⟨rfl, rfl⟩)
      | (go_at_call 42; refine qw.mono ?_; rintro e w1 ⟨rfl, hk1⟩))
    go_ret2
    exact ⟨rfl, hk1⟩
set_option maxRecDepth 100000 in
set_option maxHeartbeats 1000000 in
/-- Body, of one that is there -/
theorem body_in {base o m A : Nat} {gr : Option Nat} {a : Option Addr} {L cap : Nat} {P : List Bv} (w : World) (h : Raw w o m A a L cap) (hr : RowAt base w (.slice a L cap) P gr 0) (h1 : 1 ≤ m) (hs : A + L ≤ 1000000) (N i : Nat) (hN : N = A + 1 + i) (x : Bv) (hx : P[i]? = some x) (hat : x.At w) (hl : P.length = L) (hlen : x.bs.length ≤ 1000) :
    Calls Try.prog 44 #[.pointer (some ⟨o, 0, none⟩), .int .i64 (N : Int)] w fun e w' => ∃ sa len cap, e = .returned (.tuple #[.slice sa len cap, .bool true]) ∧ Byt w' (.slice sa len cap) x.bs ∧ Kept [] w w' := by
  obtain ⟨B, hB⟩ : ∃ B, A + L = B := ⟨_, rfl⟩
  have hiL : i < L := (by have := (List.getElem?_eq_some_iff.1 hx).1; omega)
  have q := made_any w h h1
  have qw := last_any w h B hB hs
  obtain ⟨c0, c1, c2⟩ := h.three
  obtain ⟨g, off, rfl, hgr, hcell⟩ := hr.at i x (Nat.zero_le _) hx
  have i1 : ¬ (N : Int) ≤ (A : Int) := by omega
  have i2 : ¬ (B : Int) < (N : Int) := by omega
  obtain ⟨d, hd⟩ : ∃ d : Nat, d = i + 1 := ⟨_, rfl⟩
  have i3 : (N : Int) - (A : Int) = (d : Int) := by omega
  have i4 : (d : Int) - 1 = (i : Int) := by omega
  have i5 : (N : Int) ≤ 1000001 := by omega
  have i6 : (A : Int) ≤ 1000000 := by omega
  have i7 : (i : Int) < (L : Int) := by omega
  have i8 : (L : Int) ≤ 1000000 := by omega
  have i9 : (0 : Int) ≤ (i : Int) := by omega
  have wr1 : IntKind.i64.wrap (d : Int) = (d : Int) := (by rw [IntKind.wrap_i64]; omega)
  have wr2 : IntKind.i64.wrap (i : Int) = (i : Int) := (by rw [IntKind.wrap_i64]; omega)
  have hlen' : Hid (x.bs.length ≤ 140737488351232) := (by show _ ≤ _; omega)
  obtain ⟨xs, xn, xc, xb⟩ := x
  have hat' : Hid (Byt w (.slice xs xn xc) xb) := hat
  dsimp only at hcell hlen' ⊢
  have hgl : g < w.heap.size := World.block_lt_of_cell? w _ hcell
  clear hB hd hN hat hx hlen hr hl hs
  go_enter Try.func44, Try.ntmps44
  go_wp2_with (first
    | (go_at_call 40; refine q.mono ?_; rintro e w ⟨rfl, rfl⟩)
    | (go_at_call 42; refine qw.mono ?_; rintro e w1 ⟨rfl, hk1⟩))
  have hk2 : Kept [] w w1.drew := hk1.trans (kept_drew [] w1)
  have hT : w1.drew.cell? ⟨o, 1, none⟩ = some (.int .i64 (A : Int)) ∧ w1.drew.cell? ⟨o, 2, none⟩ = some (.slice (some ⟨g, off, none⟩) L cap) ∧ w1.drew.cell? ⟨g, off + i, none⟩ = some (.slice xs xn xc) := ⟨(h.kept hk2 (by simp)).three.2.1, (h.kept hk2 (by simp)).three.2.2, (World.cell?_of_block (w := w) (w' := w1.drew) (hk2.block g hgl (by simp))).trans hcell⟩
  have hb2 : Hid (Byt w1.drew (.slice xs xn xc) xb) := Byt.kept hat'.out hk2 (noByt_nil _)
  have hh2 : Hid (w1.drew.heap.size ≤ w1.drew.heap.size) := Nat.le_refl w1.drew.heap.size
  clear q qw c0 c1 c2 hcell h hat'
  go_region_held3 (fun W => W.cell? ⟨o, 1, none⟩ = some (.int .i64 (A : Int)) ∧ W.cell? ⟨o, 2, none⟩ = some (.slice (some ⟨g, off, none⟩) L cap) ∧ W.cell? ⟨g, off + i, none⟩ = some (.slice xs xn xc)) (exact hT) (first
    | (go_at_call 41; refine (clone_any _ _ _ _ hb2.out.row hh2.out hlen'.out).mono ?_; rintro e w4 ⟨sa4, n4, cap4, rfl, hB4, hk4⟩; replace hT : w4.cell? ⟨o, 1, none⟩ = some (.int .i64 (A : Int)) ∧ w4.cell? ⟨o, 2, none⟩ = some (.slice (some ⟨g, off, none⟩) L cap) ∧ w4.cell? ⟨g, off + i, none⟩ = some (.slice xs xn xc) := ⟨(World.cell?_of_block (hk4.block o (World.block_lt_of_cell? _ _ hT.1) (by simp))).trans hT.1, (World.cell?_of_block (hk4.block o (World.block_lt_of_cell? _ _ hT.1) (by simp))).trans hT.2.1, (World.cell?_of_block (hk4.block g (World.block_lt_of_cell? _ _ hT.2.2) (by simp))).trans hT.2.2⟩))
  go_wp2
  go_ret2
  exact ⟨_, _, _, rfl, hB4, hk2.trans hk4⟩
set_option maxRecDepth 100000 in
/-- Body -/
theorem body_any {base o : Nat} {gr : Option Nat} {s : Ob} (w : World) (h : OutAt w base o gr s) (hs : s.n + s.l.length ≤ 1000000) (hb : ∀ b ∈ s.l, b.length ≤ 1000) (n : Int) :
    Calls Try.prog 44 #[.pointer (some ⟨o, 0, none⟩), .int .i64 n] w fun e w' => ∃ sa len cap, e = .returned (.tuple #[.slice sa len cap, .bool (s.body n).isSome]) ∧ Byt w' (.slice sa len cap) ((s.body n).getD []) ∧ Kept [] w w' := by
  obtain ⟨A, a, cap, P, hn, hR, hr, hl, hat, hPl, hc1, hc2⟩ := h.three
  by_cases hin : n ≤ (A : Int) ∨ ((A + s.l.length : Nat) : Int) < n
  · rw [Ob.body_out (by omega)]
    refine (body_out w hR h.pos (by omega) n hin).mono ?_
    rintro e w' ⟨rfl, hk⟩
    exact ⟨_, _, _, rfl, byt_nil _, hk⟩
  · obtain ⟨N, rfl⟩ : ∃ N : Nat, n = (N : Int) := ⟨n.toNat, by omega⟩
    obtain ⟨i, hi⟩ : ∃ i, N = A + 1 + i := ⟨N - (A + 1), by omega⟩
    obtain ⟨x, hx⟩ : ∃ x, P[i]? = some x := ⟨_, List.getElem?_eq_getElem (by omega)⟩
    have hxs : s.l[i]? = some x.bs := by rw [← hl, List.getElem?_map, hx]; rfl
    rw [Ob.body_in i (by omega), hxs]
    have hxm := List.mem_of_getElem? hx
    refine (body_in w hR hr h.pos (by omega) N i hi x hx (hat x hxm) hPl (hb _ (List.mem_of_getElem? hxs))).mono ?_
    rintro e w' ⟨sa, len, cap, rfl, hB, hk⟩
    exact ⟨_, _, _, rfl, hB, hk⟩

/-- No call made it. -/
def NoOut (W : World) (p : Option Addr) : Prop := p = none ∨ ∃ b, p = some ⟨b, 0, none⟩ ∧ Blk W b 82 #[.int .i64 0, .int .i64 0, .slice none 0 0]
theorem NoOut.kept {A B : World} {p : Option Addr} (h : NoOut A p) (hk : Kept [] A B) : NoOut B p := h.imp id fun ⟨b, e, hb⟩ => ⟨b, e, hb.kept hk (by simp)⟩
end Go.Proofs.Ytnbkbakbjllmcaa.Outbox

