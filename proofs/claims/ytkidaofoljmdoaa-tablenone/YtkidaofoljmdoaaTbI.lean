/-
  Both tables side by side: what each call answers of them; the acts of a law.
-/
import Derived.Test.YtkidaofoljmdoaaTbF
namespace Go.Proofs.Ytkidaofoljmdoaa.Table
open Go.RowKit

/-- The program's table and the document's have the same. -/
structure Bt (W : World) (lo t b r most : Nat) (P : List (Int × Qv)) : Prop where
  tab : ∃ h, TabAt W lo h t b most (over Qv.rq P)
  ref : ∃ h, RTab W lo h r most P
  small : ∀ p ∈ P, p.2.bs.length ≤ 200
  low : lo ≤ W.heap.size
  apart : r ≠ t ∧ r ≠ b
theorem Bt.kept0 {A B : World} {lo t b r most : Nat} {P : List (Int × Qv)} (h : Bt A lo t b r most P) (hk : Kept [] A B) : Bt B lo t b r most P := by
  obtain ⟨h1, a⟩ := h.tab
  obtain ⟨h2, c⟩ := h.ref
  exact ⟨⟨h1, a.kept0 hk⟩, ⟨h2, c.kept0 hk⟩, h.small, Nat.le_trans h.low hk.size, h.apart⟩
/-- Between the two calls: the program's table is one ahead. -/
structure Mid (W : World) (lo t b r most : Nat) (M : List (Int × Rq)) (P : List (Int × Qv)) : Prop where
  tab : ∃ h, TabAt W lo h t b most M
  ref : ∃ h, RTab W lo h r most P
  small : ∀ p ∈ P, p.2.bs.length ≤ 200
  low : lo ≤ W.heap.size
  apart : r ≠ t ∧ r ≠ b
theorem Mid.kept0 {A B : World} {lo t b r most : Nat} {M : List (Int × Rq)} {P : List (Int × Qv)} (h : Mid A lo t b r most M P) (hk : Kept [] A B) : Mid B lo t b r most M P := by
  obtain ⟨h1, a⟩ := h.tab
  obtain ⟨h2, c⟩ := h.ref
  exact ⟨⟨h1, a.kept0 hk⟩, ⟨h2, c.kept0 hk⟩, h.small, Nat.le_trans h.low hk.size, h.apart⟩
theorem rq_bs {x y : Qv} (h : x.rq = y.rq) : x.bs = y.bs := by
  have := congrArg Rq.bs h
  exact this
set_option maxRecDepth 100000 in
theorem bt_add {lo t b r most : Nat} {P : List (Int × Qv)} (k : Int) (h0 : -9223372036854775808 ≤ k) (h1 : k ≤ 9223372036854775807) (x : Qv) (lx hx : Nat) (w : World) (h : Bt w lo t b r most P) (hq : x.At lx hx w) (hhx : hx ≤ w.heap.size) (hlen : x.len ≤ 200) :
    Calls Try.prog 9 #[.pointer (some ⟨t, 0, none⟩), .int .i64 k, x.val] w fun e w' => e = .returned (.int .i64 (addE most P k)) ∧ Mid w' lo t b r most (addL most (over Qv.rq P) k x.rq) P ∧ Kept [b] w w' := by
  obtain ⟨g1, hT⟩ := h.tab
  obtain ⟨g2, hR⟩ := h.ref
  have q := add_any k h0 h1 x lx hx w hT hq hhx (by omega) h.low
  rw [addE_over] at q
  refine q.mono ?_
  rintro e w' ⟨rfl, hT', hk⟩
  exact ⟨rfl, ⟨⟨_, hT'⟩, ⟨g2, hR.kept hk (by simpa using h.apart.2) (by have := hT.blo; simp; omega)⟩, h.small, Nat.le_trans h.low hk.size, h.apart⟩, hk⟩
set_option maxRecDepth 100000 in
theorem mid_add {lo t b r most : Nat} {P : List (Int × Qv)} (k : Int) (h1 : k ≤ 9223372036854775807) (x : Qv) (lx hx : Nat) (w : World) (h : Mid w lo t b r most (addL most (over Qv.rq P) k x.rq) P) (hq : x.At lx hx w) (hhx : hx ≤ w.heap.size) (hlen : x.len ≤ 200) :
    Calls Try.prog 10 #[.pointer (some ⟨r, 0, none⟩), .int .i64 k, x.val] w fun e w' => e = .returned (.int .i64 (addE most P k)) ∧ (∃ P', Bt w' lo t b r most P') ∧ Kept [r] w w' := by
  obtain ⟨g1, hT⟩ := h.tab
  obtain ⟨g2, hR⟩ := h.ref
  have q := radd_any k h1 x lx hx w hR hq hhx (by omega) h.low
  refine q.mono ?_
  rintro e w' ⟨rfl, ⟨y, hy, hR'⟩, hk⟩
  have hrlo := hR.rlo
  refine ⟨rfl, ⟨_, ⟨⟨g1, ?_⟩, ⟨_, hR'⟩, fun p hp => ?_, Nat.le_trans h.low hk.size, h.apart⟩⟩, hk⟩
  · rw [addL_over, hy]
    exact hT.kept hk (by simpa using Ne.symm h.apart.1) (by simpa using Ne.symm h.apart.2) (by simp; omega)
  · unfold addL at hp
    split at hp
    · rcases mem_ins hp with rfl | hp
      · show y.bs.length ≤ 200
        rw [rq_bs hy, ← hq.len]
        exact hlen
      · exact h.small p hp
    · exact h.small p hp
set_option maxRecDepth 100000 in
theorem bt_rem {lo t b r most : Nat} {P : List (Int × Qv)} (k : Int) (h0 : -9223372036854775808 ≤ k) (h1 : k ≤ 9223372036854775807) (w : World) (h : Bt w lo t b r most P) :
    Calls Try.prog 11 #[.pointer (some ⟨t, 0, none⟩), .int .i64 k] w fun e w' => e = .returned (.bool (look P k).isSome) ∧ Mid w' lo t b r most (remL (over Qv.rq P) k) P ∧ Kept [b] w w' := by
  obtain ⟨g1, hT⟩ := h.tab
  obtain ⟨g2, hR⟩ := h.ref
  have q := remove_any k h0 h1 w hT
  rw [look_over, Option.isSome_map] at q
  refine q.mono ?_
  rintro e w' ⟨rfl, hT', hk⟩
  exact ⟨rfl, ⟨⟨_, hT'⟩, ⟨g2, hR.kept hk (by simpa using h.apart.2) (by have := hT.blo; simp; omega)⟩, h.small, Nat.le_trans h.low hk.size, h.apart⟩, hk⟩
set_option maxRecDepth 100000 in
theorem mid_rem {lo t b r most : Nat} {P : List (Int × Qv)} (k : Int) (w : World) (h : Mid w lo t b r most (remL (over Qv.rq P) k) P) :
    Calls Try.prog 12 #[.pointer (some ⟨r, 0, none⟩), .int .i64 k] w fun e w' => e = .returned (.bool (look P k).isSome) ∧ (∃ P', Bt w' lo t b r most P') ∧ Kept [r] w w' := by
  obtain ⟨g1, hT⟩ := h.tab
  obtain ⟨g2, hR⟩ := h.ref
  refine (rremove_any k w hR h.low).mono ?_
  rintro e w' ⟨rfl, hR', hk⟩
  have hrlo := hR.rlo
  refine ⟨rfl, ⟨_, ⟨⟨g1, ?_⟩, ⟨_, hR'⟩, fun p hp => ?_, Nat.le_trans h.low hk.size, h.apart⟩⟩, hk⟩
  · rw [remL_over]
    exact hT.kept hk (by simpa using Ne.symm h.apart.1) (by simpa using Ne.symm h.apart.2) (by simp; omega)
  · unfold remL at hp
    split at hp
    · exact h.small p (mem_del hp)
    · exact h.small p hp
set_option maxRecDepth 100000 in
theorem bt_get {lo t b r most : Nat} {P : List (Int × Qv)} (k : Int) (h0 : -9223372036854775808 ≤ k) (h1 : k ≤ 9223372036854775807) (w : World) (h : Bt w lo t b r most P) :
    Calls Try.prog 13 #[.pointer (some ⟨t, 0, none⟩), .int .i64 k] w fun e w' => ∃ y : Qv, e = .returned (.tuple #[y.val, .bool (look P k).isSome]) ∧ y.rq = ((look P k).map Qv.rq).getD rq0 ∧ y.At 0 w'.heap.size w' ∧ Kept [] w w' := by
  obtain ⟨g1, hT⟩ := h.tab
  have q := get_any k h0 h1 w hT (fun x hx => by
    rw [look_over] at hx
    obtain ⟨y, hy, rfl⟩ := Option.map_eq_some_iff.1 hx
    have := h.small _ (look_mem hy)
    show y.bs.length ≤ 1000
    simp at this
    omega)
  rw [look_over, Option.isSome_map] at q
  exact q.mono fun e w' ⟨y, h1, h2, h3, h4⟩ => ⟨y, h1, h2, h3.mono (Nat.zero_le _) (Nat.le_refl _), h4⟩
set_option maxRecDepth 100000 in
theorem bt_rget {lo t b r most : Nat} {P : List (Int × Qv)} (k : Int) (w : World) (h : Bt w lo t b r most P) :
    Calls Try.prog 14 #[.pointer (some ⟨r, 0, none⟩), .int .i64 k] w fun e w' => ∃ y : Qv, e = .returned (.tuple #[y.val, .bool (look P k).isSome]) ∧ y.rq = ((look P k).map Qv.rq).getD rq0 ∧ y.At 0 w'.heap.size w' ∧ Kept [] w w' := by
  obtain ⟨g2, hR⟩ := h.ref
  have q := rget_any k w hR (fun x hx => by
    have := h.small _ (look_mem hx)
    simp at this
    omega)
  exact q.mono fun e w' ⟨y, h1, h2, h3, h4⟩ => ⟨y, h1, h2, h3.mono (Nat.zero_le _) (Nat.le_refl _), h4⟩
set_option maxRecDepth 100000 in
theorem bt_len {lo t b r most : Nat} {P : List (Int × Qv)} (w : World) (h : Bt w lo t b r most P) :
    Calls Try.prog 16 #[.pointer (some ⟨t, 0, none⟩)] w fun e w' => e = .returned (.int .i64 (P.length : Int)) ∧ Kept [] w w' := by
  obtain ⟨g1, hT⟩ := h.tab
  have q := len_any w hT
  rw [over_length] at q
  exact q.mono fun e w' ⟨h1, h2⟩ => ⟨h1, by rw [h2]; exact Kept.refl _ _⟩
set_option maxRecDepth 100000 in
theorem bt_full {lo t b r most : Nat} {P : List (Int × Qv)} (w : World) (h : Bt w lo t b r most P) :
    Calls Try.prog 17 #[.pointer (some ⟨t, 0, none⟩)] w fun e w' => e = .returned (.bool (decide ((most : Int) ≤ (P.length : Int)))) ∧ Kept [] w w' := by
  obtain ⟨g1, hT⟩ := h.tab
  have q := full_any w hT
  rw [over_length] at q
  have e : decide (most ≤ P.length) = decide ((most : Int) ≤ (P.length : Int)) := by
    simp
  rw [e] at q
  exact q
set_option maxRecDepth 100000 in
theorem bt_tickets {lo t b r most : Nat} {P : List (Int × Qv)} (w : World) (h : Bt w lo t b r most P) :
    Calls Try.prog 19 #[.pointer (some ⟨t, 0, none⟩)] w fun e w' => ∃ v, e = .returned v ∧ IdsAt w' w.heap.size v (tks P) ∧ Kept [] w w' := by
  obtain ⟨g1, hT⟩ := h.tab
  have q := tickets_any w hT
  rw [tks_over] at q
  exact q
set_option maxRecDepth 100000 in
theorem bt_rtickets {lo t b r most : Nat} {P : List (Int × Qv)} (w : World) (h : Bt w lo t b r most P) :
    Calls Try.prog 20 #[.pointer (some ⟨r, 0, none⟩)] w fun e w' => ∃ v, e = .returned v ∧ IdsAt w' w.heap.size v (tks P) ∧ Kept [] w w' := by
  obtain ⟨g2, hR⟩ := h.ref
  exact rtickets_any w hR
theorem Bt.row {W : World} {lo t b r most : Nat} {P : List (Int × Qv)} (h : Bt W lo t b r most P) : ∃ a cap, ∀ A, Kept [] W A → A.cell? ⟨r, 0, none⟩ = some (.slice a P.length cap) := by
  obtain ⟨g2, hR⟩ := h.ref
  obtain ⟨v, hb, a, cap, rfl, _⟩ := hR.row
  exact ⟨a, cap, fun A hk => ((hb.kept hk (by simp)).cell 0).trans rfl⟩
theorem Bt.few {W : World} {lo t b r most : Nat} {P : List (Int × Qv)} (h : Bt W lo t b r most P) : P.length ≤ 16 ∧ most ≤ 16 := by
  obtain ⟨g2, hR⟩ := h.ref
  exact ⟨Nat.le_trans hR.fine.few hR.top, hR.top⟩

/-- An act. -/
structure Ac where
  kd : Int
  t : Int
  x : Qv
def Ac.cells (a : Ac) : List Value := [.int .i64 a.kd, .int .i64 a.t, .int .i64 a.x.k, .int .i64 a.x.o, .int .i64 a.x.l, .slice a.x.sa a.x.len a.x.cap]
structure Ac.Ok (a : Ac) (n : Nat) (W : World) : Prop where
  t0 : -9223372036854775808 ≤ a.t
  t1 : a.t ≤ 9223372036854775807
  len0 : a.x.len ≤ 9223372036854775807
  row : a.x.At 0 n W
/-- The acts lie in a slice. -/
def AcsAt (n : Nat) (W : World) (a : Option Addr) (len cap : Nat) (acts : List Ac) : Prop :=
  acts.length = len ∧ (∀ x ∈ acts, x.Ok n W) ∧ (acts = [] ∨ ∃ b off, a = some ⟨b, off, none⟩ ∧ len ≤ cap ∧ b < n ∧ ∀ j x, acts[j]? = some x → ∀ i v, x.cells[i]? = some v → W.cell? ⟨b, off + j * 6 + i, none⟩ = some v)
theorem AcsAt.kept {n : Nat} {L : List Nat} {A B : World} {a : Option Addr} {len cap : Nat} {acts : List Ac} (h : AcsAt n A a len cap acts) (hn : n ≤ A.heap.size) (hK : Kept L A B) (hL : ∀ k ∈ L, n ≤ k) : AcsAt n B a len cap acts := by
  obtain ⟨h1, h2, h3⟩ := h
  refine ⟨h1, fun x hx => ?_, ?_⟩
  · have := h2 x hx
    exact ⟨this.t0, this.t1, this.len0, this.row.kept hn hK (fun k hk => .inr (hL k hk))⟩
  · rcases h3 with h3 | ⟨b, off, e, hl, hb, hc⟩
    · exact .inl h3
    · refine .inr ⟨b, off, e, hl, hb, fun j x hx i v hv => ?_⟩
      rw [World.cell?_of_block (w := A) (w' := B) (hK.block b (by omega) (fun hm => by have := hL b hm; omega))]
      exact hc j x hx i v hv
end Go.Proofs.Ytkidaofoljmdoaa.Table
