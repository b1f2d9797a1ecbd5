import Derived.Test.YtfiofdmefgkloaaGreatBase
import Derived.Test.YtfiofdmefgkloaaGreatBits1
import Derived.Test.YtfiofdmefgkloaaGreatPlM
/-
  A Plan in its block: New, mask, Left, Over, All, turn, Have; one that no call made; the document's.
-/
namespace Go.Proofs.YtfiofdmefgkloaaGreat.Plan
open Go.RowKit
open Bits Bits.Math

/-- A Plan in its block: m what it was made with, s what is left. -/
def PlAt (W : World) (o m s : Nat) : Prop := Blk W o 142 #[.int .u64 (m : Int), .int .u64 (s : Int)] ∧ m < 18446744073709551616 ∧ s < 18446744073709551616
theorem PlAt.kept {K : List Nat} {A B : World} {o m s : Nat} (h : PlAt A o m s) (hk : Kept K A B) (ho : o ∉ K) : PlAt B o m s := ⟨h.1.kept hk ho, h.2⟩
theorem PlAt.two {W : World} {o m s : Nat} (h : PlAt W o m s) : W.cell? ⟨o, 0, none⟩ = some (.int .u64 (m : Int)) ∧ W.cell? ⟨o, 1, none⟩ = some (.int .u64 (s : Int)) := ⟨(Blk.cell h.1 0).trans rfl, (Blk.cell h.1 1).trans rfl⟩
/-- A Plan that no call made. -/
def NoPl (W : World) (p : Option Addr) : Prop := p = none ∨ ∃ o, p = some ⟨o, 0, none⟩ ∧ PlAt W o 0 0
theorem NoPl.kept {A B : World} {p : Option Addr} (h : NoPl A p) (hk : Kept [] A B) : NoPl B p := h.imp id fun ⟨o, e, h⟩ => ⟨o, e, h.kept hk (by simp)⟩
set_option maxRecDepth 100000 in
/-- New -/
theorem new_any (m : Nat) (hm : m < 18446744073709551616) (w : World) :
    Calls Tryz.prog 36 #[.int .u64 (m : Int)] w fun e w' => e = .returned (.pointer (some ⟨w.heap.size, 0, none⟩)) ∧ PlAt w' w.heap.size m m ∧ Hid (w'.heap.size = w.heap.size + 1) ∧ Kept [] w w' := by
  go_enter Tryz.func36, Tryz.ntmps36
  go_wp2
  go_ret
  exact ⟨rfl, ⟨blk_new w 142 #[.int .u64 (m : Int), .int .u64 (m : Int)], hm, hm⟩, by show _ = _; simp, kept_alloc [] _ _⟩
set_option maxRecDepth 100000 in
/-- mask, of the whole -/
theorem mask0_any {o m s : Nat} (w : World) (h : PlAt w o m s) :
    Calls Tryz.prog 98 #[.pointer (some ⟨o, 0, none⟩), .int .i64 0] w fun e w' => e = .returned (.int .u64 (m : Int)) ∧ w' = w := by
  have c := h.two.1
  go_enter Tryz.func98, Tryz.ntmps98
  go_wp2
  go_ret
  exact ⟨rfl, rfl⟩
set_option maxRecDepth 100000 in
/-- mask, of what is left -/
theorem mask1_any {o m s : Nat} (w : World) (h : PlAt w o m s) :
    Calls Tryz.prog 98 #[.pointer (some ⟨o, 0, none⟩), .int .i64 1] w fun e w' => e = .returned (.int .u64 (s : Int)) ∧ w' = w := by
  have c := h.two.2
  go_enter Tryz.func98, Tryz.ntmps98
  go_wp2
  go_ret
  exact ⟨rfl, rfl⟩
set_option maxRecDepth 100000 in
/-- mask, of no Plan -/
theorem mask_nil (i : Int) (w : World) :
    Calls Tryz.prog 98 #[.pointer none, .int .i64 i] w fun e w' => e = .returned (.int .u64 0) ∧ w' = w := by
  go_enter Tryz.func98, Tryz.ntmps98
  go_wp2
  go_ret
  exact ⟨rfl, rfl⟩
set_option maxRecDepth 100000 in
/-- Left -/
theorem left_any {o m s : Nat} (w : World) (h : PlAt w o m s) :
    Calls Tryz.prog 55 #[.pointer (some ⟨o, 0, none⟩)] w fun e w' => e = .returned (.int .u64 (s : Int)) ∧ w' = w := by
  have q := mask1_any w h
  go_enter Tryz.func55, Tryz.ntmps55
  go_wp2_with (go_at_call 98; refine q.mono ?_; rintro e w ⟨rfl, rfl⟩)
  go_ret
  exact ⟨rfl, rfl⟩
set_option maxRecDepth 100000 in
theorem left_none (p : Option Addr) (w : World) (h : NoPl w p) :
    Calls Tryz.prog 55 #[.pointer p] w fun e w' => e = .returned (.int .u64 0) ∧ w' = w := by
  rcases h with rfl | ⟨o, rfl, h⟩
  · have q := mask_nil 1 w
    go_enter Tryz.func55, Tryz.ntmps55
    go_wp2_with (go_at_call 98; refine q.mono ?_; rintro e w ⟨rfl, rfl⟩)
    go_ret
    exact ⟨rfl, rfl⟩
  · exact left_any w h
set_option maxRecDepth 100000 in
/-- Over -/
theorem over_any {o m s : Nat} (w : World) (h : PlAt w o m s) :
    Calls Tryz.prog 76 #[.pointer (some ⟨o, 0, none⟩)] w fun e w' => e = .returned (.bool (decide (s = 0))) ∧ w' = w := by
  have q := left_any w h
  go_enter Tryz.func76, Tryz.ntmps76
  go_wp2_with (go_at_call 55; refine q.mono ?_; rintro e w ⟨rfl, rfl⟩)
  go_ret
  exact ⟨ret_bool (by rw [Bool.eq_iff_iff]; simp), rfl⟩
set_option maxRecDepth 100000 in
theorem over_none (p : Option Addr) (w : World) (h : NoPl w p) :
    Calls Tryz.prog 76 #[.pointer p] w fun e w' => e = .returned (.bool true) ∧ w' = w := by
  have q := left_none p w h
  go_enter Tryz.func76, Tryz.ntmps76
  go_wp2_with (go_at_call 55; refine q.mono ?_; rintro e w ⟨rfl, rfl⟩)
  go_ret
  exact ⟨rfl, rfl⟩
set_option maxRecDepth 100000 in
/-- All, of a mask that has some -/
theorem all_some {o m s : Nat} (w : World) (h : PlAt w o m s) (h0 : 0 < m) :
    Calls Tryz.prog 78 #[.pointer (some ⟨o, 0, none⟩)] w fun e w' => ∃ v, e = .returned v ∧ w'.ownsRow w.heap.size 3 1 v (elems m).length ((elems m).map Bits.enc) ∧ Below w.heap.size w w' := by
  have q := mask0_any w h
  have ql := list_any m w h.2.1
  have i0 : ((m : Int) == 0) = false := by simp; omega
  go_enter Tryz.func78, Tryz.ntmps78
  go_wp2_with (first
    | (go_at_call 98; refine q.mono ?_; rintro e w ⟨rfl, rfl⟩)
    | (go_at_call 123; refine ql.mono ?_; rintro e w1 ⟨v, rfl, hr, hB⟩))
  go_ret
  exact ⟨v, rfl, hr, hB⟩
set_option maxRecDepth 100000 in
/-- All, of a Plan of no extents -/
theorem all_none (p : Option Addr) (w : World) (h : p = none ∨ ∃ o s, p = some ⟨o, 0, none⟩ ∧ PlAt w o 0 s) :
    Calls Tryz.prog 78 #[.pointer p] w fun e w' => e = .returned (.slice none 0 0) ∧ w' = w := by
  have q : Calls Tryz.prog 98 #[.pointer p, .int .i64 0] w fun e w' => e = .returned (.int .u64 0) ∧ w' = w := by
    rcases h with rfl | ⟨o, s, rfl, h⟩
    · exact mask_nil 0 w
    · exact mask0_any w h
  go_enter Tryz.func78, Tryz.ntmps78
  go_wp2_with (go_at_call 98; refine q.mono ?_; rintro e w ⟨rfl, rfl⟩)
  go_ret
  exact ⟨rfl, rfl⟩
set_option maxRecDepth 100000 in
/-- All: its numbers -/
theorem all_any {o m s : Nat} (w : World) (h : PlAt w o m s) :
    Calls Tryz.prog 78 #[.pointer (some ⟨o, 0, none⟩)] w fun e w' => ∃ v, e = .returned v ∧ IntsAt w'.heap.size w' v ((elems m).map Int.ofNat) ∧ Below w.heap.size w w' := by
  by_cases h0 : 0 < m
  · exact (all_some w h h0).mono fun e w' ⟨v, he, hr, hB⟩ => ⟨v, he, intsAt_of_owns hr, hB⟩
  · obtain rfl : m = 0 := by omega
    refine (all_none _ w (.inr ⟨o, s, rfl, h⟩)).mono fun e w' ⟨he, hw⟩ => ⟨_, he, ?_, hw ▸ Below.refl _ _⟩
    rw [elems_zero]
    exact ⟨none, 0, rfl, .inl rfl⟩
set_option maxRecDepth 100000 in
/-- without -/
theorem without1_any (s : Nat) (e : Int) (w : World) (hs : s < 18446744073709551616) :
    Calls Tryz.prog 159 #[.int .u64 (s : Int), .int .i64 e] w fun r w' => r = .returned (.int .u64 ((without s e : Nat) : Int)) ∧ w' = w := by
  have q := without_any s e w hs
  go_enter Tryz.func159, Tryz.ntmps159
  go_wp2_with (go_at_call 180; refine q.mono ?_; rintro r w ⟨rfl, rfl⟩)
  go_ret
  exact ⟨rfl, rfl⟩
set_option maxRecDepth 100000 in
/-- turn, with without -/
theorem turn_any {o m s : Nat} (e : Int) (w : World) (h : PlAt w o m s) :
    Calls Tryz.prog 158 #[.pointer (some ⟨o, 0, none⟩), .func (.func 159) #[] #[], .int .i64 e] w fun r w' => r = .returned (.tuple #[]) ∧ PlAt w' o m (without s e) ∧ Kept [o] w w' := by
  have hI := h.kept (kept_drew [] w) (by simp)
  have c1 := hI.two.2
  have hf := hI.1.frozen 1
  have q := without1_any s e w.drew h.2.2
  go_enter Tryz.func158, Tryz.ntmps158
  go_wp2_with fail
  go_region_with (go_at_call 159; refine q.mono ?_; rintro r w1 ⟨rfl, rfl⟩)
  all_goals (try go_wp2_with fail)
  all_goals go_end0
  all_goals refine ⟨rfl, ⟨?_, hI.2.1, without_lt s e hI.2.2⟩, ?_⟩
  · have := hI.1.set 1 (.int .u64 ((without s e : Nat) : Int))
    exact this
  · exact ((kept_drew [] w).mono (by simp)).trans (kept_set (by simp) _ _ _)
set_option maxRecDepth 100000 in
/-- Have -/
theorem have_any {o m s : Nat} (e : Int) (w : World) (h : PlAt w o m s) :
    Calls Tryz.prog 133 #[.pointer (some ⟨o, 0, none⟩), .int .i64 e] w fun r w' => r = .returned (.bool (has s e)) ∧ PlAt w' o m (without s e) ∧ Kept [o] w w' := by
  have q := left_any w h
  have q2 := has_any s e w h.2.2
  have q3 := turn_any e w h
  cases hh : has s e with
  | false =>
    have e0 := without_false h.2.2 hh
    rw [hh] at q2
    rw [e0]
    go_enter Tryz.func133, Tryz.ntmps133
    go_wp2_with (first
      | (go_at_call 55; refine q.mono ?_; rintro e w ⟨rfl, rfl⟩)
      | (go_at_call 131; refine q2.mono ?_; rintro e w ⟨rfl, rfl⟩))
    go_ret
    exact ⟨rfl, h, Kept.refl _ _⟩
  | true =>
    rw [hh] at q2
    go_enter Tryz.func133, Tryz.ntmps133
    go_wp2_with (first
      | (go_at_call 55; refine q.mono ?_; rintro e w ⟨rfl, rfl⟩)
      | (go_at_call 131; refine q2.mono ?_; rintro e w ⟨rfl, rfl⟩)
      | (go_at_call 158; refine q3.mono ?_; rintro e w1 ⟨rfl, h1, hk⟩))
    go_ret
    exact ⟨rfl, h1, hk⟩
theorem has_zero (e : Int) : has 0 e = false := by simp [has]
set_option maxRecDepth 100000 in
/-- Have, of a Plan that no call made -/
theorem have_none (p : Option Addr) (e : Int) (w : World) (h : NoPl w p) :
    Calls Tryz.prog 133 #[.pointer p, .int .i64 e] w fun r w' => r = .returned (.bool false) ∧ w' = w := by
  have q := left_none p w h
  have q2 := has_any 0 e w (by omega)
  rw [has_zero] at q2
  go_enter Tryz.func133, Tryz.ntmps133
  go_wp2_with (first
    | (go_at_call 55; refine q.mono ?_; rintro e w ⟨rfl, rfl⟩)
    | (go_at_call 131; refine q2.mono ?_; rintro e w ⟨rfl, rfl⟩))
  go_ret
  exact ⟨rfl, rfl⟩
set_option maxRecDepth 100000 in
theorem allN_none (p : Option Addr) (w : World) (h : NoPl w p) :
    Calls Tryz.prog 78 #[.pointer p] w fun e w' => e = .returned (.slice none 0 0) ∧ w' = w :=
  all_none p w (h.imp id fun ⟨o, e, h⟩ => ⟨o, 0, e, h⟩)
/-- The document's Plan in its block. -/
def RefAt (W : World) (o m s : Nat) : Prop := Blk W o 58 #[.int .u64 (m : Int), .int .u64 (s : Int)] ∧ m < 18446744073709551616 ∧ s < 18446744073709551616
theorem RefAt.kept {K : List Nat} {A B : World} {o m s : Nat} (h : RefAt A o m s) (hk : Kept K A B) (ho : o ∉ K) : RefAt B o m s := ⟨h.1.kept hk ho, h.2⟩
theorem RefAt.two {W : World} {o m s : Nat} (h : RefAt W o m s) : W.cell? ⟨o, 0, none⟩ = some (.int .u64 (m : Int)) ∧ W.cell? ⟨o, 1, none⟩ = some (.int .u64 (s : Int)) := ⟨(Blk.cell h.1 0).trans rfl, (Blk.cell h.1 1).trans rfl⟩
set_option maxRecDepth 100000 in
/-- The document's Have -/
theorem rhave_any {o m s : Nat} (e : Int) (w : World) (h : RefAt w o m s) :
    Calls Tryz.prog 50 #[.pointer (some ⟨o, 0, none⟩), .int .i64 e] w fun r w' => r = .returned (.bool (has s e)) ∧ RefAt w' o m (without s e) ∧ Kept [o] w w' := by
  have c1 := h.two.2
  have hf := h.1.frozen 1
  have q2 := fun W => refHas_any s e W h.2.2
  have q3 := fun W => refWithout_any s e W h.2.2
  cases hh : has s e with
  | false =>
    have e0 := without_false h.2.2 hh
    rw [hh] at q2
    rw [e0]
    go_enter Tryz.func50, Tryz.ntmps50
    go_wp2_with (first
      | (go_at_call 48; refine (q2 _).mono ?_; rintro e w ⟨rfl, rfl⟩))
    go_ret
    exact ⟨rfl, h, Kept.refl _ _⟩
  | true =>
    rw [hh] at q2
    go_enter Tryz.func50, Tryz.ntmps50
    go_wp2_with (first
      | (go_at_call 48; refine (q2 _).mono ?_; rintro e w ⟨rfl, rfl⟩)
      | (go_at_call 93; refine (q3 _).mono ?_; rintro e w1 ⟨rfl, rfl⟩))
    go_ret
    exact ⟨rfl, ⟨h.1.set 1 (.int .u64 ((without s e : Nat) : Int)), h.2.1, without_lt s e h.2.2⟩, kept_set (by simp) _ _ _⟩
end Go.Proofs.YtfiofdmefgkloaaGreat.Plan

