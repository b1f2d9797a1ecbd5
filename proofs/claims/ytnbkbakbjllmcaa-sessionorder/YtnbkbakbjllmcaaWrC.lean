import Derived.Test.YtnbkbakbjllmcaaWrA
import Derived.Deep.RegionHeld3
/-
  The walks of the writer, of lay and head, and of Bytes.
-/
namespace Go.Proofs.Ytnbkbakbjllmcaa.Wire
open Go.RowKit
open Seal (enc ret_bool ret_int)
open Seal.Math

theorem Own.formz {A : World} {base : Nat} {v : Value} {l : List Nat} (h : Own A base v l) : ∃ sa z cap, v = .slice sa z cap := by
  obtain ⟨sa, cap, e⟩ := h.form
  exact ⟨sa, _, cap, e⟩
theorem kept_grownL {L : List Nat} {w w' : World} {v : Value} {base : Nat} {e : TypeId} {z k : Nat} {l : List Value} (hown : w.ownsRow base e z v k l) (hg : w.grownBy w' v.ownBlock) (w0 : World) (h0 : Kept L w0 w) (hb : w0.heap.size ≤ base) : Kept L w0 w' :=
  ⟨hg.os.trans h0.os, hg.tape.trans h0.tape, hg.output.trans h0.output, Nat.le_trans h0.size hg.size, fun j hj hL => (hg.block j (Nat.lt_of_lt_of_le hj h0.size) (fun e => by have := (hown.lt j e.symm).1; omega)).trans (h0.block j hj hL)⟩
/-- A writer in its block: its list is a row of the call's own; all else of w0 is as it was. -/
structure WAt (w0 : World) (g base : Nat) (v : Value) (l : List Nat) (W : World) : Prop where
  blk : Blk W g 113 #[v]
  own : Own W base v l
  lt : g < base
  hb : w0.heap.size ≤ base
  kept : Kept [g] w0 W
theorem WAt.cell {w0 : World} {g base : Nat} {v : Value} {l : List Nat} {W : World} (t : WAt w0 g base v l W) : W.cell? ⟨g, 0, none⟩ = some v := (Blk.cell t.blk 0).trans rfl
/-- The list is another one, not yet put down. -/
structure WMid (w0 : World) (g base : Nat) (v0 v : Value) (l : List Nat) (W : World) : Prop where
  blk : Blk W g 113 #[v0]
  own : Own W base v l
  lt : g < base
  hb : w0.heap.size ≤ base
  kept : Kept [g] w0 W
theorem WAt.new {w0 : World} {g base : Nat} {v v' : Value} {l l' : List Nat} {A B : World} (t : WAt w0 g base v l A) (ho : B.ownsRow base 5 1 v' l'.length (l'.map enc)) (hb : ∀ b ∈ l', b < 256) (hk : Kept [] A B) : WMid w0 g base v v' l' B :=
  ⟨t.blk.kept hk (by simp), ⟨ho, hb, Nat.le_trans t.own.le hk.size⟩, t.lt, t.hb, t.kept.trans (hk.mono (by simp))⟩
theorem WAt.grown {w0 : World} {g base : Nat} {v v' : Value} {l l' : List Nat} {A B : World} (t : WAt w0 g base v l A) (ob : Obj) (ho : Own B base v' l') (hg : (A.alloc ob).grownBy B v.ownBlock) : WMid w0 g base v v' l' B := by
  have hO := t.own.alloc ob
  have hb1 : Blk (A.alloc ob) g 113 #[v] := t.blk.kept (kept_alloc [] _ _) (by simp)
  refine ⟨(hg.block g hb1.lt (fun e => ?_)).trans hb1, ho, t.lt, t.hb, kept_grownL hO.row hg w0 (t.kept.trans (kept_alloc _ _ _)) t.hb⟩
  have := (hO.row.lt _ e.symm).1
  have := t.lt
  omega
theorem WMid.put {w0 : World} {g base : Nat} {v v' : Value} {l : List Nat} {A B : World} (t : WMid w0 g base v v' l A) (hb : Blk B g 113 #[v']) (hk : Kept [g] A B) : WAt w0 g base v' l B := by
  have ho := t.own
  refine ⟨hb, ⟨⟨ho.row.1, ho.row.2.imp id fun ⟨h, cap, cur, e1, hbh, hg, r⟩ => ⟨h, cap, cur, e1, hbh, (hk.block h (Array.getElem?_eq_some_iff.1 hg).1 (fun hm => ?_)).trans hg, r⟩⟩, ho.byt, Nat.le_trans ho.le hk.size⟩, t.lt, t.hb, t.kept.trans hk⟩
  have := t.lt
  have := r.1
  simp at hm
  omega
set_option maxRecDepth 100000 in
/-- writer.one -/
theorem wone_any (w0 : World) (g base : Nat) (v : Value) (l : List Nat) (n : Nat) (w : World) (h : WAt w0 g base v l w) (hn : l.length ≤ 900) (h1 : n < 256) :
    Calls Try.prog 72 #[.pointer (some ⟨g, 0, none⟩), .int .i64 (n : Int)] w fun e w' => e = .returned (.tuple #[]) ∧ ∃ v', WAt w0 g base v' (l ++ [n]) w' := by
  have hc := h.cell
  have ew : IntKind.u8.wrap (n : Int) = (n : Int) := by rw [IntKind.wrap_u8]; omega
  have hO := h.own.alloc (.cells #[.int .u8 (n : Int)] 5)
  replace hn : Hid (l.length ≤ 900) := hn
  replace h1 : Hid (n < 256) := h1
  replace h : Hid (WAt w0 g base v l w) := h
  go_enter Try.func72, Try.ntmps72
  go_wp2_with (first
    | (at_builtin; refine wpList_append_z rfl _ _ rfl base _ _ _ _ l [n] rfl hO rfl (one_rowC _ n _ rfl h1.out) (by have := hn.out; simp; omega) ?_; intro sa z cap w2 ho2 hg2; have hm := h.out.grown _ ho2 hg2)
    | (refine wpList_store_cell rfl 34 _ _ rfl g 0 113 _ (.slice sa z cap) rfl rfl hm.blk (by simp) Try.sizeB rfl ?_; intro w3 hb3 hk3))
  go_end0
  exact ⟨rfl, _, hm.put hb3 hk3⟩
set_option maxRecDepth 100000 in
/-- writer.two -/
theorem wtwo_any (w0 : World) (g base : Nat) (v : Value) (l : List Nat) (n : Int) (w : World) (h : WAt w0 g base v l w) (hn : l.length ≤ 900) :
    Calls Try.prog 73 #[.pointer (some ⟨g, 0, none⟩), .int .i64 n] w fun e w' => e = .returned (.tuple #[]) ∧ ∃ v', WAt w0 g base v' (l ++ be 2 (n % 65536).toNat) w' := by
  have hc := h.cell
  have q := put16_row base v l n w h.own.row h.own.byt (by omega) h.own.le
  replace hn : Hid (l.length ≤ 900) := hn
  replace h : Hid (WAt w0 g base v l w) := h
  go_enter Try.func73, Try.ntmps73
  go_wp2_with (first
    | (go_at_call 80; refine q.mono ?_; rintro e w2 ⟨v2, rfl, ho2, hk2⟩; have hm := h.out.new ho2 (app_byte h.out.own.byt (be_byte _ _)) hk2; obtain ⟨sa, z, cap, rfl⟩ := hm.own.formz)
    | (refine wpList_store_cell rfl 34 _ _ rfl g 0 113 _ (.slice sa z cap) rfl rfl hm.blk (by simp) Try.sizeB rfl ?_; intro w3 hb3 hk3))
  go_end0
  exact ⟨rfl, _, hm.put hb3 hk3⟩
set_option maxRecDepth 100000 in
/-- writer.four -/
theorem wfour_any (w0 : World) (g base : Nat) (v : Value) (l : List Nat) (n : Nat) (w : World) (h : WAt w0 g base v l w) (hn : l.length ≤ 900) (h1 : n < 4294967296) :
    Calls Try.prog 74 #[.pointer (some ⟨g, 0, none⟩), .int .u32 (n : Int)] w fun e w' => e = .returned (.tuple #[]) ∧ ∃ v', WAt w0 g base v' (l ++ be 4 n) w' := by
  have hc := h.cell
  have q := put32_row base v l n w h.own.row h.own.byt (by omega) h1 h.own.le
  replace hn : Hid (l.length ≤ 900) := hn
  replace h1 : Hid (n < 4294967296) := h1
  replace h : Hid (WAt w0 g base v l w) := h
  go_enter Try.func74, Try.ntmps74
  go_wp2_with (first
    | (go_at_call 81; refine q.mono ?_; rintro e w2 ⟨v2, rfl, ho2, hk2⟩; have hm := h.out.new ho2 (app_byte h.out.own.byt (be_byte _ _)) hk2; obtain ⟨sa, z, cap, rfl⟩ := hm.own.formz)
    | (refine wpList_store_cell rfl 34 _ _ rfl g 0 113 _ (.slice sa z cap) rfl rfl hm.blk (by simp) Try.sizeB rfl ?_; intro w3 hb3 hk3))
  go_end0
  exact ⟨rfl, _, hm.put hb3 hk3⟩
set_option maxRecDepth 100000 in
set_option maxHeartbeats 4000000 in
/-- lay -/
theorem lay_any (f t K s a : Nat) (sa : Option Addr) (len cap : Nat) (g : Nat) (w : World) (hW : Blk w g 113 #[.slice none 0 0]) (hf : f < 4294967296) (ht : t < 4294967296) (hK : K < 256) (hs : s < 4294967296) (ha : a < 4294967296) (hl : len ≤ 200) :
    Calls Try.prog 71 #[.agg #[.int .u32 (f : Int), .int .u32 (t : Int), .int .i64 (K : Int), .int .i64 (s : Int), .int .i64 (a : Int), .slice sa len cap], .func (.func 72) #[.pointer (some ⟨g, 0, none⟩)] #[], .func (.func 73) #[.pointer (some ⟨g, 0, none⟩)] #[], .func (.func 74) #[.pointer (some ⟨g, 0, none⟩)] #[]] w fun e w' => e = .returned (.tuple #[]) ∧ ∃ v, Blk w' g 113 #[v] ∧ Own w' w.heap.size v (be 2 (23 + len) ++ (be 4 f ++ (be 4 t ++ (K :: (be 4 s ++ be 4 a))))) ∧ Kept [g] w w' := by
  have hg : g < w.heap.size := hW.lt
  have hk0 := kept_alloc [g] w (.cells #[.int .u32 (f : Int), .int .u32 (t : Int), .int .i64 (K : Int), .int .i64 (s : Int), .int .i64 (a : Int), .slice sa len cap] 47)
  have hb0 := blk_new w 47 #[.int .u32 (f : Int), .int .u32 (t : Int), .int .i64 (K : Int), .int .i64 (s : Int), .int .i64 (a : Int), .slice sa len cap]
  have hT : WAt (w.alloc (.cells #[.int .u32 (f : Int), .int .u32 (t : Int), .int .i64 (K : Int), .int .i64 (s : Int), .int .i64 (a : Int), .slice sa len cap] 47)) g (w.heap.size + 1) (.slice none 0 0) [] (w.alloc (.cells #[.int .u32 (f : Int), .int .u32 (t : Int), .int .i64 (K : Int), .int .i64 (s : Int), .int .i64 (a : Int), .slice sa len cap] 47)) := ⟨hW.kept (kept_alloc [] _ _) (by simp), own_nil _ _ (by simp), by omega, by simp, Kept.refl _ _⟩
  have S0 : Hid (∀ A, Kept [g] (w.alloc (.cells #[.int .u32 (f : Int), .int .u32 (t : Int), .int .i64 (K : Int), .int .i64 (s : Int), .int .i64 (a : Int), .slice sa len cap] 47)) A → A.cell? ⟨w.heap.size, 0, none⟩ = some (.int .u32 (f : Int)) ∧ A.cell? ⟨w.heap.size, 1, none⟩ = some (.int .u32 (t : Int)) ∧ A.cell? ⟨w.heap.size, 2, none⟩ = some (.int .i64 (K : Int)) ∧ A.cell? ⟨w.heap.size, 3, none⟩ = some (.int .i64 (s : Int)) ∧ A.cell? ⟨w.heap.size, 4, none⟩ = some (.int .i64 (a : Int)) ∧ A.cell? ⟨w.heap.size, 5, none⟩ = some (.slice sa len cap)) := fun A hA => PIn.six (Blk.kept hb0 hA (by simp; omega))
  obtain ⟨c0, c1, c2, c3, c4, c5⟩ := S0.out _ (Kept.refl _ _)
  obtain ⟨W1, hW1⟩ : ∃ W1, w.alloc (.cells #[.int .u32 (f : Int), .int .u32 (t : Int), .int .i64 (K : Int), .int .i64 (s : Int), .int .i64 (a : Int), .slice sa len cap] 47) = W1 := ⟨_, rfl⟩
  have es : IntKind.u32.wrap (s : Int) = (s : Int) := by rw [IntKind.wrap_u32]; omega
  have ea : IntKind.u32.wrap (a : Int) = (a : Int) := by rw [IntKind.wrap_u32]; omega
  have ez : Hid ((((23 : Int) + (len : Int)) % 65536).toNat = 23 + len) := by show _ = _; omega
  have q2 : ∀ A v l, WAt (w.alloc (.cells #[.int .u32 (f : Int), .int .u32 (t : Int), .int .i64 (K : Int), .int .i64 (s : Int), .int .i64 (a : Int), .slice sa len cap] 47)) g (w.heap.size + 1) v l A → l.length ≤ 900 → Calls Try.prog 73 #[.pointer (some ⟨g, 0, none⟩), .int .i64 (23 + (len : Int))] A fun e w' => e = .returned (.tuple #[]) ∧ ∃ v', WAt (w.alloc (.cells #[.int .u32 (f : Int), .int .u32 (t : Int), .int .i64 (K : Int), .int .i64 (s : Int), .int .i64 (a : Int), .slice sa len cap] 47)) g (w.heap.size + 1) v' (l ++ be 2 (23 + len)) w' := fun A v l h hl => by
    have := wtwo_any _ g _ v l (23 + (len : Int)) A h hl
    rw [ez.out] at this
    exact this
  rw [hW1] at hT S0 q2 hk0 c0 c1 c2 c3 c4 c5
  clear hb0 hW
  replace hf : Hid (f < 4294967296) := hf
  replace ht : Hid (t < 4294967296) := ht
  replace hK : Hid (K < 256) := hK
  replace hs : Hid (s < 4294967296) := hs
  replace ha : Hid (a < 4294967296) := ha
  replace hg : Hid (g < w.heap.size) := hg
  go_enter Try.func71, Try.ntmps71
  go_wp2_with (first
    | (go_at_call 73; refine (q2 _ _ _ hT (by simp)).mono ?_; rintro e w2 ⟨rfl, v2, hT2⟩; replace hT := hT2; clear hT2; obtain ⟨c0, c1, c2, c3, c4, c5⟩ := S0.out _ hT.kept)
    | (go_at_call 72; refine (wone_any _ _ _ _ _ K _ hT (by simp [be_length]) hK.out).mono ?_; rintro e w2 ⟨rfl, v2, hT2⟩; replace hT := hT2; clear hT2; obtain ⟨c0, c1, c2, c3, c4, c5⟩ := S0.out _ hT.kept)
    | (go_at_call_of 74 (#[.pointer (some ⟨g, 0, none⟩), .int .u32 (f : Int)] : Array Value); refine (wfour_any _ _ _ _ _ f _ hT (by simp [be_length]) hf.out).mono ?_; rintro e w2 ⟨rfl, v2, hT2⟩; replace hT := hT2; clear hT2; obtain ⟨c0, c1, c2, c3, c4, c5⟩ := S0.out _ hT.kept)
    | (go_at_call_of 74 (#[.pointer (some ⟨g, 0, none⟩), .int .u32 (t : Int)] : Array Value); refine (wfour_any _ _ _ _ _ t _ hT (by simp [be_length]) ht.out).mono ?_; rintro e w2 ⟨rfl, v2, hT2⟩; replace hT := hT2; clear hT2; obtain ⟨c0, c1, c2, c3, c4, c5⟩ := S0.out _ hT.kept)
    | (go_at_call_of 74 (#[.pointer (some ⟨g, 0, none⟩), .int .u32 (s : Int)] : Array Value); refine (wfour_any _ _ _ _ _ s _ hT (by simp [be_length]) hs.out).mono ?_; rintro e w2 ⟨rfl, v2, hT2⟩; replace hT := hT2; clear hT2; obtain ⟨c0, c1, c2, c3, c4, c5⟩ := S0.out _ hT.kept)
    | (go_at_call_of 74 (#[.pointer (some ⟨g, 0, none⟩), .int .u32 (a : Int)] : Array Value); refine (wfour_any _ _ _ _ _ a _ hT (by simp [be_length]) ha.out).mono ?_; rintro e w2 ⟨rfl, v2, hT2⟩; replace hT := hT2; clear hT2; obtain ⟨c0, c1, c2, c3, c4, c5⟩ := S0.out _ hT.kept))
  go_end0
  refine ⟨rfl, _, hT.blk, (hT.own.low (Nat.le_succ _)).is (by simp), hk0.trans hT.kept⟩
end Go.Proofs.Ytnbkbakbjllmcaa.Wire

