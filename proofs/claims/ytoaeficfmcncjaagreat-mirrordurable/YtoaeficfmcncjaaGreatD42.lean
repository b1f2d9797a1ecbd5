/-
 A node's own write: what its data says, and how its log grows.
-/
import Derived.Test.YtoaeficfmcncjaaGreatD41
namespace Go.Proofs.YtoaeficfmcncjaaGreat.Mirror
open Go.RowKit
open Math
open Flight (Fw Fv FlAt Off)
open Later (Lw Lv QAt Foot RowAt)
open Pack (Ms Mv)

theorem heat_ops (M : Mr) (o l : Int) : (heatD M o l).ops ≤ M.d.ops + 2 := by
 have h : ∀ s : Dk, ∀ z, (logS s z).ops ≤ s.ops + 2 := fun s z => by
  unfold logS
  split
  ·omega
  split
  ·omega
  unfold putS
  split
  ·split
   ·omega
   ·unfold putsS
    have h1 := wroteS_ops s (putK s 2 4) (putX s 2 4 z)
    split
    ·unfold flushS
     split
     ·exact Nat.le_trans h1 (by omega)
     ·show (wroteS s (putK s 2 4) (putX s 2 4 z)).ops + 1 ≤ _
      omega
    ·omega
  ·omega
 unfold heatD
 split
 ·exact h _ _
 ·omega
set_option maxRecDepth 100000 in
theorem tell_one (x : Lv) (W : World) (g : Nat) (hB : Blk W g 152 #[.int .i64 x.id, .int .i64 x.o, .int .i64 x.l, .slice x.sa x.len x.cap]) (hb : Later.ByteRow W.heap.size W (.slice x.sa x.len x.cap) x.bs) (hl : x.bs.length ≤ 140737488351232) :
  Calls Tryz.prog 72 #[.int .i64 2, .slice (some ⟨g, 0, none⟩) 1 1] W fun e w' => ∃ sT nT cT Q, e = .returned (.slice sT nT cT) ∧ Told W.heap.size w' (.slice sT nT cT) [msgOf 2 x.lw] Q ∧ Kept [] W w' := by
 have h1 : ∀ y ∈ [x], Later.ByteRow W.heap.size W (.slice y.sa y.len y.cap) y.bs := fun y hy => by
  rw [List.mem_singleton] at hy
  rw [hy]
  exact hb
 have h2 : ∀ y ∈ [x], y.bs.length ≤ 140737488351232 := fun y hy => by
  rw [List.mem_singleton] at hy
  rw [hy]
  exact hl
 have h4 : LRow 0 W (.slice (some ⟨g, 0, none⟩) 1 1) [x] (some g) := ⟨row_one hB (Nat.zero_le _), h1⟩
 have h3 := tell_data (some ⟨g, 0, none⟩) 1 1 [x] 0 (some g) W h4 h2 (by simp)
 simp only [List.map_cons, List.map_nil] at h3
 refine h3.mono ?_
 rintro e w' ⟨v, Q, rfl, hT, hk⟩
 obtain ⟨sT, cT, rfl⟩ := hT.row.form
 exact ⟨sT, _, cT, Q, rfl, hT, hk⟩
variable {lo m d b1 b2 : Nat} {K : List Nat} {M : Mr}
set_option maxRecDepth 100000 in
theorem store_go (t o l : Int) (a : Option Addr) (n cap : Nat) (bs : List Nat) (E2 : Nat) (hE2 : storeE (heatD M o l) ⟨t, o, l, bs⟩ = E2) (w : World) (H : MiAt w lo m d b1 b2 K { M with d := heatD M o l, hot := heatH M o l }) (hx : Bts w (K ++ [d, b1, b2]) (.slice a n cap) bs) (hops : M.d.ops ≤ 800000000000000) : Calls Tryz.prog 73 #[.pointer (some ⟨m, 0, none⟩), .agg #[.int .i64 t, .int .i64 o, .int .i64 l, .slice a n cap]] w fun e w' => e = .returned (.int .i64 (E2 : Nat)) ∧ MiAt w' lo m d b1 b2 K { M with d := storeS (heatD M o l) ⟨t, o, l, bs⟩, hot := heatH M o l } ∧ Kept [d, b1, b2] w w' := by
 have ho : (heatD M o l).ops ≤ 900000000000000 := Nat.le_trans (heat_ops M o l) (by omega)
 subst hE2
 obtain ⟨D, hD⟩ : ∃ D, heatD M o l = D := ⟨_, rfl⟩
 rw [hD] at H ho ⊢
 have h := store_any ⟨t, o, l, a, n, cap, bs⟩ (K ++ [d, b1, b2]) w H (fun k hk => List.mem_append.2 (.inr hk)) hx ho
 exact h
set_option maxRecDepth 100000 in
theorem add_to (t o l : Int) (a : Option Addr) (n cap : Nat) (bs : List Nat) (h0 : -9223372036854775808 ≤ t) (h1 : t ≤ 9223372036854775807) (ht : 1 ≤ t) (hp : Span.Math.plain o l = true) (hl : 1 ≤ l) (n1 : (Table.look M.fly t).isSome = false) (n2 : Flight.busy M.fly o l = false) (w : World) (H : MiAt w lo m d b1 b2 K M) (hx : Bts w (K ++ [d, b1, b2]) (.slice a n cap) bs) (hxl : bs.length ≤ 140737488351232) (hF : M.fly.length ≤ 600) :
  ∃ f, w.cell? ⟨m, 0, none⟩ = some (.pointer (some ⟨f, 0, none⟩)) ∧ ∀ W, Kept [] w W → Calls Tryz.prog 74 #[.pointer (some ⟨f, 0, none⟩), .int .i64 t, .agg #[.int .i64 o, .int .i64 l], .slice a n cap] W fun e w' => ∃ K', e = .returned (.bool true) ∧ w'.cell? ⟨m, 0, none⟩ = some (.pointer (some ⟨f, 0, none⟩)) ∧ Goes W w' lo m d b1 b2 K K' { M with fly := Flight.addL M.fly t o l bs } := by
 obtain ⟨f, b, p, q, h, hi, F, gr, rfl, H⟩ := H
 refine ⟨f, H.five.1, fun W hW => ?_⟩
 replace H := H.kept hW (by simp) (clean_nil _)
 have hlo : lo ≤ W.heap.size := by have := (H.low m (by simp [own])); omega
 have hO : (Itree.It.mk o l t).Ok := Flight.it_ok hp h0 h1
 have hok : Flight.addOk M.fly t o l = true := by
  have e : (Table.look M.fly t).isNone = true := by
   cases hh : Table.look M.fly t <;> simp [hh] at n1 ⊢
  simp [Flight.addOk, e, n2, hp, ht, hl]
 have hX : ∀ k ∈ F, k ∈ own m f b q h F gr ++ [d, b1, b2] := fun k hk => by simp [own, hk]
 have q := Flight.add_any t o l (.slice a n cap) bs h0 h1 hO W H.fly hF hlo (fun V hV => ((hx.kept0 hW).kept (hV.mono hX) (fun _ h => .inl h)).fl) hxl
 rw [hok] at q
 refine q.mono ?_
 rintro e w' ⟨F', rfl, hf, hn, hk⟩
 obtain ⟨h2, h3, h4⟩ := H.flew hf hn hk
 exact ⟨_, rfl, h2.five.1, ⟨⟨_, _, _, _, _, _, _, _, rfl, h2⟩, h3, h4.mono (fun k hk => List.mem_append.2 (.inl hk))⟩⟩
def Six (W : World) (N m : Nat) (fp v : Value) (E : Nat) (o l : Int) : Prop := (W.cell? ⟨N, 0, none⟩ = some (.int .i64 o) ∧ W.cell? ⟨N, 1, none⟩ = some (.int .i64 l)) ∧ W.cell? ⟨N + 1, 0, none⟩ = some v ∧ W.cell? ⟨N + 1 + 1, 0, none⟩ = some (.int .i64 (E : Int)) ∧ W.cell? ⟨m, 0, none⟩ = some fp
theorem Six.of {W : World} {N m : Nat} {fp v : Value} {E : Nat} {o l : Int} (h0 : Blk W N 44 #[.int .i64 o, .int .i64 l]) (h1 : Blk W (N + 1) 76 #[v]) (h2 : Blk W (N + 1 + 1) 28 #[.int .i64 (E : Int)]) (h3 : W.cell? ⟨m, 0, none⟩ = some fp) : Six W N m fp v E o l :=
 ⟨⟨(h0.cell 0).trans rfl, (h0.cell 1).trans rfl⟩, (h1.cell 0).trans rfl, (h2.cell 0).trans rfl, h3⟩
theorem again_set {W : World} {N m g : Nat} {ty : TypeId} {fp v u : Value} {E : Nat} {o l : Int} (h0 : Blk W N 44 #[.int .i64 o, .int .i64 l]) (h1 : Blk W (N + 1) 76 #[v]) (h2 : Blk W (N + 1 + 1) 28 #[.int .i64 (E : Int)]) (h3 : W.cell? ⟨m, 0, none⟩ = some fp) (hg : g = N + 1 ∧ u = v ∨ g = N + 1 + 1 ∧ u = .int .i64 (E : Int)) (hm : m ≠ g) (hb : Blk W g ty #[u]) :
  ∃ V, W.setCell ⟨g, 0, none⟩ u = V ∧ Blk V N 44 #[.int .i64 o, .int .i64 l] ∧ Blk V (N + 1) 76 #[v] ∧ Blk V (N + 1 + 1) 28 #[.int .i64 (E : Int)] ∧ V.cell? ⟨m, 0, none⟩ = some fp ∧ Kept [g] W V := by
 have k : Kept [g] W (W.setCell ⟨g, 0, none⟩ u) := kept_set (by simp) _ _ _
 have c : (W.setCell ⟨g, 0, none⟩ u).cell? ⟨m, 0, none⟩ = some fp := by
  rw [← h3]
  exact World.cell?_setCell_far W ⟨g, 0, none⟩ ⟨m, 0, none⟩ u (fun e => hm e.symm)
 refine ⟨_, rfl, h0.kept k (by simp; omega), ?_, ?_, c, k⟩
 ·rcases hg with ⟨rfl, rfl⟩ | ⟨rfl, rfl⟩
  ·exact h1.set 0 _
  ·exact h1.kept k (by simp)
 ·rcases hg with ⟨rfl, rfl⟩ | ⟨rfl, rfl⟩
  ·exact h2.kept k (by simp)
  ·exact h2.set 0 _
end Go.Proofs.YtoaeficfmcncjaaGreat.Mirror
