/-
  Arrays of bytes compared; the walk of seal.Get.
-/
import Derived.Test.YtekjlmnnaaodjaaGreatSealH
import Derived.Stop.BytesEq
namespace Go.Proofs.YtekjlmnnaaodjaaGreat.Seal
open Go.RowKit
open Math
open Crc

/-- Bytes of ours are those of the library's law on arrays compared. -/
theorem enc_cells (l : List Nat) (h : ∀ b ∈ l, b < 256) : l.map enc = (l.map UInt8.ofNat).map Extern.Stop.cell := by
  rw [List.map_map]
  refine List.map_congr_left fun b hb => ?_
  have := h b hb
  simp [enc, Extern.Stop.cell]
  omega
theorem ofNat_inj : ∀ (l k : List Nat), (∀ b ∈ l, b < 256) → (∀ b ∈ k, b < 256) → l.map UInt8.ofNat = k.map UInt8.ofNat → l = k
  | [], [], _, _, _ => rfl
  | x :: l, y :: k, hl, hk, e => by
    rw [List.map_cons, List.map_cons] at e
    injection e with e1 e2
    have hx := hl x (by simp)
    have hy := hk y (by simp)
    have e3 := congrArg UInt8.toNat e1
    simp at e3
    rw [Nat.mod_eq_of_lt hx, Nat.mod_eq_of_lt hy] at e3
    rw [e3, ofNat_inj l k (fun b hb => hl b (by simp [hb])) (fun b hb => hk b (by simp [hb])) e2]
  | [], _ :: _, _, _, e => by simp at e
  | _ :: _, [], _, _, e => by simp at e
set_option maxRecDepth 100000 in
theorem eql_arr (t : TypeId) (n : Nat) (ht : Tryz.prog.underlying t = some (.array n 5)) (l k : List Nat) (hl : l.length = n) (hk : k.length = n) (bl : ∀ b ∈ l, b < 256) (bk : ∀ b ∈ k, b < 256) (w : World) :
    (Op.equalIn 10000 t (arr l) (arr k)).run Tryz.prog w = .ok (decide (l = k)) w := by
  have := run_equalIn_bytes (P := Tryz.prog) w 9998 t 5 n ht Tryz.underlying5 Tryz.sizeOf5 (l.map UInt8.ofNat) (k.map UInt8.ofNat) (by simpa using hl) (by simpa using hk)
  unfold arr
  rw [enc_cells l bl, enc_cells k bk, this]
  congr 1
  rw [Bool.eq_iff_iff]
  simp only [beq_iff_eq, decide_eq_true_eq]
  exact ⟨ofNat_inj l k bl bk, fun e => by rw [e]⟩
set_option maxRecDepth 100000 in
theorem neq_arr (t : TypeId) (n : Nat) (ht : Tryz.prog.underlying t = some (.array n 5)) (l k : List Nat) (hl : l.length = n) (hk : k.length = n) (bl : ∀ b ∈ l, b < 256) (bk : ∀ b ∈ k, b < 256) (w : World) :
    (binOp .neq t (arr l) (arr k)).run Tryz.prog w = .ok (.bool (!decide (l = k))) w := by
  have := eql_arr t n ht l k hl hk bl bk w
  unfold arr at *
  rw [run_neq_struct, this]
  rfl
set_option maxRecDepth 100000 in
theorem eqls_arr (t : TypeId) (n : Nat) (ht : Tryz.prog.underlying t = some (.array n 5)) (l k : List Nat) (hl : l.length = n) (hk : k.length = n) (bl : ∀ b ∈ l, b < 256) (bk : ∀ b ∈ k, b < 256) (w : World) :
    (binOp .eql t (arr l) (arr k)).run Tryz.prog w = .ok (.bool (decide (l = k))) w := by
  have := eql_arr t n ht l k hl hk bl bk w
  unfold arr at *
  rw [run_eql_struct, this]
  rfl
set_option maxRecDepth 100000 in
theorem guard102 (op : BinOp) (x y : Operand) (l k : List Nat) (w : World) : (eqGuard op 102 x y (arr l) (arr k)).run Tryz.prog w = .ok () w := run_eqGuard_agg w op 102 x y _ _ Tryz.eqGuardType102
set_option maxRecDepth 100000 in
theorem guard52 (op : BinOp) (x y : Operand) (l k : List Nat) (w : World) : (eqGuard op 52 x y (arr l) (arr k)).run Tryz.prog w = .ok () w := run_eqGuard_agg w op 52 x y _ _ Tryz.eqGuardType52

/-- The last four of some bytes, in memory. -/
def Tail (W : World) (b q : Nat) (c0 c1 c2 c3 : Nat) : Prop :=
  W.cell? ⟨b, q, none⟩ = some (.int .u8 (c0 : Int)) ∧ W.cell? ⟨b, q + 1, none⟩ = some (.int .u8 (c1 : Int)) ∧ W.cell? ⟨b, q + 2, none⟩ = some (.int .u8 (c2 : Int)) ∧ W.cell? ⟨b, q + 3, none⟩ = some (.int .u8 (c3 : Int))

/-- Bytes of which four stand behind others. -/
theorem BytesAt.tail {n₀ : Nat} {W : World} {b off cap p : Nat} {ps : List Nat} {c0 c1 c2 c3 : Nat} (hp : ps.length = p) (hI : BytesAt n₀ W (.slice (some ⟨b, off, none⟩) (p + 4) cap) (ps ++ [c0, c1, c2, c3])) :
    Tail W b (off + p) c0 c1 c2 c3 ∧ BytesAt n₀ W (.slice (some ⟨b, off, none⟩) p cap) ps ∧ p + 4 ≤ cap ∧ (c0 < 256 ∧ c1 < 256 ∧ c2 < 256 ∧ c3 < 256) := by
  subst hp
  obtain ⟨hb, a, cap', e, hn, h | ⟨b', off', e2, hl, hb', hc⟩⟩ := hI
  · simp at h
  · injection e with e1 e3 e4
    subst e1
    subst e4
    injection e2 with e2
    injection e2 with e5 e6
    subst e5
    subst e6
    simp only [List.length_append, List.length_cons, List.length_nil] at hl hc
    refine ⟨⟨?_, ?_, ?_, ?_⟩, ⟨fun c hm => hb c (by simp [hm]), _, _, rfl, fun h => by simp at h, .inr ⟨b, off, rfl, by omega, hb', fun j hj => ?_⟩⟩, by omega, hb c0 (by simp), hb c1 (by simp), hb c2 (by simp), hb c3 (by simp)⟩
    · have := hc ps.length (by omega)
      simpa using this
    · have := hc (ps.length + 1) (by omega)
      simpa [Nat.add_assoc] using this
    · have := hc (ps.length + 2) (by omega)
      simpa [Nat.add_assoc] using this
    · have := hc (ps.length + 3) (by omega)
      simpa [Nat.add_assoc] using this
    · have := hc j (by omega)
      rw [List.getElem?_append_left hj] at this
      exact this

set_option maxRecDepth 100000 in
theorem arrayAt102 (b o cap : Nat) (w : World) : (Instr.arrayAt 102 (.slice (some ⟨b, o, none⟩) 4 cap)).run Tryz.prog w = .ok (.pointer (some ⟨b, o, none⟩)) w := by
  simp [Instr.arrayAt]

/-- An array's bytes, as bytes. -/
theorem Arr.bytes {W : World} {g t n : Nat} {l : List Nat} (h : Arr W g t l) (hl : ∀ c ∈ l, c < 256) (hn : l.length = n) (cap : Nat := n) (hc : n ≤ cap := by exact Nat.le_refl _) : BytesAt W.heap.size W (.slice (some ⟨g, 0, none⟩) n cap) l := by
  subst hn
  refine ⟨hl, _, _, rfl, fun h => by simp at h, .inr ⟨g, 0, rfl, hc, h.lt, fun j hj => ?_⟩⟩
  rw [Nat.zero_add]
  exact h.cell j hj

/-- What Get tells of some bytes. -/
def gotE (bs : List Nat) : Nat := if bs.length < 4 then 8 else if sealed (bs.take (bs.length - 4)) = bs then 0 else 10
def gotL (bs : List Nat) : List Nat := if bs.length < 4 then [] else if sealed (bs.take (bs.length - 4)) = bs then bs.take (bs.length - 4) else []

theorem four_of (l : List Nat) (h : l.length = 4) : ∃ c0 c1 c2 c3, l = [c0, c1, c2, c3] := by
  match l, h with
  | [c0, c1, c2, c3], _ => exact ⟨c0, c1, c2, c3, rfl⟩

end Go.Proofs.YtekjlmnnaaodjaaGreat.Seal
