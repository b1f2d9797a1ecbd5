/-
  Arrays of bytes compared; the walk of seal.Get.
-/
import Derived.Test.YtkiaeeojgcmcaaaWalksH
import Derived.Stop.BytesEq
namespace Go.Proofs.Ytkiaeeojgcmcaaa
open Go.RowKit
open Math
open Crc

/-- Bytes of ours are those of the library's law on arrays compared. -/
theorem enc_cells (l : List Nat) (h : ∀ b ∈ l, b < 256) : l.map enc = (l.map UInt8.ofNat).map Extern.Stop.cell := by
  rw [List.map_map]
  refine List.map_congr_left fun b hb => ?_
  have := h b hb
  simp [enc, Extern.Stop.cell]
  omega
theorem ofNat_inj : ∀ (l k : List Nat), (∀ b ∈ l, b < 256) → (∀ b ∈ k, b < 256) → l.map UInt8.ofNat = k.map UInt8.ofNat → l = k
  | [], [], _, _, _ => rfl
  | x :: l, y :: k, hl, hk, e => by
    rw [List.map_cons, List.map_cons] at e
    injection e with e1 e2
    have hx := hl x (by simp)
    have hy := hk y (by simp)
    have e3 := congrArg UInt8.toNat e1
    simp at e3
    rw [Nat.mod_eq_of_lt hx, Nat.mod_eq_of_lt hy] at e3
    rw [e3, ofNat_inj l k (fun b hb => hl b (by simp [hb])) (fun b hb => hk b (by simp [hb])) e2]
  | [], _ :: _, _, _, e => by simp at e
  | _ :: _, [], _, _, e => by simp at e
theorem eql_arr (t : TypeId) (n : Nat) (ht : Try.prog.underlying t = some (.array n 5)) (l k : List Nat) (hl : l.length = n) (hk : k.length = n) (bl : ∀ b ∈ l, b < 256) (bk : ∀ b ∈ k, b < 256) (w : World) :
    (Op.equalIn 10000 t (arr l) (arr k)).run Try.prog w = .ok (decide (l = k)) w := by
  have := run_equalIn_bytes (P := Try.prog) w 9998 t 5 n ht Try.underlying5 Try.sizeOf5 (l.map UInt8.ofNat) (k.map UInt8.ofNat) (by simpa using hl) (by simpa using hk)
  unfold arr
  rw [enc_cells l bl, enc_cells k bk, this]
  congr 1
  rw [Bool.eq_iff_iff]
  simp only [beq_iff_eq, decide_eq_true_eq]
  exact ⟨ofNat_inj l k bl bk, fun e => by rw [e]⟩
theorem neq_arr (t : TypeId) (n : Nat) (ht : Try.prog.underlying t = some (.array n 5)) (l k : List Nat) (hl : l.length = n) (hk : k.length = n) (bl : ∀ b ∈ l, b < 256) (bk : ∀ b ∈ k, b < 256) (w : World) :
    (binOp .neq t (arr l) (arr k)).run Try.prog w = .ok (.bool (!decide (l = k))) w := by
  have := eql_arr t n ht l k hl hk bl bk w
  unfold arr at *
  rw [run_neq_struct, this]
  rfl
theorem eqls_arr (t : TypeId) (n : Nat) (ht : Try.prog.underlying t = some (.array n 5)) (l k : List Nat) (hl : l.length = n) (hk : k.length = n) (bl : ∀ b ∈ l, b < 256) (bk : ∀ b ∈ k, b < 256) (w : World) :
    (binOp .eql t (arr l) (arr k)).run Try.prog w = .ok (.bool (decide (l = k))) w := by
  have := eql_arr t n ht l k hl hk bl bk w
  unfold arr at *
  rw [run_eql_struct, this]
  rfl
theorem guard42 (op : BinOp) (x y : Operand) (l k : List Nat) (w : World) : (eqGuard op 42 x y (arr l) (arr k)).run Try.prog w = .ok () w := run_eqGuard_agg w op 42 x y _ _ Try.eqGuardType42
theorem guard28 (op : BinOp) (x y : Operand) (l k : List Nat) (w : World) : (eqGuard op 28 x y (arr l) (arr k)).run Try.prog w = .ok () w := run_eqGuard_agg w op 28 x y _ _ Try.eqGuardType28

/-- The last four of some bytes, in memory. -/
def Tail (W : World) (b q : Nat) (c0 c1 c2 c3 : Nat) : Prop :=
  W.cell? ⟨b, q, none⟩ = some (.int .u8 (c0 : Int)) ∧ W.cell? ⟨b, q + 1, none⟩ = some (.int .u8 (c1 : Int)) ∧ W.cell? ⟨b, q + 2, none⟩ = some (.int .u8 (c2 : Int)) ∧ W.cell? ⟨b, q + 3, none⟩ = some (.int .u8 (c3 : Int))

/-- Bytes of which four stand behind others. -/
theorem BytesAt.tail {n₀ : Nat} {W : World} {b off cap p : Nat} {ps : List Nat} {c0 c1 c2 c3 : Nat} (hp : ps.length = p) (hI : BytesAt n₀ W (.slice (some ⟨b, off, none⟩) (p + 4) cap) (ps ++ [c0, c1, c2, c3])) :
    Tail W b (off + p) c0 c1 c2 c3 ∧ BytesAt n₀ W (.slice (some ⟨b, off, none⟩) p cap) ps ∧ p + 4 ≤ cap ∧ (c0 < 256 ∧ c1 < 256 ∧ c2 < 256 ∧ c3 < 256) := by
  subst hp
  obtain ⟨hb, a, cap', e, hn, h | ⟨b', off', e2, hl, hb', hc⟩⟩ := hI
  · simp at h
  · injection e with e1 e3 e4
    subst e1
    subst e4
    injection e2 with e2
    injection e2 with e5 e6
    subst e5
    subst e6
    simp only [List.length_append, List.length_cons, List.length_nil] at hl hc
    refine ⟨⟨?_, ?_, ?_, ?_⟩, ⟨fun c hm => hb c (by simp [hm]), _, _, rfl, fun h => by simp at h, .inr ⟨b, off, rfl, by omega, hb', fun j hj => ?_⟩⟩, by omega, hb c0 (by simp), hb c1 (by simp), hb c2 (by simp), hb c3 (by simp)⟩
    · have := hc ps.length (by omega)
      simpa using this
    · have := hc (ps.length + 1) (by omega)
      simpa [Nat.add_assoc] using this
    · have := hc (ps.length + 2) (by omega)
      simpa [Nat.add_assoc] using this
    · have := hc (ps.length + 3) (by omega)
      simpa [Nat.add_assoc] using this
    · have := hc j (by omega)
      rw [List.getElem?_append_left hj] at this
      exact this

theorem arrayAt42 (b o cap : Nat) (w : World) : (Instr.arrayAt 42 (.slice (some ⟨b, o, none⟩) 4 cap)).run Try.prog w = .ok (.pointer (some ⟨b, o, none⟩)) w := by
  simp [Instr.arrayAt]

/-- An array's bytes, as bytes. -/
theorem Arr.bytes {W : World} {g t n : Nat} {l : List Nat} (h : Arr W g t l) (hl : ∀ c ∈ l, c < 256) (hn : l.length = n) (cap : Nat := n) (hc : n ≤ cap := by exact Nat.le_refl _) : BytesAt W.heap.size W (.slice (some ⟨g, 0, none⟩) n cap) l := by
  subst hn
  refine ⟨hl, _, _, rfl, fun h => by simp at h, .inr ⟨g, 0, rfl, hc, h.lt, fun j hj => ?_⟩⟩
  rw [Nat.zero_add]
  exact h.cell j hj

set_option maxHeartbeats 400000 in
/-- seal.Get, of bytes whose last four are the sum of those ahead -/
theorem get_sealed (b off cap p : Nat) (ps : List Nat) (c0 c1 c2 c3 : Nat) (w : World) (hp : ps.length = p) (hp2 : p ≤ 2000) (hI : BytesAt w.heap.size w (.slice (some ⟨b, off, none⟩) (p + 4) cap) (ps ++ [c0, c1, c2, c3]))
    (he : [c0, c1, c2, c3] = le4 (more 0 ps)) :
    Calls Try.prog 11 #[.slice (some ⟨b, off, none⟩) (p + 4) cap] w fun e w' => ∃ v, e = .returned (.tuple #[v, .int .i64 0]) ∧ BytesAt w'.heap.size w' v ps ∧ Below w.heap.size w w' := by
  obtain ⟨-, hJ, hcap, hc0, hc1, hc2, hc3⟩ := hI.tail hp
  have HT : Hid (∀ W, Below w.heap.size w W → Tail W b (off + p) c0 c1 c2 c3) := fun W h => ((hI.below h).tail hp).1
  have q := fun w' (h : Below w.heap.size w w') => sumOf_any (.slice (some ⟨b, off, none⟩) p cap) ps w' (by omega) ((hJ.below h).mono h.size)
  have hbm := le4_byte (more 0 ps)
  have hq : ∀ w : World, (binOp .neq 42 (.agg #[.int .u8 (c0 : Int), .int .u8 (c1 : Int), .int .u8 (c2 : Int), .int .u8 (c3 : Int)]) (arr (le4 (more 0 ps)))).run Try.prog w = .ok (.bool false) w := fun w => by
    have := neq_arr 42 4 Try.underlying42 [c0, c1, c2, c3] (le4 (more 0 ps)) rfl rfl (by rw [he]; exact hbm) hbm w
    rw [decide_eq_true he] at this
    exact this
  have hgd : ∀ (x y : Operand) (w : World), (eqGuard .neq 42 x y (.agg #[.int .u8 (c0 : Int), .int .u8 (c1 : Int), .int .u8 (c2 : Int), .int .u8 (c3 : Int)]) (arr (le4 (more 0 ps)))).run Try.prog w = .ok () w := fun x y w => guard42 .neq x y [c0, c1, c2, c3] _ w
  generalize more 0 ps = m at *
  have HV : Hid (∀ W, Below w.heap.size w W → ∀ j u, (ps.map enc)[j]? = some u → W.cell? ((⟨b, off, none⟩ : Addr).add j) = some u) := fun W h => (hJ.below h).values
  have HP : Hid (ps.length = p) := hp
  have HB : Hid (∀ c ∈ ps, c < 256) := hJ.1
  clear hI hJ hp he hbm
  have k1 : ¬ (cap = p) := by omega
  have k2 : (p : Int) ≤ (cap : Int) := by omega
  have k3 : (p : Int) ≤ (p : Int) + 4 := by omega
  have hB := (Below.refl w.heap.size w).drew
  have hmk := fun w => make_bytes p (by omega) w
  have hat := fun w => arrayAt42 b (off + p) (cap - p) w
  go_enter Try.func11, Try.ntmps11
  go_wp2_with fail
  go_region_held3 (fun W => W.cell? ⟨b, off + p, none⟩ = some (.int .u8 (c0 : Int)) ∧ W.cell? ⟨b, off + p + 1, none⟩ = some (.int .u8 (c1 : Int)) ∧ W.cell? ⟨b, off + p + 2, none⟩ = some (.int .u8 (c2 : Int)) ∧ W.cell? ⟨b, off + p + 3, none⟩ = some (.int .u8 (c3 : Int))) (exact HT.out _ hB) (first
    | (go_at_call 15; refine (q _ hB).mono ?_; rintro e w1 ⟨rfl, hB1⟩; replace hB := hB.trans (hB1.mono hB.size)))
  all_goals
    go_wp2_with (first
      | (refine wpList_copy_arr rfl _ _ rfl _ _ _ _ _ _ rfl rfl w1.heap.size 0 5 (zeros p) ps (arr_new w1 5 _) (by rw [HP.out]; exact (Nat.min_eq_right (by omega)).symm) (fun _ => ⟨rfl, _, rfl, HV.out _ (hB.alloc hB.size _)⟩) (by rw [HP.out, zeros_length]; omega) w1.heap.size w1 (below_alloc w1 _) (Nat.le_refl _) ?_; intro w3 hA3 hB3))
    go_ret2
    rw [splice_all _ _ (by rw [HP.out, zeros_length])] at hA3
    refine ⟨_, rfl, ?_, hB.trans (hB3.mono hB.size)⟩
    exact hA3.bytes HB.out HP.out

set_option maxHeartbeats 400000 in
/-- seal.Get, of bytes whose last four are not the sum of those ahead -/
theorem get_torn (b off cap p : Nat) (ps : List Nat) (c0 c1 c2 c3 : Nat) (w : World) (hp : ps.length = p) (hp2 : p ≤ 2000) (hI : BytesAt w.heap.size w (.slice (some ⟨b, off, none⟩) (p + 4) cap) (ps ++ [c0, c1, c2, c3]))
    (he : [c0, c1, c2, c3] ≠ le4 (more 0 ps)) :
    Calls Try.prog 11 #[.slice (some ⟨b, off, none⟩) (p + 4) cap] w fun e w' => e = .returned (.tuple #[.slice none 0 0, .int .i64 10]) ∧ Below w.heap.size w w' := by
  obtain ⟨-, hJ, hcap, hc0, hc1, hc2, hc3⟩ := hI.tail hp
  have HT : Hid (∀ W, Below w.heap.size w W → Tail W b (off + p) c0 c1 c2 c3) := fun W h => ((hI.below h).tail hp).1
  have q := fun w' (h : Below w.heap.size w w') => sumOf_any (.slice (some ⟨b, off, none⟩) p cap) ps w' (by omega) ((hJ.below h).mono h.size)
  have hbm := le4_byte (more 0 ps)
  have hq : ∀ w : World, (binOp .neq 42 (.agg #[.int .u8 (c0 : Int), .int .u8 (c1 : Int), .int .u8 (c2 : Int), .int .u8 (c3 : Int)]) (arr (le4 (more 0 ps)))).run Try.prog w = .ok (.bool true) w := fun w => by
    have := neq_arr 42 4 Try.underlying42 [c0, c1, c2, c3] (le4 (more 0 ps)) rfl rfl (by intro b hb; simp only [List.mem_cons, List.not_mem_nil, or_false] at hb; omega) hbm w
    rw [decide_eq_false he] at this
    exact this
  have hgd : ∀ (x y : Operand) (w : World), (eqGuard .neq 42 x y (.agg #[.int .u8 (c0 : Int), .int .u8 (c1 : Int), .int .u8 (c2 : Int), .int .u8 (c3 : Int)]) (arr (le4 (more 0 ps)))).run Try.prog w = .ok () w := fun x y w => guard42 .neq x y [c0, c1, c2, c3] _ w
  generalize more 0 ps = m at *
  clear hI hJ hp he hbm
  have k1 : ¬ (cap = p) := by omega
  have k2 : (p : Int) ≤ (cap : Int) := by omega
  have k3 : (p : Int) ≤ (p : Int) + 4 := by omega
  have hB := (Below.refl w.heap.size w).drew
  have hat := fun w => arrayAt42 b (off + p) (cap - p) w
  go_enter Try.func11, Try.ntmps11
  go_wp2_with fail
  go_region_held3 (fun W => W.cell? ⟨b, off + p, none⟩ = some (.int .u8 (c0 : Int)) ∧ W.cell? ⟨b, off + p + 1, none⟩ = some (.int .u8 (c1 : Int)) ∧ W.cell? ⟨b, off + p + 2, none⟩ = some (.int .u8 (c2 : Int)) ∧ W.cell? ⟨b, off + p + 3, none⟩ = some (.int .u8 (c3 : Int))) (exact HT.out _ hB) (first
    | (go_at_call 15; refine (q _ hB).mono ?_; rintro e w1 ⟨rfl, hB1⟩; replace hB := hB.trans (hB1.mono hB.size)))
  all_goals
    go_wp2
    go_ret2
    exact ⟨rfl, hB⟩

/-- What Get tells of some bytes. -/
def gotE (bs : List Nat) : Nat := if bs.length < 4 then 8 else if sealed (bs.take (bs.length - 4)) = bs then 0 else 10
def gotL (bs : List Nat) : List Nat := if bs.length < 4 then [] else if sealed (bs.take (bs.length - 4)) = bs then bs.take (bs.length - 4) else []

theorem four_of (l : List Nat) (h : l.length = 4) : ∃ c0 c1 c2 c3, l = [c0, c1, c2, c3] := by
  match l, h with
  | [c0, c1, c2, c3], _ => exact ⟨c0, c1, c2, c3, rfl⟩

/-- seal.Get -/
theorem get_any (sv : Value) (bs : List Nat) (w : World) (hlen : bs.length ≤ 2004) (hI : BytesAt w.heap.size w sv bs) :
    Calls Try.prog 11 #[sv] w fun e w' => ∃ v, e = .returned (.tuple #[v, .int .i64 (gotE bs : Nat)]) ∧ BytesAt w'.heap.size w' v (gotL bs) ∧ Below w.heap.size w w' := by
  by_cases hs : bs.length < 4
  · have e1 : gotE bs = 8 := if_pos hs
    have e2 : gotL bs = [] := if_pos hs
    rw [e1, e2]
    have hN : BytesAt w.heap.size w (.slice none 0 0) [] := ⟨by simp, none, 0, rfl, fun _ => rfl, .inl rfl⟩
    obtain ⟨_, a, cap, rfl, _⟩ := hI
    generalize bs.length = len at *
    have k1 : (len : Int) < 4 := by omega
    go_enter Try.func11, Try.ntmps11
    go_wp2
    go_ret2
    exact ⟨_, rfl, hN, Below.refl _ _⟩
  · obtain ⟨c0, c1, c2, c3, hc⟩ := four_of (bs.drop (bs.length - 4)) (by simp; omega)
    obtain ⟨p, hp⟩ : ∃ p, bs.length = p + 4 := ⟨bs.length - 4, by omega⟩
    have hbs : bs = bs.take p ++ [c0, c1, c2, c3] := by
      have := List.take_append_drop (bs.length - 4) bs
      rw [hc, show bs.length - 4 = p by omega] at this
      exact this.symm
    have hpl : (bs.take p).length = p := by simp; omega
    have e1 : gotE bs = if sealed (bs.take p) = bs then 0 else 10 := by unfold gotE; rw [if_neg hs, show bs.length - 4 = p by omega]
    have e2 : gotL bs = if sealed (bs.take p) = bs then bs.take p else [] := by unfold gotL; rw [if_neg hs, show bs.length - 4 = p by omega]
    obtain ⟨b, off, cap, rfl⟩ : ∃ b off cap, sv = .slice (some ⟨b, off, none⟩) (p + 4) cap := by
      obtain ⟨_, a, cap, e, _, rfl | ⟨b, off, e2, _⟩⟩ := hI
      · simp at hs
      · exact ⟨b, off, cap, by rw [e, e2, hp]⟩
    have hiff : sealed (bs.take p) = bs ↔ [c0, c1, c2, c3] = le4 (more 0 (bs.take p)) := by
      constructor
      · intro h
        rw [sealed] at h
        conv at h => rhs; rw [hbs]
        exact (List.append_cancel_left h).symm
      · intro h
        rw [sealed, ← h]
        exact hbs.symm
    rw [e1, e2]
    have hI2 := hI
    rw [hbs] at hI2
    by_cases hq : sealed (bs.take p) = bs
    · rw [if_pos hq, if_pos hq]
      exact get_sealed b off cap p (bs.take p) c0 c1 c2 c3 w hpl (by omega) hI2 (hiff.1 hq)
    · rw [if_neg hq, if_neg hq]
      refine (get_torn b off cap p (bs.take p) c0 c1 c2 c3 w hpl (by omega) hI2 (fun h => hq (hiff.2 h))).mono ?_
      rintro e w' ⟨rfl, hB⟩
      exact ⟨_, rfl, ⟨by simp, none, 0, rfl, fun _ => rfl, .inl rfl⟩, hB⟩

end Go.Proofs.Ytkiaeeojgcmcaaa
