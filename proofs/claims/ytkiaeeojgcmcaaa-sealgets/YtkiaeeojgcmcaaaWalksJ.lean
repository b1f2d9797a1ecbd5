/-
  The walk of the document's Get of layer 5.
-/
import Derived.Test.YtkiaeeojgcmcaaaWalksI
import Derived.Lib.Bytes
namespace Go.Proofs.Ytkiaeeojgcmcaaa
open Go.RowKit
open Math
open Crc

/-- Some bytes' text. -/
def txt (l : List Nat) : ByteArray := strOfNums (l.map Int.ofNat)
theorem txt_ne (l k : List Nat) (hl : ∀ b ∈ l, b < 256) (hk : ∀ b ∈ k, b < 256) (h : l ≠ k) : ((txt l).toList == (txt k).toList) = false := by
  rw [beq_eq_false_iff_ne]
  intro e
  apply h
  apply ofNat_inj l k hl hk
  have e2 : (txt l).data.toList = (txt k).data.toList := by
    rw [ByteArray.toList_eq, ByteArray.toList_eq] at e
    exact e
  unfold txt at e2
  rw [strOfNums_data, strOfNums_data, List.map_map, List.map_map] at e2
  exact e2
theorem conv_txt {W : World} {v : Value} {l : List Nat} {n₀ : Nat} (h : BytesAt n₀ W v l) : (convert 22 9 v).run Try.prog W = .ok (.string (txt l)) W := conv_bytes h
theorem refPut5_bytes (sv : Value) (bs : List Nat) (w : World) (hb : bs.length ≤ 2000) (hI : BytesAt w.heap.size w sv bs) :
    Calls Try.prog 8 #[sv] w fun e w' => ∃ v, e = .returned v ∧ BytesAt w'.heap.size w' v (sealed bs) ∧ Below w.heap.size w w' := by
  refine (refPut5_any sv bs w hb hI).mono ?_
  rintro e w' ⟨v', rfl, ho, hB⟩
  exact ⟨v', rfl, bytesAt_owns (sealed_byte bs hI.1) (Nat.le_refl _) (by rw [sealed_length]; exact ho), hB⟩

set_option maxHeartbeats 400000 in
/-- twainref05.Get, of bytes whose last four are the sum of those ahead -/
theorem refGet5_sealed (b off cap p : Nat) (ps : List Nat) (c0 c1 c2 c3 : Nat) (w : World) (hp : ps.length = p) (hp2 : p ≤ 2000) (hI : BytesAt w.heap.size w (.slice (some ⟨b, off, none⟩) (p + 4) cap) (ps ++ [c0, c1, c2, c3]))
    (he : [c0, c1, c2, c3] = le4 (more 0 ps)) :
    Calls Try.prog 12 #[.slice (some ⟨b, off, none⟩) (p + 4) cap] w fun e w' => ∃ v, e = .returned (.tuple #[v, .int .i64 0]) ∧ BytesAt w'.heap.size w' v ps ∧ Below w.heap.size w w' := by
  obtain ⟨-, hJ, hcap, -⟩ := hI.tail hp
  have q := fun w' (h : Below w.heap.size w w') => refPut5_bytes (.slice (some ⟨b, off, none⟩) p cap) ps w' (by omega) ((hJ.below h).mono h.size)
  have HC : Hid (∀ W, Below w.heap.size w W → (convert 22 9 (.slice (some ⟨b, off, none⟩) (p + 4) cap)).run Try.prog W = .ok (.string (txt (ps ++ [c0, c1, c2, c3]))) W) := fun W h => conv_txt (hI.below h)
  have HE : Hid (ps ++ [c0, c1, c2, c3] = sealed ps) := by show _ = _; rw [he]; rfl
  rw [HE.out] at HC
  have HV : Hid (∀ W, Below w.heap.size w W → ∀ j u, (ps.map enc)[j]? = some u → W.cell? ((⟨b, off, none⟩ : Addr).add j) = some u) := fun W h => (hJ.below h).values
  have HP : Hid (ps.length = p) := hp
  have HB : Hid (∀ c ∈ ps, c < 256) := hJ.1
  clear hI hJ hp he HE
  obtain ⟨S, hS⟩ : ∃ S, txt (sealed ps) = S := ⟨_, rfl⟩
  have HSS : Hid (txt (sealed ps) = S) := hS
  rw [hS] at HC
  clear hS
  have k1 : ¬ (cap = p) := by omega
  have k2 : (p : Int) ≤ (cap : Int) := by omega
  have k3 : (p : Int) ≤ (p : Int) + 4 := by omega
  obtain ⟨i0, hi, hz0, hz1, hz2⟩ := info_parts Try.info5
  have hB := (Below.refl w.heap.size w).drew
  go_enter Try.func12, Try.ntmps12
  go_wp2_with fail
  have hcb := HC.out _ hB
  go_region_with (go_at_call 8; refine (q _ hB).mono ?_; rintro e w1 ⟨v, rfl, hv, hB1⟩; have hcv := conv_txt hv; rw [HSS.out] at hcv; replace hB := hB.trans (hB1.mono hB.size); replace hcb := HC.out _ hB)
  all_goals
    have hown0 : (w1.alloc (.cells #[] 5)).ownsRow w1.heap.size 5 1 (.slice (some ⟨w1.heap.size, 0, none⟩) 0 0) 0 [] := World.ownsRow_made w1 _ 0 (Nat.le_refl _) (by decide) rfl
    have hB0 : Below w1.heap.size w1 (w1.alloc (.cells #[] 5)) := below_alloc w1 _
    clear hcv hcb
    go_wp2_with (first
      | (at_builtin; refine wpList_append_own _ rfl _ _ 22 rfl w1.heap.size 5 i0 (.int .u8 0) 1 1 Try.underlying22 hi hz0 hz1 hz2 rfl (by decide) _ 0 [] rfl hown0 ⟨b, off, none⟩ p cap (ps.map enc) rfl (by simp [HP.out]) (HV.out _ (hB.alloc hB.size _)) (enc_one ps) (by unfold maxLen; omega) (by omega) hB0.size ?_; intro v2 w3 hown1 hgrow1 _)
      | go_in)
    have hB1 := below_append (Nat.le_refl _) hB0 hown0 hgrow1
    try rw [Nat.zero_add, List.nil_append] at hown1
    go_ret2
    exact ⟨v2, rfl, bytesAt_owns HB.out (Nat.le_refl _) (by rw [HP.out]; exact hown1), hB.trans (hB1.mono hB.size)⟩

set_option maxHeartbeats 400000 in
/-- twainref05.Get, of bytes whose last four are not the sum of those ahead -/
theorem refGet5_torn (b off cap p : Nat) (ps : List Nat) (c0 c1 c2 c3 : Nat) (w : World) (hp : ps.length = p) (hp2 : p ≤ 2000) (hI : BytesAt w.heap.size w (.slice (some ⟨b, off, none⟩) (p + 4) cap) (ps ++ [c0, c1, c2, c3]))
    (he : [c0, c1, c2, c3] ≠ le4 (more 0 ps)) :
    Calls Try.prog 12 #[.slice (some ⟨b, off, none⟩) (p + 4) cap] w fun e w' => e = .returned (.tuple #[.slice none 0 0, .int .i64 10]) ∧ Below w.heap.size w w' := by
  obtain ⟨-, hJ, hcap, -⟩ := hI.tail hp
  have q := fun w' (h : Below w.heap.size w w') => refPut5_bytes (.slice (some ⟨b, off, none⟩) p cap) ps w' (by omega) ((hJ.below h).mono h.size)
  have HC : Hid (∀ W, Below w.heap.size w W → (convert 22 9 (.slice (some ⟨b, off, none⟩) (p + 4) cap)).run Try.prog W = .ok (.string (txt (ps ++ [c0, c1, c2, c3]))) W) := fun W h => conv_txt (hI.below h)
  have hne := txt_ne (sealed ps) (ps ++ [c0, c1, c2, c3]) (sealed_byte ps hJ.1) hI.1 (fun h => he (List.append_cancel_left h).symm)
  clear hI hJ hp he
  obtain ⟨S, hS⟩ : ∃ S, txt (sealed ps) = S := ⟨_, rfl⟩
  have HSS : Hid (txt (sealed ps) = S) := hS
  rw [hS] at hne
  clear hS
  generalize txt (ps ++ [c0, c1, c2, c3]) = S' at *
  have k1 : ¬ (cap = p) := by omega
  have k2 : (p : Int) ≤ (cap : Int) := by omega
  have k3 : (p : Int) ≤ (p : Int) + 4 := by omega
  have hB := (Below.refl w.heap.size w).drew
  go_enter Try.func12, Try.ntmps12
  go_wp2_with fail
  have hcb := HC.out _ hB
  go_region_with (go_at_call 8; refine (q _ hB).mono ?_; rintro e w1 ⟨v, rfl, hv, hB1⟩; have hcv := conv_txt hv; rw [HSS.out] at hcv; replace hB := hB.trans (hB1.mono hB.size); replace hcb := HC.out _ hB)
  all_goals
    go_wp2
    go_ret2
    exact ⟨rfl, hB⟩

/-- twainref05.Get -/
theorem refGet5_any (sv : Value) (bs : List Nat) (w : World) (hlen : bs.length ≤ 2004) (hI : BytesAt w.heap.size w sv bs) :
    Calls Try.prog 12 #[sv] w fun e w' => ∃ v, e = .returned (.tuple #[v, .int .i64 (gotE bs : Nat)]) ∧ BytesAt w'.heap.size w' v (gotL bs) ∧ Below w.heap.size w w' := by
  by_cases hs : bs.length < 4
  · have e1 : gotE bs = 8 := if_pos hs
    have e2 : gotL bs = [] := if_pos hs
    rw [e1, e2]
    have hN : BytesAt w.heap.size w (.slice none 0 0) [] := ⟨by simp, none, 0, rfl, fun _ => rfl, .inl rfl⟩
    obtain ⟨_, a, cap, rfl, _⟩ := hI
    generalize bs.length = len at *
    have k1 : (len : Int) < 4 := by omega
    go_enter Try.func12, Try.ntmps12
    go_wp2
    go_ret2
    exact ⟨_, rfl, hN, Below.refl _ _⟩
  · obtain ⟨c0, c1, c2, c3, hc⟩ := four_of (bs.drop (bs.length - 4)) (by simp; omega)
    obtain ⟨p, hp⟩ : ∃ p, bs.length = p + 4 := ⟨bs.length - 4, by omega⟩
    have hbs : bs = bs.take p ++ [c0, c1, c2, c3] := by
      have := List.take_append_drop (bs.length - 4) bs
      rw [hc, show bs.length - 4 = p by omega] at this
      exact this.symm
    have hpl : (bs.take p).length = p := by simp; omega
    have e1 : gotE bs = if sealed (bs.take p) = bs then 0 else 10 := by unfold gotE; rw [if_neg hs, show bs.length - 4 = p by omega]
    have e2 : gotL bs = if sealed (bs.take p) = bs then bs.take p else [] := by unfold gotL; rw [if_neg hs, show bs.length - 4 = p by omega]
    obtain ⟨b, off, cap, rfl⟩ : ∃ b off cap, sv = .slice (some ⟨b, off, none⟩) (p + 4) cap := by
      obtain ⟨_, a, cap, e, _, rfl | ⟨b, off, e2, _⟩⟩ := hI
      · simp at hs
      · exact ⟨b, off, cap, by rw [e, e2, hp]⟩
    have hiff : sealed (bs.take p) = bs ↔ [c0, c1, c2, c3] = le4 (more 0 (bs.take p)) := by
      constructor
      · intro h
        rw [sealed] at h
        conv at h => rhs; rw [hbs]
        exact (List.append_cancel_left h).symm
      · intro h
        rw [sealed, ← h]
        exact hbs.symm
    rw [e1, e2]
    have hI2 := hI
    rw [hbs] at hI2
    by_cases hq : sealed (bs.take p) = bs
    · rw [if_pos hq, if_pos hq]
      exact refGet5_sealed b off cap p (bs.take p) c0 c1 c2 c3 w hpl (by omega) hI2 (hiff.1 hq)
    · rw [if_neg hq, if_neg hq]
      refine (refGet5_torn b off cap p (bs.take p) c0 c1 c2 c3 w hpl (by omega) hI2 (fun h => hq (hiff.2 h))).mono ?_
      rintro e w' ⟨rfl, hB⟩
      exact ⟨_, rfl, ⟨by simp, none, 0, rfl, fun _ => rfl, .inl rfl⟩, hB⟩

end Go.Proofs.Ytkiaeeojgcmcaaa
