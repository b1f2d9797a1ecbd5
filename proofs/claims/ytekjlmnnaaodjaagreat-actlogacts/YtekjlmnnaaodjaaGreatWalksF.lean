/-
  The walks of the disk's functions over all that is cached: Cached, empty, Flush, Crash; and Copy.
-/
import Derived.Test.YtekjlmnnaaodjaaGreatWalksE
namespace Go.Proofs.YtekjlmnnaaodjaaGreat
open Go.RowKit Go.Maps Go.Shelf
open Math

/-- A slice that holds numbers, in a block of its own from base on. -/
def Nums (W : World) (base : Nat) (v : Value) (l : List Nat) : Prop := W.ownsRow base 3 1 v l.length (l.map fun i : Nat => Value.int .i64 (i : Int))
theorem valid_keys {s : Dk} (h : Valid s) : ∀ k, s.fresh k ≠ none → 0 ≤ k ∧ k < s.size := fun k hk => by
  obtain ⟨x, hx⟩ := Option.ne_none_iff_exists'.1 hk
  have := h.fresh k x hx
  exact ⟨this.1, this.2.1⟩
set_option maxRecDepth 100000 in
set_option maxHeartbeats 400000 in
/-- Cached -/
theorem cached_any (d b1 b2 : Nat) (s : Dk) (w : World) (h : DiskAt w d b1 b2 s) :
    Calls Tryz.prog 41 #[.pointer (some ⟨d, 0, none⟩)] w fun e w' => ∃ v, e = .returned v ∧ Nums w' w.heap.size v (keys s) ∧ Kept [] w w' := by
  have q := made_any d b1 b2 s w h
  have c2 := h.six.2.2.1
  have qk := keys_any (some b2) w
  have qs := sorted_any b2 s.fresh s.size w h.fresh (valid_keys h.valid)
  go_enter Tryz.func41, Tryz.ntmps41
  go_wp2_with (first
    | (go_at_call 18; refine q.mono ?_; rintro e w' ⟨rfl, rfl⟩)
    | (go_at_call 60; refine qk.mono ?_; rintro e w' ⟨rfl, rfl⟩)
    | (go_at_call 59; refine qs.mono ?_; rintro e w' ⟨v, rfl, hrow, hB⟩))
  go_ret
  exact ⟨v, rfl, hrow, (kept_alloc _ _ _).trans (Kept.of_below (by simpa using hB) [])⟩
theorem Nums.kept {A B : World} {base : Nat} {v : Value} {l : List Nat} {L : List Nat} (h : Nums A base v l) (hk : Kept L A B) (hL : ∀ k ∈ L, k < base) : Nums B base v l := by
  obtain ⟨hl, h | ⟨g, cap, cur, e, hg, hc, r⟩⟩ := h
  · exact ⟨hl, .inl h⟩
  · exact ⟨hl, .inr ⟨g, cap, cur, e, hg, (hk.block g (Array.getElem?_eq_some_iff.1 hc).1 (fun hm => by have := hL g hm; omega)).trans hc, r⟩⟩
/-- A slice with numbers in it: where, and what its cells hold. -/
theorem Nums.open {W : World} {base : Nat} {v : Value} {l : List Nat} (h : Nums W base v l) : (v = .slice none 0 0 ∧ l = []) ∨ ∃ g cap, v = .slice (some ⟨g, 0, none⟩) l.length cap ∧ base ≤ g ∧ g < W.heap.size ∧ l.length ≤ cap ∧ ∀ j k : Nat, l[j]? = some k → W.cell? ⟨g, j, none⟩ = some (.int .i64 (k : Int)) := by
  obtain ⟨hl, ⟨e, h0⟩ | ⟨g, cap, cur, e, hg, hc, hcap, _, hcs, ht⟩⟩ := h
  · exact .inl ⟨e, List.eq_nil_of_length_eq_zero h0⟩
  · refine .inr ⟨g, cap, e, hg, (Array.getElem?_eq_some_iff.1 hc).1, hcap, fun j k hj => ?_⟩
    rw [cell_of_row W g j _ 3 (0, 0) hc]
    have hjl : j < l.length := (List.getElem?_eq_some_iff.1 hj).1
    have : (cur.toList.take (l.length * 1))[j]? = some (.int .i64 (k : Int)) := by
      rw [ht, List.getElem?_map, hj]
      rfl
    rw [List.getElem?_take_of_lt (by omega)] at this
    simpa using this

/-- The bit of a mask, as the program reads it. -/
theorem mask_bit (mask j : Nat) (hm : mask < 18446744073709551616) : bits BinOp.and IntKind.u64 ((mask : Int) / 2 ^ (j % 64)) 1 = if bit mask j then 1 else 0 := by
  have hd : mask / 2 ^ (j % 64) < 18446744073709551616 := Nat.lt_of_le_of_lt (Nat.div_le_self _ _) hm
  have e : ((mask : Int) / 2 ^ (j % 64)) = ((mask / 2 ^ (j % 64) : Nat) : Int) := by
    rw [Int.natCast_ediv, Int.natCast_pow]
    rfl
  rw [e]
  have := u64_and_nat (mask / 2 ^ (j % 64)) 1 hd (by omega)
  rw [Nat.and_one_is_mod] at this
  refine Eq.trans this ?_
  unfold bit
  by_cases hb : mask / 2 ^ (j % 64) % 2 = 1
  · rw [if_pos (decide_eq_true hb), hb]
    rfl
  · rw [if_neg (by simpa using hb), show mask / 2 ^ (j % 64) % 2 = 0 by omega]
    rfl

/-- What is cached, struck. -/
theorem DiskAt.struck {A B : World} {d b1 b2 : Nat} {s : Dk} (h : DiskAt A d b1 b2 s) {k : Int} (hh : Holds B b2 (upd s.fresh k none)) (hk : Kept [b2] A B) : DiskAt B d b1 b2 { s with fresh := upd s.fresh k none } := by
  have n2 := h.ne2
  have hap := h.apart
  obtain ⟨m, hm, hv⟩ := h.safe
  refine ⟨(hk.block d h.lt.1 (by simpa using n2.symm)).trans h.cells, ⟨m, hm.kept hk (by simpa using hap), hv⟩, hh, hap, h.valid.pos, h.valid.top, fun j x hx => ?_, h.valid.safe, h.valid.out, h.valid.low, h.valid.high⟩
  by_cases e : j = k
  · subst e
    simp [upd_same] at hx
  · simp only [upd_other _ _ e] at hx
    exact h.valid.fresh j x hx

set_option maxRecDepth 100000 in
set_option maxHeartbeats 1000000 in
/-- empty -/
theorem empty_any (d b1 b2 : Nat) (s : Dk) (mask : Nat) (hmask : mask < 18446744073709551616) (w : World) (h : DiskAt w d b1 b2 s) :
    Calls Tryz.prog 23 #[.pointer (some ⟨d, 0, none⟩), .int .u64 (mask : Int)] w fun e w' => e = .returned (.tuple #[]) ∧ DiskAt w' d b1 b2 (spent s mask) ∧ Kept [d, b1, b2] w w' := by
  have q := cached_any d b1 b2 s w h
  have hlt := h.lt
  have hv := h.valid
  have hlen : (keys s).length ≤ 1024 := Nat.le_trans (below_length _ _) hv.top
  go_enter Tryz.func23, Tryz.ntmps23
  go_wp2_with (go_at_call 41; refine q.mono ?_; rintro e w1 ⟨v, rfl, hn, hk⟩; rcases hn.open with ⟨rfl, hnil⟩ | ⟨g, cap, rfl, hg, hg2, hcap, hcells⟩)
  · rw [hnil] at hlen
    go_loopw [9] (fun i wr => i = .int .i64 0 ∧ wr = w1) (fun _ _ => 0)
    case atStart => exact ⟨rfl, rfl⟩
    case round =>
      obtain ⟨rfl, rfl⟩ := hrel
      go_wp2
      go_end0
      have e := part_end hv mask
      rw [hnil] at e
      rw [← e, List.length_nil, part_start]
      exact ⟨rfl, h.kept hk (by simp) (by simp) (by simp), hk.mono (by simp)⟩
  · have hD := h.kept hk (by simp) (by simp) (by simp)
    obtain ⟨n, hn0⟩ : ∃ n, (keys s).length = n := ⟨_, rfl⟩
    rw [hn0] at hlen hcap ⊢
    have HN : Hid ((keys s).length = n) := hn0
    clear hn0
    go_loopw [9] (fun i wr => ∃ j : Nat, j ≤ n ∧ i = .int .i64 j ∧ DiskAt wr d b1 b2 (Math.part s mask j) ∧ Kept [d, b1, b2] w1 wr) (fun i _ => n - (RowKit.intOf i).toNat)
    case atStart => exact ⟨0, by omega, rfl, by rw [part_start]; exact hD, Kept.refl _ _⟩
    case round =>
      obtain ⟨j, hj, rfl, hP, hK⟩ := hrel
      by_cases hlt' : j < n
      · obtain ⟨k, hkj⟩ : ∃ k, (keys s)[j]? = some k := ⟨_, List.getElem?_eq_getElem (by rw [HN.out]; exact hlt')⟩
        obtain ⟨x, hx, hsx, hfx, hks, hst⟩ := part_step hv mask j k hkj
        have hc := hcells j k hkj
        have hc' : wr.cell? ⟨g, j, none⟩ = some (.int .i64 (k : Int)) := by
          have := hK.block g hg2 (by simp; omega)
          rw [World.cell?_of_block (w := w1) (w' := wr) this]
          exact hc
        have k1 : (j : Int) < (n : Int) := by omega
        have c2 := hP.six.2.2.1
        have hlk := (hP.fresh.look (k := (k : Int)) (by omega) (by have := hv.top; omega)).1
        rw [hfx] at hlk
        simp only [Option.getD_some] at hlk
        have hb1 := mask_bit mask j hmask
        have htop := hv.top
        have hm1 : Hid (n - (j + 1) < n - j) := by show _ < _; omega
        by_cases hb : bit mask j = true
        · rw [if_pos hb] at hb1
          rw [if_pos hb] at hst
          replace hst : Hid _ := hst
          have qs := settle_any d b1 b2 (Math.part s mask j) k x (by omega) (by exact_mod_cast hks) hsx wr hP
          clear h hD hn hcells hc q
          go_wp2_with (first
            | (go_at_call 42; refine qs.mono ?_; rintro e w2 ⟨rfl, hD2, hk2⟩; have c2' := hD2.six.2.2.1)
            | (at_delete; refine wpList_delete_holds rfl _ _ rfl b2 _ (k : Int) rfl rfl hD2.fresh (by omega) (by omega) ?_; intro w3 hh3 hk3 hs3))
          go_roundw
          case rel =>
            refine ⟨j + 1, by omega, rfl, ?_, (hK.trans (hk2.mono (by simp))).trans (hk3.mono (by simp))⟩
            rw [hst.out]
            exact hD2.struck hh3 hk3
          case measure => simpa [RowKit.intOf] using hm1.out
        · replace hb : bit mask j = false := by simpa using hb
          rw [if_neg (by simp [hb])] at hb1 hst
          replace hst : Hid _ := hst
          clear h hD hn hcells hc q
          go_wp2_with (first
            | (at_delete; refine wpList_delete_holds rfl _ _ rfl b2 _ (k : Int) rfl rfl hP.fresh (by omega) (by omega) ?_; intro w3 hh3 hk3 hs3))
          go_roundw
          case rel =>
            refine ⟨j + 1, by omega, rfl, ?_, hK.trans (hk3.mono (by simp))⟩
            rw [hst.out]
            exact hP.struck hh3 hk3
          case measure => simpa [RowKit.intOf] using hm1.out
      · obtain rfl : j = n := by omega
        have e := part_end hv mask
        rw [HN.out] at e
        rw [e] at hP
        clear h hD hn hcells q
        go_wp2
        go_end0
        exact ⟨rfl, hP, (hk.mono (by simp)).trans hK⟩
end Go.Proofs.YtekjlmnnaaodjaaGreat
