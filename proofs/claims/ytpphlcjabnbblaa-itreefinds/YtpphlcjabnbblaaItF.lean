/-
  What is asked of a tree in memory (Spec), whatever it is made of; both trees, alike; the walks of has and bits of twainlaw14.
-/
import Derived.Test.YtpphlcjabnbblaaItE
namespace Go.Proofs.Ytpphlcjabnbblaa.Itree
open Go.RowKit

theorem kept_youngs {L M : List Nat} {a b c : World} (h : Kept L a b) (k : Kept M b c) (hM : ∀ x ∈ M, x ∈ L ∨ a.heap.size ≤ x) : Kept L a c :=
  ⟨k.os.trans h.os, k.tape.trans h.tape, k.output.trans h.output, Nat.le_trans h.size k.size, fun i hi hL => (k.block i (Nat.lt_of_lt_of_le hi h.size) (fun hm => by
    rcases hM i hm with e | e
    · exact hL e
    · omega)).trans (h.block i hi hL)⟩
theorem RT.lt {W : World} {r : Nat} {ob : Option Nat} {L : List It} (h : RT W r ob L) : r < W.heap.size ∧ ∀ b, ob = some b → b < W.heap.size := by
  obtain ⟨v, h1, a, cap, rfl, _, _, ⟨_, h2, _⟩ | ⟨b, off, _, h2, h3, _⟩⟩ := h.row
  · exact ⟨h1.lt, fun b e => by rw [h2] at e; cases e⟩
  · refine ⟨h1.lt, fun b' e => ?_⟩
    rw [h2] at e
    injection e with e
    omega
/-- How many bits a number has. -/
def bitsN : Nat → Nat
  | 0 => 0
  | n + 1 => bitsN ((n + 1) / 2) + 1
  decreasing_by omega
/-- What is asked of a tree at block p, of the blocks F, that has the items L. -/
structure Spec (T : World → Nat → List Nat → List It → Prop) : Prop where
  lt : ∀ {W p F L}, T W p F L → ∀ k ∈ F, k < W.heap.size
  kept : ∀ {K A B p F L}, T A p F L → Kept K A B → (∀ k ∈ F, k ∉ K) → T B p F L
  make : ∀ w, Calls Try.prog 8 #[] w fun e w' => ∃ p F, e = .returned (.pointer (some ⟨p, 0, none⟩)) ∧ T w' p F [] ∧ (∀ k ∈ F, w.heap.size ≤ k) ∧ Kept [] w w'
  insert : ∀ (w : World) (p : Nat) (F : List Nat) (L : List It) (x : It), T w p F L → Sorted L → L.length ≤ 600 → x.Ok →
    Calls Try.prog 11 #[.pointer (some ⟨p, 0, none⟩), .agg #[.int .i64 x.o, .int .i64 x.l], .int .i64 x.i] w fun e w' => ∃ F', e = .returned (.bool (insOk L x)) ∧ T w' p F' (insL L x) ∧ (∀ k ∈ F', k ∈ F ∨ w.heap.size ≤ k) ∧ Kept F w w'
  delete : ∀ (w : World) (p : Nat) (F : List Nat) (L : List It) (x : It), T w p F L → Sorted L → L.length ≤ 600 → x.Ok →
    Calls Try.prog 9 #[.pointer (some ⟨p, 0, none⟩), .agg #[.int .i64 x.o, .int .i64 x.l], .int .i64 x.i] w fun e w' => ∃ F', e = .returned (.bool (there L x)) ∧ T w' p F' (delL L x) ∧ (∀ k ∈ F', k ∈ F ∨ w.heap.size ≤ k) ∧ Kept F w w'
  overlaps : ∀ (w : World) (p : Nat) (F : List Nat) (L : List It) (o l : Int), T w p F L → Sorted L → L.length ≤ 600 → (It.mk o l 0).Ok →
    Calls Try.prog 16 #[.pointer (some ⟨p, 0, none⟩), .agg #[.int .i64 o, .int .i64 l]] w fun e w' => ∃ v, e = .returned v ∧ Bits.IntsAt w'.heap.size w' v (ovL L o l) ∧ Kept [] w w'
  any : ∀ (w : World) (p : Nat) (F : List Nat) (L : List It) (o l : Int), T w p F L → Sorted L → L.length ≤ 600 → (It.mk o l 0).Ok →
    Calls Try.prog 17 #[.pointer (some ⟨p, 0, none⟩), .agg #[.int .i64 o, .int .i64 l]] w fun e w' => e = .returned (.bool (decide (0 < (ovL L o l).length))) ∧ Kept [] w w'
  len : ∀ (w : World) (p : Nat) (F : List Nat) (L : List It), T w p F L → L.length ≤ 600 → Calls Try.prog 14 #[.pointer (some ⟨p, 0, none⟩)] w fun e w' => e = .returned (.int .i64 (L.length : Nat)) ∧ Kept [] w w'
  ids : ∀ (w : World) (p : Nat) (F : List Nat) (L : List It), T w p F L → Sorted L → L.length ≤ 600 → Calls Try.prog 18 #[.pointer (some ⟨p, 0, none⟩)] w fun e w' => ∃ v, e = .returned v ∧ Bits.IntsAt w'.heap.size w' v (idsL L) ∧ Kept [] w w'
  height : ∀ (w : World) (p : Nat) (F : List Nat) (L : List It), T w p F L → L.length ≤ 600 → Calls Try.prog 20 #[.pointer (some ⟨p, 0, none⟩)] w fun e w' => ∃ n : Nat, e = .returned (.int .i64 (n : Int)) ∧ n ≤ 2 * bitsN (L.length + 1) ∧ Kept [] w w'
/-- Both trees, alike; what they are made of lies from base on. -/
structure Duo (T : World → Nat → List Nat → List It → Prop) (W : World) (base p : Nat) (F : List Nat) (r : Nat) (ob : Option Nat) (L : List It) : Prop where
  tree : T W p F L
  ref : RT W r ob L
  sorted : Sorted L
  apart : r ∉ F ∧ ∀ b, ob = some b → b ∉ F
  young : (∀ k ∈ F, base ≤ k) ∧ base ≤ r ∧ ∀ b, ob = some b → base ≤ b
theorem Duo.kept {T : World → Nat → List Nat → List It → Prop} (hS : Spec T) {A B : World} {base p r : Nat} {F : List Nat} {ob : Option Nat} {L : List It} (h : Duo T A base p F r ob L) (hk : Kept [] A B) : Duo T B base p F r ob L :=
  ⟨hS.kept h.tree hk (by simp), h.ref.kept hk (by simp) (by simp), h.sorted, h.apart, h.young⟩
theorem Duo.ref_kept {T : World → Nat → List Nat → List It → Prop} {A B : World} {base p r : Nat} {F : List Nat} {ob : Option Nat} {L : List It} (h : Duo T A base p F r ob L) (hk : Kept F A B) : RT B r ob L := h.ref.kept hk h.apart.1 h.apart.2
/-- Behind a call that turns the one, and then the other. -/
theorem Duo.turned {T : World → Nat → List Nat → List It → Prop} (hS : Spec T) {A B C : World} {base p r : Nat} {F F' : List Nat} {ob ob' : Option Nat} {L L' : List It} (h : Duo T A base p F r ob L) (hb : base ≤ A.heap.size)
    (t1 : T B p F' L') (hF : ∀ k ∈ F', k ∈ F ∨ A.heap.size ≤ k) (k1 : Kept F A B) (t2 : RT C r ob' L') (hob : ∀ k, ob' = some k → ob = some k ∨ B.heap.size ≤ k) (k2 : Kept [r] B C) (hs : Sorted L') :
    Duo T C base p F' r ob' L' ∧ Kept (r :: F) A C := by
  have hrlt := h.ref.lt
  have hr : r ∉ F' := fun hm => by
    rcases hF r hm with e | e
    · exact h.apart.1 e
    · omega
  have hlt := hS.lt t1
  refine ⟨⟨hS.kept t1 k2 (fun k hk hm => by simp at hm; subst hm; exact hr hk), t2, hs, ⟨hr, fun b e hm => ?_⟩, ⟨fun k hk => ?_, h.young.2.1, fun b e => ?_⟩⟩, (k1.mono (by simp; exact fun a h => .inr h)).trans (k2.mono (by simp))⟩
  · rcases hob b e with e' | e'
    · have := hrlt.2 b e'
      rcases hF b hm with hm' | hm'
      · exact h.apart.2 b e' hm'
      · omega
    · have := hlt b hm
      omega
  · rcases hF k hk with e | e
    · exact h.young.1 k e
    · omega
  · rcases hob b e with e' | e'
    · exact h.young.2.2 b e'
    · have := k1.size
      omega

theorem bitsN_step {m : Nat} (h : 0 < m) : bitsN m = bitsN (m / 2) + 1 := by
  cases m with
  | zero => omega
  | succ m => rw [bitsN]
theorem bitsN_zero : bitsN 0 = 0 := by rw [bitsN]
theorem bitsN_le : ∀ m : Nat, bitsN m ≤ m := fun m => by
  induction m using Nat.strongRecOn with
  | _ m ih =>
    by_cases h : 0 < m
    · rw [bitsN_step h]
      have := ih (m / 2) (by omega)
      omega
    · obtain rfl : m = 0 := by omega
      rw [bitsN_zero]
      exact Nat.le_refl _

set_option maxRecDepth 100000 in
/-- bits -/
theorem bits14_any (n : Nat) (hn : n ≤ 1000000) (w : World) : Calls Try.prog 21 #[.int .i64 (n : Int)] w fun e w' => e = .returned (.int .i64 (bitsN n : Nat)) ∧ w' = w := by
  have hle := bitsN_le n
  go_enter Try.func21, Try.ntmps21
  go_wp2_with fail
  go_loopw [0, 3] (fun a b wr => ∃ m k : Nat, a = .int .i64 m ∧ b = .int .i64 k ∧ Hid (bitsN m + k = bitsN n) ∧ m ≤ n ∧ wr = w) (fun a _ _ => (RowKit.intOf a).toNat)
  case atStart => exact ⟨n, 0, rfl, rfl, Nat.add_zero _, Nat.le_refl _, rfl⟩
  case round =>
    obtain ⟨m, k, rfl, rfl, he, hm, rfl⟩ := hrel
    by_cases h0 : 0 < m
    · have e1 : (0 : Int) < (m : Int) := by omega
      have hk : (k : Int) + 1 < 9223372036854775808 := by
        have := he.out
        omega
      have he2 : Hid (bitsN (m / 2) + (k + 1) = bitsN n) := by
        show _ = _
        have h1 := he.out
        rw [bitsN_step h0] at h1
        omega
      have hm1 : Hid (((m : Int) / 2).toNat < m) := by show _ < _; omega
      go_wp2_with fail
      go_roundw
      case rel => exact ⟨m / 2, k + 1, rfl, by go_num, he2, by omega, by trivial⟩
      case measure => simpa [RowKit.intOf] using hm1.out
    · obtain rfl : m = 0 := by omega
      have h1 := he.out
      rw [bitsN_zero, Nat.zero_add] at h1
      subst h1
      go_wp2_with fail
      go_ret
      exact ⟨rfl, rfl⟩
set_option maxRecDepth 100000 in
/-- has -/
theorem has14_any (v : Value) (l : List Int) (n : Int) (w : World) (hl : l.length ≤ 1000000) (h : Bits.IntsAt w.heap.size w v l) :
    Calls Try.prog 22 #[v, .int .i64 n] w fun e w' => e = .returned (.bool (decide (n ∈ l))) ∧ w' = w := by
  obtain ⟨a, cap, rfl, hrow⟩ := h
  obtain ⟨len, hlen⟩ : ∃ len, l.length = len := ⟨_, rfl⟩
  rw [hlen] at hl hrow
  rw [hlen]
  replace hlen : Hid (l.length = len) := hlen
  go_enter Try.func22, Try.ntmps22
  go_wp2_with fail
  go_loopw [9] (fun i wr => ∃ j : Nat, j ≤ len ∧ i = .int .i64 j ∧ Hid (n ∉ l.take j) ∧ wr = w) (fun i _ => len - (RowKit.intOf i).toNat)
  case atStart => exact ⟨0, by omega, rfl, by show _ ∉ _; simp, rfl⟩
  case round =>
    obtain ⟨j, hj, rfl, hno, rfl⟩ := hrel
    by_cases hlt : j < len
    · obtain h4 | ⟨b, off, rfl, hb, hcs⟩ := hrow
      · have := hlen.out
        rw [h4] at this
        simp at this
        omega
      have c0 := hcs j hlt
      have hj' : j < l.length := by rw [hlen.out]; exact hlt
      obtain ⟨y, hy⟩ : ∃ y, l[j]? = some y := ⟨_, List.getElem?_eq_getElem hj'⟩
      rw [hy] at c0
      simp only [Option.getD_some] at c0
      have i1 : (j : Int) < (len : Int) := by omega
      have hm1 : Hid (len - (j + 1) < len - j) := by show _ < _; omega
      have hcap : True := trivial
      clear hcs
      by_cases hyn : y = n
      · have hd : Hid (decide (n ∈ l) = true) := by
          show _ = _
          rw [decide_eq_true_iff, ← hyn]
          exact List.mem_of_getElem? hy
        have e1 : (y == n) = true := by simpa using hyn
        clear hyn hy hno
        go_wp2_with fail
        go_ret
        rw [hd.out]
        exact ⟨rfl, rfl⟩
      · have e1 : (y == n) = false := by simpa using hyn
        have hno' : Hid (n ∉ l.take (j + 1)) := by
          show _ ∉ _
          rw [List.take_add_one, hy]
          simp
          exact ⟨hno.out, fun e => hyn e.symm⟩
        clear hyn hy hno
        go_wp2_with fail
        go_roundw
        case rel => exact ⟨j + 1, by omega, by go_num, hno', by trivial⟩
        case measure => simpa [RowKit.intOf] using hm1.out
    · obtain rfl : j = len := by omega
      have et : l.take j = l := List.take_of_length_le (by rw [hlen.out]; exact Nat.le_refl _)
      have h1 := hno.out
      rw [et] at h1
      clear hrow et
      have hd : Hid (decide (n ∈ l) = false) := by show _ = _; simp [h1]
      clear h1
      go_wp2_with fail
      go_ret
      rw [hd.out]
      exact ⟨rfl, rfl⟩
end Go.Proofs.Ytpphlcjabnbblaa.Itree
