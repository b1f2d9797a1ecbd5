/-
  The walk of the document's Put of layer 5.
-/
import Derived.Test.YtekjlmnnaaodjaaGreatSealF
namespace Go.Proofs.YtekjlmnnaaodjaaGreat.Seal
open Go.RowKit
open Math
open Crc

theorem lay4_take (k m : Nat) (h : k < 4) : (le4 m).take (k + 1) = (le4 m).take k ++ [m / 256 ^ k % 256] := by
  match k, h with
  | 0, _ => simp [le4]
  | 1, _ => simp [le4]
  | 2, _ => simp [le4]
  | 3, _ => simp [le4]

set_option maxRecDepth 100000 in
set_option maxHeartbeats 800000 in
/-- twainref05.Put, of some bytes -/
theorem refPut5_some (a : Addr) (len cap : Nat) (bs : List Nat) (w : World) (hlen : bs.length = len) (hb : len ≤ 2000) (hI : BytesAt w.heap.size w (.slice (some a) len cap) bs) :
    Calls Tryz.prog 56 #[.slice (some a) len cap] w fun e w' => ∃ v, e = .returned v ∧ w'.ownsRow w.heap.size 5 1 v (len + 4) ((sealed bs).map enc) ∧ Below w.heap.size w w' := by
  have hm := more_lt (s := 0) (bs := bs) (by omega) hI.1
  have q := fun w' (h : Below w.heap.size w w') => refSum_any (.slice (some a) len cap) bs w' (by omega) ((hI.below h).mono h.size)
  have HC : Hid (∀ j u, (bs.map enc)[j]? = some u → (w.alloc (.cells #[] 5)).cell? (a.add j) = some u) := (hI.below (below_alloc w _)).values
  have HS : Hid (sealed bs = bs ++ le4 (more 0 bs)) := rfl
  generalize more 0 bs = m at *
  obtain ⟨i0, hi, hz0, hz1, hz2⟩ := info_parts Tryz.info5
  have HL : Hid (bs.length = len) := hlen
  clear hlen hI
  have hown0 : (w.alloc (.cells #[] 5)).ownsRow w.heap.size 5 1 (.slice (some ⟨w.heap.size, 0, none⟩) 0 0) 0 [] := World.ownsRow_made w _ 0 (Nat.le_refl _) (by decide) rfl
  have hB0 : Below w.heap.size w (w.alloc (.cells #[] 5)) := below_alloc w _
  go_enter Tryz.func56, Tryz.ntmps56
  go_wp2_with (first
    | (at_builtin; refine wpList_append_own _ rfl _ _ 88 rfl w.heap.size 5 i0 (.int .u8 0) 1 1 Tryz.underlying88 hi hz0 hz1 hz2 rfl (by decide) _ 0 [] rfl hown0 a len cap (bs.map enc) rfl ?c0 ?c1 ?c2 ?c3 ?c4 ?c5 ?_)
    | go_in)
  case c0 => simp [HL.out]
  case c1 => exact HC.out
  case c2 => exact enc_one bs
  case c3 => unfold maxLen; omega
  case c4 => omega
  case c5 => simp
  intro v1 w1 hown1 hgrow1 _
  have hB1 := below_append (Nat.le_refl _) hB0 hown0 hgrow1
  try rw [Nat.zero_add, List.nil_append] at hown1
  clear hown0 hB0 hgrow1 HC
  go_wp2_with (go_at_call 69; refine (q _ hB1).mono ?_; rintro e w1 ⟨rfl, rfl⟩)
  clear q
  go_loopw [3, 4, 5] (fun v s i wr => ∃ k : Nat, k ≤ 4 ∧ i = .int .i64 k ∧ s = .int .u32 ((m / 256 ^ k : Nat) : Int) ∧ wr.ownsRow w.heap.size 5 1 v (len + k) ((bs ++ (le4 m).take k).map enc) ∧ Below w.heap.size w wr) (fun _ _ i _ => 4 - (intOf i).toNat)
  case atStart => exact ⟨0, by omega, rfl, by simp, by simpa using hown1, hB1⟩
  case round =>
    obtain ⟨k, hk, rfl, rfl, hown, hB⟩ := hrel
    clear hown1 hB1
    by_cases hlt : k < 4
    · have hy : m / 256 ^ k < 4294967296 := Nat.lt_of_le_of_lt (Nat.div_le_self _ _) hm
      have HD : Hid (m / 256 ^ k / 256 = m / 256 ^ (k + 1)) := div_pow_succ _ _
      have HT : Hid ((le4 m).take (k + 1) = (le4 m).take k ++ [m / 256 ^ k % 256]) := lay4_take k m hlt
      generalize m / 256 ^ k = y at *
      go_wp2_with (first
        | (at_builtin; refine wpList_append_own _ rfl _ _ 88 rfl w.heap.size 5 i0 (.int .u8 0) 1 1 Tryz.underlying88 hi hz0 hz1 hz2 rfl (by decide) _ _ _ rfl (hown.alloc _) ⟨World.heap _ |>.size, 0, none⟩ 1 1 [.int .u8 ((y : Int) % 256)] rfl rfl ?c1 ?c2 ?c3 ?c4 ?c5 ?_)
        | go_in)
      case c1 => exact cell_one_new _ _ _
      case c2 => intro u hu; simp at hu; subst hu; rfl
      case c3 => unfold maxLen; omega
      case c4 => omega
      case c5 => have := hB.size; simp; omega
      intro v' w1 hown' hgrow _
      have hB' := below_append (Nat.le_refl _) (hB.alloc hB.size _) (hown.alloc _) hgrow
      have hr1 : w1.ownsRow w.heap.size 5 1 v' (len + (k + 1)) ((bs ++ (le4 m).take (k + 1)).map enc) := by
        rw [HT.out, List.map_append, List.map_append, List.map_take]; exact hown'
      clear hown' hgrow hown hB
      go_wp2
      go_roundw
      case rel => exact ⟨k + 1, by omega, by go_num, by rw [← HD.out]; first | rfl | go_num, hr1, hB'⟩
      case measure => simp [intOf] <;> omega
    · obtain rfl : k = 4 := by omega
      go_wp2
      go_ret
      exact ⟨_, rfl, by rw [HS.out]; exact hown, hB⟩

set_option maxRecDepth 100000 in
set_option maxHeartbeats 800000 in
/-- twainref05.Put, of nothing -/
theorem refPut5_none (w : World) :
    Calls Tryz.prog 56 #[.slice none 0 0] w fun e w' => ∃ v, e = .returned v ∧ w'.ownsRow w.heap.size 5 1 v 4 ((sealed []).map enc) ∧ Below w.heap.size w w' := by
  have hI : BytesAt w.heap.size w (.slice none 0 0) [] := ⟨by simp, none, 0, rfl, fun _ => rfl, .inl rfl⟩
  have hm := more_lt (s := 0) (bs := []) (by omega) hI.1
  have q := fun w' (h : Below w.heap.size w w') => refSum_any (.slice none 0 0) [] w' (by simp) ((hI.below h).mono h.size)
  have HS : Hid (sealed [] = le4 (more 0 [])) := rfl
  generalize more 0 [] = m at *
  obtain ⟨i0, hi, hz0, hz1, hz2⟩ := info_parts Tryz.info5
  clear hI
  have hown1 : (w.alloc (.cells #[] 5)).ownsRow w.heap.size 5 1 (.slice (some ⟨w.heap.size, 0, none⟩) 0 0) 0 [] := World.ownsRow_made w _ 0 (Nat.le_refl _) (by decide) rfl
  have hB1 : Below w.heap.size w (w.alloc (.cells #[] 5)) := below_alloc w _
  go_enter Tryz.func56, Tryz.ntmps56
  go_wp2_with (go_at_call 69; refine (q _ hB1).mono ?_; rintro e w1 ⟨rfl, rfl⟩)
  clear q
  go_loopw [3, 4, 5] (fun v s i wr => ∃ k : Nat, k ≤ 4 ∧ i = .int .i64 k ∧ s = .int .u32 ((m / 256 ^ k : Nat) : Int) ∧ wr.ownsRow w.heap.size 5 1 v k (((le4 m).take k).map enc) ∧ Below w.heap.size w wr) (fun _ _ i _ => 4 - (intOf i).toNat)
  case atStart => exact ⟨0, by omega, rfl, by simp, by simpa using hown1, hB1⟩
  case round =>
    obtain ⟨k, hk, rfl, rfl, hown, hB⟩ := hrel
    clear hown1 hB1
    by_cases hlt : k < 4
    · have hy : m / 256 ^ k < 4294967296 := Nat.lt_of_le_of_lt (Nat.div_le_self _ _) hm
      have HD : Hid (m / 256 ^ k / 256 = m / 256 ^ (k + 1)) := div_pow_succ _ _
      have HT : Hid ((le4 m).take (k + 1) = (le4 m).take k ++ [m / 256 ^ k % 256]) := lay4_take k m hlt
      generalize m / 256 ^ k = y at *
      go_wp2_with (first
        | (at_builtin; refine wpList_append_own _ rfl _ _ 88 rfl w.heap.size 5 i0 (.int .u8 0) 1 1 Tryz.underlying88 hi hz0 hz1 hz2 rfl (by decide) _ _ _ rfl (hown.alloc _) ⟨World.heap _ |>.size, 0, none⟩ 1 1 [.int .u8 ((y : Int) % 256)] rfl rfl ?c1 ?c2 ?c3 ?c4 ?c5 ?_)
        | go_in)
      case c1 => exact cell_one_new _ _ _
      case c2 => intro u hu; simp at hu; subst hu; rfl
      case c3 => unfold maxLen; omega
      case c4 => omega
      case c5 => have := hB.size; simp; omega
      intro v' w1 hown' hgrow _
      have hB' := below_append (Nat.le_refl _) (hB.alloc hB.size _) (hown.alloc _) hgrow
      have hr1 : w1.ownsRow w.heap.size 5 1 v' (k + 1) (((le4 m).take (k + 1)).map enc) := by
        rw [HT.out, List.map_append, List.map_take]; exact hown'
      clear hown' hgrow hown hB
      go_wp2
      go_roundw
      case rel => exact ⟨k + 1, by omega, by go_num, by rw [← HD.out]; first | rfl | go_num, hr1, hB'⟩
      case measure => simp [intOf] <;> omega
    · obtain rfl : k = 4 := by omega
      go_wp2
      go_ret
      exact ⟨_, rfl, by rw [HS.out]; exact hown, hB⟩

set_option maxRecDepth 100000 in
/-- twainref05.Put -/
theorem refPut5_any (sv : Value) (bs : List Nat) (w : World) (hb : bs.length ≤ 2000) (hI : BytesAt w.heap.size w sv bs) :
    Calls Tryz.prog 56 #[sv] w fun e w' => ∃ v, e = .returned v ∧ w'.ownsRow w.heap.size 5 1 v (bs.length + 4) ((sealed bs).map enc) ∧ Below w.heap.size w w' := by
  obtain ⟨_, a, cap, rfl, hn, h⟩ := id hI
  cases a with
  | none =>
    obtain rfl := hn rfl
    rcases h with rfl | ⟨b, off, e, _⟩
    · exact refPut5_none w
    · simp at e
  | some a => exact refPut5_some a _ cap bs w rfl hb hI

end Go.Proofs.YtekjlmnnaaodjaaGreat.Seal
