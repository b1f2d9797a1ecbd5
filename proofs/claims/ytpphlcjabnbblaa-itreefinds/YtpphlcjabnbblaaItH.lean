import Derived.Test.YtpphlcjabnbblaaItG
/-
  The walk of ItreeHeight, of any tree that does what is asked (Spec).
-/
namespace Go.Proofs.Ytpphlcjabnbblaa.Itree
open Go.RowKit

/-- A tree alone; what it is made of lies from base on. -/
structure Solo (T : World → Nat → List Nat → List It → Prop) (W : World) (base p : Nat) (F : List Nat) (L : List It) : Prop where
  tree : T W p F L
  sorted : Sorted L
  young : ∀ k ∈ F, base ≤ k
theorem Solo.kept {T : World → Nat → List Nat → List It → Prop} (hS : Spec T) {A B : World} {base p : Nat} {F : List Nat} {L : List It} (h : Solo T A base p F L) (hk : Kept [] A B) : Solo T B base p F L :=
  ⟨hS.kept h.tree hk (by simp), h.sorted, h.young⟩
theorem Solo.turned {T : World → Nat → List Nat → List It → Prop} {A B : World} {base p : Nat} {F F' : List Nat} {L L' : List It} (h : Solo T A base p F L) (hb : base ≤ A.heap.size) (t1 : T B p F' L') (hF : ∀ k ∈ F', k ∈ F ∨ A.heap.size ≤ k) (hs : Sorted L') : Solo T B base p F' L' :=
  ⟨t1, hs, fun k hk => by
    rcases hF k hk with e | e
    · exact h.young k e
    · omega⟩
theorem Solo.old {T : World → Nat → List Nat → List It → Prop} {w A B : World} {p : Nat} {F : List Nat} {L : List It} (h : Solo T A w.heap.size p F L) (h0 : Kept [] w A) (k : Kept F A B) : Kept [] w B :=
  kept_youngs h0 k (fun x hx => .inr (h.young x hx))

set_option maxRecDepth 100000 in
set_option maxHeartbeats 1000000 in
/-- ItreeHeight, of what is let go -/
theorem height_early (hlives : ∀ w, Calls Try.prog 7 #[] w fun e w' => e = .returned (.bool true) ∧ Kept [] w w') (n step : Int) (a0 : Option Addr) (len cap : Nat) (hno : 150 < len ∨ n < 0 ∨ 300 < n ∨ step < -1000 ∨ 1000 < step) (w : World) :
    Calls Try.prog 4 #[.slice a0 len cap, .int .i64 n, .int .i64 step] w fun e w' => e = .returned (.bool true) ∧ Kept [] w w' := by
  rcases (show (150 : Int) < (len : Int) ∨ (¬ ((150 : Int) < (len : Int)) ∧ n < 0) ∨ (¬ ((150 : Int) < (len : Int)) ∧ ¬ (n < 0) ∧ 300 < n) ∨ (¬ ((150 : Int) < (len : Int)) ∧ ¬ (n < 0) ∧ ¬ (300 < n) ∧ step < -1000) ∨ (¬ ((150 : Int) < (len : Int)) ∧ ¬ (n < 0) ∧ ¬ (300 < n) ∧ ¬ (step < -1000) ∧ 1000 < step) by omega) with g1 | ⟨g1, g2⟩ | ⟨g1, g2, g3⟩ | ⟨g1, g2, g3, g4⟩ | ⟨g1, g2, g3, g4, g5⟩
  all_goals clear hno
  all_goals
    go_enter Try.func4, Try.ntmps4
    go_wp2_with (first
      | (go_at_call 7; refine (hlives _).mono ?_; rintro e w3 ⟨rfl, hk3⟩))
    go_ret
    exact ⟨rfl, hk3⟩

theorem prod_le (i : Nat) (step : Int) (hi : i ≤ 300) (h0 : -1000 ≤ step) (h1 : step ≤ 1000) : -300000 ≤ (i : Int) * step ∧ (i : Int) * step ≤ 300000 := by
  have a1 : (i : Int) * (-1000) ≤ (i : Int) * step := Int.mul_le_mul_of_nonneg_left h0 (by omega)
  have a2 : (i : Int) * step ≤ (i : Int) * 1000 := Int.mul_le_mul_of_nonneg_left h1 (by omega)
  omega

set_option maxRecDepth 100000 in
set_option maxHeartbeats 8000000 in
/-- ItreeHeight, of a play -/
theorem height_play {T : World → Nat → List Nat → List It → Prop} (hS : Spec T) (hlives : ∀ w, Calls Try.prog 7 #[] w fun e w' => e = .returned (.bool true) ∧ Kept [] w w') (N : Nat) (step : Int) (hN : N ≤ 300) (hst0 : -1000 ≤ step) (hst1 : step ≤ 1000)
    (a0 : Option Addr) (len cap0 : Nat) (acts : List Sa) (hlen : len ≤ 150) (w : World) (hacts : ActsAt w.heap.size w a0 len cap0 acts) :
    Calls Try.prog 4 #[.slice a0 len cap0, .int .i64 (N : Int), .int .i64 step] w fun e w' => e = .returned (.bool true) ∧ Kept [] w w' := by
  have g1 : ¬ ((150 : Int) < (len : Int)) := by omega
  have g2 : ¬ ((N : Int) < 0) := by omega
  have g3 : ¬ (300 < (N : Int)) := by omega
  have g4 : ¬ (step < -1000) := by omega
  have g5 : ¬ (1000 < step) := by omega
  have qm := hS.make w
  go_enter Try.func4, Try.ntmps4
  go_wp2_with (first
    | (go_at_call 8; refine qm.mono ?_; rintro e w4 ⟨p, F0, rfl, hT, hF, hk4⟩))
  have hSo : Solo T w4 w.heap.size p F0 [] := ⟨hT, Sorted.nil, hF⟩
  clear qm hT hF
  go_loopw [8] (fun i wr => ∃ (j : Nat) (F : List Nat) (L : List It), j ≤ N ∧ i = .int .i64 j ∧ Solo T wr w.heap.size p F L ∧ L.length ≤ j ∧ Kept [] w wr) (fun i _ => N - (RowKit.intOf i).toNat)
  case atStart => exact ⟨0, F0, [], by omega, rfl, hSo, by simp, hk4⟩
  case round =>
    obtain ⟨j, F, L, hj, rfl, hD, hLj, hK⟩ := hrel
    clear hSo hk4
    by_cases hlt : j < N
    · obtain ⟨z, hz⟩ : ∃ z, (j : Int) * step = z := ⟨_, rfl⟩
      have hzb := prod_le j step (by omega) hst0 hst1
      rw [hz] at hzb
      have i1 : (j : Int) < (N : Int) := by omega
      have hm1 : Hid (N - (j + 1) < N - j) := by show _ < _; omega
      have qi := hS.insert wr p F L ⟨300000 + z, 1 + (j : Int) % 7, j⟩ hD.tree hD.sorted (by omega) ⟨by simp only []; omega, by simp only []; omega, by simp only []; omega, by simp only []; omega, by simp only []; omega, by simp only []; omega⟩
      have hL1 : (insL L ⟨300000 + z, 1 + (j : Int) % 7, j⟩).length ≤ j + 1 := by
        have := ins_length L ⟨300000 + z, 1 + (j : Int) % 7, j⟩
        split at this <;> omega
      have hs1 := ins_sorted hD.sorted ⟨300000 + z, 1 + (j : Int) % 7, j⟩
      generalize insL L ⟨300000 + z, 1 + (j : Int) % 7, j⟩ = L1 at *
      generalize insOk L ⟨300000 + z, 1 + (j : Int) % 7, j⟩ = res at *
      go_wp2_with (first
          | (go_at_call 11; refine qi.mono ?_; rintro e w8 ⟨F', rfl, hT8', hF8, hk8⟩; have hT8 := hD.turned hK.size hT8' hF8 hs1; have hK8 := hD.old hK hk8; clear qi hT8' hF8 hk8)
          | (go_at_call 20; refine (hS.height _ p _ L1 hT8.tree (by omega)).mono ?_; rintro e w9 ⟨h9, rfl, hh9, hk9⟩; have hT9 := hT8.kept hS hk9; have qb := bits14_any (L1.length + 1) (by omega); rw [Int.natCast_succ] at qb; have hg9 : Hid (¬ (2 * ((bitsN (L1.length + 1) : Nat) : Int) < (h9 : Int))) := (by show ¬ _; omega); have hb9 : Hid (bitsN (L1.length + 1) ≤ L1.length + 1) := bitsN_le _; generalize bitsN (L1.length + 1) = b9 at *; clear hh9)
          | (go_at_call 14; refine (hS.len _ p _ L1 hT9.tree (by omega)).mono ?_; rintro e w10 ⟨rfl, hk10⟩; have hT10 := hT9.kept hS hk10)
          | (go_at_call 21; refine (qb _).mono ?_; rintro e w10 ⟨rfl, rfl⟩; have hg10 := hg9.out; have hb10 := hb9.out; have hb11 : (b9 : Int) ≤ 601 := (by omega)))
      go_roundw
      case rel => exact ⟨j + 1, F', L1, by omega, by go_num, hT10, by omega, (hK8.trans hk9).trans hk10⟩
      case measure => simpa [RowKit.intOf] using hm1.out
    · have hjN : j = N := by omega
      have i0 : ¬ ((j : Int) < (N : Int)) := by omega
      rw [hjN] at hLj
      clear hlt hj hjN
      go_wp2_with fail
      obtain ⟨wo, rfl⟩ : ∃ wo, wo = wr := ⟨_, rfl⟩
      go_loopw [59] (fun i wr => ∃ (j : Nat) (F : List Nat) (L : List It), j ≤ len ∧ i = .int .i64 j ∧ Solo T wr w.heap.size p F L ∧ L.length ≤ j + N ∧ Kept [] w wr) (fun i _ => len - (RowKit.intOf i).toNat)
      case atStart => exact ⟨0, F, L, by omega, rfl, hD, by omega, hK⟩
      case round =>
        clear hD hLj hK i0
        obtain ⟨j1, F1, L, hj, rfl, hD1, hLj, hK⟩ := hrel
        by_cases hlt : j1 < len
        · obtain ⟨hal, haok, hnil | ⟨blk, off, rfl, hcap, hblk, hcs⟩⟩ := hacts.below (hK.below (Nat.le_refl _) (by simp))
          · rw [hnil] at hal
            simp at hal
            omega
          obtain ⟨a, ha⟩ : ∃ a, acts[j1]? = some a := ⟨_, List.getElem?_eq_getElem (by rw [hal]; exact hlt)⟩
          have hok := haok a (List.mem_of_getElem? ha)
          have hr : Hid (wr.rangeAt blk (off + j1 * 4) a.cells) := hcs j1 a ha
          have kk4 : (j1 : Int) < (len : Int) := by omega
          have kcap : (j1 : Int) < (cap0 : Int) := by omega
          have hm1 : Hid (len - (j1 + 1) < len - j1) := by show _ < _; omega
          have hz0 : Blk (wr.alloc (.cells #[.bool false, .int .i64 0, .int .i64 0, .int .i64 0] 33)) wr.heap.size 33 #[.bool false, .int .i64 0, .int .i64 0, .int .i64 0] := blk_new wr 33 _
          have hsz : Hid (a.cells.length = 4) := rfl
          clear hcs hal haok hacts ha
          go_upto_region 13 with (first
            | refine wpList_load_mid rfl 33 _ rfl blk (off + j1 * 4) rfl a.cells _ hr.out Try.underlying33 rfl (by rw [hsz.out]; exact Try.size33) ?_
            | (refine wpList_store_blk rfl 33 _ _ rfl wr.heap.size 33 _ a.cells rfl rfl hz0 hsz.out (by rw [hsz.out]; exact Try.size33) a.one ?_; intro w7 hB7 hk7 hz7; have hk07 : Kept [] wr w7 := (kept_alloc [] wr _).young hk7 (Nat.le_refl _); replace hz7 : Hid _ := hz7))
          have hD7 := hD1.kept hS hk07
          have hK7 := hK.trans hk07
          clear hr hz0 hk7
          cases hdel : a.del with
          | true =>
            have qi := fun W (h : T W p F1 L) => hS.delete W p F1 L a.x h hD1.sorted (by omega) hok.x_
            have hL1 : (delL L a.x).length ≤ j1 + N + 1 := by
              have := act_length L a
              unfold actL at this
              rw [hdel] at this
              simp at this
              omega
            have hs1 : Sorted (delL L a.x) := del_sorted hD1.sorted _
            generalize delL L a.x = L1 at *
            generalize there L a.x = res at *
            obtain ⟨c0, c1, c2, c3⟩ := Sa.range hB7
            rw [hdel] at c0
            go_wp2_with (first
              | (go_at_call 9; refine (qi _ hD7.tree).mono ?_; rintro e w8 ⟨F', rfl, hT8', hF8, hk8⟩; have hT8 := hD7.turned hK7.size hT8' hF8 hs1; have hK8 := hD7.old hK7 hk8; clear qi hT8' hF8 hk8)
              | (go_at_call 20; refine (hS.height _ p _ L1 hT8.tree (by omega)).mono ?_; rintro e w9 ⟨h9, rfl, hh9, hk9⟩; have hT9 := hT8.kept hS hk9; have qb := bits14_any (L1.length + 1) (by omega); rw [Int.natCast_succ] at qb; have hg9 : Hid (¬ (2 * ((bitsN (L1.length + 1) : Nat) : Int) < (h9 : Int))) := (by show ¬ _; omega); have hb9 : Hid (bitsN (L1.length + 1) ≤ L1.length + 1) := bitsN_le _; generalize bitsN (L1.length + 1) = b9 at *; clear hh9)
              | (go_at_call 14; refine (hS.len _ p _ L1 hT9.tree (by omega)).mono ?_; rintro e w10 ⟨rfl, hk10⟩; have hT10 := hT9.kept hS hk10)
              | (go_at_call 21; refine (qb _).mono ?_; rintro e w10 ⟨rfl, rfl⟩; have hg10 := hg9.out; have hb10 := hb9.out; have hb11 : (b9 : Int) ≤ 601 := (by omega)))
            go_roundw
            case rel => exact ⟨j1 + 1, F', L1, by omega, by go_num, hT10, by omega, (hK8.trans hk9).trans hk10⟩
            case measure => simpa [RowKit.intOf] using hm1.out
          | false =>
            have qi := fun W (h : T W p F1 L) => hS.insert W p F1 L a.x h hD1.sorted (by omega) hok.x_
            have hL1 : (insL L a.x).length ≤ j1 + N + 1 := by
              have := act_length L a
              unfold actL at this
              rw [hdel] at this
              simp at this
              omega
            have hs1 : Sorted (insL L a.x) := ins_sorted hD1.sorted _
            generalize insL L a.x = L1 at *
            generalize insOk L a.x = res at *
            obtain ⟨c0, c1, c2, c3⟩ := Sa.range hB7
            rw [hdel] at c0
            go_wp2_with (first
              | (go_at_call 11; refine (qi _ hD7.tree).mono ?_; rintro e w8 ⟨F', rfl, hT8', hF8, hk8⟩; have hT8 := hD7.turned hK7.size hT8' hF8 hs1; have hK8 := hD7.old hK7 hk8; clear qi hT8' hF8 hk8)
              | (go_at_call 20; refine (hS.height _ p _ L1 hT8.tree (by omega)).mono ?_; rintro e w9 ⟨h9, rfl, hh9, hk9⟩; have hT9 := hT8.kept hS hk9; have qb := bits14_any (L1.length + 1) (by omega); rw [Int.natCast_succ] at qb; have hg9 : Hid (¬ (2 * ((bitsN (L1.length + 1) : Nat) : Int) < (h9 : Int))) := (by show ¬ _; omega); have hb9 : Hid (bitsN (L1.length + 1) ≤ L1.length + 1) := bitsN_le _; generalize bitsN (L1.length + 1) = b9 at *; clear hh9)
              | (go_at_call 14; refine (hS.len _ p _ L1 hT9.tree (by omega)).mono ?_; rintro e w10 ⟨rfl, hk10⟩; have hT10 := hT9.kept hS hk10)
              | (go_at_call 21; refine (qb _).mono ?_; rintro e w10 ⟨rfl, rfl⟩; have hg10 := hg9.out; have hb10 := hb9.out; have hb11 : (b9 : Int) ≤ 601 := (by omega)))
            go_roundw
            case rel => exact ⟨j1 + 1, F', L1, by omega, by go_num, hT10, by omega, (hK8.trans hk9).trans hk10⟩
            case measure => simpa [RowKit.intOf] using hm1.out
        · have hjl : j1 = len := by omega
          have i0 : ¬ ((j1 : Int) < (len : Int)) := by omega
          clear hacts hlt
          go_wp2_with fail
          obtain ⟨wp, rfl⟩ : ∃ wp, wp = wr := ⟨_, rfl⟩
          go_loopw [11] (fun i wr => ∃ (j : Nat) (F : List Nat) (L : List It), j ≤ N + 1 ∧ i = .int .i64 j ∧ Solo T wr w.heap.size p F L ∧ L.length ≤ 500 ∧ Kept [] w wr) (fun i _ => N - (RowKit.intOf i).toNat)
          case atStart => exact ⟨0, F1, L, by omega, rfl, hD1, by omega, hK⟩
          case round =>
            clear hD1 hLj hK i0
            obtain ⟨j, F, L, hj, rfl, hD, hLj, hK⟩ := hrel
            by_cases hlt : j < N
            · obtain ⟨z, hz⟩ : ∃ z, (j : Int) * step = z := ⟨_, rfl⟩
              have hzb := prod_le j step (by omega) hst0 hst1
              rw [hz] at hzb
              have i1 : (j : Int) < (N : Int) := by omega
              have hm1 : Hid (N - ((j : Int) + 2).toNat < N - j) := by show _ < _; omega
              have qi := hS.delete wr p F L ⟨300000 + z, 1 + (j : Int) % 7, j⟩ hD.tree hD.sorted (by omega) ⟨by simp only []; omega, by simp only []; omega, by simp only []; omega, by simp only []; omega, by simp only []; omega, by simp only []; omega⟩
              have hL1 : (delL L ⟨300000 + z, 1 + (j : Int) % 7, j⟩).length ≤ 500 := by
                have := del_length L ⟨300000 + z, 1 + (j : Int) % 7, j⟩
                omega
              have hs1 := del_sorted hD.sorted ⟨300000 + z, 1 + (j : Int) % 7, j⟩
              generalize delL L ⟨300000 + z, 1 + (j : Int) % 7, j⟩ = L1 at *
              generalize there L ⟨300000 + z, 1 + (j : Int) % 7, j⟩ = res at *
              go_wp2_with (first
                  | (go_at_call 9; refine qi.mono ?_; rintro e w8 ⟨F', rfl, hT8', hF8, hk8⟩; have hT8 := hD.turned hK.size hT8' hF8 hs1; have hK8 := hD.old hK hk8; clear qi hT8' hF8 hk8)
                  | (go_at_call 20; refine (hS.height _ p _ L1 hT8.tree (by omega)).mono ?_; rintro e w9 ⟨h9, rfl, hh9, hk9⟩; have hT9 := hT8.kept hS hk9; have qb := bits14_any (L1.length + 1) (by omega); rw [Int.natCast_succ] at qb; have hg9 : Hid (¬ (2 * ((bitsN (L1.length + 1) : Nat) : Int) < (h9 : Int))) := (by show ¬ _; omega); have hb9 : Hid (bitsN (L1.length + 1) ≤ L1.length + 1) := bitsN_le _; generalize bitsN (L1.length + 1) = b9 at *; clear hh9)
                  | (go_at_call 14; refine (hS.len _ p _ L1 hT9.tree (by omega)).mono ?_; rintro e w10 ⟨rfl, hk10⟩; have hT10 := hT9.kept hS hk10)
                  | (go_at_call 21; refine (qb _).mono ?_; rintro e w10 ⟨rfl, rfl⟩; have hg10 := hg9.out; have hb10 := hb9.out; have hb11 : (b9 : Int) ≤ 601 := (by omega)))
              go_roundw
              case rel => exact ⟨j + 2, F', L1, by omega, by go_num, hT10, by omega, (hK8.trans hk9).trans hk10⟩
              case measure => simpa [RowKit.intOf] using hm1.out
            · have i0 : ¬ ((j : Int) < (N : Int)) := by omega
              go_wp2_with (first
                | (go_at_call 7; refine (hlives _).mono ?_; rintro e w13 ⟨rfl, hk13⟩))
              go_ret
              exact ⟨rfl, hK.trans hk13⟩
end Go.Proofs.Ytpphlcjabnbblaa.Itree

