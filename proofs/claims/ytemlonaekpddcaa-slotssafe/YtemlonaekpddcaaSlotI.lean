/-
  The walk of SlotsSafe, of a play.
-/
import Derived.Test.YtemlonaekpddcaaSlotH
namespace Go.Proofs.Ytemlonaekpddcaa
open Go.RowKit Go.Maps Go.Shelf
open Math

set_option maxRecDepth 100000 in
set_option maxHeartbeats 4000000 in
/-- SlotsSafe, of a play -/
theorem safe_play (a0 : Option Addr) (len cap : Nat) (ws : List Nat) (R K mask : Nat) (h2 : 2 ≤ R) (h8 : R ≤ 8) (hK : K ≤ 100) (hmask : mask < 18446744073709551616) (hlen : len ≤ 30) (w : World) (hws : WordsAt w a0 len cap ws) :
    Calls Try.prog 5 #[.slice a0 len cap, .agg #[.int .i64 (R : Int), .int .i64 (K : Int), .int .u64 (mask : Int)]] w fun e w' => e = .returned (.bool true) ∧ Kept [] w w' := by
  have q7 := lives_any
  have hk0 := kept_alloc [] w (.cells #[.int .i64 (R : Int), .int .i64 (K : Int), .int .u64 (mask : Int)] 57)
  have q8 := fun W => new_any 10 (by decide) (by decide) W
  have g1 : ¬ ((R : Int) < 2) := by omega
  have g2 : ¬ (8 < (R : Int)) := by omega
  have g3 : ¬ ((30 : Int) < (len : Int)) := by omega
  have g4 : ¬ ((K : Int) < 0) := by omega
  have g5 : ¬ (100 < (K : Int)) := by omega
  go_enter Try.func5, Try.ntmps5
  go_wp2_with fail
  go_quiet (fail)
  replace hk0 := hk0.trans (kept_drewN [] _ nq)
  generalize (w.alloc (.cells #[.int .i64 (R : Int), .int .i64 (K : Int), .int .u64 (mask : Int)] 57)).drewN nq = W0 at *
  go_wp2_with (first
    | (go_at_call 8; refine (q8 _).mono ?_; rintro e w1 ⟨rfl, hD1, hk1⟩)
    | (go_at_call 14; refine (fuse_any _ _ _ _ (K : Int) (by omega) (by omega) _ hD1).mono ?_; rintro e w2 ⟨rfl, hD2, hk2, hz2⟩; replace hz2 : Hid _ := hz2))
  have hs0 := hk0.size
  obtain ⟨d, hd⟩ : ∃ d, W0.heap.size + 2 = d := ⟨_, rfl⟩
  obtain ⟨b1, hb1⟩ : ∃ b, W0.heap.size = b := ⟨_, rfl⟩
  obtain ⟨b2, hb2⟩ : ∃ b, W0.heap.size + 1 = b := ⟨_, rfl⟩
  rw [hd, hb2, hb1] at hD2
  have hK2 : Kept [] w w2 := (hk0.trans hk1).young hk2 (by omega)
  have hdl : w.heap.size ≤ d := by omega
  have hbl1 : w.heap.size ≤ b1 := by omega
  have hbl2 : w.heap.size ≤ b2 := by omega
  have t0 := (still_made 10 1 R (by decide) (by decide) h2 h8 (by omega)).fused (K : Int) (by omega) (by omega)
  have f0 : (fused (made 10) (K : Int)).fuse = (K : Int) := rfl
  have o0 : (fused (made 10) (K : Int)).ops = 0 := rfl
  have c0 : (fused (made 10) (K : Int)).broken = false := rfl
  rw [hd]
  generalize fused (made 10) (K : Int) = s0 at *
  clear hD1 hk1 hk2 hz2 hk0 q8 hs0 hd hb1 hb2
  go_loopw [52, 10, 11] (fun i la ne wr => ∃ (j : Nat) (s : Dk) (y z : Nat), j ≤ len ∧ i = .int .i64 j ∧ la = .int .u64 y ∧ ne = .int .u64 z ∧ DiskAt wr d b1 b2 s ∧ Still s 1 R j y ∧ s.broken = false ∧ 2 * j ≤ K ∧ s.fuse = (K : Int) - 2 * (j : Int) ∧ s.ops = 2 * j ∧ Kept [] w wr) (fun i _ _ _ => len - (RowKit.intOf i).toNat)
  case atStart => exact ⟨0, s0, 0, 0, by omega, rfl, rfl, rfl, hD2, t0, c0, by omega, by rw [f0]; simp, o0, hK2⟩
  case round =>
    obtain ⟨j, s, y, z, hj, rfl, rfl, rfl, hD, hS, hb, hKj, hf, ho, hK⟩ := hrel
    clear t0 f0 o0 c0 hD2 hK2
    by_cases hlt : j < len
    · obtain ⟨hwl, hwb, hnil | ⟨blk, off, rfl, hcap, hblk, hcell⟩⟩ := hws.kept hK
      · rw [hnil] at hwl
        simp at hwl
        omega
      obtain ⟨x, hx⟩ : ∃ x, ws[j]? = some x := ⟨_, List.getElem?_eq_getElem (by omega)⟩
      have hxb := hwb x (List.mem_of_getElem? hx)
      have hcx := hcell j x hx
      clear hcell hx hwb hwl hws
      have kk : (j : Int) < (len : Int) := by omega
      have kcap : (j : Int) < (cap : Int) := by omega
      have hm1 : Hid (len - (j + 1) < len - j) := by show _ < _; omega
      have q10 := put_any d b1 b2 s 1 (R : Int) x hxb (by omega) wr hD
      have kl : ((len : Int) == 0) = false := by simp; omega
      by_cases f2 : 2 ≤ s.fuse
      · obtain ⟨a1, a2, a3, a4, a5⟩ := hS.put_ok hb (by omega) x hxb (.inr f2)
        have c1 : putE s 1 (R : Int) x = 0 := a1
        rw [c1] at q10
        have a2' : Still (putS s 1 (R : Int) x) 1 R (j + 1) x := a2
        have a3' : (putS s 1 (R : Int) x).broken = false := a3
        have a4' : (putS s 1 (R : Int) x).fuse = s.fuse - 2 := a4.trans (if_neg (by omega))
        have a5' : (putS s 1 (R : Int) x).ops = s.ops + 2 := a5
        clear a1 a2 a3 a4 a5 c1
        generalize putS s 1 (R : Int) x = s' at *
        have HF : Hid (2 * (j + 1) ≤ K ∧ s'.fuse = (K : Int) - 2 * ((j + 1 : Nat) : Int) ∧ s'.ops = 2 * (j + 1)) := ⟨by omega, by rw [a4', hf]; omega, by omega⟩
        have HS : Hid (Still s' 1 R (j + 1) x) := a2'
        have HB : Hid (s'.broken = false) := a3'
        clear a2' a3' a4' a5' f2 hf hb hS ho
        go_wp2_with (first
          | (go_at_call 10; refine q10.mono ?_; rintro e w2 ⟨rfl, hD2, hk2⟩))
        go_roundw
        case rel => exact ⟨j + 1, s', x, x, by omega, rfl, rfl, rfl, hD2, HS.out, HB.out, HF.out.1, HF.out.2.1, HF.out.2.2, hK.young3 hk2 hdl hbl1 hbl2⟩
        case measure => simpa [RowKit.intOf] using hm1.out
      · have kk2 : (K : Int) < 2 * (len : Int) := by omega
        have hfin : ∃ G : Nat, (G = y ∨ G = x) ∧ putE s 1 (R : Int) x = 3 ∧ latestY (crashed (putS s 1 (R : Int) x) mask) 1 (R : Int) = G := by
          by_cases f0 : s.fuse = 0
          · obtain ⟨e1, e2⟩ := hS.put_burnt hb (by omega) x f0
            have e2' : putS s 1 (R : Int) x = burnt s := e2
            refine ⟨y, .inl rfl, e1, ?_⟩
            rw [e2']
            exact (hS.burnt.crashed mask).latestY rfl
          · obtain ⟨e1, e2, _⟩ := hS.put_torn hb (by omega) x hxb (by omega) mask
            rcases e2 with e2 | e2
            · exact ⟨y, .inl rfl, e1, e2.latestY rfl⟩
            · exact ⟨x, .inr rfl, e1, e2.latestY rfl⟩
        obtain ⟨G, hG, e1, e2⟩ := hfin
        rw [e1] at q10
        have q11 := fun W (h : DiskAt W d b1 b2 (crashed (putS s 1 (R : Int) x) mask)) => latest_any d b1 b2 _ 1 (R : Int) W h
        rw [e2] at q11
        generalize latestN (crashed (putS s 1 (R : Int) x) mask) 1 (R : Int) = gn at *
        have q12 := fun W (h : DiskAt W d b1 b2 (putS s 1 (R : Int) x)) => crash_any d b1 b2 (putS s 1 (R : Int) x) mask hmask W h
        generalize crashed (putS s 1 (R : Int) x) mask = s2 at *
        generalize putS s 1 (R : Int) x = s1 at *
        clear e1 e2 hf hb hS ho f2
        by_cases hGy : G = y
        · subst hGy
          clear hG
          go_wp2_with (first
            | (go_at_call 10; refine q10.mono ?_; rintro e w2 ⟨rfl, hD2, hk2⟩)
            | (go_at_call 12; refine (q12 _ hD2).mono ?_; rintro e w3 ⟨rfl, hD3, hk3⟩)
            | (go_at_call 18; refine (q11 _ hD3).mono ?_; rintro e w4 ⟨rfl, hk4⟩)
            | (go_at_call 7; refine (q7 _).mono ?_; rintro e w5 ⟨rfl, hk5⟩))
          go_ret
          exact ⟨rfl, (((hK.young3 hk2 hdl hbl1 hbl2).young3 hk3 hdl hbl1 hbl2).trans hk4).trans hk5⟩
        · obtain rfl : G = x := by rcases hG with h | h; exact absurd h hGy; exact h
          have hne : ((G : Int) == (y : Int)) = false := by simp; omega
          clear hG
          go_wp2_with (first
            | (go_at_call 10; refine q10.mono ?_; rintro e w2 ⟨rfl, hD2, hk2⟩)
            | (go_at_call 12; refine (q12 _ hD2).mono ?_; rintro e w3 ⟨rfl, hD3, hk3⟩)
            | (go_at_call 18; refine (q11 _ hD3).mono ?_; rintro e w4 ⟨rfl, hk4⟩)
            | (go_at_call 7; refine (q7 _).mono ?_; rintro e w5 ⟨rfl, hk5⟩))
          go_ret
          exact ⟨rfl, (((hK.young3 hk2 hdl hbl1 hbl2).young3 hk3 hdl hbl1 hbl2).trans hk4).trans hk5⟩
    · obtain rfl : j = len := by omega
      have e2 : latestY (crashed s mask) 1 (R : Int) = y := (hS.crashed mask).latestY rfl
      have q11 := fun W (h : DiskAt W d b1 b2 (crashed s mask)) => latest_any d b1 b2 _ 1 (R : Int) W h
      rw [e2] at q11
      generalize latestN (crashed s mask) 1 (R : Int) = gn at *
      have q12 := crash_any d b1 b2 s mask hmask wr hD
      generalize crashed s mask = s2 at *
      clear e2 hf hb hS ho
      by_cases hz : j = 0
      · subst hz
        go_wp2_with (first
          | (go_at_call 12; refine q12.mono ?_; rintro e w3 ⟨rfl, hD3, hk3⟩)
          | (go_at_call 18; refine (q11 _ hD3).mono ?_; rintro e w4 ⟨rfl, hk4⟩)
          | (go_at_call 7; refine (q7 _).mono ?_; rintro e w5 ⟨rfl, hk5⟩))
        go_ret
        exact ⟨rfl, ((hK.young3 hk3 hdl hbl1 hbl2).trans hk4).trans hk5⟩
      · have kl : ((j : Int) == 0) = false := by simp; omega
        go_wp2_with (first
          | (go_at_call 12; refine q12.mono ?_; rintro e w3 ⟨rfl, hD3, hk3⟩)
          | (go_at_call 18; refine (q11 _ hD3).mono ?_; rintro e w4 ⟨rfl, hk4⟩)
          | (go_at_call 7; refine (q7 _).mono ?_; rintro e w5 ⟨rfl, hk5⟩))
        go_ret
        exact ⟨rfl, ((hK.young3 hk3 hdl hbl1 hbl2).trans hk4).trans hk5⟩
end Go.Proofs.Ytemlonaekpddcaa
