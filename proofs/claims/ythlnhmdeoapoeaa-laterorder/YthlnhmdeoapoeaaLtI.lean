/-
  The walk of LaterOrder.
-/
import Derived.Test.YthlnhmdeoapoeaaLtH
import Derived.Test.YthlnhmdeoapoeaaLtX
namespace Go.Proofs.Ythlnhmdeoapoeaa.Later
open Go.RowKit
open Clash (Ow OwsAt)

set_option maxRecDepth 100000 in
/-- LaterOrder, of too many -/
theorem order_early (a0 : Option Addr) (len cap : Nat) (hl : len ≤ 9223372036854775807) (w : World) (h : 60 < len) :
    Calls Try.prog 4 #[.slice a0 len cap] w fun e w' => e = .returned (.bool true) ∧ Kept [] w w' := by
  have q := lives_any w
  have i1 : (60 : Int) < (len : Int) := by omega
  go_enter Try.func4, Try.ntmps4
  go_wp2_with (go_at_call 6; refine q.mono ?_; rintro e w1 ⟨rfl, hk1⟩)
  go_ret
  exact ⟨rfl, hk1⟩
/-- What the pushes leave. -/
def ord (acts : List Ac) (k : Nat) : List Lw := (acts.take k).mapIdx fun i a => ⟨(i : Int), a.o, a.l, a.bs⟩
theorem ord_zero (acts : List Ac) : ord acts 0 = [] := by simp [ord]
theorem ord_length {acts : List Ac} {k : Nat} (h : k ≤ acts.length) : (ord acts k).length = k := by simp [ord]; omega
theorem ord_succ {acts : List Ac} {k : Nat} {x : Ac} (h : acts[k]? = some x) : ord acts (k + 1) = ord acts k ++ [⟨(k : Int), x.o, x.l, x.bs⟩] := by
  have hk := (List.getElem?_eq_some_iff.1 h).1
  unfold ord
  rw [List.take_add_one, h]
  simp [List.mapIdx_append]
  omega
theorem ord_at {acts : List Ac} {n k : Nat} (hn : n ≤ acts.length) (hk : k < n) : ∃ y : Lw, (ord acts n)[k]? = some y ∧ y.id = (k : Int) := by
  have : k < acts.length := by omega
  refine ⟨⟨(k : Int), acts[k].o, acts[k].l, acts[k].bs⟩, ?_, rfl⟩
  unfold ord
  rw [List.getElem?_mapIdx, List.getElem?_take, if_pos hk, List.getElem?_eq_getElem this]
  rfl
/-- What may go where nothing own is sent. -/
theorem may_unsent (o l : Int) (x : Lw) : may [⟨o, l, false⟩] x = true := by simp [may, Clash.verd, Clash.ps]
theorem pick_first {o l : Int} {y : Lw} {L : List Lw} : pick [⟨o, l, false⟩] (y :: L) = some 0 := by
  simp [pick, List.findIdx?_cons, may_unsent]
theorem drop_at {L : List Lw} {k : Nat} {y : Lw} (h : L[k]? = some y) : L.drop k = y :: L.drop (k + 1) := by
  have hk := List.getElem?_eq_some_iff.1 h
  rw [List.drop_eq_getElem_cons hk.1, hk.2]
set_option maxRecDepth 100000 in
set_option maxHeartbeats 4000000 in
/-- LaterOrder -/
theorem order_play (a0 : Option Addr) (len cap : Nat) (acts : List Ac) (hl : len ≤ 60) (w : World) (hacts : AcsAt w.heap.size w a0 len cap acts) (hbig : ∀ x ∈ acts, x.bs.length ≤ 140737488351232) :
    Calls Try.prog 4 #[.slice a0 len cap] w fun e w' => e = .returned (.bool true) ∧ Kept [] w w' := by
  have i0 : ¬ (60 : Int) < (len : Int) := by omega
  have hal : Hid (acts.length = len) := hacts.1
  have qn := new_any w
  have hcap : 0 < len → len ≤ cap := hacts.cap
  have hA : Hid (∀ W, Kept [] w W → AcsAt w.heap.size W a0 len cap acts) := fun W hk => hacts.kept (Nat.le_refl _) hk
  replace hbig : Hid _ := hbig
  clear hacts
  go_enter Try.func4, Try.ntmps4
  go_wp2_with (go_at_call 7; refine qn.mono ?_; rintro e w1 ⟨rfl, hQ1, hz1, hk1⟩; replace hz1 : Hid _ := hz1; clear qn)
  go_loopw [18] (fun i wr => ∃ (k : Nat) (gr : Option Nat), i = .int .i64 k ∧ k ≤ len ∧ Hid (QAt wr w.heap.size w.heap.size gr (ord acts k)) ∧ Kept [] w wr) (fun i _ => len - (RowKit.intOf i).toNat)
  case atStart => exact ⟨0, none, rfl, Nat.zero_le _, by rw [ord_zero]; exact hQ1, hk1⟩
  case round =>
    obtain ⟨k, gr, rfl, hk, hQ, hkr⟩ := hrel
    by_cases hlt : k < len
    · obtain ⟨x, b, off, hx, hok, rfl, d0, d1, d2, d3, d4, d5⟩ := (hA.out wr hkr).at hlt
      have i1 : (k : Int) < (len : Int) := by omega
      have i2 := hcap (by omega)
      have i3 : (k : Int) < 9223372036854775807 := by omega
      have ka := kept_alloc [] wr (.cells #[.bool x.nx, .int .i64 x.id, .int .i64 x.o, .int .i64 x.l, .slice x.sa x.len x.cap, .slice x.oa x.olen x.ocap] 35)
      have qp := push_young (hQ.out.kept0 ka) (hkr.trans ka) (Nat.le_refl _) (k : Int) x.o x.l (by rw [ord_length (by rw [hal.out]; exact hk)]; omega) (.slice x.sa x.len x.cap) w.heap.size x.bs (hok.row.kept hkr.size ka (by simp)) (Nat.le_trans hkr.size ka.size) (hbig.out x (List.mem_of_getElem? hx))
      rw [← ord_succ hx] at qp
      have hm1 : Hid (len - (k + 1) < len - k) := (by show _ < _; omega)
      clear hok hx
      go_wp2_with (go_at_call 11; refine qp.mono ?_; rintro e w3 ⟨rfl, gr3, hQ3, hk3⟩)
      go_roundw
      case rel => exact ⟨k + 1, gr3, by go_num, by omega, hQ3, hk3⟩
      case measure => simpa [RowKit.intOf] using hm1.out
    · obtain rfl : k = len := by omega
      have i1 : ¬ ((k : Int) < (k : Int)) := by omega
      have hQk : Hid (∃ L, L = ord acts k ∧ L.length = k) := ⟨_, rfl, ord_length (by rw [hal.out]; exact Nat.le_refl _)⟩
      go_wp2_with fail
      obtain ⟨wo, rfl⟩ : ∃ wo, wo = wr := ⟨_, rfl⟩
      go_loopw [33] (fun i wr => ∃ (j : Nat) (gr : Option Nat), i = .int .i64 j ∧ j ≤ k ∧ Hid (QAt wr w.heap.size w.heap.size gr ((ord acts k).drop j)) ∧ Kept [] w wr) (fun i _ => k - (RowKit.intOf i).toNat)
      case atStart => exact ⟨0, gr, rfl, Nat.zero_le _, by rw [List.drop_zero]; exact hQ, hkr⟩
      case round =>
        obtain ⟨j, gj, rfl, hj, hQj, hkj⟩ := hrel
        by_cases hlt2 : j < k
        · obtain ⟨x, b, off, hx, hok, rfl, d0, d1, d2, d3, d4, d5⟩ := (hA.out wr hkj).at hlt2
          have i2 := hcap (by omega)
          have j1 : (j : Int) < (k : Int) := by omega
          have j3 : (j : Int) < 9223372036854775807 := by omega
          obtain ⟨y, hy, hyi⟩ := ord_at (acts := acts) (n := k) (k := j) (by rw [hal.out]; exact Nat.le_refl _) hlt2
          have ka := kept_alloc [] wr (.cells #[.int .i64 x.o, .int .i64 x.l, .bool false] 54)
          have hdr := drop_at hy
          have hQj' := hQj.out
          rw [hdr] at hQj'
          have hll : (y :: (ord acts k).drop (j + 1)).length ≤ 1000000 := (by rw [← hdr, List.length_drop, ord_length (by rw [hal.out]; exact Nat.le_refl _)]; omega)
          have qx := next_young (hQj'.kept0 ka) (hkj.trans ka) (Nat.le_refl _) hll _ 1 1 [⟨x.o, x.l, false⟩] (own_one wr ⟨x.o, x.l, false⟩) (by omega)
          have e1 : wentB [⟨x.o, x.l, false⟩] (y :: (ord acts k).drop (j + 1)) = true := (by unfold wentB; rw [pick_first]; rfl)
          have e2 : wentW [⟨x.o, x.l, false⟩] (y :: (ord acts k).drop (j + 1)) = y := (by unfold wentW; rw [pick_first]; rfl)
          have e3 : leftL [⟨x.o, x.l, false⟩] (y :: (ord acts k).drop (j + 1)) = (ord acts k).drop (j + 1) := (by unfold leftL; rw [pick_first]; rfl)
          rw [e1, e2, e3] at qx
          have hm1 : Hid (k - (j + 1) < k - j) := (by show _ < _; omega)
          have hyi' : Hid (y.id = (j : Int)) := hyi
          clear hok hx e1 e2 e3 hdr hy hQj' hll hyi
          go_wp2_with (go_at_call 8; refine qx.mono ?_; rintro e w3 ⟨z, rfl, hz, -, hQ3, hk3⟩; obtain ⟨zi, zo, zl, zs, zn, zc, zb⟩ := z; obtain rfl : zi = (j : Int) := (by have := congrArg Lw.id hz; rw [hyi'.out] at this; exact this); unfold Lv.val; simp only; clear hz)
          go_roundw
          case rel =>
            have ka3 := kept_alloc [] w3 (.cells #[.int .i64 (j : Int), .int .i64 zo, .int .i64 zl, .slice zs zn zc] 37)
            exact ⟨j + 1, gj, by go_num, by omega, hQ3.kept0 ka3, hk3.trans ka3⟩
          case measure => simpa [RowKit.intOf] using hm1.out
        · obtain rfl : j = k := by omega
          have j1 : ¬ ((j : Int) < (j : Int)) := by omega
          have hQe := hQj.out
          rw [List.drop_eq_nil_of_le (by rw [ord_length (by rw [hal.out]; exact Nat.le_refl _)]; exact Nat.le_refl _)] at hQe
          have qx := next_young hQe hkj (Nat.le_refl _) (by simp) none 0 0 [] (Clash.ows_nil wr) (by omega)
          have e1 : wentB [] [] = false := rfl
          have e2 : wentW [] [] = lw0 := rfl
          have e3 : leftL [] [] = [] := rfl
          rw [e1, e2, e3] at qx
          have ql := fun W gr (h : QAt W w.heap.size w.heap.size gr []) => len_any W h
          have qv := fun W => lives_any W
          simp only [List.length_nil] at ql
          clear e1 e2 e3 hQe
          go_wp2_with (first
            | (go_at_call 8; refine qx.mono ?_; rintro e w3 ⟨z, rfl, -, -, hQ3, hk3⟩; unfold Lv.val; have ka3 := kept_alloc [] w3 (.cells #[.int .i64 z.id, .int .i64 z.o, .int .i64 z.l, .slice z.sa z.len z.cap] 37); have hQ4 := hQ3.kept0 ka3; have hk4 := hk3.trans ka3; have ql4 := ql _ _ hQ4)
            | (go_at_call 13; refine ql4.mono ?_; rintro e w5 ⟨rfl, rfl⟩)
            | (go_at_call 6; refine (qv _).mono ?_; rintro e w6 ⟨rfl, hk6⟩))
          go_ret
          exact ⟨rfl, hk4.trans hk6⟩
end Go.Proofs.Ythlnhmdeoapoeaa.Later
