/-
  The walks of the program's session: tell, New, Send, Tick, meet.
-/
import Derived.Test.YtnbkbakbjllmcaaSsR
namespace Go.Proofs.Ytnbkbakbjllmcaa.Session
open Go.RowKit
open Outbox (Ob nums OutAt Bv Byt NoByt RowAt NRow)
open Inbox (InAt)
open Keep (KpAt)
open Wire (Ps Pv bytesL parseM parseE)

/-- Bytes of the call's own. -/
theorem own_byt {W : World} {base : Nat} {v : Value} {l : List Nat} (h : Wire.Own W base v l) : Byt W v l := Outbox.byt_owns h.byt h.row
theorem msg_d {s : Ss} (hb : ∀ b ∈ s.ob.l, b.length ≤ 1000) (n : Nat) : (s.msg n).d.length ≤ 1000 := by
  show ((s.ob.body (n : Int)).getD []).length ≤ 1000
  cases h : s.ob.body (n : Int) with
  | none => simp
  | some d =>
    unfold Ob.body at h
    split at h
    · exact hb d (List.mem_of_getElem? h)
    · cases h
theorem len_ok {x : Pv} {p : Ps} {hi : Nat} {W : World} (e : x.ps = p) (h : x.At 0 hi W) (hd : p.d.length ≤ 1000) : x.len ≤ 9223372036854775807 := by
  have h1 := h.len
  have e2 : x.d = p.d := congrArg Ps.d e
  rw [e2] at h1
  omega
set_option maxRecDepth 100000 in
/-- tell, with msg -/
theorem tell_msg (F : Foot) (s : Ss) (base : Nat) (hm : s.my < 4294967296) (hp : s.peer < 4294967296) (w : World) (ho : OutAt w base F.g F.r s.ob) (hi : InAt w F.i s.last) (hs : s.ob.n + s.ob.l.length ≤ 1000000) (hb : ∀ b ∈ s.ob.l, b.length ≤ 1000) (b0 : Nat) (sa : Option Addr) (len cap : Nat) (l : List Nat) (hl : NRow b0 w (.slice sa len cap) l) (hll : l.length ≤ 1000) :
    Calls Try.prog 22 #[.agg #[.int .u32 (s.my : Int), .int .u32 (s.peer : Int), .pointer (some ⟨F.g, 0, none⟩), .pointer (some ⟨F.i, 0, none⟩)], .func (.func 23) #[] #[], .slice sa len cap] w fun e w' => ∃ v P, e = .returned v ∧ Told w.heap.size w' v P (l.map fun n => bytesL (s.msg n)) ∧ Kept [] w w' := by
  obtain ⟨sa0, cap0, e0, -, -⟩ := hl.slice
  injection e0 with e1 e2 e3
  subst e1 e2 e3
  have kA := kept_alloc [] w (.cells #[.int .u32 (s.my : Int), .int .u32 (s.peer : Int), .pointer (some ⟨F.g, 0, none⟩), .pointer (some ⟨F.i, 0, none⟩)] 53)
  have hA : PairAt _ w.heap.size s.my s.peer F.g F.i := blk_new w 53 #[.int .u32 (s.my : Int), .int .u32 (s.peer : Int), .pointer (some ⟨F.g, 0, none⟩), .pointer (some ⟨F.i, 0, none⟩)]
  obtain ⟨W1, hW1⟩ : ∃ W1, w.alloc (.cells #[.int .u32 (s.my : Int), .int .u32 (s.peer : Int), .pointer (some ⟨F.g, 0, none⟩), .pointer (some ⟨F.i, 0, none⟩)] 53) = W1 := ⟨_, rfl⟩
  rw [hW1] at kA hA
  go_enter Try.func22, Try.ntmps22
  go_wp2_with fail
  clear hW1
  go_loopw [7, 12] (fun v i wr => ∃ j : Nat, ∃ P : List Bv, j ≤ l.length ∧ i = .int .i64 j ∧ Told w.heap.size wr v P ((l.take j).map fun n => bytesL (s.msg n)) ∧ PairAt wr w.heap.size s.my s.peer F.g F.i ∧ Kept [] w wr) (fun _ i _ => l.length - (intOf i).toNat)
  case atStart => exact ⟨0, [], by omega, rfl, told_nil _ _, hA, kA⟩
  case round =>
    obtain ⟨j, P, hj, rfl, hT, hPr, hk⟩ := hrel
    by_cases hlt : j < l.length
    · obtain ⟨n, hn⟩ : ∃ n, l[j]? = some n := ⟨_, List.getElem?_eq_getElem hlt⟩
      have hN := hl.kept hk (by simp)
      obtain ⟨ga, e1, -, -, cN⟩ := hN.at j n hn
      subst e1
      obtain ⟨c0, c1, c2, c3⟩ := hPr.four
      obtain ⟨BL, hBL⟩ : ∃ BL, Hid (bytesL (s.msg n) = BL) := ⟨_, rfl⟩
      have HS : Hid ((l.take (j + 1)).map (fun n => bytesL (s.msg n)) = (l.take j).map (fun n => bytesL (s.msg n)) ++ [BL]) := by
        show _ = _
        rw [List.take_add_one, hn, ← hBL.out]
        simp
      have hPl : Hid (P.length ≤ 1000) := by
        show _ ≤ _
        have := hT.len
        rw [List.length_map, List.length_take] at this
        omega
      have hil : (j : Int) < (l.length : Int) := by omega
      have hm1 : Hid (l.length - (j + 1) < l.length - j) := by show _ < _; omega
      have hz := hk.size
      have q := msg_any F s n base hm hp wr (ho.kept0 hk) (hi.kept hk (by simp)) hs hb
      have hd : Hid (∀ _ : Nat, (s.msg n).d.length ≤ 1000) := fun _ => msg_d hb n
      obtain ⟨LL, hLL⟩ : ∃ LL, l.length = LL := ⟨_, rfl⟩
      clear hl hN
      rw [hLL] at hil hm1 ⊢
      have hjL : Hid (j < LL) := by show _ < _; omega
      have hLs : (LL : Int) ≤ 1000 := by omega
      clear hlt hj
      go_wp2_with (first
        | (go_at_call 23; refine q.mono ?_; rintro e w1 ⟨x, rfl, hx1, hA1, hk1⟩; have qb := Wire.bytes_any x 0 _ w1 hA1 (Nat.le_refl _) (len_ok hx1 hA1 (hd.out 0)); rw [hx1, hBL.out] at qb; clear hx1 hA1)
        | (go_at_call 43; refine qb.mono ?_; rintro e w2 ⟨sb, cb, rfl, hO2, hk2⟩)
        | (at_builtin; refine wpList_append_any rfl _ _ rfl w.heap.size _ _ P [⟨sb, BL.length, cb, BL⟩] rfl rfl ?c1 ?c2 ?c3 ?c4 ?_))
      case c1 => exact hT.row.kept0 ((hk1.trans hk2).trans (kept_alloc [] _ _))
      case c2 => exact lies_one _ _ (by simp) (cell_one_new _ _ _ 0 _ rfl)
      case c3 => have := hPl.out; simp; omega
      case c4 => have := hk1.size; have := hk2.size; simp; omega
      intro sc nc cc w3 hr3 hk3 _
      have hk13 := (hk1.trans hk2).trans (kept_alloc [] w2 (.cells #[.slice sb BL.length cb] 34))
      have hrow := hT.row.kept0 hk13
      have hnb : NoByt u7.ownBlock.toList (w2.alloc (.cells #[.slice sb BL.length cb] 34)) := fun k hm c hc => by
        obtain ⟨cur, hcur⟩ := hrow.blk k (by simpa using hm)
        exact blk_ne hc hcur (by decide) rfl
      have hk4 : Kept [] w w3 := by
        have hk14 := hk.trans hk13
        refine ⟨hk3.os.trans hk14.os, hk3.tape.trans hk14.tape, hk3.output.trans hk14.output, Nat.le_trans hk14.size hk3.size, fun i hi _ => (hk3.block i (Nat.lt_of_lt_of_le hi hk14.size) (fun hm => ?_)).trans (hk14.block i hi (by simp))⟩
        have := (hrow.lt i (by simpa using hm)).1
        omega
      have hPr4 : PairAt w3 w.heap.size s.my s.peer F.g F.i := (hPr.kept hk13 (by simp)).kept hk3 (fun hm => by
        obtain ⟨cur, hcur⟩ := hrow.blk _ (by simpa using hm)
        exact blk_ne (hPr.kept hk13 (by simp)) hcur (by decide) rfl)
      have hT4 : Told w.heap.size w3 (.slice sc nc cc) (P ++ [⟨sb, BL.length, cb, BL⟩]) ((l.take (j + 1)).map fun n => bytesL (s.msg n)) := by
        refine ⟨hr3, ?_, fun y hy => ?_⟩
        · rw [HS.out, List.map_append, hT.bs]
          rfl
        · rcases List.mem_append.1 hy with hy | hy
          · exact ((hT.mem y hy).kept hk13 (Outbox.noByt_nil _)).kept hk3 hnb
          · rw [List.mem_singleton] at hy
            subst hy
            exact ((own_byt hO2).kept (kept_alloc [] _ _) (Outbox.noByt_nil _)).kept hk3 hnb
      clear hT HS hr3 hk3 hk13 hrow hnb hPr
      go_wp2
      go_roundw
      case rel => exact ⟨j + 1, _, by have := hjL.out; omega, by go_num, hT4, hPr4, hk4⟩
      case measure => simpa [intOf] using hm1.out
    · obtain rfl : j = l.length := by omega
      rw [List.take_length] at hT
      go_wp2
      go_ret
      exact ⟨_, P, rfl, hT, hk⟩
set_option maxRecDepth 100000 in
/-- tell, with ping -/
theorem tell_ping (F : Foot) (s : Ss) (_base : Nat) (hm : s.my < 4294967296) (hp : s.peer < 4294967296) (w : World) (hi : InAt w F.i s.last) (b0 : Nat) (sa : Option Addr) (len cap : Nat) (l : List Nat) (hl : NRow b0 w (.slice sa len cap) l) (hll : l.length ≤ 1000) (h0 : ∀ n ∈ l, n = 0) :
    Calls Try.prog 22 #[.agg #[.int .u32 (s.my : Int), .int .u32 (s.peer : Int), .pointer (some ⟨F.g, 0, none⟩), .pointer (some ⟨F.i, 0, none⟩)], .func (.func 27) #[] #[], .slice sa len cap] w fun e w' => ∃ v P, e = .returned v ∧ Told w.heap.size w' v P (l.map fun _ => bytesL (s.ping)) ∧ Kept [] w w' := by
  obtain ⟨sa0, cap0, e0, -, -⟩ := hl.slice
  injection e0 with e1 e2 e3
  subst e1 e2 e3
  have kA := kept_alloc [] w (.cells #[.int .u32 (s.my : Int), .int .u32 (s.peer : Int), .pointer (some ⟨F.g, 0, none⟩), .pointer (some ⟨F.i, 0, none⟩)] 53)
  have hA : PairAt _ w.heap.size s.my s.peer F.g F.i := blk_new w 53 #[.int .u32 (s.my : Int), .int .u32 (s.peer : Int), .pointer (some ⟨F.g, 0, none⟩), .pointer (some ⟨F.i, 0, none⟩)]
  obtain ⟨W1, hW1⟩ : ∃ W1, w.alloc (.cells #[.int .u32 (s.my : Int), .int .u32 (s.peer : Int), .pointer (some ⟨F.g, 0, none⟩), .pointer (some ⟨F.i, 0, none⟩)] 53) = W1 := ⟨_, rfl⟩
  rw [hW1] at kA hA
  go_enter Try.func22, Try.ntmps22
  go_wp2_with fail
  clear hW1
  go_loopw [7, 12] (fun v i wr => ∃ j : Nat, ∃ P : List Bv, j ≤ l.length ∧ i = .int .i64 j ∧ Told w.heap.size wr v P ((l.take j).map fun _ => bytesL (s.ping)) ∧ PairAt wr w.heap.size s.my s.peer F.g F.i ∧ Kept [] w wr) (fun _ i _ => l.length - (intOf i).toNat)
  case atStart => exact ⟨0, [], by omega, rfl, told_nil _ _, hA, kA⟩
  case round =>
    obtain ⟨j, P, hj, rfl, hT, hPr, hk⟩ := hrel
    by_cases hlt : j < l.length
    · obtain ⟨n, hn⟩ : ∃ n, l[j]? = some n := ⟨_, List.getElem?_eq_getElem hlt⟩
      have hN := hl.kept hk (by simp)
      obtain ⟨ga, e1, -, -, cN⟩ := hN.at j n hn
      subst e1
      obtain rfl : n = 0 := h0 n (List.mem_of_getElem? hn)
      replace cN : wr.cell? ⟨ga, j, none⟩ = some (.int .i64 0) := cN
      obtain ⟨c0, c1, c2, c3⟩ := hPr.four
      obtain ⟨BL, hBL⟩ : ∃ BL, Hid (bytesL (s.ping) = BL) := ⟨_, rfl⟩
      have HS : Hid ((l.take (j + 1)).map (fun _ => bytesL (s.ping)) = (l.take j).map (fun _ => bytesL (s.ping)) ++ [BL]) := by
        show _ = _
        rw [List.take_add_one, hn, ← hBL.out]
        simp
      have hPl : Hid (P.length ≤ 1000) := by
        show _ ≤ _
        have := hT.len
        rw [List.length_map, List.length_take] at this
        omega
      have hil : (j : Int) < (l.length : Int) := by omega
      have hm1 : Hid (l.length - (j + 1) < l.length - j) := by show _ < _; omega
      have hz := hk.size
      have q := ping_any F s hm hp wr (hi.kept hk (by simp))
      have hd : Hid (∀ _ : Nat, (s.ping).d.length ≤ 1000) := fun n => by show 0 ≤ 1000; omega
      obtain ⟨LL, hLL⟩ : ∃ LL, l.length = LL := ⟨_, rfl⟩
      clear hl hN
      rw [hLL] at hil hm1 ⊢
      have hjL : Hid (j < LL) := by show _ < _; omega
      have hLs : (LL : Int) ≤ 1000 := by omega
      clear hlt hj
      go_wp2_with (first
        | (go_at_call 27; refine q.mono ?_; rintro e w1 ⟨x, rfl, hx1, hA1, hk1⟩; have qb := Wire.bytes_any x 0 _ w1 hA1 (Nat.le_refl _) (len_ok hx1 hA1 (hd.out 0)); rw [hx1, hBL.out] at qb; clear hx1 hA1)
        | (go_at_call 43; refine qb.mono ?_; rintro e w2 ⟨sb, cb, rfl, hO2, hk2⟩)
        | (at_builtin; refine wpList_append_any rfl _ _ rfl w.heap.size _ _ P [⟨sb, BL.length, cb, BL⟩] rfl rfl ?c1 ?c2 ?c3 ?c4 ?_))
      case c1 => exact hT.row.kept0 ((hk1.trans hk2).trans (kept_alloc [] _ _))
      case c2 => exact lies_one _ _ (by simp) (cell_one_new _ _ _ 0 _ rfl)
      case c3 => have := hPl.out; simp; omega
      case c4 => have := hk1.size; have := hk2.size; simp; omega
      intro sc nc cc w3 hr3 hk3 _
      have hk13 := (hk1.trans hk2).trans (kept_alloc [] w2 (.cells #[.slice sb BL.length cb] 34))
      have hrow := hT.row.kept0 hk13
      have hnb : NoByt u7.ownBlock.toList (w2.alloc (.cells #[.slice sb BL.length cb] 34)) := fun k hm c hc => by
        obtain ⟨cur, hcur⟩ := hrow.blk k (by simpa using hm)
        exact blk_ne hc hcur (by decide) rfl
      have hk4 : Kept [] w w3 := by
        have hk14 := hk.trans hk13
        refine ⟨hk3.os.trans hk14.os, hk3.tape.trans hk14.tape, hk3.output.trans hk14.output, Nat.le_trans hk14.size hk3.size, fun i hi _ => (hk3.block i (Nat.lt_of_lt_of_le hi hk14.size) (fun hm => ?_)).trans (hk14.block i hi (by simp))⟩
        have := (hrow.lt i (by simpa using hm)).1
        omega
      have hPr4 : PairAt w3 w.heap.size s.my s.peer F.g F.i := (hPr.kept hk13 (by simp)).kept hk3 (fun hm => by
        obtain ⟨cur, hcur⟩ := hrow.blk _ (by simpa using hm)
        exact blk_ne (hPr.kept hk13 (by simp)) hcur (by decide) rfl)
      have hT4 : Told w.heap.size w3 (.slice sc nc cc) (P ++ [⟨sb, BL.length, cb, BL⟩]) ((l.take (j + 1)).map fun _ => bytesL (s.ping)) := by
        refine ⟨hr3, ?_, fun y hy => ?_⟩
        · rw [HS.out, List.map_append, hT.bs]
          rfl
        · rcases List.mem_append.1 hy with hy | hy
          · exact ((hT.mem y hy).kept hk13 (Outbox.noByt_nil _)).kept hk3 hnb
          · rw [List.mem_singleton] at hy
            subst hy
            exact ((own_byt hO2).kept (kept_alloc [] _ _) (Outbox.noByt_nil _)).kept hk3 hnb
      clear hT HS hr3 hk3 hk13 hrow hnb hPr
      go_wp2
      go_roundw
      case rel => exact ⟨j + 1, _, by have := hjL.out; omega, by go_num, hT4, hPr4, hk4⟩
      case measure => simpa [intOf] using hm1.out
    · obtain rfl : j = l.length := by omega
      rw [List.take_length] at hT
      go_wp2
      go_ret
      exact ⟨_, P, rfl, hT, hk⟩
set_option maxRecDepth 100000 in
/-- tell, with hello -/
theorem tell_hello (F : Foot) (s : Ss) (_base : Nat) (hm : s.my < 4294967296) (_hp : s.peer < 4294967296) (w : World)  (b0 : Nat) (sa : Option Addr) (len cap : Nat) (l : List Nat) (hl : NRow b0 w (.slice sa len cap) l) (hll : l.length ≤ 1000) (h0 : ∀ n ∈ l, n = 0) :
    Calls Try.prog 22 #[.agg #[.int .u32 (s.my : Int), .int .u32 (s.peer : Int), .pointer (some ⟨F.g, 0, none⟩), .pointer (some ⟨F.i, 0, none⟩)], .func (.func 25) #[] #[], .slice sa len cap] w fun e w' => ∃ v P, e = .returned v ∧ Told w.heap.size w' v P (l.map fun _ => bytesL (s.hello)) ∧ Kept [] w w' := by
  obtain ⟨sa0, cap0, e0, -, -⟩ := hl.slice
  injection e0 with e1 e2 e3
  subst e1 e2 e3
  have kA := kept_alloc [] w (.cells #[.int .u32 (s.my : Int), .int .u32 (s.peer : Int), .pointer (some ⟨F.g, 0, none⟩), .pointer (some ⟨F.i, 0, none⟩)] 53)
  have hA : PairAt _ w.heap.size s.my s.peer F.g F.i := blk_new w 53 #[.int .u32 (s.my : Int), .int .u32 (s.peer : Int), .pointer (some ⟨F.g, 0, none⟩), .pointer (some ⟨F.i, 0, none⟩)]
  obtain ⟨W1, hW1⟩ : ∃ W1, w.alloc (.cells #[.int .u32 (s.my : Int), .int .u32 (s.peer : Int), .pointer (some ⟨F.g, 0, none⟩), .pointer (some ⟨F.i, 0, none⟩)] 53) = W1 := ⟨_, rfl⟩
  rw [hW1] at kA hA
  go_enter Try.func22, Try.ntmps22
  go_wp2_with fail
  clear hW1
  go_loopw [7, 12] (fun v i wr => ∃ j : Nat, ∃ P : List Bv, j ≤ l.length ∧ i = .int .i64 j ∧ Told w.heap.size wr v P ((l.take j).map fun _ => bytesL (s.hello)) ∧ PairAt wr w.heap.size s.my s.peer F.g F.i ∧ Kept [] w wr) (fun _ i _ => l.length - (intOf i).toNat)
  case atStart => exact ⟨0, [], by omega, rfl, told_nil _ _, hA, kA⟩
  case round =>
    obtain ⟨j, P, hj, rfl, hT, hPr, hk⟩ := hrel
    by_cases hlt : j < l.length
    · obtain ⟨n, hn⟩ : ∃ n, l[j]? = some n := ⟨_, List.getElem?_eq_getElem hlt⟩
      have hN := hl.kept hk (by simp)
      obtain ⟨ga, e1, -, -, cN⟩ := hN.at j n hn
      subst e1
      obtain rfl : n = 0 := h0 n (List.mem_of_getElem? hn)
      replace cN : wr.cell? ⟨ga, j, none⟩ = some (.int .i64 0) := cN
      obtain ⟨c0, c1, c2, c3⟩ := hPr.four
      obtain ⟨BL, hBL⟩ : ∃ BL, Hid (bytesL (s.hello) = BL) := ⟨_, rfl⟩
      have HS : Hid ((l.take (j + 1)).map (fun _ => bytesL (s.hello)) = (l.take j).map (fun _ => bytesL (s.hello)) ++ [BL]) := by
        show _ = _
        rw [List.take_add_one, hn, ← hBL.out]
        simp
      have hPl : Hid (P.length ≤ 1000) := by
        show _ ≤ _
        have := hT.len
        rw [List.length_map, List.length_take] at this
        omega
      have hil : (j : Int) < (l.length : Int) := by omega
      have hm1 : Hid (l.length - (j + 1) < l.length - j) := by show _ < _; omega
      have hz := hk.size
      have q := hello_any F s hm wr
      have hd : Hid (∀ _ : Nat, (s.hello).d.length ≤ 1000) := fun n => by show 0 ≤ 1000; omega
      obtain ⟨LL, hLL⟩ : ∃ LL, l.length = LL := ⟨_, rfl⟩
      clear hl hN
      rw [hLL] at hil hm1 ⊢
      have hjL : Hid (j < LL) := by show _ < _; omega
      have hLs : (LL : Int) ≤ 1000 := by omega
      clear hlt hj
      go_wp2_with (first
        | (go_at_call 25; refine q.mono ?_; rintro e w1 ⟨x, rfl, hx1, hA1, hk1⟩; have qb := Wire.bytes_any x 0 _ w1 hA1 (Nat.le_refl _) (len_ok hx1 hA1 (hd.out 0)); rw [hx1, hBL.out] at qb; clear hx1 hA1)
        | (go_at_call 43; refine qb.mono ?_; rintro e w2 ⟨sb, cb, rfl, hO2, hk2⟩)
        | (at_builtin; refine wpList_append_any rfl _ _ rfl w.heap.size _ _ P [⟨sb, BL.length, cb, BL⟩] rfl rfl ?c1 ?c2 ?c3 ?c4 ?_))
      case c1 => exact hT.row.kept0 ((hk1.trans hk2).trans (kept_alloc [] _ _))
      case c2 => exact lies_one _ _ (by simp) (cell_one_new _ _ _ 0 _ rfl)
      case c3 => have := hPl.out; simp; omega
      case c4 => have := hk1.size; have := hk2.size; simp; omega
      intro sc nc cc w3 hr3 hk3 _
      have hk13 := (hk1.trans hk2).trans (kept_alloc [] w2 (.cells #[.slice sb BL.length cb] 34))
      have hrow := hT.row.kept0 hk13
      have hnb : NoByt u7.ownBlock.toList (w2.alloc (.cells #[.slice sb BL.length cb] 34)) := fun k hm c hc => by
        obtain ⟨cur, hcur⟩ := hrow.blk k (by simpa using hm)
        exact blk_ne hc hcur (by decide) rfl
      have hk4 : Kept [] w w3 := by
        have hk14 := hk.trans hk13
        refine ⟨hk3.os.trans hk14.os, hk3.tape.trans hk14.tape, hk3.output.trans hk14.output, Nat.le_trans hk14.size hk3.size, fun i hi _ => (hk3.block i (Nat.lt_of_lt_of_le hi hk14.size) (fun hm => ?_)).trans (hk14.block i hi (by simp))⟩
        have := (hrow.lt i (by simpa using hm)).1
        omega
      have hPr4 : PairAt w3 w.heap.size s.my s.peer F.g F.i := (hPr.kept hk13 (by simp)).kept hk3 (fun hm => by
        obtain ⟨cur, hcur⟩ := hrow.blk _ (by simpa using hm)
        exact blk_ne (hPr.kept hk13 (by simp)) hcur (by decide) rfl)
      have hT4 : Told w.heap.size w3 (.slice sc nc cc) (P ++ [⟨sb, BL.length, cb, BL⟩]) ((l.take (j + 1)).map fun _ => bytesL (s.hello)) := by
        refine ⟨hr3, ?_, fun y hy => ?_⟩
        · rw [HS.out, List.map_append, hT.bs]
          rfl
        · rcases List.mem_append.1 hy with hy | hy
          · exact ((hT.mem y hy).kept hk13 (Outbox.noByt_nil _)).kept hk3 hnb
          · rw [List.mem_singleton] at hy
            subst hy
            exact ((own_byt hO2).kept (kept_alloc [] _ _) (Outbox.noByt_nil _)).kept hk3 hnb
      clear hT HS hr3 hk3 hk13 hrow hnb hPr
      go_wp2
      go_roundw
      case rel => exact ⟨j + 1, _, by have := hjL.out; omega, by go_num, hT4, hPr4, hk4⟩
      case measure => simpa [intOf] using hm1.out
    · obtain rfl : j = l.length := by omega
      rw [List.take_length] at hT
      go_wp2
      go_ret
      exact ⟨_, P, rfl, hT, hk⟩
set_option maxRecDepth 100000 in
theorem Try.sizePr : (Try.prog.info? 53).map (·.size) = some 4 := by kernel_rfl
theorem RowAt.lower {base base' : Nat} {W : World} {v : Value} {P : List Bv} {gr : Option Nat} {k : Nat} (h : RowAt base W v P gr k) (hb : base' ≤ base) : RowAt base' W v P gr k := by
  obtain ⟨a, cap, e, h1, h2, h3 | ⟨g, off, cur, e1, e2, h4, h5, h6, h7⟩⟩ := h
  · exact ⟨a, cap, e, h1, h2, .inl h3⟩
  · exact ⟨a, cap, e, h1, h2, .inr ⟨g, off, cur, e1, e2, Nat.le_trans hb h4, h5, h6, h7⟩⟩
theorem OutAt.lower {base base' o : Nat} {W : World} {gr : Option Nat} {s : Ob} (h : OutAt W base o gr s) (hb : base' ≤ base) : OutAt W base' o gr s := by
  obtain ⟨v, P, h1, h2, h3, h4⟩ := h.blk
  exact ⟨⟨v, P, h1, RowAt.lower h2 hb, h3, h4⟩, h.first, h.pos, h.top, Nat.le_trans hb h.low⟩
theorem SsAt.lower {base base' : Nat} {W : World} {F : Foot} {s : Ss} (h : SsAt W base F s) (hb : base' ≤ base) : SsAt W base' F s :=
  ⟨h.blk, OutAt.lower h.out hb, h.inn, h.kp, h.my1, h.my2, h.peer, Nat.le_trans hb h.lo, Nat.le_trans hb h.li, Nat.le_trans hb h.lk⟩
theorem Told.lower {base base' : Nat} {W : World} {v : Value} {P : List Bv} {L : List (List Nat)} (h : Told base W v P L) (hb : base' ≤ base) : Told base' W v P L := ⟨h.row.low hb, h.bs, h.mem⟩
set_option maxRecDepth 100000 in
/-- New -/
theorem new_any (my m p : Nat) (h1 : 1 ≤ my) (h2 : my < 4294967296) (m1 : 1 ≤ m) (m2 : m ≤ 64) (p1 : 1 ≤ p) (p2 : p ≤ 100) (w : World) :
    Calls Try.prog 6 #[.int .u32 (my : Int), .int .i64 (m : Int), .int .i64 (p : Int)] w fun e w' => ∃ F : Foot, e = .returned (.tuple #[.pointer (some ⟨F.o, 0, none⟩), .int .i64 0]) ∧ SsAt w' w.heap.size F (made my m p) ∧ Kept [] w w' := by
  have i1 : ¬ ((my : Int) = 0) := by omega
  have q1 := Outbox.new_any m m1 m2 w
  have q2 := fun W => Keep.new_good p p1 p2 W
  have q3 := fun W => Inbox.new_any W
  go_enter Try.func6, Try.ntmps6
  go_wp2_with (first
    | (go_at_call 17; refine q1.mono ?_; rintro e w1 ⟨rfl, hO1, hz1, hk1⟩; replace hz1 : Hid _ := hz1)
    | (go_at_call 18; refine (q2 _).mono ?_; rintro e w2 ⟨rfl, hK2, hz2, hk2⟩)
    | (go_at_call 19; refine (q3 _).mono ?_; rintro e w3 ⟨rfl, hI3, hz3, hk3⟩))
  go_ret2
  have kA := kept_alloc [] w3 (.cells #[.int .i64 (m : Int), .int .u32 (my : Int), .int .u32 0, .pointer (some ⟨w.heap.size, 0, none⟩), .pointer (some ⟨w2.heap.size, 0, none⟩), .pointer (some ⟨w1.heap.size, 0, none⟩)] 56)
  have z1 := hk1.size
  have z2 := hk2.size
  have z3 := hk3.size
  exact ⟨⟨w3.heap.size, w.heap.size, w2.heap.size, w1.heap.size, none⟩, rfl, ⟨blk_new w3 56 _, hO1.kept0 ((hk2.trans hk3).trans kA), hI3.kept kA (by simp), hK2.kept (hk3.trans kA) (by simp), h1, h2, by show 0 < _; omega, by show _ ≤ w3.heap.size; omega, by show _ ≤ w2.heap.size; omega, z1⟩, ((hk1.trans hk2).trans hk3).trans kA⟩
set_option maxRecDepth 100000 in
set_option maxHeartbeats 1000000 in
/-- meet -/
theorem meet_any {base : Nat} {F : Foot} {s : Ss} (p : Nat) (hp : p < 4294967296) (w : World) (h : SsAt w base F s) (hbw : base ≤ w.heap.size) :
    Calls Try.prog 29 #[.pointer (some ⟨F.o, 0, none⟩), .int .u32 (p : Int)] w fun e w' => ∃ g i : Nat, e = .returned (.tuple #[]) ∧ SsAt w' base ⟨F.o, g, i, F.k, none⟩ { s with peer := p, ob := Outbox.made s.ob.w, last := 0, age := 0 } ∧ w.heap.size ≤ g ∧ w.heap.size ≤ i ∧ Kept [F.o, F.k] w w' := by
  obtain ⟨c0, c1, c2, c3, c4, c5⟩ := h.six
  obtain ⟨n1, n2, n3, n4, n5, n6, n7⟩ := h.ne
  have hblk := h.blk
  have hlt := hblk.lt
  have hkp := h.kp
  have hltk := hkp.1.lt
  have q1 := Outbox.new_any s.ob.w h.out.pos h.out.top w
  go_enter Try.func29, Try.ntmps29
  go_wp2_with (go_at_call 17; refine q1.mono ?_; rintro e w1 ⟨rfl, hO1, hz1, hk1⟩; replace hz1 : Hid _ := hz1)
  clear c0 c1 c2 c3 c4 c5 q1
  have kD := hk1.trans (kept_drew [] w1)
  have hb1 := hblk.kept kD (by simp)
  have c1 : w1.drew.cell? ⟨F.o, 1, none⟩ = some (.int .u32 (s.my : Int)) := (hb1.cell 1).trans rfl
  have q3 := Inbox.new_any w1.drew
  refine wp_region_held_drew (S := fun W => W.cell? ⟨F.o, 1, none⟩ = some (.int .u32 (s.my : Int))) (by kernel_rfl) c1 (fun hP => ?_)
  have hH := hP
  clear hP
  refine wpAnyH_take (i := 0) (oi := ⟨some 14, _, _, _, _, _⟩) (v := (.pointer (some ⟨F.o, 0, none⟩))) rfl (by kernel_rfl) (by kernel_rfl) (by kernel_rfl) (fun _ _ _ h => h) (Or.inl ⟨by rfl, fun W hSw => by go_simp⟩) hH ?_
  try simp only [Act.put, List.setIfInBounds_toArray, List.set_cons_zero, List.set_cons_succ]
  refine wpAnyH_take (i := 1) (oi := ⟨some 15, _, _, _, _, _⟩) (v := (.pointer (some ⟨F.o, 0, none⟩))) rfl (by kernel_rfl) (by kernel_rfl) (by kernel_rfl) (fun _ _ _ h => h) (Or.inl ⟨by rfl, fun W hSw => by go_simp⟩) hH ?_
  try simp only [Act.put, List.setIfInBounds_toArray, List.set_cons_zero, List.set_cons_succ]
  refine wpAnyH_take (i := 2) (oi := ⟨some 16, _, _, _, _, _⟩) (v := (.pointer (some ⟨F.o, 0, none⟩))) rfl (by kernel_rfl) (by kernel_rfl) (by kernel_rfl) (fun _ _ _ h => h) (Or.inl ⟨by rfl, fun W hSw => by go_simp⟩) hH ?_
  try simp only [Act.put, List.setIfInBounds_toArray, List.set_cons_zero, List.set_cons_succ]
  refine wpAnyH_take (i := 3) (oi := ⟨some 17, _, _, _, _, _⟩) (v := (.pointer (some ⟨F.o, 1, none⟩))) rfl (by kernel_rfl) (by kernel_rfl) (by kernel_rfl) (fun _ _ _ h => h) (Or.inl ⟨by rfl, fun W hSw => by go_simp⟩) hH ?_
  try simp only [Act.put, List.setIfInBounds_toArray, List.set_cons_zero, List.set_cons_succ]
  refine wpAnyH_take (i := 4) (oi := ⟨some 18, _, _, _, _, _⟩) (v := (.pointer (some ⟨F.o, 1, none⟩))) rfl (by kernel_rfl) (by kernel_rfl) (by kernel_rfl) (fun _ _ _ h => h) (Or.inl ⟨by rfl, fun W hSw => by go_simp⟩) hH ?_
  try simp only [Act.put, List.setIfInBounds_toArray, List.set_cons_zero, List.set_cons_succ]
  refine wpAnyH_take (i := 5) (oi := ⟨some 19, _, _, _, _, _⟩) (v := (.int .u32 (s.my : Int))) rfl (by kernel_rfl) (by kernel_rfl) (by kernel_rfl) (fun _ _ _ h => h) (Or.inl ⟨by rfl, fun W hSw => by go_simp⟩) hH ?_
  try simp only [Act.put, List.setIfInBounds_toArray, List.set_cons_zero, List.set_cons_succ]
  refine wpAnyH_take (i := 6) (oi := ⟨some 20, _, _, _, _, _⟩) (v := (.int .u32 (p : Int))) rfl (by kernel_rfl) (by kernel_rfl) (by kernel_rfl) (fun _ _ _ h => h) (Or.inl ⟨by rfl, fun W hSw => by go_simp⟩) hH ?_
  try simp only [Act.put, List.setIfInBounds_toArray, List.set_cons_zero, List.set_cons_succ]
  refine wpAnyH_take (i := 7) (oi := ⟨some 21, _, _, _, _, _⟩) (v := (.pointer (some ⟨w.heap.size, 0, none⟩))) rfl (by kernel_rfl) (by kernel_rfl) (by kernel_rfl) (fun _ _ _ h => h) (Or.inl ⟨by rfl, fun W hSw => by go_simp⟩) hH ?_
  try simp only [Act.put, List.setIfInBounds_toArray, List.set_cons_zero, List.set_cons_succ]
  refine wpAnyH_ready (rs := [8]) (by kernel_rfl) (by simp) ?_
  refine AllReadyH.cons (o := ⟨some 22, _, _, _, _, _⟩) rfl (fun KK hKK => ?_) AllReadyH.nil
  go_simp
  refine q3.mono ?_
  rintro e w3 ⟨rfl, hI3, hz3, hk3⟩
  have hb3 := hb1.kept hk3 (by simp)
  go_wp2_with fail
  have hH1 := (hb3.cell 1).trans rfl
  refine hKK.out _ _ hH1 (fun _ => ?_)
  replace hH := hH1
  clear hKK KK hH1
  try simp only [Act.put, List.setIfInBounds_toArray, List.set_cons_zero, List.set_cons_succ]
  refine wpAnyH_take (i := 9) (oi := ⟨some 23, _, _, _, _, _⟩) (v := (.agg #[.int .u32 (s.my : Int), .int .u32 (p : Int), .pointer (some ⟨w.heap.size, 0, none⟩), .pointer (some ⟨w1.drew.heap.size, 0, none⟩)])) rfl (by kernel_rfl) (by kernel_rfl) (by kernel_rfl) (fun _ _ _ h => h) (Or.inl ⟨by rfl, fun W hSw => by go_simp⟩) hH ?_
  try simp only [Act.put, List.setIfInBounds_toArray, List.set_cons_zero, List.set_cons_succ]
  refine wpAnyH_take (i := 10) (oi := ⟨some 24, _, _, _, _, _⟩) (v := (.pointer (some ⟨F.o, 0, none⟩))) rfl (by kernel_rfl) (by kernel_rfl) (by kernel_rfl) (fun _ _ _ h => h) (Or.inl ⟨by rfl, fun W hSw => by go_simp⟩) hH ?_
  try simp only [Act.put, List.setIfInBounds_toArray, List.set_cons_zero, List.set_cons_succ]
  refine wpAnyH_take (i := 11) (oi := ⟨some 25, _, _, _, _, _⟩) (v := (.pointer (some ⟨F.o, 1, none⟩))) rfl (by kernel_rfl) (by kernel_rfl) (by kernel_rfl) (fun _ _ _ h => h) (Or.inl ⟨by rfl, fun W hSw => by go_simp⟩) hH ?_
  try simp only [Act.put, List.setIfInBounds_toArray, List.set_cons_zero, List.set_cons_succ]
  refine wpAnyH_ready (rs := [12]) (by kernel_rfl) (by simp) ?_
  refine AllReadyH.cons (o := ⟨none, _, _, _, _, _⟩) rfl (fun KK hKK => ?_) AllReadyH.nil
  refine step_store_part rfl 53 (.tmp 25) (.tmp 23) rfl F.o 56 [.int .i64 (s.ob.w : Int)] [.int .u32 (s.my : Int), .int .u32 (s.peer : Int), .pointer (some ⟨F.g, 0, none⟩), .pointer (some ⟨F.i, 0, none⟩)] [.pointer (some ⟨F.k, 0, none⟩)] [.int .u32 (s.my : Int), .int .u32 (p : Int), .pointer (some ⟨w.heap.size, 0, none⟩), .pointer (some ⟨w1.drew.heap.size, 0, none⟩)] 1 rfl (by simp [Act.eval]) (by simp [Act.eval]) hb3 rfl Try.sizePr (by simp [Value.oneCell']) ?_
  intro w6 hb6 hk6 hz6
  have hH1 := (hb6.cell 1).trans rfl
  refine hKK.out _ _ hH1 (fun _ => ?_)
  replace hH := hH1
  clear hKK KK hH1
  try simp only [Act.put]
  refine wpAnyH_done (by kernel_rfl) ?_ _
  have hkp6 : KpAt w6 F.k s.pat s.age := ((hkp.kept kD (by simp)).kept hk3 (by simp)).kept hk6 (by simpa using n3.symm)
  have q4 := Keep.heard_any _ hkp6
  have c5 : w6.cell? ⟨F.o, 5, none⟩ = some (.pointer (some ⟨F.k, 0, none⟩)) := (hb6.cell 5).trans rfl
  go_wp2_with (go_at_call 30; refine q4.mono ?_; rintro e w7 ⟨rfl, hK7, hk7⟩)
  go_end0
  have z1 := hk1.size
  have ne1 : w.heap.size ≠ F.o := by omega
  have ne2 : w.heap.size ≠ F.k := by omega
  have ne3 : w1.heap.size ≠ F.o := by omega
  have ne4 : w1.heap.size ≠ F.k := by omega
  have hO6 : OutAt w6 w.heap.size w.heap.size none (Outbox.made s.ob.w) := ((hO1.kept0 (kept_drew [] w1)).kept0 hk3).kept hk6 (by simpa using ne1) (fun _ e => by cases e) (NoByt.cons (Outbox.noByt_nil _) hb3 (by decide))
  have hO7 := hO6.kept hk7 (by simpa using ne2) (fun _ e => by cases e) (NoByt.cons (Outbox.noByt_nil _) hkp6.1 (by decide))
  refine ⟨w.heap.size, w1.drew.heap.size, rfl, ⟨hb6.kept hk7 (by simpa using n3), OutAt.lower hO7 hbw, (hI3.kept hk6 (by simpa using ne3)).kept hk7 (by simpa using ne4), hK7, h.my1, h.my2, hp, h.lo, by show base ≤ w1.heap.size; omega, h.lk⟩, Nat.le_refl _, z1, ?_⟩
  exact (((kD.trans hk3).mono (by simp)).trans (hk6.mono (by simp))).trans (hk7.mono (by simp))
end Go.Proofs.Ytnbkbakbjllmcaa.Session
