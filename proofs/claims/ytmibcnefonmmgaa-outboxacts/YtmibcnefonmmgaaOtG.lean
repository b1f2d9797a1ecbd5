/-
  The walks of the document's outbox: New, Full, Numbers, Push, Body.
-/
import Derived.Test.YtmibcnefonmmgaaOtF
namespace Go.Proofs.Ytmibcnefonmmgaa.Outbox
open Go.RowKit

/-- Its block: the bodies, the first one's number, the window. -/
def RRaw (W : World) (r n m : Nat) (a : Option Addr) (L cap : Nat) : Prop := Blk W r 44 #[.slice a L cap, .int .i64 (n : Int), .int .i64 (m : Int)]
theorem RRaw.kept {K : List Nat} {X Y : World} {r n m : Nat} {a : Option Addr} {L cap : Nat} (h : RRaw X r n m a L cap) (hk : Kept K X Y) (hr : r ∉ K) : RRaw Y r n m a L cap := Blk.kept h hk hr
theorem RRaw.three {W : World} {r n m : Nat} {a : Option Addr} {L cap : Nat} (h : RRaw W r n m a L cap) : W.cell? ⟨r, 0, none⟩ = some (.slice a L cap) ∧ W.cell? ⟨r, 1, none⟩ = some (.int .i64 (n : Int)) ∧ W.cell? ⟨r, 2, none⟩ = some (.int .i64 (m : Int)) :=
  ⟨(Blk.cell h 0).trans rfl, (Blk.cell h 1).trans rfl, (Blk.cell h 2).trans rfl⟩
structure RefAt (W : World) (base r : Nat) (gr : Option Nat) (s : Ob) : Prop where
  blk : ∃ v P, Blk W r 44 #[v, .int .i64 (s.n : Int), .int .i64 (s.w : Int)] ∧ RowAt base W v P gr 0 ∧ P.map Bv.bs = s.l ∧ ∀ x ∈ P, x.At W
  first : 1 ≤ s.n
  pos : 1 ≤ s.w
  top : s.w ≤ 64
  low : base ≤ r
theorem RefAt.kept {K : List Nat} {A B : World} {base r : Nat} {gr : Option Nat} {s : Ob} (h : RefAt A base r gr s) (hk : Kept K A B) (ho : r ∉ K) (hg : ∀ g, gr = some g → g ∉ K) (hb : NoByt K A) : RefAt B base r gr s := by
  obtain ⟨v, P, h1, h2, h3, h4⟩ := h.blk
  exact ⟨⟨v, P, h1.kept hk ho, h2.kept hk hg, h3, fun x hx => (h4 x hx).kept hk hb⟩, h.first, h.pos, h.top, h.low⟩
theorem RefAt.kept0 {A B : World} {base r : Nat} {gr : Option Nat} {s : Ob} (h : RefAt A base r gr s) (hk : Kept [] A B) : RefAt B base r gr s := h.kept hk (by simp) (fun _ _ => by simp) (noByt_nil _)
theorem RefAt.three {W : World} {base r : Nat} {gr : Option Nat} {s : Ob} (h : RefAt W base r gr s) :
    ∃ a cap P, RRaw W r s.n s.w a s.l.length cap ∧ RowAt base W (.slice a s.l.length cap) P gr 0 ∧ P.map Bv.bs = s.l ∧ (∀ x ∈ P, x.At W) ∧ P.length = s.l.length ∧ s.l.length ≤ cap := by
  obtain ⟨v, P, h1, h2, h3, h4⟩ := h.blk
  obtain ⟨a, cap, e, h5, h6⟩ := h2.open
  have hl : P.length = s.l.length := by rw [← h3, List.length_map]
  subst e
  rw [hl] at h1 h2 h5
  exact ⟨a, cap, P, h1, h2, h3, h4, hl, h5⟩
theorem RefAt.foot {W : World} {base r : Nat} {gr : Option Nat} {s : Ob} (h : RefAt W base r gr s) : NoByt (r :: gr.toList) W := by
  obtain ⟨v, P, h1, h2, _⟩ := h.blk
  refine NoByt.cons ?_ h1 (by decide)
  cases gr with
  | none => exact noByt_nil W
  | some g =>
    obtain ⟨_, _, cur, hc⟩ := h2.low g rfl
    exact NoByt.cons (noByt_nil W) hc (by decide)
theorem RefAt.lt {W : World} {base r : Nat} {gr : Option Nat} {s : Ob} (h : RefAt W base r gr s) : r < W.heap.size ∧ ∀ g, gr = some g → base ≤ g ∧ g < W.heap.size ∧ g ≠ r := by
  obtain ⟨v, P, h1, h2, _⟩ := h.blk
  refine ⟨h1.lt, fun g hg => ?_⟩
  obtain ⟨h3, h4, cur, hc⟩ := h2.low g hg
  refine ⟨h3, h4, fun e => ?_⟩
  subst e
  unfold Blk at h1 hc
  rw [h1] at hc
  injection hc with hc
  injection hc with _ hc _
  exact absurd hc (by decide)
theorem RefAt.young {X W Y : World} {base r : Nat} {gr : Option Nat} {s : Ob} (h : RefAt W base r gr s) (h0 : Kept [] X W) (hb : X.heap.size ≤ base) (hk : Kept (r :: gr.toList) W Y) : Kept [] X Y := by
  refine ⟨hk.os.trans h0.os, hk.tape.trans h0.tape, hk.output.trans h0.output, Nat.le_trans h0.size hk.size, fun i hi _ => (hk.block i (Nat.lt_of_lt_of_le hi h0.size) (fun hm => ?_)).trans (h0.block i hi (by simp))⟩
  have := h.low
  rcases List.mem_cons.1 hm with e | e
  · omega
  · have := (h.lt.2 i (by simpa using e)).1
    omega
set_option maxRecDepth 100000 in
/-- New -/
theorem rnew_any (m : Nat) (h1 : 1 ≤ m) (h2 : m ≤ 64) (w : World) :
    Calls Try.prog 8 #[.int .i64 (m : Int)] w fun e w' => e = .returned (.tuple #[.pointer (some ⟨w.heap.size, 0, none⟩), .int .i64 0]) ∧ RefAt w' w.heap.size w.heap.size none (made m) ∧ w'.heap.size = w.heap.size + 1 ∧ Kept [] w w' := by
  have k1 : ¬ ((m : Int) < 1) := by omega
  have k2 : ¬ ((64 : Int) < (m : Int)) := by omega
  go_enter Try.func8, Try.ntmps8
  go_wp2
  all_goals first | omega | skip
  go_ret2
  exact ⟨rfl, ⟨⟨_, [], blk_new w 44 #[.slice none 0 0, .int .i64 1, .int .i64 (m : Int)], row_nil _ _, rfl, by simp⟩, Nat.le_refl _, h1, h2, Nat.le_refl _⟩, by simp, kept_alloc [] _ _⟩
set_option maxRecDepth 100000 in
/-- New, of any other number -/
theorem rnew_none (k : Int) (h : k < 1 ∨ 64 < k) (w : World) :
    Calls Try.prog 8 #[.int .i64 k] w fun e w' => e = .returned (.tuple #[.pointer none, .int .i64 2]) ∧ w' = w := by
  go_enter Try.func8, Try.ntmps8
  go_wp2
  all_goals first | omega | (go_ret2; exact ⟨rfl, rfl⟩)
set_option maxRecDepth 100000 in
/-- Full -/
theorem rfull_any {r n m : Nat} {a : Option Addr} {L cap : Nat} (w : World) (h : RRaw w r n m a L cap) :
    Calls Try.prog 18 #[.pointer (some ⟨r, 0, none⟩)] w fun e w' => e = .returned (.bool (decide (m ≤ L))) ∧ Kept [] w w' := by
  have c0 := fun k => (h.kept (kept_drewN [] w k) (by simp)).three.1
  have c2 := fun k => (h.kept (kept_drewN [] w k) (by simp)).three.2.2
  go_enter Try.func18, Try.ntmps18
  go_wp2_with fail
  go_quiet (fail)
  go_wp2_with fail
  go_ret
  exact ⟨by simp, kept_drewN [] _ _⟩
set_option maxRecDepth 100000 in
/-- Numbers -/
theorem rnumbers_any {r n m : Nat} {a : Option Addr} {L cap : Nat} (w : World) (h : RRaw w r n m a L cap) (hm : m ≤ 64) (hs : n + L ≤ 1000000) :
    Calls Try.prog 20 #[.pointer (some ⟨r, 0, none⟩)] w fun e w' => ∃ v, e = .returned v ∧ NRow w.heap.size w' v (nums n (min L m)) ∧ Kept [] w w' := by
  go_enter Try.func20, Try.ntmps20
  go_wp2
  go_loopw [3, 4] (fun v i wr => ∃ j : Nat, j ≤ min L m ∧ i = .int .i64 j ∧ NRow w.heap.size wr v (nums n j) ∧ Kept [] w wr) (fun _ i _ => min L m - (intOf i).toNat)
  case atStart => exact ⟨0, by omega, rfl, NRow.nil _ _, Kept.refl _ _⟩
  case round =>
    obtain ⟨j, hj, rfl, hown, hB⟩ := hrel
    have hR := h.kept hB (by simp)
    obtain ⟨c0, c1, c2⟩ := hR.three
    by_cases hlt : j < min L m
    · have HS : Hid (nums n (j + 1) = nums n j ++ [n + j]) := nums_more _ _
      have hlen : Hid ((nums n j).length ≤ 1000000) := by show _ ≤ _; rw [nums_length]; omega
      have hil : (j : Int) < (L : Int) := by omega
      have him : (j : Int) < (m : Int) := by omega
      have hAA : (n : Int) ≤ 1000000 := by omega
      have hjj : (j : Int) ≤ 1000000 := by omega
      have hm1 : Hid (min L m - (j + 1) < min L m - j) := by show _ < _; omega
      have hz := hB.size
      obtain ⟨u, hu⟩ : ∃ u, n + j = u := ⟨_, rfl⟩
      have hu' : (n : Int) + (j : Int) = (u : Int) := by omega
      have wr1 : IntKind.i64.wrap (u : Int) = (u : Int) := (by rw [IntKind.wrap_i64]; omega)
      rw [hu] at HS
      have hj1 : Hid (j + 1 ≤ min L m) := hlt
      clear hu hj hlt
      go_wp2_with (first
        | (at_builtin; refine wpList_append_num rfl _ _ rfl w.heap.size _ _ u wr.heap.size rfl (hown.kept (kept_alloc [] _ _) (by simp)) rfl ?c1 hlen.out ?c5 ?_))
      case c1 => exact cell_one_new _ _ _ 0 _ rfl
      case c5 => simp; omega
      intro v1 w1 hr1 hg1
      have hk1 : Kept [] w w1 := kept_grown (World.ownsRow.alloc hown _) hg1 w (hB.trans (kept_alloc [] _ _)) (Nat.le_refl _)
      rw [← HS.out] at hr1
      clear hg1 hown HS hlen hB hR c0 c1 c2
      go_wp2
      go_roundw
      case rel => exact ⟨j + 1, hj1.out, by go_num, hr1, hk1⟩
      case measure => simpa [intOf] using hm1.out
    · have hjm : Hid (min L m = j) := (by show _ = _; omega)
      by_cases hil : (j : Int) < (L : Int)
      · have him : ¬ (j : Int) < (m : Int) := by omega
        clear hj hlt
        go_wp2
        go_ret
        exact ⟨_, rfl, by rw [hjm.out]; exact hown, hB⟩
      · clear hj hlt
        go_wp2
        go_ret
        exact ⟨_, rfl, by rw [hjm.out]; exact hown, hB⟩
set_option maxRecDepth 100000 in
/-- Body, of one that is not there -/
theorem rbody_out {base r n m : Nat} {gr : Option Nat} {a : Option Addr} {L cap : Nat} {P : List Bv} (w : World) (h : RRaw w r n m a L cap) (hr : RowAt base w (.slice a L cap) P gr 0) (hl : P.length = L) (hs : n + L ≤ 1000000) (k : Int) (hk : k < (n : Int) ∨ ((n + L : Nat) : Int) ≤ k) :
    Calls Try.prog 15 #[.pointer (some ⟨r, 0, none⟩), .int .i64 k] w fun e w' => e = .returned (.tuple #[.slice none 0 0, .bool false]) ∧ w' = w := by
  obtain ⟨c0, c1, c2⟩ := h.three
  go_enter Try.func15, Try.ntmps15
  go_wp2
  go_loopw [13] (fun i wr => ∃ j : Nat, j ≤ L ∧ i = .int .i64 j ∧ wr = w) (fun i _ => L - (intOf i).toNat)
  case atStart => exact ⟨0, by omega, rfl, rfl⟩
  case round =>
    obtain ⟨j, hj, rfl, rfl⟩ := hrel
    by_cases hlt : j < L
    · obtain ⟨x, hx⟩ : ∃ x, P[j]? = some x := ⟨_, List.getElem?_eq_getElem (by omega)⟩
      obtain ⟨g, off, rfl, hgr, hcell⟩ := hr.at j x (Nat.zero_le _) hx
      have hil : (j : Int) < (L : Int) := by omega
      have hi0 : (0 : Int) ≤ (j : Int) := by omega
      have hLL : (L : Int) ≤ 1000000 := by omega
      have hnn : (n : Int) ≤ 1000000 := by omega
      have hne : ((n : Int) + (j : Int) == k) = false := (by simp; omega)
      have hm1 : Hid (L - (j + 1) < L - j) := by show _ < _; omega
      have hj1 : Hid (j + 1 ≤ L) := hlt
      clear hk hx hr hj
      go_wp2
      go_roundw
      case rel => exact ⟨j + 1, hj1.out, by go_num, trivial⟩
      case measure => simpa [intOf] using hm1.out
    · have hil : ¬ (j : Int) < (L : Int) := by omega
      clear hr hk
      go_wp2
      go_ret2
      exact ⟨rfl, rfl⟩
set_option maxRecDepth 100000 in
/-- Body, of one that is there -/
theorem rbody_in {base r n m : Nat} {gr : Option Nat} {a : Option Addr} {L cap : Nat} {P : List Bv} (w : World) (h : RRaw w r n m a L cap) (hr : RowAt base w (.slice a L cap) P gr 0) (hl : P.length = L) (hs : n + L ≤ 1000000) (k i : Nat) (hk : k = n + i) (x : Bv) (hx : P[i]? = some x) (hat : x.At w) (hlen : x.bs.length ≤ 1000) :
    Calls Try.prog 15 #[.pointer (some ⟨r, 0, none⟩), .int .i64 (k : Int)] w fun e w' => ∃ sa len cap, e = .returned (.tuple #[.slice sa len cap, .bool true]) ∧ Byt w' (.slice sa len cap) x.bs ∧ Kept [] w w' := by
  obtain ⟨c0, c1, c2⟩ := h.three
  have hiL : i < L := (by have := (List.getElem?_eq_some_iff.1 hx).1; omega)
  have hk0 := kept_alloc [] w (.cells #[] 5)
  have r0 : Hid ((w.alloc (.cells #[] 5)).ownsRow w.heap.size 5 1 (.slice (some ⟨w.heap.size, 0, none⟩) 0 0) 0 []) := World.ownsRow_made w #[] 0 (Nat.le_refl _) (by unfold maxLen; omega) rfl
  have hat' : Hid (Byt (w.alloc (.cells #[] 5)) (.slice x.sa x.len x.cap) x.bs) := Byt.kept hat hk0 (noByt_nil _)
  have hlen' : Hid (x.bs.length ≤ 140737488351232) := (by show _ ≤ _; omega)
  clear hat hlen
  go_enter Try.func15, Try.ntmps15
  go_wp2
  go_loopw [13] (fun q wr => ∃ j : Nat, j ≤ i ∧ q = .int .i64 j ∧ wr = w) (fun q _ => L - (intOf q).toNat)
  case atStart => exact ⟨0, by omega, rfl, rfl⟩
  case round =>
    obtain ⟨j, hj, rfl, rfl⟩ := hrel
    obtain ⟨y, hy⟩ : ∃ y, P[j]? = some y := ⟨_, List.getElem?_eq_getElem (by omega)⟩
    obtain ⟨g, off, rfl, hgr, hcell⟩ := hr.at j y (Nat.zero_le _) hy
    have hil : (j : Int) < (L : Int) := by omega
    have hi0 : (0 : Int) ≤ (j : Int) := by omega
    have hLL : (L : Int) ≤ 1000000 := by omega
    have hnn : (n : Int) ≤ 1000000 := by omega
    by_cases hji : j = i
    · have hne : ((n : Int) + (j : Int) == (k : Int)) = true := (by simp; omega)
      have hyx : y = x := (by rw [hji, hx] at hy; injection hy with hy; exact hy.symm)
      subst hyx
      clear hk hx hr hj hy hji
      go_wp2_with (first
        | (at_builtin; refine wpList_append_bytes rfl _ _ rfl wr.heap.size _ _ _ _ rfl r0.out rfl hat'.out.row hlen'.out (by simp) ?_; intro sa2 len2 cap2 w2 hb2 hg2; have hk2 : Kept [] wr w2 := kept_grown r0.out hg2 wr hk0 (Nat.le_refl _)))
      go_ret2
      exact ⟨_, _, _, rfl, hb2, hk2⟩
    · have hne : ((n : Int) + (j : Int) == (k : Int)) = false := (by simp; omega)
      have hm1 : Hid (L - (j + 1) < L - j) := by show _ < _; omega
      have hj1 : Hid (j + 1 ≤ i) := (by show _ ≤ _; omega)
      clear hk hx hr hj hy hji
      go_wp2
      go_roundw
      case rel => exact ⟨j + 1, hj1.out, by go_num, trivial⟩
      case measure => simpa [intOf] using hm1.out
set_option maxRecDepth 100000 in
/-- Body -/
theorem rbody_any {base r : Nat} {gr : Option Nat} {s : Ob} (w : World) (h : RefAt w base r gr s) (hs : s.n + s.l.length ≤ 1000000) (hb : ∀ b ∈ s.l, b.length ≤ 1000) (n : Int) :
    Calls Try.prog 15 #[.pointer (some ⟨r, 0, none⟩), .int .i64 n] w fun e w' => ∃ sa len cap, e = .returned (.tuple #[.slice sa len cap, .bool (s.body n).isSome]) ∧ Byt w' (.slice sa len cap) ((s.body n).getD []) ∧ Kept [] w w' := by
  obtain ⟨a, cap, P, hR, hr, hl, hat, hPl, hc1⟩ := h.three
  by_cases hin : n < (s.n : Int) ∨ ((s.n + s.l.length : Nat) : Int) ≤ n
  · rw [Ob.body_out hin]
    refine (rbody_out w hR hr hPl hs n hin).mono ?_
    rintro e w' ⟨rfl, rfl⟩
    exact ⟨_, _, _, rfl, byt_nil _, Kept.refl _ _⟩
  · obtain ⟨N, rfl⟩ : ∃ N : Nat, n = (N : Int) := ⟨n.toNat, by omega⟩
    obtain ⟨i, hi⟩ : ∃ i, N = s.n + i := ⟨N - s.n, by omega⟩
    obtain ⟨x, hx⟩ : ∃ x, P[i]? = some x := ⟨_, List.getElem?_eq_getElem (by omega)⟩
    have hxs : s.l[i]? = some x.bs := by rw [← hl, List.getElem?_map, hx]; rfl
    rw [Ob.body_in i (by omega), hxs]
    have hxm := List.mem_of_getElem? hx
    refine (rbody_in w hR hr hPl hs N i hi x hx (hat x hxm) (hb _ (List.mem_of_getElem? hxs))).mono ?_
    rintro e w' ⟨sa, len, cap, rfl, hB, hk⟩
    exact ⟨_, _, _, rfl, hB, hk⟩
/-- What a Push leaves. -/
theorem fin_rpush {w w5 w6 w8 : World} {base o n m : Nat} {gr gr6 : Option Nat} {s2 : Ob} {P : List Bv} {bs : List Nat} {sa6 sa4 : Option Addr} {n6 cap6 n4 cap4 : Nat}
    (hf : ∀ (w' : World) (gr' : Option Nat) (sa : Option Addr) (z cap' : Nat) (u : Bv), u.bs = bs → RRaw w' o n m sa z cap' → RowAt base w' (.slice sa z cap') (P ++ [u]) gr' 0 → u.At w' → Kept (o :: gr.toList) w w' → RefAt w' base o gr' s2)
    (hk5 : Kept [] w w5) (hk6 : Kept gr.toList w5 w6) (hk8 : Kept [o] w6 w8) (hg6 : ∀ g, gr6 = some g → gr = some g ∨ w5.heap.size ≤ g) (hr6 : RowAt base w6 (.slice sa6 n6 cap6) (P ++ [⟨sa4, n4, cap4, bs⟩]) gr6 0) (hb8 : RRaw w8 o n m sa6 n6 cap6) (hB5 : Byt w5 (.slice sa4 n4 cap4) bs)
    (hfoot : NoByt (o :: gr.toList) w) (hne : ∀ g, gr = some g → g ∉ [o]) (hlo : o < w.heap.size ∧ ∀ g, gr = some g → g < w.heap.size) :
    RefAt w8 base o gr6 s2 ∧ Kept (o :: gr.toList) w w8 ∧ (∀ g, gr6 = some g → gr = some g ∨ w.heap.size ≤ g) := by
  have hk : Kept (o :: gr.toList) w w8 := ((hk5.mono (by simp)).trans (hk6.mono (fun k hk => List.mem_cons_of_mem _ hk))).trans (hk8.mono (by simp))
  have hg : ∀ g, gr6 = some g → gr = some g ∨ w.heap.size ≤ g := fun g h => (hg6 g h).imp id (fun h => Nat.le_trans hk5.size h)
  have hno5 : NoByt (o :: gr.toList) w5 := fun k hkm cur hc => by
    have hlt : k < w.heap.size := (by
      rcases List.mem_cons.1 hkm with e | e
      · subst e; exact hlo.1
      · exact hlo.2 k (by simpa using e))
    refine hfoot k hkm cur ?_
    unfold Blk at hc ⊢
    rw [← hk5.block k hlt (by simp)]
    exact hc
  have hk58 : Kept (o :: gr.toList) w5 w8 := (hk6.mono (fun k hk => List.mem_cons_of_mem _ hk)).trans (hk8.mono (by simp))
  refine ⟨hf w8 gr6 sa6 n6 cap6 ⟨sa4, n4, cap4, bs⟩ rfl hb8 (hr6.kept hk8 (fun g h => ?_)) (Byt.kept hB5 hk58 hno5) hk, hk, hg⟩
  rcases hg g h with h | h
  · exact hne g h
  · have := hlo.1
    simp
    omega
set_option maxRecDepth 100000 in
set_option maxHeartbeats 2000000 in
/-- Push -/
theorem rpush_any {base o : Nat} {gr : Option Nat} {s : Ob} (w : World) (h : RefAt w base o gr s) (hs : s.n + s.l.length ≤ 999999) (v : Value) (hi : Nat) (bs : List Nat) (hv : ByteRow hi w v bs) (hhi : hi ≤ w.heap.size) (hlen : bs.length ≤ 140737488351232) :
    Calls Try.prog 13 #[.pointer (some ⟨o, 0, none⟩), v] w fun e w' => e = .returned (.tuple #[.int .i64 (s.pushN : Int), .bool s.pushB]) ∧ ∃ gr', RefAt w' base o gr' (s.push bs) ∧ Kept (o :: gr.toList) w w' ∧ (∀ g, gr' = some g → gr = some g ∨ w.heap.size ≤ g) := by
  obtain ⟨a, cap, P, hR, hr, hl, hat, hPl, hc1⟩ := h.three
  have hlt := h.lt
  have hlow := h.low
  have hne : Hid (∀ g, gr = some g → g ∉ [o]) := fun g hg => by have := (hlt.2 g hg).2.2; simpa using this
  have hno : Hid (o ∉ gr.toList) := fun hm => (hlt.2 o (by simpa using hm)).2.2 rfl
  have hlo : Hid (o < w.heap.size ∧ ∀ g, gr = some g → g < w.heap.size) := ⟨hlt.1, fun g hg => (hlt.2 g hg).2.1⟩
  have hbase : Hid (base ≤ w.heap.size) := (by show _ ≤ _; have := hlt.1; omega)
  have hfoot : Hid (NoByt (o :: gr.toList) w) := h.foot
  have hPs : Hid (P.length ≤ 1000000) := (by show _ ≤ _; omega)
  have hPN : Hid (s.n + (s.l.length + 1) - 1 = s.pushN) := (by show _ = _; unfold Ob.pushN; omega)
  have hPB : Hid (s.pushB = decide (s.l.length + 1 ≤ s.w)) := (by
    show _ = _
    unfold Ob.pushB
    by_cases hx : s.l.length < s.w
    · rw [decide_eq_true hx, decide_eq_true (by omega)]
    · rw [decide_eq_false hx, decide_eq_false (by omega)])
  have hsz : Hid (s.n + (s.l.length + 1) ≤ 1000000) := (by show _ ≤ _; omega)
  have hn1 : Hid (1 ≤ s.n) := h.first
  have hfin : ∀ (w' : World) (gr' : Option Nat) (sa : Option Addr) (z cap' : Nat) (u : Bv), u.bs = bs → RRaw w' o s.n s.w sa z cap' → RowAt base w' (.slice sa z cap') (P ++ [u]) gr' 0 → u.At w' → Kept (o :: gr.toList) w w' → RefAt w' base o gr' (s.push bs) := fun w' gr' sa z cap' u hu h1 h2 h3 h4 => by
    refine ⟨⟨_, P ++ [u], h1, h2, ?_, ?_⟩, h.first, h.pos, h.top, h.low⟩
    · rw [List.map_append, hl]
      show s.l ++ [u.bs] = s.l ++ [bs]
      rw [hu]
    · intro x hx
      rcases List.mem_append.1 hx with hx | hx
      · exact (hat x hx).kept h4 hfoot.out
      · rw [List.mem_singleton] at hx
        subst hx
        exact h3
  have hlen' : Hid (bs.length ≤ 140737488351232) := hlen
  have hhi' : Hid (hi ≤ w.heap.size) := hhi
  generalize s.pushN = PN at *
  generalize s.pushB = PB at *
  generalize s.push bs = s2 at *
  generalize s.l.length = L at *
  generalize s.w = m at *
  generalize s.n = n at *
  have hPl' : Hid (P.length = L) := hPl
  have hf0 : Hid (∀ (w' : World) (gr' : Option Nat) (sa : Option Addr) (z cap' : Nat) (u : Bv), u.bs = bs → RRaw w' o n m sa z cap' → RowAt base w' (.slice sa z cap') (P ++ [u]) gr' 0 → u.At w' → Kept (o :: gr.toList) w w' → RefAt w' base o gr' s2) := hfin
  have hk2 : Kept [] w w.drew := kept_drew [] w
  have hR2 := hR.kept hk2 (by simp)
  have hr2 := hr.kept hk2 (fun _ _ => by simp)
  have hv2 : Hid (ByteRow hi w.drew v bs) := hv.kept hhi hk2 (by simp)
  have cA := (hR.kept (kept_alloc [] w (.cells #[] 5)) (by simp)).three.1
  clear hfin hat hl h hlt hlow hv hlen hs hPl hhi hR hr
  obtain ⟨c0, c1, c2⟩ := hR2.three
  go_enter Try.func13, Try.ntmps13
  go_upto_region 1 with (fail)
  refine wp_region_held_drew (S := fun _ => True) (by kernel_rfl) trivial (fun hP => ?_)
  have hH := hP
  clear hP
  refine wpAnyH_take (i := 0) (oi := { dst := some 6, op := Op.move (Operand.tmp 0), type := 28, pos := "ref.go:24", after := #[], guard := none }) (v := (.pointer (some ⟨o, 0, none⟩))) rfl (by kernel_rfl) (by kernel_rfl) (by kernel_rfl) (fun _ _ _ h => h) (Or.inl ⟨by rfl, fun W hSw => by go_simp⟩) hH ?_
  try simp only [Act.put, List.setIfInBounds_toArray, List.set_cons_zero, List.set_cons_succ]
  refine wpAnyH_take (i := 1) (oi := { dst := some 7, op := Op.move (Operand.tmp 0), type := 28, pos := "ref.go:24", after := #[], guard := none }) (v := (.pointer (some ⟨o, 0, none⟩))) rfl (by kernel_rfl) (by kernel_rfl) (by kernel_rfl) (fun _ _ _ h => h) (Or.inl ⟨by rfl, fun W hSw => by go_simp⟩) hH ?_
  try simp only [Act.put, List.setIfInBounds_toArray, List.set_cons_zero, List.set_cons_succ]
  refine wpAnyH_take (i := 2) (oi := { dst := some 8, op := Op.nilCheck (Operand.tmp 7), type := 0, pos := "ref.go:24", after := #[{ on := 1, ground := Ground.data }], guard := none }) (v := (.pointer (some ⟨o, 0, none⟩))) rfl (by kernel_rfl) (by kernel_rfl) (by kernel_rfl) (fun _ _ _ h => h) (Or.inl ⟨by rfl, fun W hSw => by go_simp⟩) hH ?_
  try simp only [Act.put, List.setIfInBounds_toArray, List.set_cons_zero, List.set_cons_succ]
  refine wpAnyH_take (i := 3) (oi := { dst := some 9, op := Op.fieldAddr 44 (Operand.tmp 8) 0, type := 0, pos := "ref.go:24", after := #[{ on := 2, ground := Ground.data }], guard := none }) (v := (.pointer (some ⟨o, 0, none⟩))) rfl (by kernel_rfl) (by kernel_rfl) (by kernel_rfl) (fun _ _ _ h => h) (Or.inl ⟨by rfl, fun W hSw => by go_simp⟩) hH ?_
  try simp only [Act.put, List.setIfInBounds_toArray, List.set_cons_zero, List.set_cons_succ]
  refine wpAnyH_take (i := 6) (oi := { dst := some 12, op := Op.move (Operand.tmp 1), type := 31, pos := "ref.go:24", after := #[], guard := none }) (v := v) rfl (by kernel_rfl) (by kernel_rfl) (by kernel_rfl) (fun _ _ _ h => h) (Or.inl ⟨by rfl, fun W hSw => by go_simp⟩) hH ?_
  try simp only [Act.put, List.setIfInBounds_toArray, List.set_cons_zero, List.set_cons_succ]
  refine wpAnyH_ready (rs := [4, 5]) (by kernel_rfl) (by simp) ?_
  refine AllReadyH.cons (o := { dst := some 10, op := Op.load 42 (Operand.tmp 9), type := 42, pos := "ref.go:24", after := #[{ on := 3, ground := Ground.data }], guard := none }) rfl (fun K hK => ?_) (AllReadyH.cons (o := { dst := some 11, op := Op.buildSlice 31 0 #[], type := 31, pos := "ref.go:24", after := #[], guard := none }) rfl (fun K hK => ?_) AllReadyH.nil)
  · go_simp
    refine hK.out _ _ trivial (fun _ => ?_)
    clear hK K
    try simp only [Act.put, List.setIfInBounds_toArray, List.set_cons_zero, List.set_cons_succ]
    refine wpAnyH_ready (rs := [5]) (by kernel_rfl) (by simp) ?_
    refine AllReadyH.cons (o := { dst := some 11, op := Op.buildSlice 31 0 #[], type := 31, pos := "ref.go:24", after := #[], guard := none }) rfl (fun K hK => ?_) AllReadyH.nil
    go_simp
    have k3 := kept_alloc [] w.drew (.cells #[] 5)
    have hR3 := hR2.kept k3 (by simp)
    have hr3 := hr2.kept k3 (fun _ _ => by simp)
    have hv3 : ByteRow hi (w.drew.alloc (.cells #[] 5)) v bs := hv2.out.kept (Nat.le_trans hhi'.out hk2.size) k3 (by simp)
    have r0 : (w.drew.alloc (.cells #[] 5)).ownsRow w.drew.heap.size 5 1 (.slice (some ⟨w.drew.heap.size, 0, none⟩) 0 0) 0 [] := World.ownsRow_made w.drew #[] 0 (Nat.le_refl _) (by unfold maxLen; omega) rfl
    obtain ⟨c0, c1, c2⟩ := hR3.three
    refine hK.out _ _ trivial (fun _ => ?_)
    clear hK K
    try simp only [Act.put, List.setIfInBounds_toArray, List.set_cons_zero, List.set_cons_succ]
    refine wpAnyH_ready (rs := [7]) (by kernel_rfl) (by simp) ?_
    refine AllReadyH.cons (o := { dst := some 13, op := Op.call { callee := Callee.builtin Builtin.append, args := #[Operand.tmp 11, Operand.tmp 12], argTypes := #[31, 31] }, type := 31, pos := "ref.go:24", after := #[{ on := 5, ground := Ground.data }, { on := 6, ground := Ground.data }], guard := none }) rfl (fun K hK => ?_) AllReadyH.nil
    refine step_append_bytes rfl (.tmp 11) (.tmp 12) rfl w.drew.heap.size (.slice (some ⟨w.drew.heap.size, 0, none⟩) 0 0) v hi bs (by simp [Act.eval]) r0 (by simp [Act.eval]) hv3 hlen'.out (by simp) ?_
    intro sa4 n4 cap4 w4 hB4 hg4
    have hk4 : Kept [] w.drew w4 := kept_grown r0 hg4 w.drew k3 (Nat.le_refl _)
    have hR4 := hR2.kept hk4 (by simp)
    have hr4 := hr2.kept hk4 (fun _ _ => by simp)
    clear hg4 r0 hv3 hR3 hr3
    obtain ⟨c0, c1, c2⟩ := hR4.three
    refine hK.out _ _ trivial (fun _ => ?_)
    clear hK K
    try simp only [Act.put, List.setIfInBounds_toArray, List.set_cons_zero, List.set_cons_succ]
    refine wpAnyH_ready (rs := [8]) (by kernel_rfl) (by simp) ?_
    refine AllReadyH.cons (o := { dst := some 14, op := Op.buildSlice 42 1 #[(0, Operand.tmp 13)], type := 42, pos := "ref.go:24", after := #[{ on := 7, ground := Ground.data }], guard := none }) rfl (fun K hK => ?_) AllReadyH.nil
    go_simp
    have hk5 := kept_alloc [] w4 (.cells #[.slice sa4 n4 cap4] 31)
    have hR5 := hR4.kept hk5 (by simp)
    have hr5 := hr4.kept hk5 (fun _ _ => by simp)
    have hB5 := Byt.kept hB4 hk5 (noByt_nil _)
    have hc5 : (w4.alloc (.cells #[.slice sa4 n4 cap4] 31)).cell? ⟨w4.heap.size, 0, none⟩ = some (.slice sa4 n4 cap4) := cell_one_new _ _ _ 0 _ rfl
    obtain ⟨c0, c1, c2⟩ := hR5.three
    refine hK.out _ _ trivial (fun _ => ?_)
    clear hK K
    try simp only [Act.put, List.setIfInBounds_toArray, List.set_cons_zero, List.set_cons_succ]
    have hk05 := hk2.trans (hk4.trans hk5)
    clear hk4 hk5 hR4 hr4 hB4 hR2 hr2 hk2 c0 c1 c2
    refine wpAnyH_ready (rs := [9]) (by kernel_rfl) (by simp) ?_
    refine AllReadyH.cons (o := { dst := some 15, op := Op.call { callee := Callee.builtin Builtin.append, args := #[Operand.tmp 10, Operand.tmp 14], argTypes := #[42, 42] }, type := 42, pos := "ref.go:24", after := #[{ on := 4, ground := Ground.data }, { on := 8, ground := Ground.data }, { on := 7, ground := Ground.chain }], guard := none }) rfl (fun K hK => ?_) AllReadyH.nil
    refine step_append_row rfl (.tmp 10) (.tmp 14) rfl base (.slice a L cap) P gr ⟨sa4, n4, cap4, bs⟩ w4.heap.size (by simp [Act.eval]) (by simp [Act.eval]) hr5 hc5 hPs.out (Nat.le_trans hbase.out hk05.size) ?_
    intro sa6 n6 cap6 w6 gr6 hr6 hk6 hg6
    have hR6 := hR5.kept hk6 hno.out
    have f2 := Blk.frozen hR6 0
    obtain ⟨e0, e1, e2⟩ := hR6.three
    refine hK.out _ _ trivial (fun _ => ?_)
    clear hK K
    try simp only [Act.put, List.setIfInBounds_toArray, List.set_cons_zero, List.set_cons_succ]
    refine wpAnyH_take (i := 10) (oi := { dst := some 16, op := Op.nilCheck (Operand.tmp 6), type := 0, pos := "ref.go:24", after := #[{ on := 0, ground := Ground.data }, { on := 0, ground := Ground.phase }, { on := 1, ground := Ground.phase }, { on := 2, ground := Ground.phase }, { on := 3, ground := Ground.phase }, { on := 4, ground := Ground.phase }, { on := 5, ground := Ground.phase }, { on := 6, ground := Ground.phase }, { on := 7, ground := Ground.phase }, { on := 8, ground := Ground.phase }, { on := 9, ground := Ground.phase }], guard := none }) (v := (.pointer (some ⟨o, 0, none⟩))) rfl (by kernel_rfl) (by kernel_rfl) (by kernel_rfl) (fun _ _ _ h => h) (Or.inl ⟨by rfl, fun W hSw => by go_simp⟩) hH ?_
    try simp only [Act.put, List.setIfInBounds_toArray, List.set_cons_zero, List.set_cons_succ]
    refine wpAnyH_take (i := 11) (oi := { dst := some 17, op := Op.fieldAddr 44 (Operand.tmp 16) 0, type := 0, pos := "ref.go:24", after := #[{ on := 10, ground := Ground.data }, { on := 0, ground := Ground.phase }, { on := 1, ground := Ground.phase }, { on := 2, ground := Ground.phase }, { on := 3, ground := Ground.phase }, { on := 4, ground := Ground.phase }, { on := 5, ground := Ground.phase }, { on := 6, ground := Ground.phase }, { on := 7, ground := Ground.phase }, { on := 8, ground := Ground.phase }, { on := 9, ground := Ground.phase }], guard := none }) (v := (.pointer (some ⟨o, 0, none⟩))) rfl (by kernel_rfl) (by kernel_rfl) (by kernel_rfl) (fun _ _ _ h => h) (Or.inl ⟨by rfl, fun W hSw => by go_simp⟩) hH ?_
    try simp only [Act.put, List.setIfInBounds_toArray, List.set_cons_zero, List.set_cons_succ]
    refine wpAnyH_ready (rs := [12]) (by kernel_rfl) (by simp) ?_
    refine AllReadyH.cons (o := { dst := none, op := Op.store 42 (Operand.tmp 17) (Operand.tmp 15), type := 0, pos := "ref.go:24", after := #[{ on := 11, ground := Ground.data }, { on := 9, ground := Ground.data }, { on := 9, ground := Ground.chain }, { on := 0, ground := Ground.phase }, { on := 1, ground := Ground.phase }, { on := 2, ground := Ground.phase }, { on := 3, ground := Ground.phase }, { on := 4, ground := Ground.phase }, { on := 5, ground := Ground.phase }, { on := 6, ground := Ground.phase }, { on := 7, ground := Ground.phase }, { on := 8, ground := Ground.phase }, { on := 9, ground := Ground.phase }], guard := none }) rfl (fun K hK => ?_) AllReadyH.nil
    go_simp
    refine hK.out _ _ trivial (fun _ => ?_)
    clear hK K
    try simp only [Act.put, List.setIfInBounds_toArray, List.set_cons_zero, List.set_cons_succ]
    refine wpAnyH_done (by kernel_rfl) ?_ _
    have hb8 : RRaw (w6.setCell ⟨o, 0, none⟩ (.slice sa6 n6 cap6)) o n m sa6 n6 cap6 := Blk.set hR6 0 _
    have hk8 : Kept [o] w6 (w6.setCell ⟨o, 0, none⟩ (.slice sa6 n6 cap6)) := kept_set (by simp) _ _ _
    obtain ⟨w8, hw8⟩ : ∃ w8, w6.setCell ⟨o, 0, none⟩ (.slice sa6 n6 cap6) = w8 := ⟨_, rfl⟩
    rw [hw8] at hb8 hk8 ⊢
    obtain ⟨s6, z6, e6, _⟩ := hr6.open
    have hn6 : Hid (n6 = L + 1) := (by show _ = _; injection e6 with _ e7 _; rw [e7, List.length_append, hPl'.out]; rfl)
    have hfin := fin_rpush hf0.out hk05 hk6 hk8 hg6 hr6 hb8 hB5 hfoot.out hne.out hlo.out
    have hs8 : n + n6 ≤ 1000000 := (by rw [hn6.out]; exact hsz.out)
    have hP8 : n + n6 - 1 = PN := (by rw [hn6.out]; exact hPN.out)
    have hP9 : (n : Int) + (n6 : Int) - 1 = (PN : Int) := (by have := hn1.out; omega)
    have hPB8 : Hid (PB = decide (n6 ≤ m)) := (by show _ = _; rw [hn6.out]; exact hPB.out)
    have wr1 : IntKind.i64.wrap (PN : Int) = (PN : Int) := (by rw [IntKind.wrap_i64]; omega)
    have hnb : (n : Int) ≤ 1000000 := (by omega)
    have hnb6 : (n6 : Int) ≤ 1000000 := (by omega)
    have wr2 : IntKind.i64.wrap ((n : Int) + (n6 : Int)) = (n : Int) + (n6 : Int) := (by rw [IntKind.wrap_i64]; omega)
    have d0 := fun k => (hb8.kept (kept_drewN [] w8 k) (by simp)).three.1
    have d1 := fun k => (hb8.kept (kept_drewN [] w8 k) (by simp)).three.2.1
    have d2 := fun k => (hb8.kept (kept_drewN [] w8 k) (by simp)).three.2.2
    clear hw8 f2 e0 e1 e2 hr6 hR6 hr5 hR5 hB5 hc5 e6 hk6 hk8 hg6 hP8 hs8
    go_wp2_with fail
    go_quiet (fail)
    go_wp2_with fail
    go_ret2
    rw [hPB8.out]
    exact ⟨by simp, gr6, hfin.1.kept0 (kept_drewN [] _ _), hfin.2.1.trans (kept_drewN _ _ _), hfin.2.2⟩
  · go_simp
    have k3 := kept_alloc [] w.drew (.cells #[] 5)
    have hR3 := hR2.kept k3 (by simp)
    have hr3 := hr2.kept k3 (fun _ _ => by simp)
    have hv3 : ByteRow hi (w.drew.alloc (.cells #[] 5)) v bs := hv2.out.kept (Nat.le_trans hhi'.out hk2.size) k3 (by simp)
    have r0 : (w.drew.alloc (.cells #[] 5)).ownsRow w.drew.heap.size 5 1 (.slice (some ⟨w.drew.heap.size, 0, none⟩) 0 0) 0 [] := World.ownsRow_made w.drew #[] 0 (Nat.le_refl _) (by unfold maxLen; omega) rfl
    obtain ⟨c0, c1, c2⟩ := hR3.three
    refine hK.out _ _ trivial (fun _ => ?_)
    clear hK K
    try simp only [Act.put, List.setIfInBounds_toArray, List.set_cons_zero, List.set_cons_succ]
    refine wpAnyH_ready (rs := [4, 7]) (by kernel_rfl) (by simp) ?_
    refine AllReadyH.cons (o := { dst := some 10, op := Op.load 42 (Operand.tmp 9), type := 42, pos := "ref.go:24", after := #[{ on := 3, ground := Ground.data }], guard := none }) rfl (fun K hK => ?_) (AllReadyH.cons (o := { dst := some 13, op := Op.call { callee := Callee.builtin Builtin.append, args := #[Operand.tmp 11, Operand.tmp 12], argTypes := #[31, 31] }, type := 31, pos := "ref.go:24", after := #[{ on := 5, ground := Ground.data }, { on := 6, ground := Ground.data }], guard := none }) rfl (fun K hK => ?_) AllReadyH.nil)
    · go_simp
      refine hK.out _ _ trivial (fun _ => ?_)
      clear hK K
      try simp only [Act.put, List.setIfInBounds_toArray, List.set_cons_zero, List.set_cons_succ]
      refine wpAnyH_ready (rs := [7]) (by kernel_rfl) (by simp) ?_
      refine AllReadyH.cons (o := { dst := some 13, op := Op.call { callee := Callee.builtin Builtin.append, args := #[Operand.tmp 11, Operand.tmp 12], argTypes := #[31, 31] }, type := 31, pos := "ref.go:24", after := #[{ on := 5, ground := Ground.data }, { on := 6, ground := Ground.data }], guard := none }) rfl (fun K hK => ?_) AllReadyH.nil
      refine step_append_bytes rfl (.tmp 11) (.tmp 12) rfl w.drew.heap.size (.slice (some ⟨w.drew.heap.size, 0, none⟩) 0 0) v hi bs (by simp [Act.eval]) r0 (by simp [Act.eval]) hv3 hlen'.out (by simp) ?_
      intro sa4 n4 cap4 w4 hB4 hg4
      have hk4 : Kept [] w.drew w4 := kept_grown r0 hg4 w.drew k3 (Nat.le_refl _)
      have hR4 := hR2.kept hk4 (by simp)
      have hr4 := hr2.kept hk4 (fun _ _ => by simp)
      clear hg4 r0 hv3 hR3 hr3
      obtain ⟨c0, c1, c2⟩ := hR4.three
      refine hK.out _ _ trivial (fun _ => ?_)
      clear hK K
      try simp only [Act.put, List.setIfInBounds_toArray, List.set_cons_zero, List.set_cons_succ]
      refine wpAnyH_ready (rs := [8]) (by kernel_rfl) (by simp) ?_
      refine AllReadyH.cons (o := { dst := some 14, op := Op.buildSlice 42 1 #[(0, Operand.tmp 13)], type := 42, pos := "ref.go:24", after := #[{ on := 7, ground := Ground.data }], guard := none }) rfl (fun K hK => ?_) AllReadyH.nil
      go_simp
      have hk5 := kept_alloc [] w4 (.cells #[.slice sa4 n4 cap4] 31)
      have hR5 := hR4.kept hk5 (by simp)
      have hr5 := hr4.kept hk5 (fun _ _ => by simp)
      have hB5 := Byt.kept hB4 hk5 (noByt_nil _)
      have hc5 : (w4.alloc (.cells #[.slice sa4 n4 cap4] 31)).cell? ⟨w4.heap.size, 0, none⟩ = some (.slice sa4 n4 cap4) := cell_one_new _ _ _ 0 _ rfl
      obtain ⟨c0, c1, c2⟩ := hR5.three
      refine hK.out _ _ trivial (fun _ => ?_)
      clear hK K
      try simp only [Act.put, List.setIfInBounds_toArray, List.set_cons_zero, List.set_cons_succ]
      have hk05 := hk2.trans (hk4.trans hk5)
      clear hk4 hk5 hR4 hr4 hB4 hR2 hr2 hk2 c0 c1 c2
      refine wpAnyH_ready (rs := [9]) (by kernel_rfl) (by simp) ?_
      refine AllReadyH.cons (o := { dst := some 15, op := Op.call { callee := Callee.builtin Builtin.append, args := #[Operand.tmp 10, Operand.tmp 14], argTypes := #[42, 42] }, type := 42, pos := "ref.go:24", after := #[{ on := 4, ground := Ground.data }, { on := 8, ground := Ground.data }, { on := 7, ground := Ground.chain }], guard := none }) rfl (fun K hK => ?_) AllReadyH.nil
      refine step_append_row rfl (.tmp 10) (.tmp 14) rfl base (.slice a L cap) P gr ⟨sa4, n4, cap4, bs⟩ w4.heap.size (by simp [Act.eval]) (by simp [Act.eval]) hr5 hc5 hPs.out (Nat.le_trans hbase.out hk05.size) ?_
      intro sa6 n6 cap6 w6 gr6 hr6 hk6 hg6
      have hR6 := hR5.kept hk6 hno.out
      have f2 := Blk.frozen hR6 0
      obtain ⟨e0, e1, e2⟩ := hR6.three
      refine hK.out _ _ trivial (fun _ => ?_)
      clear hK K
      try simp only [Act.put, List.setIfInBounds_toArray, List.set_cons_zero, List.set_cons_succ]
      refine wpAnyH_take (i := 10) (oi := { dst := some 16, op := Op.nilCheck (Operand.tmp 6), type := 0, pos := "ref.go:24", after := #[{ on := 0, ground := Ground.data }, { on := 0, ground := Ground.phase }, { on := 1, ground := Ground.phase }, { on := 2, ground := Ground.phase }, { on := 3, ground := Ground.phase }, { on := 4, ground := Ground.phase }, { on := 5, ground := Ground.phase }, { on := 6, ground := Ground.phase }, { on := 7, ground := Ground.phase }, { on := 8, ground := Ground.phase }, { on := 9, ground := Ground.phase }], guard := none }) (v := (.pointer (some ⟨o, 0, none⟩))) rfl (by kernel_rfl) (by kernel_rfl) (by kernel_rfl) (fun _ _ _ h => h) (Or.inl ⟨by rfl, fun W hSw => by go_simp⟩) hH ?_
      try simp only [Act.put, List.setIfInBounds_toArray, List.set_cons_zero, List.set_cons_succ]
      refine wpAnyH_take (i := 11) (oi := { dst := some 17, op := Op.fieldAddr 44 (Operand.tmp 16) 0, type := 0, pos := "ref.go:24", after := #[{ on := 10, ground := Ground.data }, { on := 0, ground := Ground.phase }, { on := 1, ground := Ground.phase }, { on := 2, ground := Ground.phase }, { on := 3, ground := Ground.phase }, { on := 4, ground := Ground.phase }, { on := 5, ground := Ground.phase }, { on := 6, ground := Ground.phase }, { on := 7, ground := Ground.phase }, { on := 8, ground := Ground.phase }, { on := 9, ground := Ground.phase }], guard := none }) (v := (.pointer (some ⟨o, 0, none⟩))) rfl (by kernel_rfl) (by kernel_rfl) (by kernel_rfl) (fun _ _ _ h => h) (Or.inl ⟨by rfl, fun W hSw => by go_simp⟩) hH ?_
      try simp only [Act.put, List.setIfInBounds_toArray, List.set_cons_zero, List.set_cons_succ]
      refine wpAnyH_ready (rs := [12]) (by kernel_rfl) (by simp) ?_
      refine AllReadyH.cons (o := { dst := none, op := Op.store 42 (Operand.tmp 17) (Operand.tmp 15), type := 0, pos := "ref.go:24", after := #[{ on := 11, ground := Ground.data }, { on := 9, ground := Ground.data }, { on := 9, ground := Ground.chain }, { on := 0, ground := Ground.phase }, { on := 1, ground := Ground.phase }, { on := 2, ground := Ground.phase }, { on := 3, ground := Ground.phase }, { on := 4, ground := Ground.phase }, { on := 5, ground := Ground.phase }, { on := 6, ground := Ground.phase }, { on := 7, ground := Ground.phase }, { on := 8, ground := Ground.phase }, { on := 9, ground := Ground.phase }], guard := none }) rfl (fun K hK => ?_) AllReadyH.nil
      go_simp
      refine hK.out _ _ trivial (fun _ => ?_)
      clear hK K
      try simp only [Act.put, List.setIfInBounds_toArray, List.set_cons_zero, List.set_cons_succ]
      refine wpAnyH_done (by kernel_rfl) ?_ _
      have hb8 : RRaw (w6.setCell ⟨o, 0, none⟩ (.slice sa6 n6 cap6)) o n m sa6 n6 cap6 := Blk.set hR6 0 _
      have hk8 : Kept [o] w6 (w6.setCell ⟨o, 0, none⟩ (.slice sa6 n6 cap6)) := kept_set (by simp) _ _ _
      obtain ⟨w8, hw8⟩ : ∃ w8, w6.setCell ⟨o, 0, none⟩ (.slice sa6 n6 cap6) = w8 := ⟨_, rfl⟩
      rw [hw8] at hb8 hk8 ⊢
      obtain ⟨s6, z6, e6, _⟩ := hr6.open
      have hn6 : Hid (n6 = L + 1) := (by show _ = _; injection e6 with _ e7 _; rw [e7, List.length_append, hPl'.out]; rfl)
      have hfin := fin_rpush hf0.out hk05 hk6 hk8 hg6 hr6 hb8 hB5 hfoot.out hne.out hlo.out
      have hs8 : n + n6 ≤ 1000000 := (by rw [hn6.out]; exact hsz.out)
      have hP8 : n + n6 - 1 = PN := (by rw [hn6.out]; exact hPN.out)
      have hP9 : (n : Int) + (n6 : Int) - 1 = (PN : Int) := (by have := hn1.out; omega)
      have hPB8 : Hid (PB = decide (n6 ≤ m)) := (by show _ = _; rw [hn6.out]; exact hPB.out)
      have wr1 : IntKind.i64.wrap (PN : Int) = (PN : Int) := (by rw [IntKind.wrap_i64]; omega)
      have hnb : (n : Int) ≤ 1000000 := (by omega)
      have hnb6 : (n6 : Int) ≤ 1000000 := (by omega)
      have wr2 : IntKind.i64.wrap ((n : Int) + (n6 : Int)) = (n : Int) + (n6 : Int) := (by rw [IntKind.wrap_i64]; omega)
      have d0 := fun k => (hb8.kept (kept_drewN [] w8 k) (by simp)).three.1
      have d1 := fun k => (hb8.kept (kept_drewN [] w8 k) (by simp)).three.2.1
      have d2 := fun k => (hb8.kept (kept_drewN [] w8 k) (by simp)).three.2.2
      clear hw8 f2 e0 e1 e2 hr6 hR6 hr5 hR5 hB5 hc5 e6 hk6 hk8 hg6 hP8 hs8
      go_wp2_with fail
      go_quiet (fail)
      go_wp2_with fail
      go_ret2
      rw [hPB8.out]
      exact ⟨by simp, gr6, hfin.1.kept0 (kept_drewN [] _ _), hfin.2.1.trans (kept_drewN _ _ _), hfin.2.2⟩
    · refine step_append_bytes rfl (.tmp 11) (.tmp 12) rfl w.drew.heap.size (.slice (some ⟨w.drew.heap.size, 0, none⟩) 0 0) v hi bs (by simp [Act.eval]) r0 (by simp [Act.eval]) hv3 hlen'.out (by simp) ?_
      intro sa4 n4 cap4 w4 hB4 hg4
      have hk4 : Kept [] w.drew w4 := kept_grown r0 hg4 w.drew k3 (Nat.le_refl _)
      have hR4 := hR2.kept hk4 (by simp)
      have hr4 := hr2.kept hk4 (fun _ _ => by simp)
      clear hg4 r0 hv3 hR3 hr3
      obtain ⟨c0, c1, c2⟩ := hR4.three
      refine hK.out _ _ trivial (fun _ => ?_)
      clear hK K
      try simp only [Act.put, List.setIfInBounds_toArray, List.set_cons_zero, List.set_cons_succ]
      refine wpAnyH_ready (rs := [4, 8]) (by kernel_rfl) (by simp) ?_
      refine AllReadyH.cons (o := { dst := some 10, op := Op.load 42 (Operand.tmp 9), type := 42, pos := "ref.go:24", after := #[{ on := 3, ground := Ground.data }], guard := none }) rfl (fun K hK => ?_) (AllReadyH.cons (o := { dst := some 14, op := Op.buildSlice 42 1 #[(0, Operand.tmp 13)], type := 42, pos := "ref.go:24", after := #[{ on := 7, ground := Ground.data }], guard := none }) rfl (fun K hK => ?_) AllReadyH.nil)
      · go_simp
        refine hK.out _ _ trivial (fun _ => ?_)
        clear hK K
        try simp only [Act.put, List.setIfInBounds_toArray, List.set_cons_zero, List.set_cons_succ]
        refine wpAnyH_ready (rs := [8]) (by kernel_rfl) (by simp) ?_
        refine AllReadyH.cons (o := { dst := some 14, op := Op.buildSlice 42 1 #[(0, Operand.tmp 13)], type := 42, pos := "ref.go:24", after := #[{ on := 7, ground := Ground.data }], guard := none }) rfl (fun K hK => ?_) AllReadyH.nil
        go_simp
        have hk5 := kept_alloc [] w4 (.cells #[.slice sa4 n4 cap4] 31)
        have hR5 := hR4.kept hk5 (by simp)
        have hr5 := hr4.kept hk5 (fun _ _ => by simp)
        have hB5 := Byt.kept hB4 hk5 (noByt_nil _)
        have hc5 : (w4.alloc (.cells #[.slice sa4 n4 cap4] 31)).cell? ⟨w4.heap.size, 0, none⟩ = some (.slice sa4 n4 cap4) := cell_one_new _ _ _ 0 _ rfl
        obtain ⟨c0, c1, c2⟩ := hR5.three
        refine hK.out _ _ trivial (fun _ => ?_)
        clear hK K
        try simp only [Act.put, List.setIfInBounds_toArray, List.set_cons_zero, List.set_cons_succ]
        have hk05 := hk2.trans (hk4.trans hk5)
        clear hk4 hk5 hR4 hr4 hB4 hR2 hr2 hk2 c0 c1 c2
        refine wpAnyH_ready (rs := [9]) (by kernel_rfl) (by simp) ?_
        refine AllReadyH.cons (o := { dst := some 15, op := Op.call { callee := Callee.builtin Builtin.append, args := #[Operand.tmp 10, Operand.tmp 14], argTypes := #[42, 42] }, type := 42, pos := "ref.go:24", after := #[{ on := 4, ground := Ground.data }, { on := 8, ground := Ground.data }, { on := 7, ground := Ground.chain }], guard := none }) rfl (fun K hK => ?_) AllReadyH.nil
        refine step_append_row rfl (.tmp 10) (.tmp 14) rfl base (.slice a L cap) P gr ⟨sa4, n4, cap4, bs⟩ w4.heap.size (by simp [Act.eval]) (by simp [Act.eval]) hr5 hc5 hPs.out (Nat.le_trans hbase.out hk05.size) ?_
        intro sa6 n6 cap6 w6 gr6 hr6 hk6 hg6
        have hR6 := hR5.kept hk6 hno.out
        have f2 := Blk.frozen hR6 0
        obtain ⟨e0, e1, e2⟩ := hR6.three
        refine hK.out _ _ trivial (fun _ => ?_)
        clear hK K
        try simp only [Act.put, List.setIfInBounds_toArray, List.set_cons_zero, List.set_cons_succ]
        refine wpAnyH_take (i := 10) (oi := { dst := some 16, op := Op.nilCheck (Operand.tmp 6), type := 0, pos := "ref.go:24", after := #[{ on := 0, ground := Ground.data }, { on := 0, ground := Ground.phase }, { on := 1, ground := Ground.phase }, { on := 2, ground := Ground.phase }, { on := 3, ground := Ground.phase }, { on := 4, ground := Ground.phase }, { on := 5, ground := Ground.phase }, { on := 6, ground := Ground.phase }, { on := 7, ground := Ground.phase }, { on := 8, ground := Ground.phase }, { on := 9, ground := Ground.phase }], guard := none }) (v := (.pointer (some ⟨o, 0, none⟩))) rfl (by kernel_rfl) (by kernel_rfl) (by kernel_rfl) (fun _ _ _ h => h) (Or.inl ⟨by rfl, fun W hSw => by go_simp⟩) hH ?_
        try simp only [Act.put, List.setIfInBounds_toArray, List.set_cons_zero, List.set_cons_succ]
        refine wpAnyH_take (i := 11) (oi := { dst := some 17, op := Op.fieldAddr 44 (Operand.tmp 16) 0, type := 0, pos := "ref.go:24", after := #[{ on := 10, ground := Ground.data }, { on := 0, ground := Ground.phase }, { on := 1, ground := Ground.phase }, { on := 2, ground := Ground.phase }, { on := 3, ground := Ground.phase }, { on := 4, ground := Ground.phase }, { on := 5, ground := Ground.phase }, { on := 6, ground := Ground.phase }, { on := 7, ground := Ground.phase }, { on := 8, ground := Ground.phase }, { on := 9, ground := Ground.phase }], guard := none }) (v := (.pointer (some ⟨o, 0, none⟩))) rfl (by kernel_rfl) (by kernel_rfl) (by kernel_rfl) (fun _ _ _ h => h) (Or.inl ⟨by rfl, fun W hSw => by go_simp⟩) hH ?_
        try simp only [Act.put, List.setIfInBounds_toArray, List.set_cons_zero, List.set_cons_succ]
        refine wpAnyH_ready (rs := [12]) (by kernel_rfl) (by simp) ?_
        refine AllReadyH.cons (o := { dst := none, op := Op.store 42 (Operand.tmp 17) (Operand.tmp 15), type := 0, pos := "ref.go:24", after := #[{ on := 11, ground := Ground.data }, { on := 9, ground := Ground.data }, { on := 9, ground := Ground.chain }, { on := 0, ground := Ground.phase }, { on := 1, ground := Ground.phase }, { on := 2, ground := Ground.phase }, { on := 3, ground := Ground.phase }, { on := 4, ground := Ground.phase }, { on := 5, ground := Ground.phase }, { on := 6, ground := Ground.phase }, { on := 7, ground := Ground.phase }, { on := 8, ground := Ground.phase }, { on := 9, ground := Ground.phase }], guard := none }) rfl (fun K hK => ?_) AllReadyH.nil
        go_simp
        refine hK.out _ _ trivial (fun _ => ?_)
        clear hK K
        try simp only [Act.put, List.setIfInBounds_toArray, List.set_cons_zero, List.set_cons_succ]
        refine wpAnyH_done (by kernel_rfl) ?_ _
        have hb8 : RRaw (w6.setCell ⟨o, 0, none⟩ (.slice sa6 n6 cap6)) o n m sa6 n6 cap6 := Blk.set hR6 0 _
        have hk8 : Kept [o] w6 (w6.setCell ⟨o, 0, none⟩ (.slice sa6 n6 cap6)) := kept_set (by simp) _ _ _
        obtain ⟨w8, hw8⟩ : ∃ w8, w6.setCell ⟨o, 0, none⟩ (.slice sa6 n6 cap6) = w8 := ⟨_, rfl⟩
        rw [hw8] at hb8 hk8 ⊢
        obtain ⟨s6, z6, e6, _⟩ := hr6.open
        have hn6 : Hid (n6 = L + 1) := (by show _ = _; injection e6 with _ e7 _; rw [e7, List.length_append, hPl'.out]; rfl)
        have hfin := fin_rpush hf0.out hk05 hk6 hk8 hg6 hr6 hb8 hB5 hfoot.out hne.out hlo.out
        have hs8 : n + n6 ≤ 1000000 := (by rw [hn6.out]; exact hsz.out)
        have hP8 : n + n6 - 1 = PN := (by rw [hn6.out]; exact hPN.out)
        have hP9 : (n : Int) + (n6 : Int) - 1 = (PN : Int) := (by have := hn1.out; omega)
        have hPB8 : Hid (PB = decide (n6 ≤ m)) := (by show _ = _; rw [hn6.out]; exact hPB.out)
        have wr1 : IntKind.i64.wrap (PN : Int) = (PN : Int) := (by rw [IntKind.wrap_i64]; omega)
        have hnb : (n : Int) ≤ 1000000 := (by omega)
        have hnb6 : (n6 : Int) ≤ 1000000 := (by omega)
        have wr2 : IntKind.i64.wrap ((n : Int) + (n6 : Int)) = (n : Int) + (n6 : Int) := (by rw [IntKind.wrap_i64]; omega)
        have d0 := fun k => (hb8.kept (kept_drewN [] w8 k) (by simp)).three.1
        have d1 := fun k => (hb8.kept (kept_drewN [] w8 k) (by simp)).three.2.1
        have d2 := fun k => (hb8.kept (kept_drewN [] w8 k) (by simp)).three.2.2
        clear hw8 f2 e0 e1 e2 hr6 hR6 hr5 hR5 hB5 hc5 e6 hk6 hk8 hg6 hP8 hs8
        go_wp2_with fail
        go_quiet (fail)
        go_wp2_with fail
        go_ret2
        rw [hPB8.out]
        exact ⟨by simp, gr6, hfin.1.kept0 (kept_drewN [] _ _), hfin.2.1.trans (kept_drewN _ _ _), hfin.2.2⟩
      · go_simp
        have hk5 := kept_alloc [] w4 (.cells #[.slice sa4 n4 cap4] 31)
        have hR5 := hR4.kept hk5 (by simp)
        have hr5 := hr4.kept hk5 (fun _ _ => by simp)
        have hB5 := Byt.kept hB4 hk5 (noByt_nil _)
        have hc5 : (w4.alloc (.cells #[.slice sa4 n4 cap4] 31)).cell? ⟨w4.heap.size, 0, none⟩ = some (.slice sa4 n4 cap4) := cell_one_new _ _ _ 0 _ rfl
        obtain ⟨c0, c1, c2⟩ := hR5.three
        refine hK.out _ _ trivial (fun _ => ?_)
        clear hK K
        try simp only [Act.put, List.setIfInBounds_toArray, List.set_cons_zero, List.set_cons_succ]
        refine wpAnyH_ready (rs := [4]) (by kernel_rfl) (by simp) ?_
        refine AllReadyH.cons (o := { dst := some 10, op := Op.load 42 (Operand.tmp 9), type := 42, pos := "ref.go:24", after := #[{ on := 3, ground := Ground.data }], guard := none }) rfl (fun K hK => ?_) AllReadyH.nil
        go_simp
        refine hK.out _ _ trivial (fun _ => ?_)
        clear hK K
        try simp only [Act.put, List.setIfInBounds_toArray, List.set_cons_zero, List.set_cons_succ]
        have hk05 := hk2.trans (hk4.trans hk5)
        clear hk4 hk5 hR4 hr4 hB4 hR2 hr2 hk2 c0 c1 c2
        refine wpAnyH_ready (rs := [9]) (by kernel_rfl) (by simp) ?_
        refine AllReadyH.cons (o := { dst := some 15, op := Op.call { callee := Callee.builtin Builtin.append, args := #[Operand.tmp 10, Operand.tmp 14], argTypes := #[42, 42] }, type := 42, pos := "ref.go:24", after := #[{ on := 4, ground := Ground.data }, { on := 8, ground := Ground.data }, { on := 7, ground := Ground.chain }], guard := none }) rfl (fun K hK => ?_) AllReadyH.nil
        refine step_append_row rfl (.tmp 10) (.tmp 14) rfl base (.slice a L cap) P gr ⟨sa4, n4, cap4, bs⟩ w4.heap.size (by simp [Act.eval]) (by simp [Act.eval]) hr5 hc5 hPs.out (Nat.le_trans hbase.out hk05.size) ?_
        intro sa6 n6 cap6 w6 gr6 hr6 hk6 hg6
        have hR6 := hR5.kept hk6 hno.out
        have f2 := Blk.frozen hR6 0
        obtain ⟨e0, e1, e2⟩ := hR6.three
        refine hK.out _ _ trivial (fun _ => ?_)
        clear hK K
        try simp only [Act.put, List.setIfInBounds_toArray, List.set_cons_zero, List.set_cons_succ]
        refine wpAnyH_take (i := 10) (oi := { dst := some 16, op := Op.nilCheck (Operand.tmp 6), type := 0, pos := "ref.go:24", after := #[{ on := 0, ground := Ground.data }, { on := 0, ground := Ground.phase }, { on := 1, ground := Ground.phase }, { on := 2, ground := Ground.phase }, { on := 3, ground := Ground.phase }, { on := 4, ground := Ground.phase }, { on := 5, ground := Ground.phase }, { on := 6, ground := Ground.phase }, { on := 7, ground := Ground.phase }, { on := 8, ground := Ground.phase }, { on := 9, ground := Ground.phase }], guard := none }) (v := (.pointer (some ⟨o, 0, none⟩))) rfl (by kernel_rfl) (by kernel_rfl) (by kernel_rfl) (fun _ _ _ h => h) (Or.inl ⟨by rfl, fun W hSw => by go_simp⟩) hH ?_
        try simp only [Act.put, List.setIfInBounds_toArray, List.set_cons_zero, List.set_cons_succ]
        refine wpAnyH_take (i := 11) (oi := { dst := some 17, op := Op.fieldAddr 44 (Operand.tmp 16) 0, type := 0, pos := "ref.go:24", after := #[{ on := 10, ground := Ground.data }, { on := 0, ground := Ground.phase }, { on := 1, ground := Ground.phase }, { on := 2, ground := Ground.phase }, { on := 3, ground := Ground.phase }, { on := 4, ground := Ground.phase }, { on := 5, ground := Ground.phase }, { on := 6, ground := Ground.phase }, { on := 7, ground := Ground.phase }, { on := 8, ground := Ground.phase }, { on := 9, ground := Ground.phase }], guard := none }) (v := (.pointer (some ⟨o, 0, none⟩))) rfl (by kernel_rfl) (by kernel_rfl) (by kernel_rfl) (fun _ _ _ h => h) (Or.inl ⟨by rfl, fun W hSw => by go_simp⟩) hH ?_
        try simp only [Act.put, List.setIfInBounds_toArray, List.set_cons_zero, List.set_cons_succ]
        refine wpAnyH_ready (rs := [12]) (by kernel_rfl) (by simp) ?_
        refine AllReadyH.cons (o := { dst := none, op := Op.store 42 (Operand.tmp 17) (Operand.tmp 15), type := 0, pos := "ref.go:24", after := #[{ on := 11, ground := Ground.data }, { on := 9, ground := Ground.data }, { on := 9, ground := Ground.chain }, { on := 0, ground := Ground.phase }, { on := 1, ground := Ground.phase }, { on := 2, ground := Ground.phase }, { on := 3, ground := Ground.phase }, { on := 4, ground := Ground.phase }, { on := 5, ground := Ground.phase }, { on := 6, ground := Ground.phase }, { on := 7, ground := Ground.phase }, { on := 8, ground := Ground.phase }, { on := 9, ground := Ground.phase }], guard := none }) rfl (fun K hK => ?_) AllReadyH.nil
        go_simp
        refine hK.out _ _ trivial (fun _ => ?_)
        clear hK K
        try simp only [Act.put, List.setIfInBounds_toArray, List.set_cons_zero, List.set_cons_succ]
        refine wpAnyH_done (by kernel_rfl) ?_ _
        have hb8 : RRaw (w6.setCell ⟨o, 0, none⟩ (.slice sa6 n6 cap6)) o n m sa6 n6 cap6 := Blk.set hR6 0 _
        have hk8 : Kept [o] w6 (w6.setCell ⟨o, 0, none⟩ (.slice sa6 n6 cap6)) := kept_set (by simp) _ _ _
        obtain ⟨w8, hw8⟩ : ∃ w8, w6.setCell ⟨o, 0, none⟩ (.slice sa6 n6 cap6) = w8 := ⟨_, rfl⟩
        rw [hw8] at hb8 hk8 ⊢
        obtain ⟨s6, z6, e6, _⟩ := hr6.open
        have hn6 : Hid (n6 = L + 1) := (by show _ = _; injection e6 with _ e7 _; rw [e7, List.length_append, hPl'.out]; rfl)
        have hfin := fin_rpush hf0.out hk05 hk6 hk8 hg6 hr6 hb8 hB5 hfoot.out hne.out hlo.out
        have hs8 : n + n6 ≤ 1000000 := (by rw [hn6.out]; exact hsz.out)
        have hP8 : n + n6 - 1 = PN := (by rw [hn6.out]; exact hPN.out)
        have hP9 : (n : Int) + (n6 : Int) - 1 = (PN : Int) := (by have := hn1.out; omega)
        have hPB8 : Hid (PB = decide (n6 ≤ m)) := (by show _ = _; rw [hn6.out]; exact hPB.out)
        have wr1 : IntKind.i64.wrap (PN : Int) = (PN : Int) := (by rw [IntKind.wrap_i64]; omega)
        have hnb : (n : Int) ≤ 1000000 := (by omega)
        have hnb6 : (n6 : Int) ≤ 1000000 := (by omega)
        have wr2 : IntKind.i64.wrap ((n : Int) + (n6 : Int)) = (n : Int) + (n6 : Int) := (by rw [IntKind.wrap_i64]; omega)
        have d0 := fun k => (hb8.kept (kept_drewN [] w8 k) (by simp)).three.1
        have d1 := fun k => (hb8.kept (kept_drewN [] w8 k) (by simp)).three.2.1
        have d2 := fun k => (hb8.kept (kept_drewN [] w8 k) (by simp)).three.2.2
        clear hw8 f2 e0 e1 e2 hr6 hR6 hr5 hR5 hB5 hc5 e6 hk6 hk8 hg6 hP8 hs8
        go_wp2_with fail
        go_quiet (fail)
        go_wp2_with fail
        go_ret2
        rw [hPB8.out]
        exact ⟨by simp, gr6, hfin.1.kept0 (kept_drewN [] _ _), hfin.2.1.trans (kept_drewN _ _ _), hfin.2.2⟩
end Go.Proofs.Ytmibcnefonmmgaa.Outbox
