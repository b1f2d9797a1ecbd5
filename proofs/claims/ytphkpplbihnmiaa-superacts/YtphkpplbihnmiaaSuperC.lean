/-
  The acts of SuperActs and SuperRises, as they lie in a slice and in a block; the walk of SuperRises.
-/
import Derived.Test.YtphkpplbihnmiaaSuperB
namespace Go.Proofs.Ytphkpplbihnmiaa
open Go.RowKit Go.Maps Go.Shelf
open Math

/-- An act. -/
structure Sa where
  kind : Int
  at_ : Int
  mask : Nat
  s : List Nat
structure Sa.Ok (a : Sa) : Prop where
  kind0 : -9223372036854775808 ≤ a.kind
  kind1 : a.kind ≤ 9223372036854775807
  at_0 : -9223372036854775808 ≤ a.at_
  at_1 : a.at_ ≤ 9223372036854775807
  mask_ : a.mask < 18446744073709551616
  s_ : Sec a.s
  known : True
def Sa.cells (a : Sa) : List Value := .int .i64 a.kind :: .int .i64 a.at_ :: .int .u64 (a.mask : Int) :: a.s.map enc
/-- The acts of a slice, in a block below n₀ where there is one. -/
def ActsAt (n₀ : Nat) (W : World) (a : Option Addr) (len cap : Nat) (acts : List Sa) : Prop :=
  acts.length = len ∧ (∀ x ∈ acts, x.Ok) ∧ (acts = [] ∨ ∃ b off, a = some ⟨b, off, none⟩ ∧ len ≤ cap ∧ b < n₀ ∧ ∀ j x, acts[j]? = some x → W.rangeAt b (off + j * 19) x.cells)
theorem ActsAt.below {n₀ : Nat} {A B : World} (h : Below n₀ A B) {a : Option Addr} {len cap : Nat} {acts : List Sa} : ActsAt n₀ A a len cap acts → ActsAt n₀ B a len cap acts
  | ⟨h1, h2, .inl r⟩ => ⟨h1, h2, .inl r⟩
  | ⟨h1, h2, .inr ⟨b, off, e, hl, hb, hc⟩⟩ => ⟨h1, h2, .inr ⟨b, off, e, hl, hb, fun j x hx i v hv => (h.cell (p := ⟨b, off + j * 19 + i, none⟩) hb).trans (hc j x hx i v hv)⟩⟩
theorem Try.size35 : (Try.prog.info? 35).map (·.size) = some 19 := by kernel_rfl
theorem Sa.cells_length (a : Sa) (h : a.Ok) : a.cells.length = 19 := by simp [Sa.cells, h.s_.1]
theorem Sa.range {W : World} {g : Nat} {a : Sa} (h : Blk W g 35 a.cells.toArray) :
    W.cell? ⟨g, 0, none⟩ = some (.int .i64 a.kind) ∧ W.cell? ⟨g, 1, none⟩ = some (.int .i64 a.at_) ∧ W.cell? ⟨g, 2, none⟩ = some (.int .u64 (a.mask : Int)) ∧ W.rangeAt g 3 (a.s.map enc) := by
  refine ⟨by rw [h.cell]; rfl, by rw [h.cell]; rfl, by rw [h.cell]; rfl, h.range 3 _ (fun j v hv => ?_)⟩
  have := mid_of [.int .i64 a.kind, .int .i64 a.at_, .int .u64 (a.mask : Int)] (a.s.map enc) [] 3 rfl j v hv
  rwa [List.append_nil] at this
theorem Sa.one (a : Sa) : ∀ v ∈ a.cells, v.oneCell' = true := by
  intro v hv
  simp only [Sa.cells, List.mem_cons, List.mem_map] at hv
  rcases hv with rfl | rfl | rfl | ⟨x, _, rfl⟩ <;> rfl

/-- What SuperRises holds of a disk: n starts, or n and one that a crash may take. -/
def Rise (s : Dk) (n : Nat) : Prop := Still s 0 2 n n ∨ (s.broken = true ∧ ∀ mask, Still (crashed s mask) 0 2 n n ∨ Still (crashed s mask) 0 2 (n + 1) (n + 1))
theorem Rise.room {s : Dk} {n : Nat} (h : Rise s n) : 2 ≤ s.size := by
  rcases h with h | ⟨_, h⟩
  · have := h.room; omega
  · rcases h 0 with h | h
    · have : 0 + 2 ≤ s.size := h.room; omega
    · have : 0 + 2 ≤ s.size := h.room; omega
theorem Rise.fused {s : Dk} {n : Nat} (h : Rise s n) (k : Int) (h0 : -9223372036854775808 ≤ k) (h1 : k ≤ 9223372036854775807) : Rise (fused s k) n := by
  rcases h with h | ⟨hb, h⟩
  · exact .inl (h.fused k h0 h1)
  · exact .inr ⟨hb, h⟩
theorem Rise.crashed {s : Dk} {n : Nat} (h : Rise s n) (mask : Nat) : Rise (crashed s mask) n ∨ Rise (Math.crashed s mask) (n + 1) := by
  rcases h with h | ⟨hb, h⟩
  · exact .inl (.inl (h.crashed mask))
  · rcases h mask with h | h
    · exact .inl (.inl h)
    · exact .inr (.inl h)
/-- A start: done, and greater than all ahead, or refused. -/
theorem Rise.next {s : Dk} {n : Nat} (h : Rise s n) (hn : n + 1 < 4294967295) :
    (nextE s = 0 ∧ nextN s = n + 1 ∧ Rise (nextS s) (n + 1)) ∨ (nextE s = 3 ∧ nextN s = 0 ∧ Rise (nextS s) n) := by
  have hr := h.room
  by_cases hb : s.broken = true
  · obtain ⟨e1, e2, e3, _⟩ := next_broken hr hb
    exact .inr ⟨e1, e2, by rw [e3]; exact h⟩
  · have hb' : s.broken = false := by simpa using hb
    rcases h with h | ⟨hb2, _⟩
    · by_cases hf : s.fuse < 0 ∨ 2 ≤ s.fuse
      · obtain ⟨a1, a2, a3, _⟩ := h.next_ok hb' (by omega) (by omega) hf
        exact .inl ⟨a1, a2, .inl a3⟩
      · have e := h.boot hb' (by omega)
        have eS : nextS s = putS s 0 2 (n + 1) := by
          unfold nextS
          rw [e, if_neg (by omega)]
        have eE : nextE s = putE s 0 2 (n + 1) := by
          unfold nextE
          rw [e, if_neg (by omega)]
        have fin : putE s 0 2 (n + 1) = 3 ∧ Rise (putS s 0 2 (n + 1)) n := by
          by_cases f0 : s.fuse = 0
          · obtain ⟨e1, e2⟩ := h.put_burnt hb' (by omega) (n + 1) f0
            have e2' : putS s 0 2 (n + 1) = burnt s := e2
            exact ⟨e1, by rw [e2']; exact .inl h.burnt⟩
          · have ht := h.put_torn hb' (by omega) (n + 1) (by omega) (by omega)
            have hbr : (putS s 0 2 (n + 1)).broken = true := by
              obtain ⟨_, e2⟩ := h.put_wrote hb' (by omega) (n + 1) (by omega)
              have e2' : putS s 0 2 (n + 1) = _ := e2
              have f1 : s.fuse = 1 := by omega
              rw [e2', flushS, if_pos (by simp [worn, laid, done, f1])]
              rfl
            exact ⟨(ht 0).1, .inr ⟨hbr, fun mask => (ht mask).2.1⟩⟩
        refine .inr ⟨eE.trans fin.1, ?_, by rw [eS]; exact fin.2⟩
        unfold nextN
        rw [if_neg (by rw [eE, fin.1]; decide)]
    · exact absurd hb2 hb
theorem put_ops (s : Dk) (base z : Int) (y : Nat) : (putS s base z y).ops ≤ s.ops + 2 := by
  unfold putS
  split
  · split
    · exact Nat.le_add_right _ _
    · split
      · exact Nat.le_add_right _ _
      · unfold putsS
        have h1 := wrote_ops s (putK s base z) (putX s base z y)
        split
        · unfold flushS
          split
          · show (wroteS s _ _).ops ≤ _
            omega
          · show (wroteS s _ _).ops + 1 ≤ _
            omega
        · omega
  · exact Nat.le_add_right _ _
theorem next_ops (s : Dk) : (nextS s).ops ≤ s.ops + 2 := by
  unfold nextS
  split
  · exact Nat.le_add_right _ _
  · exact put_ops s 0 2 _

set_option maxRecDepth 100000 in
set_option maxHeartbeats 1000000 in
/-- SuperRises, of what is too long -/
theorem rises_early (a0 : Option Addr) (len cap : Nat) (hlen : len ≤ 9223372036854775807) (w : World) (hno : 60 < len) :
    Calls Try.prog 4 #[.slice a0 len cap] w fun e w' => e = .returned (.bool true) ∧ Kept [] w w' := by
  have q3 := lives_any
  have g1 : (60 : Int) < (len : Int) := by omega
  clear hno
  go_enter Try.func4, Try.ntmps4
  go_wp2_with (first
    | (go_at_call 6; refine (q3 _).mono ?_; rintro e w3 ⟨rfl, hk3⟩))
  go_ret
  exact ⟨rfl, hk3⟩

set_option maxRecDepth 100000 in
set_option maxHeartbeats 8000000 in
/-- SuperRises, of a play -/
theorem rises_play (a0 : Option Addr) (len cap0 : Nat) (acts : List Sa) (hlen : len ≤ 60) (w : World) (hacts : ActsAt w.heap.size w a0 len cap0 acts) :
    Calls Try.prog 4 #[.slice a0 len cap0] w fun e w' => e = .returned (.bool true) ∧ Kept [] w w' := by
  have q7 := lives_any
  have q8 := new_any 8 (by decide) (by decide) w
  have g2 : ¬ ((60 : Int) < (len : Int)) := by omega
  go_enter Try.func4, Try.ntmps4
  go_wp2_with (first
    | (go_at_call 7; refine q8.mono ?_; rintro e w4 ⟨rfl, hD, hK4⟩))
  obtain ⟨d, hd⟩ : ∃ d, w.heap.size + 2 = d := ⟨_, rfl⟩
  obtain ⟨b1, hb1⟩ : ∃ b, w.heap.size = b := ⟨_, rfl⟩
  obtain ⟨b2, hb2⟩ : ∃ b, w.heap.size + 1 = b := ⟨_, rfl⟩
  have hdl : w.heap.size ≤ d := by omega
  have hbl1 : w.heap.size ≤ b1 := by omega
  have hbl2 : w.heap.size ≤ b2 := by omega
  rw [hd, hb2] at hD
  have hD' : DiskAt w4 d b1 b2 (made 8) := hb1 ▸ hD
  rw [hd]
  clear hd hb1 hb2 hD q8
  have ho0 : (made 8).ops ≤ 0 := Nat.le_refl _
  have hR0 : Rise (made 8) 0 := .inl (still_made 8 0 2 (by decide) (by decide) (by decide) (by decide) (by decide))
  generalize made 8 = s0 at *
  go_loopw [20, 5] (fun i la wr => ∃ (j : Nat) (s : Dk) (n l : Nat), j ≤ len ∧ i = .int .i64 j ∧ la = .int .u32 l ∧ DiskAt wr d b1 b2 s ∧ Rise s n ∧ n ≤ j ∧ l ≤ n ∧ s.ops ≤ 2 * j ∧ Kept [] w wr) (fun i _ _ => len - (RowKit.intOf i).toNat)
  case atStart => exact ⟨0, s0, 0, 0, by omega, rfl, rfl, hD', hR0, by omega, by omega, ho0, hK4⟩
  case round =>
    obtain ⟨j, s, n, l, hj, rfl, rfl, hD, hRi, hn, hl, ho, hK⟩ := hrel
    clear hD' hR0 ho0 hK4
    by_cases hlt : j < len
    · obtain ⟨hal, haok, hnil | ⟨blk, off, rfl, hcap, hblk, hcs⟩⟩ := hacts.below (hK.below (Nat.le_refl _) (by simp))
      · rw [hnil] at hal
        simp at hal
        omega
      obtain ⟨a, ha⟩ : ∃ a, acts[j]? = some a := ⟨_, List.getElem?_eq_getElem (by rw [hal]; exact hlt)⟩
      have hok := haok a (List.mem_of_getElem? ha)
      have hr : Hid (wr.rangeAt blk (off + j * 19) a.cells) := hcs j a ha
      have kk4 : (j : Int) < (len : Int) := by omega
      have kcap : (j : Int) < (cap0 : Int) := by omega
      have hm1 : Hid (len - (j + 1) < len - j) := by show _ < _; omega
      have hz0 : Blk (wr.alloc (.cells #[.int .i64 0, .int .i64 0, .int .u64 0, .int .u8 0, .int .u8 0, .int .u8 0, .int .u8 0, .int .u8 0, .int .u8 0, .int .u8 0, .int .u8 0, .int .u8 0, .int .u8 0, .int .u8 0, .int .u8 0, .int .u8 0, .int .u8 0, .int .u8 0, .int .u8 0] 35)) wr.heap.size 35 #[.int .i64 0, .int .i64 0, .int .u64 0, .int .u8 0, .int .u8 0, .int .u8 0, .int .u8 0, .int .u8 0, .int .u8 0, .int .u8 0, .int .u8 0, .int .u8 0, .int .u8 0, .int .u8 0, .int .u8 0, .int .u8 0, .int .u8 0, .int .u8 0, .int .u8 0] := blk_new wr 35 _
      have hsz : Hid (a.cells.length = 19) := a.cells_length hok
      have hltB := hD.lt
      have hops : s.ops ≤ 999998 := by omega
      clear hcs hal haok hacts ha
      by_cases n0 : a.kind = 0
      · have q9 := fun W (h : DiskAt W d b1 b2 s) => next_any d b1 b2 s hops W h
        have hs' := next_ops s
        rcases hRi.next (by omega) with ⟨e1, e2, e3⟩ | ⟨e1, e2, e3⟩
        · rw [e1, e2] at q9
          have HR : Hid (Rise (nextS s) (n + 1)) := e3
          generalize nextS s = s' at *
          clear e1 e2 e3 hRi
          have m1 : ¬ (((n + 1 : Nat) : Int) ≤ (l : Int)) := by omega
          generalize hN : n + 1 = N at *
          replace hN : Hid (n + 1 = N) := hN
          go_wp2_with (first
            | refine wpList_load_mid rfl 35 _ rfl blk (off + j * 19) rfl a.cells _ hr.out Try.underlying35 rfl (by rw [hsz.out]; exact Try.size35) ?_
            | (refine wpList_store_blk rfl 35 _ _ rfl wr.heap.size 35 _ a.cells rfl rfl hz0 hsz.out (by rw [hsz.out]; exact Try.size35) a.one ?_; intro w7 hB7 hk7 hz7; have hk07 : Kept [] wr w7 := (kept_alloc [] wr _).young hk7 (Nat.le_refl _); have hD7 := hD.kept hk07 (by simp) (by simp) (by simp); obtain ⟨c0, c1, c2, -⟩ := Sa.range hB7; rw [n0] at c0)
            | (go_at_call 9; refine (q9 _ hD7).mono ?_; rintro e w8 ⟨rfl, hD8, hk8⟩))
          go_roundw
          case rel => exact ⟨j + 1, s', N, N, by omega, rfl, by simp; have := hN.out; omega, hD8, HR.out, by have := hN.out; omega, Nat.le_refl _, by omega, (hK.trans hk07).young3 hk8 hdl hbl1 hbl2⟩
          case measure => simpa [RowKit.intOf] using hm1.out
        · rw [e1, e2] at q9
          have HR : Hid (Rise (nextS s) n) := e3
          generalize nextS s = s' at *
          clear e1 e2 e3 hRi
          go_wp2_with (first
            | refine wpList_load_mid rfl 35 _ rfl blk (off + j * 19) rfl a.cells _ hr.out Try.underlying35 rfl (by rw [hsz.out]; exact Try.size35) ?_
            | (refine wpList_store_blk rfl 35 _ _ rfl wr.heap.size 35 _ a.cells rfl rfl hz0 hsz.out (by rw [hsz.out]; exact Try.size35) a.one ?_; intro w7 hB7 hk7 hz7; have hk07 : Kept [] wr w7 := (kept_alloc [] wr _).young hk7 (Nat.le_refl _); have hD7 := hD.kept hk07 (by simp) (by simp) (by simp); obtain ⟨c0, c1, c2, -⟩ := Sa.range hB7; rw [n0] at c0)
            | (go_at_call 9; refine (q9 _ hD7).mono ?_; rintro e w8 ⟨rfl, hD8, hk8⟩))
          go_roundw
          case rel => exact ⟨j + 1, s', n, l, by omega, rfl, by simp, hD8, HR.out, by omega, hl, by omega, (hK.trans hk07).young3 hk8 hdl hbl1 hbl2⟩
          case measure => simpa [RowKit.intOf] using hm1.out
      by_cases n1 : a.kind = 1
      · have q11 := fun W (h : DiskAt W d b1 b2 s) => crash_any d b1 b2 s a.mask hok.mask_ W h
        have HR : Hid (∃ n', n' ≤ n + 1 ∧ n ≤ n' ∧ Rise (crashed s a.mask) n') := by
          rcases hRi.crashed a.mask with h | h
          · exact ⟨n, by omega, by omega, h⟩
          · exact ⟨n + 1, by omega, by omega, h⟩
        have hs' : (crashed s a.mask).ops = s.ops := rfl
        generalize crashed s a.mask = s' at *
        clear hRi
        go_wp2_with (first
          | refine wpList_load_mid rfl 35 _ rfl blk (off + j * 19) rfl a.cells _ hr.out Try.underlying35 rfl (by rw [hsz.out]; exact Try.size35) ?_
          | (refine wpList_store_blk rfl 35 _ _ rfl wr.heap.size 35 _ a.cells rfl rfl hz0 hsz.out (by rw [hsz.out]; exact Try.size35) a.one ?_; intro w7 hB7 hk7 hz7; have hk07 : Kept [] wr w7 := (kept_alloc [] wr _).young hk7 (Nat.le_refl _); have hD7 := hD.kept hk07 (by simp) (by simp) (by simp); obtain ⟨c0, c1, c2, -⟩ := Sa.range hB7; rw [n1] at c0)
          | (go_at_call 11; refine (q11 _ hD7).mono ?_; rintro e w8 ⟨rfl, hD8, hk8⟩))
        go_roundw
        case rel =>
          obtain ⟨n', x1, x2, x3⟩ := HR.out
          exact ⟨j + 1, s', n', l, by omega, rfl, rfl, hD8, x3, by omega, by omega, by omega, (hK.trans hk07).young3 hk8 hdl hbl1 hbl2⟩
        case measure => simpa [RowKit.intOf] using hm1.out
      by_cases n2 : a.kind = 2
      · have q13 := fun W (h : DiskAt W d b1 b2 s) => fuse_any d b1 b2 s a.at_ hok.at_0 hok.at_1 W h
        have HR : Hid (Rise (fused s a.at_) n) := hRi.fused a.at_ hok.at_0 hok.at_1
        have hs' : (fused s a.at_).ops = s.ops := rfl
        generalize fused s a.at_ = s' at *
        clear hRi
        go_wp2_with (first
          | refine wpList_load_mid rfl 35 _ rfl blk (off + j * 19) rfl a.cells _ hr.out Try.underlying35 rfl (by rw [hsz.out]; exact Try.size35) ?_
          | (refine wpList_store_blk rfl 35 _ _ rfl wr.heap.size 35 _ a.cells rfl rfl hz0 hsz.out (by rw [hsz.out]; exact Try.size35) a.one ?_; intro w7 hB7 hk7 hz7; have hk07 : Kept [] wr w7 := (kept_alloc [] wr _).young hk7 (Nat.le_refl _); have hD7 := hD.kept hk07 (by simp) (by simp) (by simp); obtain ⟨c0, c1, c2, -⟩ := Sa.range hB7; rw [n2] at c0)
          | (go_at_call 13; refine (q13 _ hD7).mono ?_; rintro e w8 ⟨rfl, hD8, hk8, hz8⟩; replace hz8 : Hid _ := hz8))
        go_roundw
        case rel => exact ⟨j + 1, s', n, l, by omega, rfl, rfl, hD8, HR.out, by omega, hl, by omega, (hK.trans hk07).young hk8 hdl⟩
        case measure => simpa [RowKit.intOf] using hm1.out
      · have z0 : (a.kind == 0) = false := by simpa using n0
        have z1 : (a.kind == 1) = false := by simpa using n1
        have z2 : (a.kind == 2) = false := by simpa using n2
        go_wp2_with (first
          | refine wpList_load_mid rfl 35 _ rfl blk (off + j * 19) rfl a.cells _ hr.out Try.underlying35 rfl (by rw [hsz.out]; exact Try.size35) ?_
          | (refine wpList_store_blk rfl 35 _ _ rfl wr.heap.size 35 _ a.cells rfl rfl hz0 hsz.out (by rw [hsz.out]; exact Try.size35) a.one ?_; intro w7 hB7 hk7 hz7; have hk07 : Kept [] wr w7 := (kept_alloc [] wr _).young hk7 (Nat.le_refl _); have hD7 := hD.kept hk07 (by simp) (by simp) (by simp); obtain ⟨c0, c1, c2, -⟩ := Sa.range hB7))
        go_roundw
        case rel => exact ⟨j + 1, s, n, l, by omega, rfl, rfl, hD7, hRi, by omega, hl, by omega, hK.trans hk07⟩
        case measure => simpa [RowKit.intOf] using hm1.out
    · obtain rfl : j = len := by omega
      clear hacts
      go_wp2_with (first
        | (go_at_call 6; refine (q7 _).mono ?_; rintro e w12 ⟨rfl, hk12⟩))
      go_ret
      exact ⟨rfl, hK.trans hk12⟩
end Go.Proofs.Ytphkpplbihnmiaa
