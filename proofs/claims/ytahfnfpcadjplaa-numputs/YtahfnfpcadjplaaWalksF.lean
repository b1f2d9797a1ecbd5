/-
  The walk of the law NumPuts: what is put behind any bytes.
-/
import Derived.Test.YtahfnfpcadjplaaWalksE
import Derived.Deep.RegionHeld3
import Derived.Deep.CutRange
namespace Go.Proofs.Ytahfnfpcadjplaa
open Go.RowKit
open Math
namespace numPuts

/-- What holds throughout: both slices hold the bytes, and nothing that was there has turned. -/
def St (w : World) (bs : List Nat) (va vo : Value) (W : World) : Prop := BytesAt W.heap.size W va bs ∧ BytesAt W.heap.size W vo bs ∧ Below w.heap.size w W
theorem St.next {w : World} {bs : List Nat} {va vo : Value} {W W' : World} (h : St w bs va vo W) (hB : Below W.heap.size W W') : St w bs va vo W' :=
  ⟨(h.1.below hB).mono hB.size, (h.2.1.below hB).mono hB.size, h.2.2.trans (hB.mono h.2.2.size)⟩
theorem St.drew {w : World} {bs : List Nat} {va vo : Value} {W : World} (h : St w bs va vo W) : St w bs va vo W.drew := ⟨h.1, h.2.1, h.2.2.drew⟩

/-- What a call of one of the six hands back: a value that tells the text S, and nothing old has turned. -/
def Tells (w : World) (bs : List Nat) (va vo : Value) (W : World) (S : ByteArray) (e : Ending) (W' : World) : Prop := ∃ v, e = .returned v ∧ Conv W' v S ∧ Below W.heap.size W W' ∧ St w bs va vo W'
theorem tells {w : World} {bs : List Nat} {va vo : Value} {W W' : World} {l : List Nat} {n : Nat} {e : Ending} (hS : St w bs va vo W) (hl : ∀ b ∈ l, b < 256) (hn : n = l.length) (h : ∃ v, e = .returned v ∧ W'.ownsRow W.heap.size 5 1 v n (l.map enc) ∧ Below W.heap.size W W') : Tells w bs va vo W (strOfNums (l.map Int.ofNat)) e W' := by
  obtain ⟨v, rfl, ho, hB⟩ := h
  subst hn
  exact ⟨v, rfl, conv_at (bytesAt_owns hl (Nat.le_refl _) ho), hB, hS.next hB⟩
theorem bytes_app {bs : List Nat} (h : ∀ b ∈ bs, b < 256) (k y : Nat) : ∀ b ∈ bs ++ be k y, b < 256 := by
  intro b hb
  rcases List.mem_append.1 hb with h1 | h1
  · exact h b h1
  · exact be_byte k y b h1
theorem len_app (bs : List Nat) (k y : Nat) : bs.length + k = (bs ++ be k y).length := by rw [List.length_append, be_length]

/-- What holds behind W0: nothing that was there at W0 has turned either. -/
def ext (w : World) (bs : List Nat) (va vo : Value) (W0 W : World) : Prop := St w bs va vo W ∧ Below W0.heap.size W0 W
theorem ext.drew {w : World} {bs : List Nat} {va vo : Value} {W : World} (h : St w bs va vo W) : ext w bs va vo W W.drew := ⟨h.drew, (Below.refl _ _).drew⟩
/-- What is held throughout may be more from some place on. -/
theorem wpAnyH_stronger {P : Program} {ops : Array Oper} {Q : Exit → Act → World → Prop} {md : Region.Mode} {S S' : World → Prop} (hS : ∀ w, S' w → S w) :
    ∀ (fuel : Nat) (listed : Array Bool) (a : Act) (w : World), wpAnyH P md ops Q S' fuel listed a w → wpAnyH P md ops Q S fuel listed a w
  | 0, _, _, _, h => h
  | fuel + 1, _, _, _, h => ⟨h.1, fun i hi => wpOp_mono (fun _ _ h' => ⟨hS _ h'.1, wpAnyH_stronger hS fuel _ _ _ h'.2⟩) (h.2 i hi)⟩

theorem walkLong (a : Option Addr) (len cap : Nat) (n x : Int) (w : World) (h : 1000 < len) (hl : len ≤ 9223372036854775807) :
    Calls Try.prog 3 #[.slice a len cap, .int .i64 n, .int .u64 x] w fun e w' => e = .returned (.bool true) ∧ Below w.heap.size w w' := by
  go_enter Try.func3, Try.ntmps3
  go_wp2_with (go_at_call 7; refine (lives_any _).mono ?_; rintro e w1 ⟨rfl, hB⟩)
  go_ret
  exact ⟨rfl, hB⟩

set_option maxHeartbeats 2000000 in
theorem walkShort (oa : Option Addr) (len cap : Nat) (bs : List Nat) (n : Int) (x : Nat) (w : World) (hlen : bs.length = len) (hb : bs.length ≤ 1000) (hx : x < 18446744073709551616) (hA : BytesAt w.heap.size w (.slice oa len cap) bs)
    (hn : oa = none → len = 0 ∧ cap = 0) (hc : ∀ a, oa = some a → ∀ j u, (bs.map enc)[j]? = some u → w.cell? (a.add j) = some u) :
    Calls Try.prog 3 #[.slice oa len cap, .int .i64 n, .int .u64 x] w fun e w' => e = .returned (.bool true) ∧ Below w.heap.size w w' := by

  have hu : IntKind.u32.wrap (x : Int) = ((x % 4294967296 : Nat) : Int) := by rw [IntKind.wrap_u32']; omega
  have hz : x % 4294967296 < 4294967296 := Nat.mod_lt _ (by omega)
  have hbs := hA.1
  obtain ⟨S0, hS0⟩ : ∃ S, strOfNums (bs.map Int.ofNat) = S := ⟨_, rfl⟩
  obtain ⟨S2, hS2⟩ : ∃ S, strOfNums ((bs ++ be 2 (n % 65536).toNat).map Int.ofNat) = S := ⟨_, rfl⟩
  obtain ⟨S4, hS4⟩ : ∃ S, strOfNums ((bs ++ be 4 (x % 4294967296)).map Int.ofNat) = S := ⟨_, rfl⟩
  obtain ⟨S8, hS8⟩ : ∃ S, strOfNums ((bs ++ be 8 x).map Int.ofNat) = S := ⟨_, rfl⟩
  have qa : ∀ (vo : Value) (W : World), St w bs (.slice oa len cap) vo W → (convert 22 9 (.slice oa len cap)).run Try.prog W = .ok (.string S0) W := fun vo W h => by
    rw [← hS0]; exact conv_bytes h.1
  have qo : ∀ (vo : Value) (W : World), St w bs (.slice oa len cap) vo W → (convert 22 9 vo).run Try.prog W = .ok (.string S0) W := fun vo W h => by
    rw [← hS0]; exact conv_bytes h.2.1
  have q8 : ∀ (vo : Value) (W : World), St w bs (.slice oa len cap) vo W → Calls Try.prog 8 #[vo, .int .i64 n] W (Tells w bs (.slice oa len cap) vo W S2) := fun vo W h => by
    rw [← hS2]; exact (put16_any vo bs n W hb h.2.1).mono fun e W' h' => tells h (bytes_app hbs _ _) (len_app _ _ _) h'
  have q9 : ∀ (vo : Value) (W : World), St w bs (.slice oa len cap) vo W → Calls Try.prog 9 #[(.slice oa len cap), .int .i64 n] W (Tells w bs (.slice oa len cap) vo W S2) := fun vo W h => by
    rw [← hS2]; exact (refPut16_any _ bs n W hb h.1).mono fun e W' h' => tells h (bytes_app hbs _ _) (len_app _ _ _) h'
  have q10 : ∀ (vo : Value) (W : World), St w bs (.slice oa len cap) vo W → Calls Try.prog 10 #[vo, .int .u32 ((x % 4294967296 : Nat) : Int)] W (Tells w bs (.slice oa len cap) vo W S4) := fun vo W h => by
    rw [← hS4]; exact (put32_any vo bs _ W hb hz h.2.1).mono fun e W' h' => tells h (bytes_app hbs _ _) (len_app _ _ _) h'
  have q11 : ∀ (vo : Value) (W : World), St w bs (.slice oa len cap) vo W → Calls Try.prog 11 #[(.slice oa len cap), .int .u32 ((x % 4294967296 : Nat) : Int)] W (Tells w bs (.slice oa len cap) vo W S4) := fun vo W h => by
    rw [← hS4]; exact (refPut32_any _ bs _ W hb hz h.1).mono fun e W' h' => tells h (bytes_app hbs _ _) (len_app _ _ _) h'
  have q12 : ∀ (vo : Value) (W : World), St w bs (.slice oa len cap) vo W → Calls Try.prog 12 #[vo, .int .u64 x] W (Tells w bs (.slice oa len cap) vo W S8) := fun vo W h => by
    rw [← hS8]; exact (put64_any vo bs _ W hb hx h.2.1).mono fun e W' h' => tells h (bytes_app hbs _ _) (len_app _ _ _) h'
  have q13 : ∀ (vo : Value) (W : World), St w bs (.slice oa len cap) vo W → Calls Try.prog 13 #[(.slice oa len cap), .int .u64 x] W (Tells w bs (.slice oa len cap) vo W S8) := fun vo W h => by
    rw [← hS8]; exact (refPut64_any _ bs _ W hb hx h.1).mono fun e W' h' => tells h (bytes_app hbs _ _) (len_app _ _ _) h'
  clear hS0 hS2 hS4 hS8 hbs
  generalize x % 4294967296 = z at *

  have hb' : len ≤ 1000 := by omega
  have HL : Hid (bs.length = len) := hlen
  have HN : Hid (oa = none → len = 0 ∧ cap = 0) := hn
  have HC : Hid (∀ a, oa = some a → ∀ j u, (bs.map enc)[j]? = some u → w.cell? (a.add j) = some u) := hc
  have HA : Hid (∀ (vo : Value) (W : World), St w bs (.slice oa len cap) vo W → (convert 22 9 (.slice oa len cap)).run Try.prog W = .ok (.string S0) W) := qa
  have HO : Hid (∀ (vo : Value) (W : World), St w bs (.slice oa len cap) vo W → (convert 22 9 vo).run Try.prog W = .ok (.string S0) W) := qo
  clear hlen hn hc qa qo
  go_enter Try.func3, Try.ntmps3
  go_upto_region 3 with fail
  go_cut [7] from 13 to 15 (fun vo W => St w bs (.slice oa len cap) vo W)
  case first =>
    clear q8 q9 q10 q11 q12 q13 HA HO
    cases oa with
    | none =>
      obtain ⟨h0, h0'⟩ := HN.out rfl
      subst h0 h0'
      obtain rfl : bs = [] := List.eq_nil_of_length_eq_zero HL.out
      go_wp2
      go_meet
      case rel =>
        have hB0 : Below w.heap.size w (w.alloc (.cells #[] 5)) := (Below.refl _ _).alloc (Nat.le_refl _) _
        exact ⟨(hA.below hB0).mono hB0.size, ⟨by simp, some ⟨w.heap.size, 0, none⟩, 0, rfl, fun h => by simp at h, .inl rfl⟩, hB0⟩
    | some a =>
      obtain ⟨i0, hi, hz0, hz1, hz2⟩ := info_parts Try.info5
      have hown0 : (w.alloc (.cells #[] 5)).ownsRow w.heap.size 5 1 (.slice (some ⟨w.heap.size, 0, none⟩) 0 0) 0 [] := World.ownsRow_made w _ 0 (Nat.le_refl _) (by decide) rfl
      have hB0 : Below w.heap.size w (w.alloc (.cells #[] 5)) := (Below.refl _ _).alloc (Nat.le_refl _) _
      go_wp2_with (first
        | (at_builtin; refine wpList_append_own _ rfl _ _ 22 rfl w.heap.size 5 i0 (.int .u8 0) 1 1 Try.underlying22 hi hz0 hz1 hz2 rfl (by decide) _ 0 [] rfl hown0 a len cap (bs.map enc) rfl ?c0 ?c1 ?c2 ?c3 ?c4 ?c5 ?_)
        | go_in)
      case c0 => simp [HL.out]
      case c1 =>
        intro j u hj
        have := HC.out a rfl j u hj
        rw [← this]
        exact hB0.cell (World.block_lt_of_cell? w _ this)
      case c2 => intro u hu; simp at hu; obtain ⟨x, _, rfl⟩ := hu; rfl
      case c3 => unfold maxLen; omega
      case c4 => omega
      case c5 => simp
      intro vo w1 hown1 hgrow1 _
      have hB := below_append (Nat.le_refl _) hB0 hown0 hgrow1
      try rw [Nat.zero_add, List.nil_append] at hown1
      have hSt : St w bs (.slice (some a) len cap) vo w1 := ⟨(hA.below hB).mono hB.size, bytesAt_owns hA.1 (Nat.le_refl _) (by rw [HL.out]; exact hown1), hB⟩
      clear hown0 hB0 hgrow1 hown1 hB HN HC
      go_wp2
      go_meet
      case rel => exact hSt
  case rest =>
    clear HN HC hA HL
    go_upto_region 4 with fail
    go_cut [8] from 16 to 48 (fun ok W => ok = .bool true ∧ St w bs (.slice oa len cap) u7 W)
    case first =>
      clear HA HO
      replace q8 := q8 u7
      replace q9 := q9 u7
      replace q10 := q10 u7
      replace q11 := q11 u7
      replace q12 := q12 u7
      replace q13 := q13 u7
      refine wp_region_noPanic ?_
      refine wp_region_held_drew (S := ext w bs (.slice oa len cap) u7 wc) (by kernel_rfl) (ext.drew hcut) (fun hH => ?_)
      refine wpAnyH_take (i := 0) (oi := { dst := some 16, op := Op.move (Operand.tmp 7), type := 22, pos := "law.go:20", after := #[], guard := none }) (v := u7) rfl (by kernel_rfl) (by kernel_rfl) (by kernel_rfl) (fun _ _ _ h => h) (Or.inl ⟨by rfl, fun W hSw => by go_simp⟩) hH ?_
      try simp only [Act.put, List.setIfInBounds_toArray, List.set_cons_zero, List.set_cons_succ]
      refine wpAnyH_take (i := 1) (oi := { dst := some 17, op := Op.move (Operand.tmp 1), type := 3, pos := "law.go:20", after := #[], guard := none }) (v := .int .i64 n) rfl (by kernel_rfl) (by kernel_rfl) (by kernel_rfl) (fun _ _ _ h => h) (Or.inl ⟨by rfl, fun W hSw => by go_simp⟩) hH ?_
      try simp only [Act.put, List.setIfInBounds_toArray, List.set_cons_zero, List.set_cons_succ]
      refine wpAnyH_take (i := 4) (oi := { dst := some 20, op := Op.move (Operand.tmp 0), type := 22, pos := "law.go:20", after := #[], guard := none }) (v := .slice oa len cap) rfl (by kernel_rfl) (by kernel_rfl) (by kernel_rfl) (fun _ _ _ h => h) (Or.inl ⟨by rfl, fun W hSw => by go_simp⟩) hH ?_
      try simp only [Act.put, List.setIfInBounds_toArray, List.set_cons_zero, List.set_cons_succ]
      refine wpAnyH_take (i := 5) (oi := { dst := some 21, op := Op.move (Operand.tmp 1), type := 3, pos := "law.go:20", after := #[], guard := none }) (v := .int .i64 n) rfl (by kernel_rfl) (by kernel_rfl) (by kernel_rfl) (fun _ _ _ h => h) (Or.inl ⟨by rfl, fun W hSw => by go_simp⟩) hH ?_
      try simp only [Act.put, List.setIfInBounds_toArray, List.set_cons_zero, List.set_cons_succ]
      refine wpAnyH_ready (rs := [2]) (by kernel_rfl) (by simp) ?_
      refine AllReadyH.cons (o := { dst := some 18, op := Op.call { callee := Callee.value (Operand.func 8), args := #[Operand.tmp 16, Operand.tmp 17], argTypes := #[22, 3] }, type := 22, pos := "law.go:20", after := #[{ on := 0, ground := Ground.data }, { on := 1, ground := Ground.data }], guard := none }) rfl (fun K hK => ?_) AllReadyH.nil
      go_simp
      refine (q8 _ hH.1).mono ?_
      rintro e W1 ⟨v1, rfl, hC1, hB1, hS1⟩
      go_wp2_with fail
      refine hK.out _ _ ⟨hS1, (Below.refl _ _).drew.trans hB1⟩ (fun hHeld => ?_)
      refine wpAnyH_stronger (S' := ext w bs (.slice oa len cap) u7 W1) (fun W h => ⟨h.1, ((Below.refl _ _).drew.trans hB1).trans (h.2.mono hB1.size)⟩) _ _ _ _ ?_
      clear hK K hHeld hH
      have hH : ext w bs (.slice oa len cap) u7 W1 W1 := ⟨hS1, Below.refl _ _⟩
      try simp only [Act.put, List.setIfInBounds_toArray, List.set_cons_zero, List.set_cons_succ]
      refine wpAnyH_take (i := 3) (oi := { dst := some 19, op := Op.convert 22 9 (Operand.tmp 18), type := 9, pos := "law.go:20", after := #[{ on := 2, ground := Ground.data }], guard := none }) (v := .string S2) rfl (by kernel_rfl) (by kernel_rfl) (by kernel_rfl) (fun _ _ _ h => h) (Or.inl ⟨by rfl, fun W hSw => by have hk := hC1 W hSw.2; go_simp⟩) hH ?_
      try simp only [Act.put, List.setIfInBounds_toArray, List.set_cons_zero, List.set_cons_succ]
      refine wpAnyH_ready (rs := [6]) (by kernel_rfl) (by simp) ?_
      refine AllReadyH.cons (o := { dst := some 22, op := Op.call { callee := Callee.value (Operand.func 9), args := #[Operand.tmp 20, Operand.tmp 21], argTypes := #[22, 3] }, type := 22, pos := "law.go:20", after := #[{ on := 4, ground := Ground.data }, { on := 5, ground := Ground.data }, { on := 2, ground := Ground.chain }], guard := none }) rfl (fun K hK => ?_) AllReadyH.nil
      go_simp
      refine (q9 _ hH.1).mono ?_
      rintro e W2 ⟨v2, rfl, hC2, hB2, hS2⟩
      go_wp2_with fail
      refine hK.out _ _ ⟨hS2, hB2⟩ (fun hHeld => ?_)
      refine wpAnyH_stronger (S' := ext w bs (.slice oa len cap) u7 W2) (fun W h => ⟨h.1, hB2.trans (h.2.mono hB2.size)⟩) _ _ _ _ ?_
      clear hK K hHeld hH
      have hH : ext w bs (.slice oa len cap) u7 W2 W2 := ⟨hS2, Below.refl _ _⟩
      try simp only [Act.put, List.setIfInBounds_toArray, List.set_cons_zero, List.set_cons_succ]
      refine wpAnyH_take (i := 7) (oi := { dst := some 23, op := Op.convert 22 9 (Operand.tmp 22), type := 9, pos := "law.go:20", after := #[{ on := 6, ground := Ground.data }], guard := none }) (v := .string S2) rfl (by kernel_rfl) (by kernel_rfl) (by kernel_rfl) (fun _ _ _ h => h) (Or.inl ⟨by rfl, fun W hSw => by have hk := hC2 W hSw.2; go_simp⟩) hH ?_
      try simp only [Act.put, List.setIfInBounds_toArray, List.set_cons_zero, List.set_cons_succ]
      refine wpAnyH_take (i := 8) (oi := { dst := some 24, op := Op.binOp BinOp.eql 9 (Operand.tmp 19) (Operand.tmp 23) 9, type := 4, pos := "law.go:20", after := #[{ on := 3, ground := Ground.data }, { on := 7, ground := Ground.data }], guard := none }) (v := .bool true) rfl (by kernel_rfl) (by kernel_rfl) (by kernel_rfl) (fun _ _ _ h => h) (Or.inl ⟨by rfl, fun W hSw => by go_simp⟩) hH ?_
      try simp only [Act.put, List.setIfInBounds_toArray, List.set_cons_zero, List.set_cons_succ]
      refine wpAnyH_take (i := 9) (oi := { dst := some 25, op := Op.move (Operand.tmp 24), type := 4, pos := "law.go:20", after := #[{ on := 8, ground := Ground.data }, { on := 6, ground := Ground.chain }], guard := none }) (v := .bool true) rfl (by kernel_rfl) (by kernel_rfl) (by kernel_rfl) (fun _ _ _ h => h) (Or.inl ⟨by rfl, fun W hSw => by go_simp⟩) hH ?_
      try simp only [Act.put, List.setIfInBounds_toArray, List.set_cons_zero, List.set_cons_succ]
      refine wpAnyH_take (i := 10) (oi := { dst := some 26, op := Op.move (Operand.tmp 7), type := 22, pos := "law.go:20", after := #[{ on := 9, ground := Ground.guard }], guard := some (9, true) }) (v := u7) rfl (by kernel_rfl) (by kernel_rfl) (by kernel_rfl) (fun _ _ _ h => h) (Or.inl ⟨by rfl, fun W hSw => by go_simp⟩) hH ?_
      try simp only [Act.put, List.setIfInBounds_toArray, List.set_cons_zero, List.set_cons_succ]
      refine wpAnyH_take (i := 11) (oi := { dst := some 27, op := Op.move (Operand.tmp 2), type := 23, pos := "law.go:20", after := #[{ on := 9, ground := Ground.guard }], guard := some (9, true) }) (v := .int .u64 x) rfl (by kernel_rfl) (by kernel_rfl) (by kernel_rfl) (fun _ _ _ h => h) (Or.inl ⟨by rfl, fun W hSw => by go_simp⟩) hH ?_
      try simp only [Act.put, List.setIfInBounds_toArray, List.set_cons_zero, List.set_cons_succ]
      refine wpAnyH_take (i := 12) (oi := { dst := some 28, op := Op.convert 23 27 (Operand.tmp 27), type := 27, pos := "law.go:20", after := #[{ on := 11, ground := Ground.data }, { on := 9, ground := Ground.guard }], guard := some (9, true) }) (v := .int .u32 z) rfl (by kernel_rfl) (by kernel_rfl) (by kernel_rfl) (fun _ _ _ h => h) (Or.inl ⟨by rfl, fun W hSw => by go_simp⟩) hH ?_
      try simp only [Act.put, List.setIfInBounds_toArray, List.set_cons_zero, List.set_cons_succ]
      refine wpAnyH_take (i := 15) (oi := { dst := some 31, op := Op.move (Operand.tmp 0), type := 22, pos := "law.go:20", after := #[{ on := 9, ground := Ground.guard }], guard := some (9, true) }) (v := .slice oa len cap) rfl (by kernel_rfl) (by kernel_rfl) (by kernel_rfl) (fun _ _ _ h => h) (Or.inl ⟨by rfl, fun W hSw => by go_simp⟩) hH ?_
      try simp only [Act.put, List.setIfInBounds_toArray, List.set_cons_zero, List.set_cons_succ]
      refine wpAnyH_take (i := 16) (oi := { dst := some 32, op := Op.move (Operand.tmp 2), type := 23, pos := "law.go:20", after := #[{ on := 9, ground := Ground.guard }], guard := some (9, true) }) (v := .int .u64 x) rfl (by kernel_rfl) (by kernel_rfl) (by kernel_rfl) (fun _ _ _ h => h) (Or.inl ⟨by rfl, fun W hSw => by go_simp⟩) hH ?_
      try simp only [Act.put, List.setIfInBounds_toArray, List.set_cons_zero, List.set_cons_succ]
      refine wpAnyH_take (i := 17) (oi := { dst := some 33, op := Op.convert 23 27 (Operand.tmp 32), type := 27, pos := "law.go:20", after := #[{ on := 16, ground := Ground.data }, { on := 9, ground := Ground.guard }], guard := some (9, true) }) (v := .int .u32 z) rfl (by kernel_rfl) (by kernel_rfl) (by kernel_rfl) (fun _ _ _ h => h) (Or.inl ⟨by rfl, fun W hSw => by go_simp⟩) hH ?_
      try simp only [Act.put, List.setIfInBounds_toArray, List.set_cons_zero, List.set_cons_succ]
      refine wpAnyH_ready (rs := [13]) (by kernel_rfl) (by simp) ?_
      refine AllReadyH.cons (o := { dst := some 29, op := Op.call { callee := Callee.value (Operand.func 10), args := #[Operand.tmp 26, Operand.tmp 28], argTypes := #[22, 27] }, type := 22, pos := "law.go:20", after := #[{ on := 10, ground := Ground.data }, { on := 12, ground := Ground.data }, { on := 9, ground := Ground.chain }, { on := 9, ground := Ground.guard }], guard := some (9, true) }) rfl (fun K hK => ?_) AllReadyH.nil
      go_simp
      refine (q10 _ hH.1).mono ?_
      rintro e W3 ⟨v3, rfl, hC3, hB3, hS3⟩
      go_wp2_with fail
      refine hK.out _ _ ⟨hS3, hB3⟩ (fun hHeld => ?_)
      refine wpAnyH_stronger (S' := ext w bs (.slice oa len cap) u7 W3) (fun W h => ⟨h.1, hB3.trans (h.2.mono hB3.size)⟩) _ _ _ _ ?_
      clear hK K hHeld hH
      have hH : ext w bs (.slice oa len cap) u7 W3 W3 := ⟨hS3, Below.refl _ _⟩
      try simp only [Act.put, List.setIfInBounds_toArray, List.set_cons_zero, List.set_cons_succ]
      refine wpAnyH_take (i := 14) (oi := { dst := some 30, op := Op.convert 22 9 (Operand.tmp 29), type := 9, pos := "law.go:20", after := #[{ on := 13, ground := Ground.data }, { on := 9, ground := Ground.guard }], guard := some (9, true) }) (v := .string S4) rfl (by kernel_rfl) (by kernel_rfl) (by kernel_rfl) (fun _ _ _ h => h) (Or.inl ⟨by rfl, fun W hSw => by have hk := hC3 W hSw.2; go_simp⟩) hH ?_
      try simp only [Act.put, List.setIfInBounds_toArray, List.set_cons_zero, List.set_cons_succ]
      refine wpAnyH_ready (rs := [18]) (by kernel_rfl) (by simp) ?_
      refine AllReadyH.cons (o := { dst := some 34, op := Op.call { callee := Callee.value (Operand.func 11), args := #[Operand.tmp 31, Operand.tmp 33], argTypes := #[22, 27] }, type := 22, pos := "law.go:20", after := #[{ on := 15, ground := Ground.data }, { on := 17, ground := Ground.data }, { on := 13, ground := Ground.chain }, { on := 9, ground := Ground.guard }], guard := some (9, true) }) rfl (fun K hK => ?_) AllReadyH.nil
      go_simp
      refine (q11 _ hH.1).mono ?_
      rintro e W4 ⟨v4, rfl, hC4, hB4, hS4⟩
      go_wp2_with fail
      refine hK.out _ _ ⟨hS4, hB4⟩ (fun hHeld => ?_)
      refine wpAnyH_stronger (S' := ext w bs (.slice oa len cap) u7 W4) (fun W h => ⟨h.1, hB4.trans (h.2.mono hB4.size)⟩) _ _ _ _ ?_
      clear hK K hHeld hH
      have hH : ext w bs (.slice oa len cap) u7 W4 W4 := ⟨hS4, Below.refl _ _⟩
      try simp only [Act.put, List.setIfInBounds_toArray, List.set_cons_zero, List.set_cons_succ]
      refine wpAnyH_take (i := 19) (oi := { dst := some 35, op := Op.convert 22 9 (Operand.tmp 34), type := 9, pos := "law.go:20", after := #[{ on := 18, ground := Ground.data }, { on := 9, ground := Ground.guard }], guard := some (9, true) }) (v := .string S4) rfl (by kernel_rfl) (by kernel_rfl) (by kernel_rfl) (fun _ _ _ h => h) (Or.inl ⟨by rfl, fun W hSw => by have hk := hC4 W hSw.2; go_simp⟩) hH ?_
      try simp only [Act.put, List.setIfInBounds_toArray, List.set_cons_zero, List.set_cons_succ]
      refine wpAnyH_take (i := 20) (oi := { dst := some 36, op := Op.binOp BinOp.eql 9 (Operand.tmp 30) (Operand.tmp 35) 9, type := 4, pos := "law.go:20", after := #[{ on := 14, ground := Ground.data }, { on := 19, ground := Ground.data }, { on := 9, ground := Ground.guard }], guard := some (9, true) }) (v := .bool true) rfl (by kernel_rfl) (by kernel_rfl) (by kernel_rfl) (fun _ _ _ h => h) (Or.inl ⟨by rfl, fun W hSw => by go_simp⟩) hH ?_
      try simp only [Act.put, List.setIfInBounds_toArray, List.set_cons_zero, List.set_cons_succ]
      refine wpAnyH_take (i := 21) (oi := { dst := some 37, op := Op.pick (Operand.tmp 25) (Operand.tmp 36) (Operand.const (Value.bool false)), type := 4, pos := "law.go:20", after := #[{ on := 9, ground := Ground.data }, { on := 20, ground := Ground.data }], guard := none }) (v := .bool true) rfl (by kernel_rfl) (by kernel_rfl) (by kernel_rfl) (fun _ _ _ h => h) (Or.inl ⟨by rfl, fun W hSw => by go_simp⟩) hH ?_
      try simp only [Act.put, List.setIfInBounds_toArray, List.set_cons_zero, List.set_cons_succ]
      refine wpAnyH_take (i := 22) (oi := { dst := some 38, op := Op.move (Operand.tmp 37), type := 4, pos := "law.go:20", after := #[{ on := 21, ground := Ground.data }, { on := 18, ground := Ground.chain }], guard := none }) (v := .bool true) rfl (by kernel_rfl) (by kernel_rfl) (by kernel_rfl) (fun _ _ _ h => h) (Or.inl ⟨by rfl, fun W hSw => by go_simp⟩) hH ?_
      try simp only [Act.put, List.setIfInBounds_toArray, List.set_cons_zero, List.set_cons_succ]
      refine wpAnyH_take (i := 23) (oi := { dst := some 39, op := Op.move (Operand.tmp 7), type := 22, pos := "law.go:20", after := #[{ on := 22, ground := Ground.guard }], guard := some (22, true) }) (v := u7) rfl (by kernel_rfl) (by kernel_rfl) (by kernel_rfl) (fun _ _ _ h => h) (Or.inl ⟨by rfl, fun W hSw => by go_simp⟩) hH ?_
      try simp only [Act.put, List.setIfInBounds_toArray, List.set_cons_zero, List.set_cons_succ]
      refine wpAnyH_take (i := 24) (oi := { dst := some 40, op := Op.move (Operand.tmp 2), type := 23, pos := "law.go:20", after := #[{ on := 22, ground := Ground.guard }], guard := some (22, true) }) (v := .int .u64 x) rfl (by kernel_rfl) (by kernel_rfl) (by kernel_rfl) (fun _ _ _ h => h) (Or.inl ⟨by rfl, fun W hSw => by go_simp⟩) hH ?_
      try simp only [Act.put, List.setIfInBounds_toArray, List.set_cons_zero, List.set_cons_succ]
      refine wpAnyH_take (i := 27) (oi := { dst := some 43, op := Op.move (Operand.tmp 0), type := 22, pos := "law.go:20", after := #[{ on := 22, ground := Ground.guard }], guard := some (22, true) }) (v := .slice oa len cap) rfl (by kernel_rfl) (by kernel_rfl) (by kernel_rfl) (fun _ _ _ h => h) (Or.inl ⟨by rfl, fun W hSw => by go_simp⟩) hH ?_
      try simp only [Act.put, List.setIfInBounds_toArray, List.set_cons_zero, List.set_cons_succ]
      refine wpAnyH_take (i := 28) (oi := { dst := some 44, op := Op.move (Operand.tmp 2), type := 23, pos := "law.go:20", after := #[{ on := 22, ground := Ground.guard }], guard := some (22, true) }) (v := .int .u64 x) rfl (by kernel_rfl) (by kernel_rfl) (by kernel_rfl) (fun _ _ _ h => h) (Or.inl ⟨by rfl, fun W hSw => by go_simp⟩) hH ?_
      try simp only [Act.put, List.setIfInBounds_toArray, List.set_cons_zero, List.set_cons_succ]
      refine wpAnyH_ready (rs := [25]) (by kernel_rfl) (by simp) ?_
      refine AllReadyH.cons (o := { dst := some 41, op := Op.call { callee := Callee.value (Operand.func 12), args := #[Operand.tmp 39, Operand.tmp 40], argTypes := #[22, 23] }, type := 22, pos := "law.go:20", after := #[{ on := 23, ground := Ground.data }, { on := 24, ground := Ground.data }, { on := 22, ground := Ground.chain }, { on := 22, ground := Ground.guard }], guard := some (22, true) }) rfl (fun K hK => ?_) AllReadyH.nil
      go_simp
      refine (q12 _ hH.1).mono ?_
      rintro e W5 ⟨v5, rfl, hC5, hB5, hS5⟩
      go_wp2_with fail
      refine hK.out _ _ ⟨hS5, hB5⟩ (fun hHeld => ?_)
      refine wpAnyH_stronger (S' := ext w bs (.slice oa len cap) u7 W5) (fun W h => ⟨h.1, hB5.trans (h.2.mono hB5.size)⟩) _ _ _ _ ?_
      clear hK K hHeld hH
      have hH : ext w bs (.slice oa len cap) u7 W5 W5 := ⟨hS5, Below.refl _ _⟩
      try simp only [Act.put, List.setIfInBounds_toArray, List.set_cons_zero, List.set_cons_succ]
      refine wpAnyH_take (i := 26) (oi := { dst := some 42, op := Op.convert 22 9 (Operand.tmp 41), type := 9, pos := "law.go:20", after := #[{ on := 25, ground := Ground.data }, { on := 22, ground := Ground.guard }], guard := some (22, true) }) (v := .string S8) rfl (by kernel_rfl) (by kernel_rfl) (by kernel_rfl) (fun _ _ _ h => h) (Or.inl ⟨by rfl, fun W hSw => by have hk := hC5 W hSw.2; go_simp⟩) hH ?_
      try simp only [Act.put, List.setIfInBounds_toArray, List.set_cons_zero, List.set_cons_succ]
      refine wpAnyH_ready (rs := [29]) (by kernel_rfl) (by simp) ?_
      refine AllReadyH.cons (o := { dst := some 45, op := Op.call { callee := Callee.value (Operand.func 13), args := #[Operand.tmp 43, Operand.tmp 44], argTypes := #[22, 23] }, type := 22, pos := "law.go:20", after := #[{ on := 27, ground := Ground.data }, { on := 28, ground := Ground.data }, { on := 25, ground := Ground.chain }, { on := 22, ground := Ground.guard }], guard := some (22, true) }) rfl (fun K hK => ?_) AllReadyH.nil
      go_simp
      refine (q13 _ hH.1).mono ?_
      rintro e W6 ⟨v6, rfl, hC6, hB6, hS6⟩
      go_wp2_with fail
      refine hK.out _ _ ⟨hS6, hB6⟩ (fun hHeld => ?_)
      refine wpAnyH_stronger (S' := ext w bs (.slice oa len cap) u7 W6) (fun W h => ⟨h.1, hB6.trans (h.2.mono hB6.size)⟩) _ _ _ _ ?_
      clear hK K hHeld hH
      have hH : ext w bs (.slice oa len cap) u7 W6 W6 := ⟨hS6, Below.refl _ _⟩
      try simp only [Act.put, List.setIfInBounds_toArray, List.set_cons_zero, List.set_cons_succ]
      refine wpAnyH_take (i := 30) (oi := { dst := some 46, op := Op.convert 22 9 (Operand.tmp 45), type := 9, pos := "law.go:20", after := #[{ on := 29, ground := Ground.data }, { on := 22, ground := Ground.guard }], guard := some (22, true) }) (v := .string S8) rfl (by kernel_rfl) (by kernel_rfl) (by kernel_rfl) (fun _ _ _ h => h) (Or.inl ⟨by rfl, fun W hSw => by have hk := hC6 W hSw.2; go_simp⟩) hH ?_
      try simp only [Act.put, List.setIfInBounds_toArray, List.set_cons_zero, List.set_cons_succ]
      refine wpAnyH_take (i := 31) (oi := { dst := some 47, op := Op.binOp BinOp.eql 9 (Operand.tmp 42) (Operand.tmp 46) 9, type := 4, pos := "law.go:20", after := #[{ on := 26, ground := Ground.data }, { on := 30, ground := Ground.data }, { on := 22, ground := Ground.guard }], guard := some (22, true) }) (v := .bool true) rfl (by kernel_rfl) (by kernel_rfl) (by kernel_rfl) (fun _ _ _ h => h) (Or.inl ⟨by rfl, fun W hSw => by go_simp⟩) hH ?_
      try simp only [Act.put, List.setIfInBounds_toArray, List.set_cons_zero, List.set_cons_succ]
      refine wpAnyH_take (i := 32) (oi := { dst := some 48, op := Op.pick (Operand.tmp 38) (Operand.tmp 47) (Operand.const (Value.bool false)), type := 4, pos := "law.go:20", after := #[{ on := 22, ground := Ground.data }, { on := 31, ground := Ground.data }], guard := none }) (v := .bool true) rfl (by kernel_rfl) (by kernel_rfl) (by kernel_rfl) (fun _ _ _ h => h) (Or.inl ⟨by rfl, fun W hSw => by go_simp⟩) hH ?_
      try simp only [Act.put, List.setIfInBounds_toArray, List.set_cons_zero, List.set_cons_succ]
      refine wpAnyH_take (i := 33) (oi := { dst := some 8, op := Op.assign (Operand.tmp 48), type := 4, pos := "law.go:20", after := #[{ on := 32, ground := Ground.data }, { on := 29, ground := Ground.chain }, { on := 0, ground := Ground.phase }, { on := 1, ground := Ground.phase }, { on := 2, ground := Ground.phase }, { on := 3, ground := Ground.phase }, { on := 4, ground := Ground.phase }, { on := 5, ground := Ground.phase }, { on := 6, ground := Ground.phase }, { on := 7, ground := Ground.phase }, { on := 8, ground := Ground.phase }, { on := 9, ground := Ground.phase }, { on := 10, ground := Ground.phase }, { on := 11, ground := Ground.phase }, { on := 12, ground := Ground.phase }, { on := 13, ground := Ground.phase }, { on := 14, ground := Ground.phase }, { on := 15, ground := Ground.phase }, { on := 16, ground := Ground.phase }, { on := 17, ground := Ground.phase }, { on := 18, ground := Ground.phase }, { on := 19, ground := Ground.phase }, { on := 20, ground := Ground.phase }, { on := 21, ground := Ground.phase }, { on := 22, ground := Ground.phase }, { on := 23, ground := Ground.phase }, { on := 24, ground := Ground.phase }, { on := 25, ground := Ground.phase }, { on := 26, ground := Ground.phase }, { on := 27, ground := Ground.phase }, { on := 28, ground := Ground.phase }, { on := 29, ground := Ground.phase }, { on := 30, ground := Ground.phase }, { on := 31, ground := Ground.phase }, { on := 32, ground := Ground.phase }], guard := none }) (v := .bool true) rfl (by kernel_rfl) (by kernel_rfl) (by kernel_rfl) (fun _ _ _ h => h) (Or.inl ⟨by rfl, fun W hSw => by go_simp⟩) hH ?_
      try simp only [Act.put, List.setIfInBounds_toArray, List.set_cons_zero, List.set_cons_succ]
      refine wpAnyH_done (by kernel_rfl) ?_ _
      refine NoPanic.normal ?_
      go_wp2_with fail
      go_meet
      case rel => exact ⟨rfl, hH.1⟩
    case rest =>
      clear q8 q9 q10 q11 q12 q13
      obtain ⟨rfl, hSt⟩ := hcut
      have kA := HA.out _ _ hSt
      have kO := HO.out _ _ hSt
      go_wp2_with (go_at_call 7; refine (lives_any _).mono ?_; rintro e w9 ⟨rfl, hB9⟩)
      go_ret
      exact ⟨rfl, hSt.2.2.trans (hB9.mono hSt.2.2.size)⟩


end numPuts
end Go.Proofs.Ytahfnfpcadjplaa
