/-
  The walks of the document's disk: Cached; two rows of numbers compared.
-/
import Derived.Test.YtidgjhgeminelaaWalksO
import Derived.Maps.AppendAt
import Derived.Maps.OwnRows
namespace Go.Proofs.Ytidgjhgeminelaa
open Go.RowKit Go.Maps Go.Shelf
open Math

theorem Try.size63 : (Try.prog.info? 63).map (·.size) = some 33 := by kernel_rfl
theorem Try.info3 : (Try.prog.info? 3).map (fun i => (i.zero, i.size, i.bytes)) = some (some (.int .i64 0), 1, 8) := by kernel_rfl
theorem rc_one (x : Rc) : ∀ v ∈ x.cells, v.oneCell' = true := by
  intro v hv
  simp only [Rc.cells, List.mem_cons, List.mem_append, List.mem_map, List.not_mem_nil, or_false] at hv
  rcases hv with ⟨y, _, rfl⟩ | ⟨y, _, rfl⟩ | rfl <;> rfl
theorem nums_nil (W : World) (base : Nat) : Nums W base (.slice none 0 0) [] := World.ownsRow_nil W base 3 1
theorem Nums.block {W : World} {base : Nat} {v : Value} {l : List Nat} (h : Nums W base v l) : ∀ k, v.ownBlock = some k → base ≤ k := fun k hk => (World.ownsRow.lt h k hk).1
theorem Kept.of_own {w w' : World} {v : Value} {base : Nat} (h : w.grownBy w' v.ownBlock) (hv : ∀ k, v.ownBlock = some k → base ≤ k) {w0 : World} (h0 : Kept [] w0 w) (hb : base = w0.heap.size) : Kept [] w0 w' :=
  ⟨h.os.trans h0.os, h.tape.trans h0.tape, h.output.trans h0.output, Nat.le_trans h0.size h.size, fun k hk _ => (h.block k (Nat.lt_of_lt_of_le hk h0.size) (fun e => by have := hv k e.symm; omega)).trans (h0.block k hk (by simp))⟩

set_option maxRecDepth 100000 in
set_option maxHeartbeats 4000000 in
/-- Cached -/
theorem refCached_any (r g cap : Nat) (s : Dk) (w : World) (h : RefAt w r g cap s) :
    Calls Try.prog 33 #[.pointer (some ⟨r, 0, none⟩)] w fun e w' => ∃ v, e = .returned v ∧ Nums w' w.heap.size v (keys s) ∧ Kept [] w w' := by
  have c0 := h.1.four.1
  have htop := h.2.top
  have hlt := h.1.lt
  obtain ⟨N, hN⟩ : ∃ N, s.size = N := ⟨_, rfl⟩
  have HN : Hid (s.size = N) := hN
  rw [hN] at c0 htop
  have hks : Hid (keys s = below s.fresh N) := by show _ = _; rw [keys, hN]
  clear hN
  obtain ⟨i0, hi, hz0, hz1, hz2⟩ := info_parts Try.info3
  go_enter Try.func33, Try.ntmps33
  go_wp2
  go_loopw [11, 3] (fun i v wr => ∃ k : Nat, k ≤ N ∧ i = .int .i64 k ∧ Nums wr w.heap.size v (below s.fresh k) ∧ Kept [] w wr) (fun i _ _ => N - (RowKit.intOf i).toNat)
  case atStart => exact ⟨0, by omega, rfl, nums_nil _ _, Kept.refl _ _⟩
  case round =>
    obtain ⟨k, hk, rfl, hnum, hK⟩ := hrel
    clear c0
    by_cases hlt2 : k < N
    · have kk : (k : Int) < (N : Int) := by omega
      have hkz : k < s.size := by rw [HN.out]; exact hlt2
      have hm1 : Hid (N - (k + 1) < N - k) := by show _ < _; omega
      have hR := h.kept hK (by simp) (by simp)
      have hr : Hid (wr.rangeAt g (k * 33) (rc s k).cells) := hR.1.wholeAt k hkz
      have hok := rc_ok h.2 k
      have hsz : Hid ((rc s k).cells.length = 33) := Rc.cells_length hok
      have hz : Blk (wr.alloc (.cells #[.int .u8 0, .int .u8 0, .int .u8 0, .int .u8 0, .int .u8 0, .int .u8 0, .int .u8 0, .int .u8 0, .int .u8 0, .int .u8 0, .int .u8 0, .int .u8 0, .int .u8 0, .int .u8 0, .int .u8 0, .int .u8 0, .int .u8 0, .int .u8 0, .int .u8 0, .int .u8 0, .int .u8 0, .int .u8 0, .int .u8 0, .int .u8 0, .int .u8 0, .int .u8 0, .int .u8 0, .int .u8 0, .int .u8 0, .int .u8 0, .int .u8 0, .int .u8 0, .bool false] 63)) wr.heap.size 63 #[.int .u8 0, .int .u8 0, .int .u8 0, .int .u8 0, .int .u8 0, .int .u8 0, .int .u8 0, .int .u8 0, .int .u8 0, .int .u8 0, .int .u8 0, .int .u8 0, .int .u8 0, .int .u8 0, .int .u8 0, .int .u8 0, .int .u8 0, .int .u8 0, .int .u8 0, .int .u8 0, .int .u8 0, .int .u8 0, .int .u8 0, .int .u8 0, .int .u8 0, .int .u8 0, .int .u8 0, .int .u8 0, .int .u8 0, .int .u8 0, .int .u8 0, .int .u8 0, .bool false] := blk_new wr 63 _
      have hbs := below_succ s.fresh k
      have hbl := below_length s.fresh k
      have hfl := Rc.flag_at hok
      cases hf : s.fresh k with
      | none =>
        rw [hf] at hbs
        simp only [Option.isSome_none, Bool.false_eq_true, if_false] at hbs
        replace hbs : Hid _ := hbs
        have hfc : (rc s k).c = false := by simp [rc, hf]
        rw [hfc] at hfl
        generalize rc s k = x at *
        clear hfc hf
        go_wp2_with (first
          | refine wpList_load_mid rfl 63 _ rfl g (k * 33) rfl x.cells _ hr.out Try.underlying63 rfl (by rw [hsz.out]; exact Try.size63) ?_
          | (refine wpList_store_blk rfl 63 _ _ rfl wr.heap.size 63 _ x.cells rfl rfl hz hsz.out (by rw [hsz.out]; exact Try.size63) (rc_one x) ?_; intro w7 hB7 hk7 hz7; have g32 := hB7.cell 32; rw [List.getElem?_toArray, hfl] at g32))
        go_roundw
        case rel =>
          have hk8 : Kept [] wr w7 := (kept_alloc [] _ _).young hk7 (Nat.le_refl _)
          exact ⟨k + 1, by omega, rfl, by rw [hbs.out]; exact hnum.kept hk8 (by simp), hK.trans hk8⟩
        case measure => simpa [RowKit.intOf] using hm1.out
      | some y =>
        rw [hf] at hbs
        simp only [Option.isSome_some, if_true] at hbs
        replace hbs : Hid _ := hbs
        have hfc : (rc s k).c = true := by simp [rc, hf]
        rw [hfc] at hfl
        generalize rc s k = x at *
        clear hfc hf
        have H63 : Hid ((below s.fresh k).length + 1 ≤ maxLen) := by show _ ≤ _; unfold maxLen; omega
        have HBY : Hid (((below s.fresh k).length + 1) * 8 ≤ 140737488355328) := by show _ ≤ _; omega
        have hKs := hK.size
        go_wp2_with (first
          | refine wpList_load_mid rfl 63 _ rfl g (k * 33) rfl x.cells _ hr.out Try.underlying63 rfl (by rw [hsz.out]; exact Try.size63) ?_
          | (refine wpList_store_blk rfl 63 _ _ rfl wr.heap.size 63 _ x.cells rfl rfl hz hsz.out (by rw [hsz.out]; exact Try.size63) (rc_one x) ?_; intro w7 hB7 hk7 hz7; have g32 := hB7.cell 32; rw [List.getElem?_toArray, hfl] at g32; have hk8 : Kept [] wr w7 := (kept_alloc [] _ _).young hk7 (Nat.le_refl _); have hs8 := hk8.size; have hn7 : Nums (w7.alloc (.cells #[.int .i64 (k : Int)] 3)) w.heap.size u3 (below s.fresh k) := (hnum.kept hk8 (by simp)).kept (kept_alloc [] _ _) (by simp))
          | (at_builtin; refine wpList_append_own _ rfl _ _ 47 rfl w.heap.size 3 i0 (.int .i64 0) 1 8 Try.underlying47 hi hz0 hz1 hz2 rfl (by decide) u3 _ _ rfl hn7 ⟨w7.heap.size, 0, none⟩ 1 1 [.int .i64 (k : Int)] rfl rfl (cell_one_new _ _ _) (ints_oneCell .i64 [(k : Int)]) H63.out HBY.out (by rw [World.size_alloc]; omega) ?_; intro v' w9 hown9 hg9 hnil9))
        go_roundw
        case rel =>
          have hk9 : Kept [] w w9 := Kept.of_own hg9 hn7.block (((hK.trans hk8)).trans (kept_alloc [] _ _)) rfl
          refine ⟨k + 1, by omega, rfl, ?_, hk9⟩
          rw [hbs.out]
          unfold Nums
          rw [List.length_append, List.map_append]
          exact hown9
        case measure => simpa [RowKit.intOf] using hm1.out
    · obtain rfl : k = N := by omega
      go_wp2
      go_ret
      exact ⟨_, rfl, by rw [hks.out]; exact hnum, hK⟩

theorem kept_drewN (L : List Nat) (w : World) (n : Nat) : Kept L w (w.drewN n) := ⟨rfl, rfl, rfl, Nat.le_refl _, fun _ _ _ => rfl⟩
/-- A row of numbers, told place by place. -/
theorem Nums.told {W : World} {base : Nat} {v : Value} {l : List Nat} (h : Nums W base v l) : ∃ a cap, v = .slice a l.length cap ∧ (l = [] ∨ ∃ g, a = some ⟨g, 0, none⟩ ∧ g < W.heap.size ∧ ∀ j k : Nat, l[j]? = some k → W.cell? ⟨g, j, none⟩ = some (.int .i64 (k : Int))) := by
  rcases h.open with ⟨rfl, rfl⟩ | ⟨g, cap, rfl, _, hg, _, hc⟩
  · exact ⟨_, _, rfl, .inl rfl⟩
  · exact ⟨_, _, rfl, .inr ⟨g, rfl, hg, hc⟩⟩
set_option maxHeartbeats 1000000 in
/-- Ints, of two rows that are alike -/
theorem ints_same (b1 b2 : Nat) (v1 v2 : Value) (l : List Nat) (hl : l.length ≤ 1024) (w : World) (h1 : Nums w b1 v1 l) (h2 : Nums w b2 v2 l) :
    Calls Try.prog 32 #[v1, v2] w fun e w' => e = .returned (.bool true) ∧ Kept [] w w' := by
  obtain ⟨a1, c1, rfl, d1⟩ := h1.told
  obtain ⟨a2, c2, rfl, d2⟩ := h2.told
  clear h1 h2
  obtain ⟨n, hn⟩ : ∃ n, l.length = n := ⟨_, rfl⟩
  have HN : Hid (l.length = n) := hn
  rw [hn] at hl ⊢
  clear hn
  go_enter Try.func32, Try.ntmps32
  go_wp2
  go_loopw [13] (fun i wr => ∃ k : Nat, k ≤ n ∧ i = .int .i64 k ∧ Kept [] w wr) (fun i _ => n - (RowKit.intOf i).toNat)
  case atStart => exact ⟨0, by omega, rfl, Kept.refl _ _⟩
  case round =>
    obtain ⟨k, hk, rfl, hK⟩ := hrel
    by_cases hlt : k < n
    · have kk : (k : Int) < (n : Int) := by omega
      have hm1 : Hid (n - (k + 1) < n - k) := by show _ < _; omega
      obtain ⟨x, hx⟩ : ∃ x, l[k]? = some x := ⟨_, List.getElem?_eq_getElem (by rw [HN.out]; exact hlt)⟩
      rcases d1 with rfl | ⟨g1, rfl, hg1, e1⟩
      · simp at hx
      rcases d2 with rfl | ⟨g2, rfl, hg2, e2⟩
      · simp at hx
      have f1 : wr.cell? ⟨g1, k, none⟩ = some (.int .i64 (x : Int)) := (World.cell?_of_block (hK.block g1 hg1 (by simp))).trans (e1 k x hx)
      have f2 : wr.cell? ⟨g2, k, none⟩ = some (.int .i64 (x : Int)) := (World.cell?_of_block (hK.block g2 hg2 (by simp))).trans (e2 k x hx)
      clear e1 e2 hx
      go_wp2
      go_quiet (fail)
      go_wp2
      go_roundw
      case rel => exact ⟨k + 1, by omega, rfl, hK.trans (kept_drewN [] wr nq)⟩
      case measure => simpa [RowKit.intOf] using hm1.out
    · obtain rfl : k = n := by omega
      go_wp2
      go_ret
      exact ⟨rfl, hK⟩
end Go.Proofs.Ytidgjhgeminelaa
