/-
  The walk of CopyingAlike.
-/
import Derived.Test.YtcmfejgimnjbgaaGreatCpI
namespace Go.Proofs.YtcmfejgimnjbgaaGreat.Copying
open Go.RowKit
open Math
open Pack (Mv Ms mv0 good)

theorem point_new (w : World) (e k : Int) (m : Nat) : Blk (w.alloc (.cells #[.int .i64 e, .int .i64 k, .int .u64 (m : Int)] 62)) w.heap.size 62 #[.int .i64 e, .int .i64 k, .int .u64 (m : Int)] := blk_new w 62 _
set_option maxRecDepth 100000 in
set_option maxHeartbeats 4000000 in
/-- CopyingAlike, of what is let go -/
theorem alike_early (ab : Option Addr) (lb cb : Nat) (ac : Option Addr) (lc cc : Nat) (e k : Int) (m : Nat) (w : World) (hb : lb ≤ 9223372036854775807) (hc : lc ≤ 9223372036854775807) (h : ¬ (lb = 64 ∧ lc = 64 ∧ 0 ≤ e ∧ e ≤ 3 ∧ 0 ≤ k ∧ k ≤ 10)) :
    Calls Tryz.prog 4 #[.slice ab lb cb, .slice ac lc cc, .agg #[.int .i64 e, .int .i64 k, .int .u64 (m : Int)]] w fun x w' => x = .returned (.bool true) ∧ Kept [] w w' := by
  have hk0 := kept_alloc [] w (.cells #[.int .i64 e, .int .i64 k, .int .u64 (m : Int)] 62)
  have hP := point_new w e k m
  have hkd := kept_drew [] (w.alloc (.cells #[.int .i64 e, .int .i64 k, .int .u64 (m : Int)] 62))
  have q := lives_any
  have c0 := fun n => ((hP.kept (kept_drewN [] _ n) (by simp)).cell 0)
  have c1 := fun n => ((hP.kept (kept_drewN [] _ n) (by simp)).cell 1)
  have c2 := fun n => ((hP.kept (kept_drewN [] _ n) (by simp)).cell 2)
  have hkn := fun n => hk0.trans (kept_drewN [] (w.alloc (.cells #[.int .i64 e, .int .i64 k, .int .u64 (m : Int)] 62)) n)
  simp at c0 c1 c2
  clear hP hkd hk0
  by_cases g1 : lb = 64
  · subst g1
    by_cases g2 : lc = 64
    · subst g2
      by_cases g3 : e < 0
      · clear h
        go_enter Tryz.func4, Tryz.ntmps4
        go_wp2_with fail
        go_quiet (fail)
        go_wp2_with (first
          | (go_at_call 6; refine (q _).mono ?_; rintro x w3 ⟨rfl, hk3⟩))
        go_ret
        exact ⟨rfl, (hkn _).trans hk3⟩
      · by_cases g4 : 3 < e
        · clear h
          go_enter Tryz.func4, Tryz.ntmps4
          go_wp2_with fail
          go_quiet (fail)
          go_wp2_with (first
            | (go_at_call 6; refine (q _).mono ?_; rintro x w3 ⟨rfl, hk3⟩))
          go_ret
          exact ⟨rfl, (hkn _).trans hk3⟩
        · by_cases g5 : k < 0
          · clear h
            go_enter Tryz.func4, Tryz.ntmps4
            go_wp2_with fail
            go_quiet (fail)
            go_wp2_with (first
              | (go_at_call 6; refine (q _).mono ?_; rintro x w3 ⟨rfl, hk3⟩))
            go_ret
            exact ⟨rfl, (hkn _).trans hk3⟩
          · have g6 : 10 < k := by omega
            clear h
            go_enter Tryz.func4, Tryz.ntmps4
            go_wp2_with fail
            go_quiet (fail)
            go_wp2_with (first
              | (go_at_call 6; refine (q _).mono ?_; rintro x w3 ⟨rfl, hk3⟩))
            go_ret
            exact ⟨rfl, (hkn _).trans hk3⟩
    · have n2 : ((lc : Int) != 64) = true := by simp; omega
      clear h g2
      go_enter Tryz.func4, Tryz.ntmps4
      go_wp2_with fail
      go_quiet (fail)
      go_wp2_with (first
        | (go_at_call 6; refine (q _).mono ?_; rintro x w3 ⟨rfl, hk3⟩))
      go_ret
      exact ⟨rfl, (hkn _).trans hk3⟩
  · have n1 : ((lb : Int) != 64) = true := by simp; omega
    clear h g1
    go_enter Tryz.func4, Tryz.ntmps4
    go_wp2_with fail
    go_quiet (fail)
    go_wp2_with (first
      | (go_at_call 6; refine (q _).mono ?_; rintro x w3 ⟨rfl, hk3⟩))
    go_ret
    exact ⟨rfl, (hkn _).trans hk3⟩

theorem txt_ne {a b : List Nat} (ha : ∀ x ∈ a, x < 256) (hb : ∀ x ∈ b, x < 256) (h : ¬ a = b) : ¬ (txt a).toList = (txt b).toList := fun e => by
  have h1 := Pack.txt_eq ha hb
  rw [decide_eq_false h] at h1
  have e' : (Pack.txt a).toList = (Pack.txt b).toList := e
  rw [e'] at h1
  simp at h1
theorem len_ext {x : Mv} {lo hi : Nat} {W : World} {e : Int} {bs : List Nat} (h : x.At lo hi W) (hx : x.ms = ⟨6, 0, e, 0, false, bs⟩) (hl : bs.length = 64) : x.len ≤ 9223372036854775807 := by
  have h1 : x.ms.d = bs := by rw [hx]
  have h2 : x.d = bs := h1
  rw [h.len, h2, hl]
  decide
set_option maxRecDepth 100000 in
set_option maxHeartbeats 16000000 in
/-- CopyingAlike, of a play -/
theorem alike_play (ab : Option Addr) (cb : Nat) (bs : List Nat) (ac : Option Addr) (cc : Nat) (cs : List Nat) (e k m : Nat) (w : World) (hb : ByteRow 0 w.heap.size w (.slice ab 64 cb) bs) (hc : ByteRow 0 w.heap.size w (.slice ac 64 cc) cs) (he : e ≤ 3) (hk : k ≤ 10) (hm : m < 18446744073709551616) :
    Calls Tryz.prog 4 #[.slice ab 64 cb, .slice ac 64 cc, .agg #[.int .i64 (e : Int), .int .i64 (k : Int), .int .u64 (m : Int)]] w fun x w' => x = .returned (.bool true) ∧ Kept [] w w' := by
  have hk0 := kept_alloc [] w (.cells #[.int .i64 (e : Int), .int .i64 (k : Int), .int .u64 (m : Int)] 62)
  have hP := point_new w e k m
  have q := lives_any
  have k0 := fun n => ((hP.kept (kept_drewN [] _ n) (by simp)).cell 0)
  have k1 := fun n => ((hP.kept (kept_drewN [] _ n) (by simp)).cell 1)
  have k2 := fun n => ((hP.kept (kept_drewN [] _ n) (by simp)).cell 2)
  have hkn := fun n => hk0.trans (kept_drewN [] (w.alloc (.cells #[.int .i64 (e : Int), .int .i64 (k : Int), .int .u64 (m : Int)] 62)) n)
  simp at k0 k1 k2
  clear hP hk0
  have lb : bs.length = 64 := by obtain ⟨_, _, _, g, _⟩ := hb; injection g with _ g2 _; omega
  have lc : cs.length = 64 := by obtain ⟨_, _, _, g, _⟩ := hc; injection g with _ g2 _; omega
  obtain ⟨g1, g2, g3, g4⟩ := giver_is e he bs lb
  have g5 := getter_is e he cs
  obtain ⟨p1, p2, p3, p4, p5, p6, p7⟩ := alike_plain e k he hk bs cs lb lc hb.1 hc.1 m
  have o1 : (giver e bs).ops ≤ 1024 := by have := putS_ops (made 24) (by decide) (4 * (e : Int)) 4 bs; exact Nat.le_trans this (by show 0 + 1024 ≤ _; decide)
  have o2 : (giver e cs).ops ≤ 1024 := by have := putS_ops (made 24) (by decide) (4 * (e : Int)) 4 cs; exact Nat.le_trans this (by show 0 + 1024 ≤ _; decide)
  have o3 := map_ops (giver e cs) 15
  have o4 : (getter e cs).ops ≤ 2000 := by have := flush_ops (mapS (giver e cs) 15); have h5 : (flushS (mapS (giver e cs) 15)).ops ≤ 2000 := by omega
                                           exact h5
  have qa := fun W => new_ex 24 (by omega) (by omega) W
  have qb := fun W => new_ex 24 (by omega) (by omega) W
  have q1 := fun d b1 b2 W (h : DiskAt W d b1 b2 (made 24)) (hK : Kept [] w W) (hl : w.heap.size ≤ d ∧ w.heap.size ≤ b1 ∧ w.heap.size ≤ b2) => dSetExtent_any d b1 b2 (made 24) (e : Int) _ bs 0 w.heap.size W h (by decide) (hb.kept (Nat.le_refl _) hK (by simp)) hK.size (by simp; omega)
  have q2 := fun d b1 b2 W (h : DiskAt W d b1 b2 (made 24)) (hK : Kept [] w W) (hl : w.heap.size ≤ d ∧ w.heap.size ≤ b1 ∧ w.heap.size ≤ b2) => dSetExtent_any d b1 b2 (made 24) (e : Int) _ cs 0 w.heap.size W h (by decide) (hc.kept (Nat.le_refl _) hK (by simp)) hK.size (by simp; omega)
  have q3 := fun d b1 b2 W (h : DiskAt W d b1 b2 (giver e cs)) => mapPut_any d b1 b2 (giver e cs) 15 (by decide) (by omega) W h
  have q4 := fun d b1 b2 W (h : DiskAt W d b1 b2 (giver e bs)) => give_any d b1 b2 (giver e bs) (e : Int) W h
  have q5 := fun d b1 b2 W (h : DiskAt W d b1 b2 (mapS (giver e cs) 15)) => flush_any d b1 b2 (mapS (giver e cs) 15) (by omega) W h
  have q6 := fun d b1 b2 W (h : DiskAt W d b1 b2 (giver e bs)) => flush_any d b1 b2 (giver e bs) (by omega) W h
  have q7 := fun d b1 b2 W (h : DiskAt W d b1 b2 (getter e cs)) => fuse_any d b1 b2 (getter e cs) (k : Int) (by omega) (by omega) W h
  have q8 := fun d b1 b2 (x : Mv) (hx : x.ms = ⟨6, 0, e, 0, false, bs⟩) lo hi W (h : DiskAt W d b1 b2 (fused (getter e cs) k)) (hat : x.At lo hi W) (hhi : hi ≤ W.heap.size) (hlt : d < lo ∧ b1 < lo ∧ b2 < lo) => put_any d b1 b2 (fused (getter e cs) k) x lo hi W h (by show (getter e cs).ops ≤ _; omega) hat hhi (len_ext hat hx lb) (by simp; omega)
  have q9 := fun d b1 b2 W (h : DiskAt W d b1 b2 (extS (fused (getter e cs) k) ⟨6, 0, e, 0, false, bs⟩)) => crash_any d b1 b2 (extS (fused (getter e cs) k) ⟨6, 0, e, 0, false, bs⟩) m hm W h
  have q10 := fun d b1 b2 W (h : DiskAt W d b1 b2 (crashed (extS (fused (getter e cs) k) ⟨6, 0, e, 0, false, bs⟩) m)) => dExtent_any d b1 b2 (crashed (extS (fused (getter e cs) k) ⟨6, 0, e, 0, false, bs⟩) m) (e : Int) W h
  have q11 := fun d b1 b2 W (h : DiskAt W d b1 b2 (crashed (extS (fused (getter e cs) k) ⟨6, 0, e, 0, false, bs⟩) m)) => dget_any d b1 b2 (crashed (extS (fused (getter e cs) k) ⟨6, 0, e, 0, false, bs⟩) m) W h
  have q12 := fun W => without_any e he W
  have hM : Hid (giveM (giver e bs) e = ⟨6, 0, e, 0, false, bs⟩) := g2
  rw [g1] at q1
  rw [g5] at q2
  rw [g3] at q4
  rw [p1] at q5
  rw [g4] at q6
  rw [p4] at q10
  have hx1 : ∀ x : Mv, x.ms = ⟨6, 0, e, 0, false, bs⟩ → extE (fused (getter e cs) k) x.ms = extE (fused (getter e cs) k) ⟨6, 0, e, 0, false, bs⟩ ∧ extV (fused (getter e cs) k) x.ms = extV (fused (getter e cs) k) ⟨6, 0, e, 0, false, bs⟩ ∧ extS (fused (getter e cs) k) x.ms = extS (fused (getter e cs) k) ⟨6, 0, e, 0, false, bs⟩ := fun x hx => by rw [hx]; exact ⟨rfl, rfl, rfl⟩
  have qf : flushS (mapS (giver e cs) 15) = getter e cs := rfl
  rw [qf] at q5
  generalize extE (fused (getter e cs) k) ⟨6, 0, e, 0, false, bs⟩ = E at *
  generalize extV (fused (getter e cs) k) ⟨6, 0, e, 0, false, bs⟩ = u at *
  generalize extS (fused (getter e cs) k) ⟨6, 0, e, 0, false, bs⟩ = s5 at *
  generalize gotL (crashed s5 m) (Span.wOff e) (Span.wLen e) = gl at *
  generalize latestY (crashed s5 m) 6 2 = Y at *
  generalize Bits.Math.without 15 (e : Int) = Z at *
  generalize areaE (made 24) (Span.wOff e) (Span.wLen e) bs = E1 at *
  generalize areaE (made 24) (Span.wOff e) (Span.wLen e) cs = E2 at *
  generalize mapE (giver e cs) 15 = E3 at *
  generalize giveM (giver e bs) e = M at *
  obtain ⟨uk, ui, uo, um, us, usa, ulen, ucap, ud⟩ := u
  simp only at p7
  have hbA : Hid (∀ W, Kept [] w W → ByteRow 0 w.heap.size W (.slice ab 64 cb) bs) := fun W hW => hb.kept (Nat.le_refl _) hW (by simp)
  have hbb := hb.1
  have ea : ¬ ((e : Int) < 0) := by omega
  have eb : ¬ (3 < (e : Int)) := by omega
  have ec : ¬ ((k : Int) < 0) := by omega
  have ed : ¬ (10 < (k : Int)) := by omega
  replace hx1 : Hid _ := hx1
  clear g1 g2 g3 g4 g5 p1 p4 o1 o2 o3 o4 qf hb hc lc
  replace lb : Hid _ := lb
  by_cases h7 : 7 ≤ k
  · obtain rfl : E = 0 := p3 h7
    obtain ⟨a1, a2⟩ := p5 h7
    obtain rfl : uo = (e : Int) := p7 h7
    subst a1
    subst a2
    clear p2 p3 p5 p6 p7 h7
    go_enter Tryz.func4, Tryz.ntmps4
    go_wp2_with fail
    go_quiet (fail)
    go_wp2_with (first
      | (go_at_call 7; refine (qa _).mono ?_; clear qa; rintro x w1 ⟨d, b1, b2, rfl, hD1, hdl0, hk1⟩; have hK := (hkn _).trans hk1; have hz0 := (hkn nq).size; have hz1 := hD1.lt)
      | (go_at_call 7; refine (qb _).mono ?_; clear qb; rintro y w2 ⟨x, c1, c2, rfl, hX2, hxl0, hk2⟩; have hT : Two w2 d b1 b2 (made 24) x c1 c2 (made 24) := ⟨hD1.kept hk2 (by simp) (by simp) (by simp), hX2, w1.heap.size, by omega, by omega⟩; have hz3 := hK.size; replace hK := hK.trans hk2; have hdl : w.heap.size ≤ d ∧ w.heap.size ≤ b1 ∧ w.heap.size ≤ b2 := (by omega); have hxl : w.heap.size ≤ x ∧ w.heap.size ≤ c1 ∧ w.heap.size ≤ c2 := (by omega); clear hD1 hX2 hk1 hk2 hdl0 hxl0 hz0 hz1 hz3)
      | (go_at_call 27; refine (q1 _ _ _ _ hT.one hK hdl).mono ?_; clear q1; rintro y w3 ⟨rfl, hD3, hk3⟩; replace hT := hT.left hD3 hk3; replace hK := hK.youngs hk3 (by simp; omega); clear hD3 hk3)
      | (go_at_call 27; refine (q2 _ _ _ _ hT.two hK hxl).mono ?_; clear q2; rintro y w4 ⟨rfl, hD4, hk4⟩; replace hT := hT.right hD4 hk4; replace hK := hK.youngs hk4 (by simp; omega); clear hD4 hk4)
      | (go_at_call 16; refine (q3 _ _ _ _ hT.two).mono ?_; clear q3; rintro y w5 ⟨rfl, hD5, hk5⟩; replace hT := hT.right hD5 hk5; replace hK := hK.youngs hk5 (by simp; omega); clear hD5 hk5; have hlo : Hid (x < w5.heap.size ∧ c1 < w5.heap.size ∧ c2 < w5.heap.size) := hT.two.lt; have hlo2 : Hid (d < w5.heap.size ∧ b1 < w5.heap.size ∧ b2 < w5.heap.size) := hT.one.lt)
      | (go_at_call 9; refine (q4 _ _ _ _ hT.one).mono ?_; clear q4; rintro y w6 ⟨v, rfl, hvm, hvat, hk6⟩; replace hvm := hvm.trans hM.out; replace hvm : Hid _ := hvm; replace hT := hT.kept hk6; replace hK := hK.trans hk6; obtain ⟨vk, vi, vo, vm, vs, vsa, vlen, vcap, vd⟩ := v; simp only [Mv.val]; have hb6 := zero_new w6; have hvl : Hid (w5.heap.size ≤ w6.heap.size) := hk6.size; clear hk6)
      | (refine wpList_store_blk rfl 34 _ _ rfl w6.heap.size 34 _ [.int .i64 vk, .int .i64 vi, .int .i64 vo, .int .u64 (vm : Int), .bool vs, .slice vsa vlen vcap] rfl rfl hb6 rfl Pack.Tryz.sizeM (cells_one _ _ _ _ _ _ _ _) ?_; clear hb6; intro w7 hB7 hk7 hz7; have hk67 : Kept [] w6 w7 := (kept_alloc [] w6 _).young hk7 (Nat.le_refl _); replace hT := hT.kept hk67; replace hK := hK.trans hk67; replace hz7 : Hid _ := hz7; have hv7 := hvat.kept (Nat.le_refl _) hk67 (by simp); have hl7 := hk67.size; replace hB7 : Mv.In ⟨vk, vi, vo, vm, vs, vsa, vlen, vcap, vd⟩ w7 w6.heap.size := hB7; clear hvat hk7 hk67)
      | (go_at_call 28; refine (q5 _ _ _ _ hT.two).mono ?_; clear q5; rintro y w8 ⟨rfl, hD8, hk8⟩; replace hT := hT.right hD8 hk8; replace hK := hK.youngs hk8 (by simp; omega); replace hB7 := hB7.kept hk8 (by have := hlo.out; have := hvl.out; simp; omega); have hv8 := hv7.kept hl7 hk8 (by have := hlo.out; simp; omega); have hl8 := Nat.le_trans hl7 hk8.size; clear hD8 hk8 hv7 hl7)
      | (go_at_call 28; refine (q6 _ _ _ _ hT.one).mono ?_; clear q6; rintro y w9 ⟨rfl, hD9, hk9⟩; replace hT := hT.left hD9 hk9; replace hK := hK.youngs hk9 (by simp; omega); replace hB7 := hB7.kept hk9 (by have := hlo2.out; have := hvl.out; simp; omega); have hv9 := hv8.kept hl8 hk9 (by have := hlo2.out; simp; omega); have hl9 := Nat.le_trans hl8 hk9.size; clear hD9 hk9 hv8 hl8)
      | (go_at_call 20; refine (q7 _ _ _ _ hT.two).mono ?_; clear q7; rintro y w10 ⟨rfl, hD10, hk10', hz10⟩; have hk10 : Kept [x, c1, c2] w9 w10 := hk10'.mono (by simp); replace hT := hT.right hD10 hk10; replace hK := hK.youngs hk10 (by simp; omega); replace hB7 := hB7.kept hk10 (by have := hlo.out; have := hvl.out; simp; omega); have hv10 := hv9.kept hl9 hk10 (by have := hlo.out; simp; omega); have hl10 := Nat.le_trans hl9 hk10.size; clear hD10 hk10 hk10' hz10 hv9 hl9; obtain ⟨y0, y1, y2, y3, y4, y5⟩ := hB7.six; simp only at y0 y1 y2 y3 y4 y5)
      | (go_at_call 12; refine (q8 x c1 c2 ⟨vk, vi, vo, vm, vs, vsa, vlen, vcap, vd⟩ hvm.out _ _ _ hT.two hv10 hl10 hlo.out).mono ?_; clear q8; rintro y w11 ⟨rfl, hX11, hk11⟩; rw [(hx1.out _ hvm.out).1, (hx1.out _ hvm.out).2.1]; rw [(hx1.out _ hvm.out).2.2] at hX11; replace hT := hT.right hX11 hk11; replace hK := hK.youngs hk11 (by simp; omega); simp only [Mv.val]; have hb11 := zero_new w11; clear hX11 hk11 hv10 hl10 hB7 y0 y1 y2 y3 y4 y5)
      | (refine wpList_store_blk rfl 34 _ _ rfl w11.heap.size 34 _ [.int .i64 uk, .int .i64 ui, .int .i64 (e : Int), .int .u64 (um : Int), .bool us, .slice usa ulen ucap] rfl rfl hb11 rfl Pack.Tryz.sizeM (cells_one _ _ _ _ _ _ _ _) ?_; clear hb11; intro w12 hB12 hk12 hz12; have hxx := hT.two.lt; have hk112 : Kept [] w11 w12 := (kept_alloc [] w11 _).young hk12 (Nat.le_refl _); replace hT := hT.kept hk112; replace hK := hK.trans hk112; replace hz12 : Hid _ := hz12; replace hB12 : Mv.In ⟨uk, ui, (e : Int), um, us, usa, ulen, ucap, ud⟩ w12 w11.heap.size := hB12; clear hk12 hk112)
      | (go_at_call 18; refine (q9 _ _ _ _ hT.two).mono ?_; clear q9; rintro y w13 ⟨rfl, hD13, hk13⟩; replace hT := hT.right hD13 hk13; replace hK := hK.youngs hk13 (by simp; omega); replace hB12 := hB12.kept hk13 (by simp; omega); clear hD13 hk13)
      | (go_at_call 29; refine (q10 _ _ _ _ hT.two).mono ?_; clear q10; rintro y w14 ⟨vg, rfl, hRg, hk14⟩; replace hT := hT.kept hk14; replace hK := hK.trans hk14; replace hB12 := hB12.kept hk14 (by simp); obtain ⟨ag, capg, rfl⟩ := hRg.slice; have cg := conv_txt hRg; have cb14 := conv_txt (hbA.out _ hK); obtain ⟨z0, z1, z2, z3, z4, z5⟩ := hB12.six; simp only at z0 z1 z2 z3 z4 z5; clear hk14)
      | (go_at_call 22; refine (q11 _ _ _ _ hT.two).mono ?_; rintro y w15 ⟨rfl, hk15⟩; replace hK := hK.trans hk15; have cg15 := conv_txt (hRg.kept (Nat.le_refl _) hk15 (by simp)); have cb15 := conv_txt (hbA.out _ hK))
      | (go_at_call 30; refine (q12 _).mono ?_; rintro y w16 ⟨rfl, rfl⟩)
      | (go_at_call 6; refine (q _).mono ?_; rintro y w17 ⟨rfl, hk17⟩))
    go_ret
    exact ⟨rfl, hK.trans hk17⟩
  · have hn : E ≠ 0 := fun h => h7 (p2 h)
    have hn1 : ((E : Int) != 0) = true := by simp; omega
    have hk7 : (k : Int) < 7 := by omega
    clear p2 p3 p5 p7 h7 hn
    by_cases hgl : gl = bs
    · subst hgl
      clear p6
      go_enter Tryz.func4, Tryz.ntmps4
      go_wp2_with fail
      go_quiet (fail)
      go_wp2_with (first
        | (go_at_call 7; refine (qa _).mono ?_; clear qa; rintro x w1 ⟨d, b1, b2, rfl, hD1, hdl0, hk1⟩; have hK := (hkn _).trans hk1; have hz0 := (hkn nq).size; have hz1 := hD1.lt)
        | (go_at_call 7; refine (qb _).mono ?_; clear qb; rintro y w2 ⟨x, c1, c2, rfl, hX2, hxl0, hk2⟩; have hT : Two w2 d b1 b2 (made 24) x c1 c2 (made 24) := ⟨hD1.kept hk2 (by simp) (by simp) (by simp), hX2, w1.heap.size, by omega, by omega⟩; have hz3 := hK.size; replace hK := hK.trans hk2; have hdl : w.heap.size ≤ d ∧ w.heap.size ≤ b1 ∧ w.heap.size ≤ b2 := (by omega); have hxl : w.heap.size ≤ x ∧ w.heap.size ≤ c1 ∧ w.heap.size ≤ c2 := (by omega); clear hD1 hX2 hk1 hk2 hdl0 hxl0 hz0 hz1 hz3)
        | (go_at_call 27; refine (q1 _ _ _ _ hT.one hK hdl).mono ?_; clear q1; rintro y w3 ⟨rfl, hD3, hk3⟩; replace hT := hT.left hD3 hk3; replace hK := hK.youngs hk3 (by simp; omega); clear hD3 hk3)
        | (go_at_call 27; refine (q2 _ _ _ _ hT.two hK hxl).mono ?_; clear q2; rintro y w4 ⟨rfl, hD4, hk4⟩; replace hT := hT.right hD4 hk4; replace hK := hK.youngs hk4 (by simp; omega); clear hD4 hk4)
        | (go_at_call 16; refine (q3 _ _ _ _ hT.two).mono ?_; clear q3; rintro y w5 ⟨rfl, hD5, hk5⟩; replace hT := hT.right hD5 hk5; replace hK := hK.youngs hk5 (by simp; omega); clear hD5 hk5; have hlo : Hid (x < w5.heap.size ∧ c1 < w5.heap.size ∧ c2 < w5.heap.size) := hT.two.lt; have hlo2 : Hid (d < w5.heap.size ∧ b1 < w5.heap.size ∧ b2 < w5.heap.size) := hT.one.lt)
        | (go_at_call 9; refine (q4 _ _ _ _ hT.one).mono ?_; clear q4; rintro y w6 ⟨v, rfl, hvm, hvat, hk6⟩; replace hvm := hvm.trans hM.out; replace hvm : Hid _ := hvm; replace hT := hT.kept hk6; replace hK := hK.trans hk6; obtain ⟨vk, vi, vo, vm, vs, vsa, vlen, vcap, vd⟩ := v; simp only [Mv.val]; have hb6 := zero_new w6; have hvl : Hid (w5.heap.size ≤ w6.heap.size) := hk6.size; clear hk6)
        | (refine wpList_store_blk rfl 34 _ _ rfl w6.heap.size 34 _ [.int .i64 vk, .int .i64 vi, .int .i64 vo, .int .u64 (vm : Int), .bool vs, .slice vsa vlen vcap] rfl rfl hb6 rfl Pack.Tryz.sizeM (cells_one _ _ _ _ _ _ _ _) ?_; clear hb6; intro w7 hB7 hk7 hz7; have hk67 : Kept [] w6 w7 := (kept_alloc [] w6 _).young hk7 (Nat.le_refl _); replace hT := hT.kept hk67; replace hK := hK.trans hk67; replace hz7 : Hid _ := hz7; have hv7 := hvat.kept (Nat.le_refl _) hk67 (by simp); have hl7 := hk67.size; replace hB7 : Mv.In ⟨vk, vi, vo, vm, vs, vsa, vlen, vcap, vd⟩ w7 w6.heap.size := hB7; clear hvat hk7 hk67)
        | (go_at_call 28; refine (q5 _ _ _ _ hT.two).mono ?_; clear q5; rintro y w8 ⟨rfl, hD8, hk8⟩; replace hT := hT.right hD8 hk8; replace hK := hK.youngs hk8 (by simp; omega); replace hB7 := hB7.kept hk8 (by have := hlo.out; have := hvl.out; simp; omega); have hv8 := hv7.kept hl7 hk8 (by have := hlo.out; simp; omega); have hl8 := Nat.le_trans hl7 hk8.size; clear hD8 hk8 hv7 hl7)
        | (go_at_call 28; refine (q6 _ _ _ _ hT.one).mono ?_; clear q6; rintro y w9 ⟨rfl, hD9, hk9⟩; replace hT := hT.left hD9 hk9; replace hK := hK.youngs hk9 (by simp; omega); replace hB7 := hB7.kept hk9 (by have := hlo2.out; have := hvl.out; simp; omega); have hv9 := hv8.kept hl8 hk9 (by have := hlo2.out; simp; omega); have hl9 := Nat.le_trans hl8 hk9.size; clear hD9 hk9 hv8 hl8)
        | (go_at_call 20; refine (q7 _ _ _ _ hT.two).mono ?_; clear q7; rintro y w10 ⟨rfl, hD10, hk10', hz10⟩; have hk10 : Kept [x, c1, c2] w9 w10 := hk10'.mono (by simp); replace hT := hT.right hD10 hk10; replace hK := hK.youngs hk10 (by simp; omega); replace hB7 := hB7.kept hk10 (by have := hlo.out; have := hvl.out; simp; omega); have hv10 := hv9.kept hl9 hk10 (by have := hlo.out; simp; omega); have hl10 := Nat.le_trans hl9 hk10.size; clear hD10 hk10 hk10' hz10 hv9 hl9; obtain ⟨y0, y1, y2, y3, y4, y5⟩ := hB7.six; simp only at y0 y1 y2 y3 y4 y5)
        | (go_at_call 12; refine (q8 x c1 c2 ⟨vk, vi, vo, vm, vs, vsa, vlen, vcap, vd⟩ hvm.out _ _ _ hT.two hv10 hl10 hlo.out).mono ?_; clear q8; rintro y w11 ⟨rfl, hX11, hk11⟩; rw [(hx1.out _ hvm.out).1, (hx1.out _ hvm.out).2.1]; rw [(hx1.out _ hvm.out).2.2] at hX11; replace hT := hT.right hX11 hk11; replace hK := hK.youngs hk11 (by simp; omega); simp only [Mv.val]; have hb11 := zero_new w11; clear hX11 hk11 hv10 hl10 hB7 y0 y1 y2 y3 y4 y5)
        | (refine wpList_store_blk rfl 34 _ _ rfl w11.heap.size 34 _ [.int .i64 uk, .int .i64 ui, .int .i64 uo, .int .u64 (um : Int), .bool us, .slice usa ulen ucap] rfl rfl hb11 rfl Pack.Tryz.sizeM (cells_one _ _ _ _ _ _ _ _) ?_; clear hb11; intro w12 hB12 hk12 hz12; have hxx := hT.two.lt; have hk112 : Kept [] w11 w12 := (kept_alloc [] w11 _).young hk12 (Nat.le_refl _); replace hT := hT.kept hk112; replace hK := hK.trans hk112; replace hz12 : Hid _ := hz12; replace hB12 : Mv.In ⟨uk, ui, uo, um, us, usa, ulen, ucap, ud⟩ w12 w11.heap.size := hB12; clear hk12 hk112)
        | (go_at_call 18; refine (q9 _ _ _ _ hT.two).mono ?_; clear q9; rintro y w13 ⟨rfl, hD13, hk13⟩; replace hT := hT.right hD13 hk13; replace hK := hK.youngs hk13 (by simp; omega); replace hB12 := hB12.kept hk13 (by simp; omega); clear hD13 hk13)
        | (go_at_call 29; refine (q10 _ _ _ _ hT.two).mono ?_; clear q10; rintro y w14 ⟨vg, rfl, hRg, hk14⟩; replace hT := hT.kept hk14; replace hK := hK.trans hk14; replace hB12 := hB12.kept hk14 (by simp); obtain ⟨ag, capg, rfl⟩ := hRg.slice; have cg := conv_txt hRg; have cb14 := conv_txt (hbA.out _ hK); obtain ⟨z0, z1, z2, z3, z4, z5⟩ := hB12.six; simp only at z0 z1 z2 z3 z4 z5; clear hk14)
        | (go_at_call 22; refine (q11 _ _ _ _ hT.two).mono ?_; rintro y w15 ⟨rfl, hk15⟩; replace hK := hK.trans hk15; have cg15 := conv_txt (hRg.kept (Nat.le_refl _) hk15 (by simp)); have cb15 := conv_txt (hbA.out _ hK))
        | (go_at_call 30; refine (q12 _).mono ?_; rintro y w16 ⟨rfl, rfl⟩)
        | (go_at_call 6; refine (q _).mono ?_; rintro y w17 ⟨rfl, hk17⟩))
      go_ret
      exact ⟨rfl, hK.trans hk17⟩
    · obtain rfl : Y = 15 := p6.resolve_left hgl
      clear p6
      go_enter Tryz.func4, Tryz.ntmps4
      go_wp2_with fail
      go_quiet (fail)
      go_wp2_with (first
        | (go_at_call 7; refine (qa _).mono ?_; clear qa; rintro x w1 ⟨d, b1, b2, rfl, hD1, hdl0, hk1⟩; have hK := (hkn _).trans hk1; have hz0 := (hkn nq).size; have hz1 := hD1.lt)
        | (go_at_call 7; refine (qb _).mono ?_; clear qb; rintro y w2 ⟨x, c1, c2, rfl, hX2, hxl0, hk2⟩; have hT : Two w2 d b1 b2 (made 24) x c1 c2 (made 24) := ⟨hD1.kept hk2 (by simp) (by simp) (by simp), hX2, w1.heap.size, by omega, by omega⟩; have hz3 := hK.size; replace hK := hK.trans hk2; have hdl : w.heap.size ≤ d ∧ w.heap.size ≤ b1 ∧ w.heap.size ≤ b2 := (by omega); have hxl : w.heap.size ≤ x ∧ w.heap.size ≤ c1 ∧ w.heap.size ≤ c2 := (by omega); clear hD1 hX2 hk1 hk2 hdl0 hxl0 hz0 hz1 hz3)
        | (go_at_call 27; refine (q1 _ _ _ _ hT.one hK hdl).mono ?_; clear q1; rintro y w3 ⟨rfl, hD3, hk3⟩; replace hT := hT.left hD3 hk3; replace hK := hK.youngs hk3 (by simp; omega); clear hD3 hk3)
        | (go_at_call 27; refine (q2 _ _ _ _ hT.two hK hxl).mono ?_; clear q2; rintro y w4 ⟨rfl, hD4, hk4⟩; replace hT := hT.right hD4 hk4; replace hK := hK.youngs hk4 (by simp; omega); clear hD4 hk4)
        | (go_at_call 16; refine (q3 _ _ _ _ hT.two).mono ?_; clear q3; rintro y w5 ⟨rfl, hD5, hk5⟩; replace hT := hT.right hD5 hk5; replace hK := hK.youngs hk5 (by simp; omega); clear hD5 hk5; have hlo : Hid (x < w5.heap.size ∧ c1 < w5.heap.size ∧ c2 < w5.heap.size) := hT.two.lt; have hlo2 : Hid (d < w5.heap.size ∧ b1 < w5.heap.size ∧ b2 < w5.heap.size) := hT.one.lt)
        | (go_at_call 9; refine (q4 _ _ _ _ hT.one).mono ?_; clear q4; rintro y w6 ⟨v, rfl, hvm, hvat, hk6⟩; replace hvm := hvm.trans hM.out; replace hvm : Hid _ := hvm; replace hT := hT.kept hk6; replace hK := hK.trans hk6; obtain ⟨vk, vi, vo, vm, vs, vsa, vlen, vcap, vd⟩ := v; simp only [Mv.val]; have hb6 := zero_new w6; have hvl : Hid (w5.heap.size ≤ w6.heap.size) := hk6.size; clear hk6)
        | (refine wpList_store_blk rfl 34 _ _ rfl w6.heap.size 34 _ [.int .i64 vk, .int .i64 vi, .int .i64 vo, .int .u64 (vm : Int), .bool vs, .slice vsa vlen vcap] rfl rfl hb6 rfl Pack.Tryz.sizeM (cells_one _ _ _ _ _ _ _ _) ?_; clear hb6; intro w7 hB7 hk7 hz7; have hk67 : Kept [] w6 w7 := (kept_alloc [] w6 _).young hk7 (Nat.le_refl _); replace hT := hT.kept hk67; replace hK := hK.trans hk67; replace hz7 : Hid _ := hz7; have hv7 := hvat.kept (Nat.le_refl _) hk67 (by simp); have hl7 := hk67.size; replace hB7 : Mv.In ⟨vk, vi, vo, vm, vs, vsa, vlen, vcap, vd⟩ w7 w6.heap.size := hB7; clear hvat hk7 hk67)
        | (go_at_call 28; refine (q5 _ _ _ _ hT.two).mono ?_; clear q5; rintro y w8 ⟨rfl, hD8, hk8⟩; replace hT := hT.right hD8 hk8; replace hK := hK.youngs hk8 (by simp; omega); replace hB7 := hB7.kept hk8 (by have := hlo.out; have := hvl.out; simp; omega); have hv8 := hv7.kept hl7 hk8 (by have := hlo.out; simp; omega); have hl8 := Nat.le_trans hl7 hk8.size; clear hD8 hk8 hv7 hl7)
        | (go_at_call 28; refine (q6 _ _ _ _ hT.one).mono ?_; clear q6; rintro y w9 ⟨rfl, hD9, hk9⟩; replace hT := hT.left hD9 hk9; replace hK := hK.youngs hk9 (by simp; omega); replace hB7 := hB7.kept hk9 (by have := hlo2.out; have := hvl.out; simp; omega); have hv9 := hv8.kept hl8 hk9 (by have := hlo2.out; simp; omega); have hl9 := Nat.le_trans hl8 hk9.size; clear hD9 hk9 hv8 hl8)
        | (go_at_call 20; refine (q7 _ _ _ _ hT.two).mono ?_; clear q7; rintro y w10 ⟨rfl, hD10, hk10', hz10⟩; have hk10 : Kept [x, c1, c2] w9 w10 := hk10'.mono (by simp); replace hT := hT.right hD10 hk10; replace hK := hK.youngs hk10 (by simp; omega); replace hB7 := hB7.kept hk10 (by have := hlo.out; have := hvl.out; simp; omega); have hv10 := hv9.kept hl9 hk10 (by have := hlo.out; simp; omega); have hl10 := Nat.le_trans hl9 hk10.size; clear hD10 hk10 hk10' hz10 hv9 hl9; obtain ⟨y0, y1, y2, y3, y4, y5⟩ := hB7.six; simp only at y0 y1 y2 y3 y4 y5)
        | (go_at_call 12; refine (q8 x c1 c2 ⟨vk, vi, vo, vm, vs, vsa, vlen, vcap, vd⟩ hvm.out _ _ _ hT.two hv10 hl10 hlo.out).mono ?_; clear q8; rintro y w11 ⟨rfl, hX11, hk11⟩; rw [(hx1.out _ hvm.out).1, (hx1.out _ hvm.out).2.1]; rw [(hx1.out _ hvm.out).2.2] at hX11; replace hT := hT.right hX11 hk11; replace hK := hK.youngs hk11 (by simp; omega); simp only [Mv.val]; have hb11 := zero_new w11; clear hX11 hk11 hv10 hl10 hB7 y0 y1 y2 y3 y4 y5)
        | (refine wpList_store_blk rfl 34 _ _ rfl w11.heap.size 34 _ [.int .i64 uk, .int .i64 ui, .int .i64 uo, .int .u64 (um : Int), .bool us, .slice usa ulen ucap] rfl rfl hb11 rfl Pack.Tryz.sizeM (cells_one _ _ _ _ _ _ _ _) ?_; clear hb11; intro w12 hB12 hk12 hz12; have hxx := hT.two.lt; have hk112 : Kept [] w11 w12 := (kept_alloc [] w11 _).young hk12 (Nat.le_refl _); replace hT := hT.kept hk112; replace hK := hK.trans hk112; replace hz12 : Hid _ := hz12; replace hB12 : Mv.In ⟨uk, ui, uo, um, us, usa, ulen, ucap, ud⟩ w12 w11.heap.size := hB12; clear hk12 hk112)
        | (go_at_call 18; refine (q9 _ _ _ _ hT.two).mono ?_; clear q9; rintro y w13 ⟨rfl, hD13, hk13⟩; replace hT := hT.right hD13 hk13; replace hK := hK.youngs hk13 (by simp; omega); replace hB12 := hB12.kept hk13 (by simp; omega); clear hD13 hk13)
        | (go_at_call 29; refine (q10 _ _ _ _ hT.two).mono ?_; clear q10; rintro y w14 ⟨vg, rfl, hRg, hk14⟩; replace hT := hT.kept hk14; replace hK := hK.trans hk14; replace hB12 := hB12.kept hk14 (by simp); obtain ⟨ag, capg, rfl⟩ := hRg.slice; have cg := conv_txt hRg; have cb14 := conv_txt (hbA.out _ hK); obtain ⟨z0, z1, z2, z3, z4, z5⟩ := hB12.six; simp only at z0 z1 z2 z3 z4 z5; have hne := txt_ne hRg.1 hbb hgl; clear hk14)
        | (go_at_call 22; refine (q11 _ _ _ _ hT.two).mono ?_; rintro y w15 ⟨rfl, hk15⟩; replace hK := hK.trans hk15; have cg15 := conv_txt (hRg.kept (Nat.le_refl _) hk15 (by simp)); have cb15 := conv_txt (hbA.out _ hK))
        | (go_at_call 30; refine (q12 _).mono ?_; rintro y w16 ⟨rfl, rfl⟩)
        | (go_at_call 6; refine (q _).mono ?_; rintro y w17 ⟨rfl, hk17⟩))
      go_ret
      exact ⟨rfl, hK.trans hk17⟩
end Go.Proofs.YtcmfejgimnjbgaaGreat.Copying
