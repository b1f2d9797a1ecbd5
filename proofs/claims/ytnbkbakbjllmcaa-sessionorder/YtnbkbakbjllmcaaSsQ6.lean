/-
  SessionOrder: a packet comes (side 1, kind 3).
-/
import Derived.Test.YtnbkbakbjllmcaaSsQT
import Derived.Deep.CutRange
import Derived.Deep.CutBlock
namespace Go.Proofs.Ytnbkbakbjllmcaa.Session
open Go.RowKit
open Outbox (Ob nums OutAt Bv Byt NoByt RowAt NRow)
open Wire (Ps Pv bytesL parseM parseE)
set_option linter.unusedVariables false

variable {m j len : Nat} {w w3 : World} {yb nk : Nat} {a b : Sv} {A B : Sd} {wa wb : List (List Nat)} {t : Nt} {L1 L2 L3 : List Value} {sl1 sl50 v2 v3 v4 v6 v7 v8 v10 v14 v15 v16 v17 v18 v19 v20 v21 v22 v23 v24 v25 v26 v27 v28 v29 v30 v31 v32 v33 v34 v35 v36 v37 v38 v39 v40 v41 v42 v43 v44 v45 v46 v47 v48 v49 v51 v52 v53 v54 v55 v56 v57 v58 v59 v60 v61 v62 v63 v64 v65 v67 v68 v69 v70 v71 v72 v73 v74 v75 v76 v77 v78 v79 v80 v81 v82 v83 v84 v85 v86 v87 v88 v89 v90 v91 v92 v93 v94 v95 v96 v97 v98 v99 v100 v101 v102 v103 v104 v105 v106 v107 v108 v109 v110 v111 v112 v113 v114 v115 v116 v117 v118 v119 v120 v121 v122 v123 v124 v125 v126 v127 v128 v129 v130 v131 v132 v133 v134 v135 v136 v137 v138 v139 v140 v141 v142 v143 v144 v145 v146 v147 v148 v149 v150 v151 v152 v153 v154 v155 v156 v157 v158 v159 v160 v161 v162 v163 v164 v165 v166 v167 v168 v169 v170 v171 v172 v173 v174 v175 v176 v177 v178 v179 v180 v181 v182 v183 v184 v185 v186 v187 v188 v189 v190 v191 v192 v193 v194 v195 v196 v197 v198 v199 v200 v201 v202 v203 v204 v205 v206 v207 v208 v209 v210 v211 v212 v213 v214 v215 v216 v217 v218 v219 v220 v221 v222 v223 v224 v225 v226 v227 v228 v229 v230 v231 v232 v233 v234 v235 v236 v237 v238 v239 v240 v241 v242 v243 v244 v245 v246 v247 v248 v249 v250 v251 v252 v253 v254 v255 v256 v257 v258 v259 v260 v261 v262 v263 v264 v265 v266 v267 v268 v269 v270 v271 v272 v273 v274 v275 v276 v277 v278 v279 v280 v281 v282 v283 v284 v285 v286 : Value}
set_option maxRecDepth 100000 in
set_option maxHeartbeats 8000000 in
/-- A packet comes. -/
theorem sw1_come3_old_not (h1 : 1 ≤ m) (h2 : m ≤ 64) (hl : len ≤ 120) (hjl : j + 1 ≤ len) (hst3 : St w w.heap.size w.heap.size yb a b A B wa wb w3) (hf : Far2 m j A B wa wb) (hwa : wa.length ≤ 400) (hwb : wb.length ≤ 400) (hfx : Far (flat (feet w.heap.size yb a b)) w3 t.x) (hNet : Blk w3 nk 36 #[.int .i64 t.k, .int .i64 t.who, .int .i64 t.at', .slice t.x.sa t.x.len t.x.cap]) (hxx : Hid (t.x.len = t.x.bs.length)) (h300 : ¬ (300 < t.x.len)) {N : Nat} {x : Bv} (hk : t.k = 3) (hat : t.at' = (N : Int)) (hx : b.Y[N]? = some x) (hNw : A.s.isNew x.bs = false) (hHs : A.s.has x.bs = false) {c : Code} (hc : Try.f3.body.bind (findB 4) = some c) (hL1 : Hid (L1 = [.int .i64 (m : Int), sl1, v2, v3, v4, .pointer (some ⟨w.heap.size, 0, none⟩), v6, v7, v8, .pointer (some ⟨yb, 0, none⟩), v10, .pointer (some ⟨nk, 0, none⟩), .int .i64 1, .int .i64 0])) (hL2 : Hid (L2 = [v22, v23, v24, v25, v26, v27, v28, v29, v30, v31, v32, v33, v34, v35, v36, v37, v38, v39, v40, v41, v42, v43, v44, v45, v46, v47, v48, v49, sl50])) (hL3 : Hid (L3 = [v286])) :
    Code.wp Try.prog c (SwPost L1 L2 L3 w m j yb) ⟨#[.int .i64 (m : Int), sl1, v2, v3, v4, .pointer (some ⟨w.heap.size, 0, none⟩), v6, v7, v8, .pointer (some ⟨yb, 0, none⟩), v10, .pointer (some ⟨nk, 0, none⟩), .int .i64 1, .int .i64 0, v14, v15, v16, v17, v18, v19, v20, v21, v22, v23, v24, v25, v26, v27, v28, v29, v30, v31, v32, v33, v34, v35, v36, v37, v38, v39, v40, v41, v42, v43, v44, v45, v46, v47, v48, v49, sl50, v51, v52, v53, v54, v55, v56, v57, v58, v59, v60, v61, v62, v63, v64, v65, .int .i64 3, v67, v68, v69, v70, v71, v72, v73, v74, v75, v76, v77, v78, v79, v80, v81, v82, v83, v84, v85, v86, v87, v88, v89, v90, v91, v92, v93, v94, v95, v96, v97, v98, v99, v100, v101, v102, v103, v104, v105, v106, v107, v108, v109, v110, v111, v112, v113, v114, v115, v116, v117, v118, v119, v120, v121, v122, v123, v124, v125, v126, v127, v128, v129, v130, v131, v132, v133, v134, v135, v136, v137, v138, v139, v140, v141, v142, v143, v144, v145, v146, v147, v148, v149, v150, v151, v152, v153, v154, v155, v156, v157, v158, v159, v160, v161, v162, v163, v164, v165, v166, v167, v168, v169, v170, v171, v172, v173, v174, v175, v176, v177, v178, v179, v180, v181, v182, v183, v184, v185, v186, v187, v188, v189, v190, v191, v192, v193, v194, v195, v196, v197, v198, v199, v200, v201, v202, v203, v204, v205, v206, v207, v208, v209, v210, v211, v212, v213, v214, v215, v216, v217, v218, v219, v220, v221, v222, v223, v224, v225, v226, v227, v228, v229, v230, v231, v232, v233, v234, v235, v236, v237, v238, v239, v240, v241, v242, v243, v244, v245, v246, v247, v248, v249, v250, v251, v252, v253, v254, v255, v256, v257, v258, v259, v260, v261, v262, v263, v264, v265, v266, v267, v268, v269, v270, v271, v272, v273, v274, v275, v276, v277, v278, v279, v280, v281, v282, v283, v284, v285, v286], []⟩ w3 := by
  have d0 : w3.cell? ⟨nk, 0, none⟩ = some (.int .i64 t.k) := (hNet.cell 0).trans rfl
  have d1 : w3.cell? ⟨nk, 1, none⟩ = some (.int .i64 t.who) := (hNet.cell 1).trans rfl
  have d2 : w3.cell? ⟨nk, 2, none⟩ = some (.int .i64 t.at') := (hNet.cell 2).trans rfl
  have d3 : w3.cell? ⟨nk, 3, none⟩ = some (.slice t.x.sa t.x.len t.x.cap) := (hNet.cell 3).trans rfl
  obtain ⟨⟨oa1, oa2⟩, ob1, ob2⟩ := hf.ob (by omega)
  conv at hc => lhs; whnf
  injection hc with hc
  subst hc
  rw [hk] at d0
  clear hk
  rw [hat] at d2
  have hNl : N < b.Y.length := (List.getElem?_eq_some_iff.1 hx).1
  have i1 : ¬ ((N : Int) < 0) := by omega
  have i2 : ¬ ((b.Y.length : Int) ≤ (N : Int)) := by omega
  have i3 : (N : Int) < (b.Y.length : Int) := by omega
  have hyl : b.Y.length ≤ 400 := by
    have := congrArg List.length hst3.hb.wayL
    rw [List.length_map] at this
    omega
  have hyI : (b.Y.length : Int) ≤ 400 := by omega
  obtain ⟨g, off, ew, ce⟩ := hst3.hb.way.lies.at N x hx
  have cy : w3.cell? ⟨yb, 1, none⟩ = some (.slice (some ⟨g, off, none⟩) b.Y.length b.w3) := by rw [← ew]; exact hst3.two.2
  have hrow0 : Lies w3 (.slice (some ⟨g, off, none⟩) b.Y.length b.w3) b.Y := by rw [← ew]; exact hst3.hb.way.lies
  have c : ∀ n, (w3.drewN n).cell? ⟨yb, 1, none⟩ = some (.slice (some ⟨g, off, none⟩) b.Y.length b.w3) := fun n => cy
  have u : ∀ n, (w3.drewN n).cell? ⟨nk, 2, none⟩ = some (.int .i64 (N : Int)) := fun n => d2
  go_wp2_with fail
  go_quiet (fail)
  have kq_w4 := kept_drewN [] w3 nq
  obtain ⟨w4, hq_w4⟩ : ∃ w4, w3.drewN nq = w4 := ⟨_, rfl⟩
  rw [hq_w4] at kq_w4 ⊢
  clear hq_w4 nq
  clear c u
  have c : ∀ n, (w4.drewN n).cell? ⟨yb, 1, none⟩ = some (.slice (some ⟨g, off, none⟩) b.Y.length b.w3) := fun n => (World.cell?_of_block (kq_w4.block yb hst3.y.lt (by simp))).trans cy
  have u : ∀ n, (w4.drewN n).cell? ⟨nk, 2, none⟩ = some (.int .i64 (N : Int)) := fun n => (World.cell?_of_block (kq_w4.block nk hNet.lt (by simp))).trans d2
  have ce4 : ∀ n, (w4.drewN n).cell? ⟨g, off + N, none⟩ = some (.slice x.sa x.len x.cap) := fun n => (World.cell?_of_block (kq_w4.block g (hst3.hb.way.lt g (by simp [Sv.way, ew, Value.ownBlock])).2 (by simp))).trans ce
  go_wp2_with fail
  go_quiet (fail)
  have kq_w5 := kept_drewN [] w4 nq
  obtain ⟨w5, hq_w5⟩ : ∃ w5, w4.drewN nq = w5 := ⟨_, rfl⟩
  rw [hq_w5] at kq_w5 ⊢
  clear hq_w5 nq
  clear c u ce4 ce cy
  have kq := kq_w4.trans kq_w5
  have hst5 := hst3.kept0 kq
  have hNet5 := hNet.kept kq (by simp)
  have hfx5 := (hst5.hb.wayF x (List.mem_of_getElem? hx))
  have hrow5 := hrow0.kept kq (by simp)
  have cy5 : w5.cell? ⟨yb, 1, none⟩ = some (.slice (some ⟨g, off, none⟩) b.Y.length b.w3) := by rw [← ew]; exact hst5.two.2
  have cn0 : w5.cell? ⟨nk, 0, none⟩ = some (.int .i64 3) := (World.cell?_of_block (kq.block nk hNet.lt (by simp))).trans d0
  have cn2 : w5.cell? ⟨nk, 2, none⟩ = some (.int .i64 (N : Int)) := (World.cell?_of_block (kq.block nk hNet.lt (by simp))).trans d2
  have hmem : x.bs ∈ wb := by rw [← hst3.hb.wayL]; exact List.mem_map_of_mem (List.mem_of_getElem? hx)
  clear d0 d1 d2 d3 kq_w4 kq_w5 hrow0
  have hnyb : nk ∉ [yb] := fun e => hst5.alien hNet5 notNet 9 (by rw [List.mem_singleton] at e; rw [e]; simp [feet])
  have hxl : x.bs.length ≤ 1000 := by
    obtain ⟨p, _, e, _⟩ := hf.both.ba.ok x.bs hmem
    rw [e]
    have := Wire.bytesL_len p
    omega
  go_upto_region 38 with fail
  have hst := hst5
  have hwire := hfx5.wire
  clear hst5 cy5 cn0 cn2 hrow5
  have hmyT : (A.s.taken x.bs).my = A.s.my := (taken_is A.s x.bs).1
  have hwnT : (A.s.taken x.bs).ob.w = A.s.ob.w := taken_w A.s x.bs
  have q := take_any w5 hst.ha.ss (.slice x.sa x.len x.cap) x.bs 0 _ hwire (Nat.le_refl _) hxl (by omega) oa2 hst.bw
  rw [hNw, hHs] at q
  have hSD : Hid (A.take x.bs = Sd.mk (A.s.taken x.bs) A.sent A.got) := by
    show _ = _
    unfold Sd.take Sd.turn
    rw [hHs, hNw]
    rfl
  have hB0 := hf.both.swap.take hmem
  rw [hSD.out] at hB0
  have hTll : (A.s.takeL x.bs).length ≤ 1001 := takeL_len _ (by have := hf.win; omega)
  generalize A.s.takeL x.bs = TL at *
  generalize A.s.gotB x.bs = GB at *
  have hT' : ∃ TK, A.s.taken x.bs = TK := ⟨_, rfl⟩
  obtain ⟨TK, hTK⟩ := hT'
  rw [hTK] at q hmyT hwnT hB0
  clear hTK hSD hNw hHs
  have hyo : a.Y.length ≤ 400 := by
    have := congrArg List.length hst.ha.wayL
    rw [List.length_map] at this
    omega
  obtain ⟨c0, c1, c2, c3, c4, c5, c6, c7⟩ := hst.eight
  go_wp2_with (first
    | (go_at_call 10; refine q.mono ?_; rintro e w10 ⟨v10, P10, F10, sb, lb, cb, rfl, hF10, hT10, hA10⟩; obtain ⟨sl10, cl10, rfl⟩ := hT10.row.form; have hst10 := hst.call_a hA10 hmyT)
    | (refine wpList_store_blk rfl 41 _ _ rfl w10.heap.size 41 _ [.bool false, .bool false, .slice sb lb cb] rfl rfl (blk_new w10 41 #[.bool false, .bool false, .slice none 0 0]) rfl Try.sizeGot (by simp [Value.oneCell']) ?_; intro w11 hb11 hk11 hz11; have kG : Kept [] w10 w11 := (kept_alloc [] w10 (.cells #[.bool false, .bool false, .slice none 0 0] 41)).young hk11 (Nat.le_refl _); have hst11 := hst10.kept0 kG; have g0 : w11.cell? ⟨w10.heap.size, 0, none⟩ = some (.bool false) := (hb11.cell 0).trans rfl; have g1 : w11.cell? ⟨w10.heap.size, 1, none⟩ = some (.bool false) := (hb11.cell 1).trans rfl; have hTX := (hT10.kept0 kG); obtain ⟨y0, y1⟩ := hst11.two)
    | (at_builtin; refine wpList_append_any rfl _ _ rfl w.heap.size (.slice a.w1 a.Y.length a.w3) (.slice sl10 P10.length cl10) a.Y P10 rfl rfl hst11.ha.way hTX.row.lies (by have := hTX.len; omega) hst11.bw ?_; intro u1 un u3 w17 hr17 hk17 hn17)
    | (refine Wire.wpList_store_cell rfl 26 _ _ rfl yb 0 33 _ (.slice u1 un u3) rfl rfl (hst11.y.kept hk17 (fun e => by have := hst11.pool.one 9 3 yb (by simp [feet]) e; omega)) (by simp) Outbox.Try.sizeBB rfl ?_; intro w18 hb18 hk18; simp only [List.setIfInBounds_toArray, List.set_cons_zero] at hb18))
  have hst18 := hst11.way_a hr17 hk17 hn17.out (fun y hy => far_byt (hTX.mem y hy) hst11.noFlat) hb18 hk18
  rw [hTX.bs] at hst18
  have hB1 := hB0
  refine ⟨⟨rfl, rfl, by rw [hL1.out]; rfl, by rw [hL2.out]; rfl, by rw [hL3.out]; rfl⟩, _, _, _, _, _, _, hst18, hB1.swap, ?_, ?_, ?_, ?_⟩
  · have := hf.my; exact ⟨Nat.le_trans (Nat.le_of_eq hmyT) (Nat.le_succ_of_le this.1), Nat.le_succ_of_le this.2⟩
  · have := hf.sent; exact ⟨Nat.le_succ_of_le this.1, Nat.le_succ_of_le this.2⟩
  · exact ⟨hwnT.trans hf.win.1, hf.win.2⟩
  · have := hf.got; exact ⟨Nat.le_succ_of_le this.1, Nat.le_succ_of_le this.2⟩
set_option maxRecDepth 100000 in
set_option maxHeartbeats 8000000 in
/-- A packet comes. -/
theorem sw1_come3_old_has (h1 : 1 ≤ m) (h2 : m ≤ 64) (hl : len ≤ 120) (hjl : j + 1 ≤ len) (hst3 : St w w.heap.size w.heap.size yb a b A B wa wb w3) (hf : Far2 m j A B wa wb) (hwa : wa.length ≤ 400) (hwb : wb.length ≤ 400) (hfx : Far (flat (feet w.heap.size yb a b)) w3 t.x) (hNet : Blk w3 nk 36 #[.int .i64 t.k, .int .i64 t.who, .int .i64 t.at', .slice t.x.sa t.x.len t.x.cap]) (hxx : Hid (t.x.len = t.x.bs.length)) (h300 : ¬ (300 < t.x.len)) {N : Nat} {x : Bv} (hk : t.k = 3) (hat : t.at' = (N : Int)) (hx : b.Y[N]? = some x) (hNw : A.s.isNew x.bs = false) (hHs : A.s.has x.bs = true) {c : Code} (hc : Try.f3.body.bind (findB 4) = some c) (hL1 : Hid (L1 = [.int .i64 (m : Int), sl1, v2, v3, v4, .pointer (some ⟨w.heap.size, 0, none⟩), v6, v7, v8, .pointer (some ⟨yb, 0, none⟩), v10, .pointer (some ⟨nk, 0, none⟩), .int .i64 1, .int .i64 0])) (hL2 : Hid (L2 = [v22, v23, v24, v25, v26, v27, v28, v29, v30, v31, v32, v33, v34, v35, v36, v37, v38, v39, v40, v41, v42, v43, v44, v45, v46, v47, v48, v49, sl50])) (hL3 : Hid (L3 = [v286])) :
    Code.wp Try.prog c (SwPost L1 L2 L3 w m j yb) ⟨#[.int .i64 (m : Int), sl1, v2, v3, v4, .pointer (some ⟨w.heap.size, 0, none⟩), v6, v7, v8, .pointer (some ⟨yb, 0, none⟩), v10, .pointer (some ⟨nk, 0, none⟩), .int .i64 1, .int .i64 0, v14, v15, v16, v17, v18, v19, v20, v21, v22, v23, v24, v25, v26, v27, v28, v29, v30, v31, v32, v33, v34, v35, v36, v37, v38, v39, v40, v41, v42, v43, v44, v45, v46, v47, v48, v49, sl50, v51, v52, v53, v54, v55, v56, v57, v58, v59, v60, v61, v62, v63, v64, v65, .int .i64 3, v67, v68, v69, v70, v71, v72, v73, v74, v75, v76, v77, v78, v79, v80, v81, v82, v83, v84, v85, v86, v87, v88, v89, v90, v91, v92, v93, v94, v95, v96, v97, v98, v99, v100, v101, v102, v103, v104, v105, v106, v107, v108, v109, v110, v111, v112, v113, v114, v115, v116, v117, v118, v119, v120, v121, v122, v123, v124, v125, v126, v127, v128, v129, v130, v131, v132, v133, v134, v135, v136, v137, v138, v139, v140, v141, v142, v143, v144, v145, v146, v147, v148, v149, v150, v151, v152, v153, v154, v155, v156, v157, v158, v159, v160, v161, v162, v163, v164, v165, v166, v167, v168, v169, v170, v171, v172, v173, v174, v175, v176, v177, v178, v179, v180, v181, v182, v183, v184, v185, v186, v187, v188, v189, v190, v191, v192, v193, v194, v195, v196, v197, v198, v199, v200, v201, v202, v203, v204, v205, v206, v207, v208, v209, v210, v211, v212, v213, v214, v215, v216, v217, v218, v219, v220, v221, v222, v223, v224, v225, v226, v227, v228, v229, v230, v231, v232, v233, v234, v235, v236, v237, v238, v239, v240, v241, v242, v243, v244, v245, v246, v247, v248, v249, v250, v251, v252, v253, v254, v255, v256, v257, v258, v259, v260, v261, v262, v263, v264, v265, v266, v267, v268, v269, v270, v271, v272, v273, v274, v275, v276, v277, v278, v279, v280, v281, v282, v283, v284, v285, v286], []⟩ w3 := by
  have d0 : w3.cell? ⟨nk, 0, none⟩ = some (.int .i64 t.k) := (hNet.cell 0).trans rfl
  have d1 : w3.cell? ⟨nk, 1, none⟩ = some (.int .i64 t.who) := (hNet.cell 1).trans rfl
  have d2 : w3.cell? ⟨nk, 2, none⟩ = some (.int .i64 t.at') := (hNet.cell 2).trans rfl
  have d3 : w3.cell? ⟨nk, 3, none⟩ = some (.slice t.x.sa t.x.len t.x.cap) := (hNet.cell 3).trans rfl
  obtain ⟨⟨oa1, oa2⟩, ob1, ob2⟩ := hf.ob (by omega)
  conv at hc => lhs; whnf
  injection hc with hc
  subst hc
  rw [hk] at d0
  clear hk
  rw [hat] at d2
  have hNl : N < b.Y.length := (List.getElem?_eq_some_iff.1 hx).1
  have i1 : ¬ ((N : Int) < 0) := by omega
  have i2 : ¬ ((b.Y.length : Int) ≤ (N : Int)) := by omega
  have i3 : (N : Int) < (b.Y.length : Int) := by omega
  have hyl : b.Y.length ≤ 400 := by
    have := congrArg List.length hst3.hb.wayL
    rw [List.length_map] at this
    omega
  have hyI : (b.Y.length : Int) ≤ 400 := by omega
  obtain ⟨g, off, ew, ce⟩ := hst3.hb.way.lies.at N x hx
  have cy : w3.cell? ⟨yb, 1, none⟩ = some (.slice (some ⟨g, off, none⟩) b.Y.length b.w3) := by rw [← ew]; exact hst3.two.2
  have hrow0 : Lies w3 (.slice (some ⟨g, off, none⟩) b.Y.length b.w3) b.Y := by rw [← ew]; exact hst3.hb.way.lies
  have c : ∀ n, (w3.drewN n).cell? ⟨yb, 1, none⟩ = some (.slice (some ⟨g, off, none⟩) b.Y.length b.w3) := fun n => cy
  have u : ∀ n, (w3.drewN n).cell? ⟨nk, 2, none⟩ = some (.int .i64 (N : Int)) := fun n => d2
  go_wp2_with fail
  go_quiet (fail)
  have kq_w4 := kept_drewN [] w3 nq
  obtain ⟨w4, hq_w4⟩ : ∃ w4, w3.drewN nq = w4 := ⟨_, rfl⟩
  rw [hq_w4] at kq_w4 ⊢
  clear hq_w4 nq
  clear c u
  have c : ∀ n, (w4.drewN n).cell? ⟨yb, 1, none⟩ = some (.slice (some ⟨g, off, none⟩) b.Y.length b.w3) := fun n => (World.cell?_of_block (kq_w4.block yb hst3.y.lt (by simp))).trans cy
  have u : ∀ n, (w4.drewN n).cell? ⟨nk, 2, none⟩ = some (.int .i64 (N : Int)) := fun n => (World.cell?_of_block (kq_w4.block nk hNet.lt (by simp))).trans d2
  have ce4 : ∀ n, (w4.drewN n).cell? ⟨g, off + N, none⟩ = some (.slice x.sa x.len x.cap) := fun n => (World.cell?_of_block (kq_w4.block g (hst3.hb.way.lt g (by simp [Sv.way, ew, Value.ownBlock])).2 (by simp))).trans ce
  go_wp2_with fail
  go_quiet (fail)
  have kq_w5 := kept_drewN [] w4 nq
  obtain ⟨w5, hq_w5⟩ : ∃ w5, w4.drewN nq = w5 := ⟨_, rfl⟩
  rw [hq_w5] at kq_w5 ⊢
  clear hq_w5 nq
  clear c u ce4 ce cy
  have kq := kq_w4.trans kq_w5
  have hst5 := hst3.kept0 kq
  have hNet5 := hNet.kept kq (by simp)
  have hfx5 := (hst5.hb.wayF x (List.mem_of_getElem? hx))
  have hrow5 := hrow0.kept kq (by simp)
  have cy5 : w5.cell? ⟨yb, 1, none⟩ = some (.slice (some ⟨g, off, none⟩) b.Y.length b.w3) := by rw [← ew]; exact hst5.two.2
  have cn0 : w5.cell? ⟨nk, 0, none⟩ = some (.int .i64 3) := (World.cell?_of_block (kq.block nk hNet.lt (by simp))).trans d0
  have cn2 : w5.cell? ⟨nk, 2, none⟩ = some (.int .i64 (N : Int)) := (World.cell?_of_block (kq.block nk hNet.lt (by simp))).trans d2
  have hmem : x.bs ∈ wb := by rw [← hst3.hb.wayL]; exact List.mem_map_of_mem (List.mem_of_getElem? hx)
  clear d0 d1 d2 d3 kq_w4 kq_w5 hrow0
  have hnyb : nk ∉ [yb] := fun e => hst5.alien hNet5 notNet 9 (by rw [List.mem_singleton] at e; rw [e]; simp [feet])
  have hxl : x.bs.length ≤ 1000 := by
    obtain ⟨p, _, e, _⟩ := hf.both.ba.ok x.bs hmem
    rw [e]
    have := Wire.bytesL_len p
    omega
  go_upto_region 38 with fail
  have hst := hst5
  have hwire := hfx5.wire
  clear hst5 cy5 cn0 cn2 hrow5
  have hmyT : (A.s.taken x.bs).my = A.s.my := (taken_is A.s x.bs).1
  have hwnT : (A.s.taken x.bs).ob.w = A.s.ob.w := taken_w A.s x.bs
  have q := take_any w5 hst.ha.ss (.slice x.sa x.len x.cap) x.bs 0 _ hwire (Nat.le_refl _) hxl (by omega) oa2 hst.bw
  rw [hNw, hHs] at q
  have hSD : Hid (A.take x.bs = Sd.mk (A.s.taken x.bs) A.sent (A.got ++ [A.s.gotB x.bs])) := by
    show _ = _
    unfold Sd.take Sd.turn Ss.gotB
    rw [hHs, hNw]
    rfl
  have hB0 := hf.both.swap.take hmem
  rw [hSD.out] at hB0
  have hTll : (A.s.takeL x.bs).length ≤ 1001 := takeL_len _ (by have := hf.win; omega)
  generalize A.s.takeL x.bs = TL at *
  generalize A.s.gotB x.bs = GB at *
  have hT' : ∃ TK, A.s.taken x.bs = TK := ⟨_, rfl⟩
  obtain ⟨TK, hTK⟩ := hT'
  rw [hTK] at q hmyT hwnT hB0
  clear hTK hSD hNw hHs
  have hyo : a.Y.length ≤ 400 := by
    have := congrArg List.length hst.ha.wayL
    rw [List.length_map] at this
    omega
  have hgl0 : a.G.length ≤ 1000 := by
    have e := congrArg List.length hst.ha.gotL
    rw [List.length_map] at e
    rw [e]
    have := hf.got
    omega
  obtain ⟨c0, c1, c2, c3, c4, c5, c6, c7⟩ := hst.eight
  go_wp2_with (first
    | (go_at_call 10; refine q.mono ?_; rintro e w10 ⟨v10, P10, F10, sb, lb, cb, rfl, hF10, hT10, hA10⟩; obtain ⟨sl10, cl10, rfl⟩ := hT10.row.form; have hst10 := hst.call_a hA10 hmyT)
    | (refine wpList_store_blk rfl 41 _ _ rfl w10.heap.size 41 _ [.bool false, .bool true, .slice sb lb cb] rfl rfl (blk_new w10 41 #[.bool false, .bool false, .slice none 0 0]) rfl Try.sizeGot (by simp [Value.oneCell']) ?_; intro w11 hb11 hk11 hz11; have kG : Kept [] w10 w11 := (kept_alloc [] w10 (.cells #[.bool false, .bool false, .slice none 0 0] 41)).young hk11 (Nat.le_refl _); have hst11 := hst10.kept0 kG; have g0 : w11.cell? ⟨w10.heap.size, 0, none⟩ = some (.bool false) := (hb11.cell 0).trans rfl; have g1 : w11.cell? ⟨w10.heap.size, 1, none⟩ = some (.bool true) := (hb11.cell 1).trans rfl; obtain ⟨y0, y1⟩ := hst11.two))
  have hTX := (hT10.kept0 kG)
  have hFb0 := hF10 (flat (feet w.heap.size yb { a with F := F10 } b)) (fun k hm => by
    obtain ⟨i, h10, hmi⟩ := flat_mem hm
    by_cases e : i = 0
    · subst e
      exact .inl hmi
    · right
      have hmi2 : k ∈ feet w.heap.size yb a b i := by
        unfold feet at hmi ⊢
        split at hmi <;> first | exact hmi | exact absurd rfl e | exact absurd hmi (by simp [Sv.foot, Sv.sent, Sv.got, Value.ownBlock])
      exact (hst.pool.lt i k hmi2).2)
  have hFb := (hFb0.step kG (K' := (flat (feet w.heap.size yb { a with F := F10 } b))) (by simp) (fun k hm => .inl hm))
  have kdX := kept_drew [] w11
  have hstd := hst11.kept0 kdX
  have hGd := hb11.kept kdX (by simp)
  have hFbd := hFb.step kdX (K' := (flat (feet w.heap.size yb { a with F := F10 } b))) (by simp) (fun k hm => .inl hm)
  have hTXd := hTX.kept0 kdX
  clear hFb hFb0
  have hgl : (a.G : List Bv).length ≤ 1000 := hgl0
  have hnx : w10.heap.size ∉ [w.heap.size] := fun e => by
    rw [List.mem_singleton] at e
    exact hstd.alien hGd notGot 8 (by rw [e]; simp [feet])
  have d3d : w11.drew.cell? ⟨w10.heap.size, 2, none⟩ = some (.slice sb lb cb) := (hGd.cell 2).trans rfl
  have csent : w11.drew.cell? ⟨w.heap.size, 3, none⟩ = some (.slice a.g1 a.G.length a.g3) := (hstd.x.cell 3).trans rfl
  refine wp_region_held_drew (S := fun W => W.cell? ⟨w10.heap.size, 2, none⟩ = some (.slice sb lb cb)) (by kernel_rfl) d3d (fun hP => ?_)
  have hH := hP
  clear hP
  refine wpAnyH_take (i := 0) (oi := ⟨some 194, _, _, _, _, _⟩) (v := (.int .i64 0)) rfl (by kernel_rfl) (by kernel_rfl) (by kernel_rfl) (fun _ _ _ h => h) (Or.inl ⟨by rfl, fun W hSw => by go_simp⟩) hH ?_
  try simp only [Act.put, List.setIfInBounds_toArray, List.set_cons_zero, List.set_cons_succ]
  refine wpAnyH_take (i := 1) (oi := ⟨some 195, _, _, _, _, _⟩) (v := (.int .i64 0)) rfl (by kernel_rfl) (by kernel_rfl) (by kernel_rfl) (fun _ _ _ h => h) (Or.inl ⟨by rfl, fun W hSw => by go_simp⟩) hH ?_
  try simp only [Act.put, List.setIfInBounds_toArray, List.set_cons_zero, List.set_cons_succ]
  refine wpAnyH_take (i := 2) (oi := ⟨some 196, _, _, _, _, _⟩) (v := (.pointer (some ⟨w.heap.size, 0, none⟩))) rfl (by kernel_rfl) (by kernel_rfl) (by kernel_rfl) (fun _ _ _ h => h) (Or.inl ⟨by rfl, fun W hSw => by go_simp⟩) hH ?_
  try simp only [Act.put, List.setIfInBounds_toArray, List.set_cons_zero, List.set_cons_succ]
  refine wpAnyH_take (i := 3) (oi := ⟨some 197, _, _, _, _, _⟩) (v := (.pointer (some ⟨w.heap.size, 3, none⟩))) rfl (by kernel_rfl) (by kernel_rfl) (by kernel_rfl) (fun _ _ _ h => h) (Or.inl ⟨by rfl, fun W hSw => by go_simp⟩) hH ?_
  try simp only [Act.put, List.setIfInBounds_toArray, List.set_cons_zero, List.set_cons_succ]
  refine wpAnyH_take (i := 5) (oi := ⟨some 199, _, _, _, _, _⟩) (v := (.pointer (some ⟨w10.heap.size, 2, none⟩))) rfl (by kernel_rfl) (by kernel_rfl) (by kernel_rfl) (fun _ _ _ h => h) (Or.inl ⟨by rfl, fun W hSw => by go_simp⟩) hH ?_
  try simp only [Act.put, List.setIfInBounds_toArray, List.set_cons_zero, List.set_cons_succ]
  refine wpAnyH_take (i := 6) (oi := ⟨some 200, _, _, _, _, _⟩) (v := (.slice sb lb cb)) rfl (by kernel_rfl) (by kernel_rfl) (by kernel_rfl) (fun _ _ _ h => h) (Or.inl ⟨by rfl, fun W hSw => by go_simp⟩) hH ?_
  try simp only [Act.put, List.setIfInBounds_toArray, List.set_cons_zero, List.set_cons_succ]
  refine wpAnyH_ready (rs := [4, 7]) (by kernel_rfl) (by simp) ?_
  refine AllReadyH.cons (o := ⟨some 198, _, _, _, _, _⟩) rfl (fun KK hKK => ?_) (AllReadyH.cons (o := ⟨some 201, _, _, _, _, _⟩) rfl (fun KK hKK => ?_) AllReadyH.nil)
  · go_simp
    refine hKK.out _ _ d3d (fun _ => ?_)
    clear hKK KK
    try simp only [Act.put, List.setIfInBounds_toArray, List.set_cons_zero, List.set_cons_succ]
    refine wpAnyH_ready (rs := [7]) (by kernel_rfl) (by simp) ?_
    refine AllReadyH.cons (o := ⟨some 201, _, _, _, _, _⟩) rfl (fun KK hKK => ?_) AllReadyH.nil
    go_simp
    have hH1 := ((hGd.kept (kept_alloc [] w11.drew (.cells #[.slice sb lb cb] 34)) (by simp)).cell 2).trans rfl
    refine hKK.out _ _ hH1 (fun _ => ?_)
    replace hH := hH1
    clear hKK KK hH1
    try simp only [Act.put, List.setIfInBounds_toArray, List.set_cons_zero, List.set_cons_succ]
    refine wpAnyH_ready (rs := [8]) (by kernel_rfl) (by simp) ?_
    refine AllReadyH.cons (o := ⟨some 202, _, _, _, _, _⟩) rfl (fun KK hKK => ?_) AllReadyH.nil
    refine step_append_any rfl (.tmp 198) (.tmp 201) rfl w.heap.size (.slice a.g1 a.G.length a.g3) (.slice (some ⟨w11.drew.heap.size, 0, none⟩) 1 1) a.G [⟨sb, lb, cb, GB⟩] (by simp [Act.eval]) (by simp [Act.eval]) (hstd.ha.got.kept0 (kept_alloc [] w11.drew (.cells #[.slice sb lb cb] 34))) (lies_one _ _ (by simp) (cell_one_new _ _ _ 0 _ rfl)) (Nat.le_trans (Nat.add_le_add_right hgl 1) (by decide)) (Nat.le_trans hstd.bw (kept_alloc [] w11.drew (.cells #[.slice sb lb cb] 34)).size) ?_
    intro p1 pn p3 w14 hr14 hk14 hn14
    have hnr : w10.heap.size ∉ (Value.slice a.g1 a.G.length a.g3).ownBlock.toList := fun e => hstd.alien hGd notGot 2 e
    have hG14 := (hGd.kept (kept_alloc [] w11.drew (.cells #[.slice sb lb cb] 34)) (by simp)).kept hk14 hnr
    have hH1 := (hG14.cell 2).trans rfl
    refine hKK.out _ _ hH1 (fun _ => ?_)
    replace hH := hH1
    clear hKK KK hH1
    try simp only [Act.put, List.setIfInBounds_toArray, List.set_cons_zero, List.set_cons_succ]
    refine wpAnyH_take (i := 9) (oi := ⟨some 203, _, _, _, _, _⟩) (v := (.pointer (some ⟨w.heap.size, 0, none⟩))) rfl (by kernel_rfl) (by kernel_rfl) (by kernel_rfl) (fun _ _ _ h => h) (Or.inl ⟨by rfl, fun W hSw => by go_simp⟩) hH ?_
    try simp only [Act.put, List.setIfInBounds_toArray, List.set_cons_zero, List.set_cons_succ]
    refine wpAnyH_take (i := 10) (oi := ⟨some 204, _, _, _, _, _⟩) (v := (.pointer (some ⟨w.heap.size, 3, none⟩))) rfl (by kernel_rfl) (by kernel_rfl) (by kernel_rfl) (fun _ _ _ h => h) (Or.inl ⟨by rfl, fun W hSw => by go_simp⟩) hH ?_
    try simp only [Act.put, List.setIfInBounds_toArray, List.set_cons_zero, List.set_cons_succ]
    refine wpAnyH_ready (rs := [11]) (by kernel_rfl) (by simp) ?_
    refine AllReadyH.cons (o := ⟨none, _, _, _, _, _⟩) rfl (fun KK hKK => ?_) AllReadyH.nil
    have hxo : w.heap.size ∉ (Value.slice a.g1 a.G.length a.g3).ownBlock.toList := fun e => by have := hstd.pool.one 8 2 w.heap.size (by simp [feet]) e; omega
    have hx14 := ((hstd.x.kept (kept_alloc [] w11.drew (.cells #[.slice sb lb cb] 34)) (by simp)).kept hk14 hxo)
    refine step_store_cell rfl 26 (.tmp 204) (.tmp 202) rfl w.heap.size 3 29 _ (.slice p1 pn p3) (by simp [Act.eval]) (by simp [Act.eval]) hx14 (by simp) Outbox.Try.sizeBB rfl ?_
    intro w15 hb15 hk15
    simp only [List.setIfInBounds_toArray, List.set_cons_zero, List.set_cons_succ] at hb15
    have hH1 := ((hG14.kept hk15 hnx).cell 2).trans rfl
    refine hKK.out _ _ hH1 (fun _ => ?_)
    replace hH := hH1
    clear hKK KK hH1
    try simp only [Act.put]
    refine wpAnyH_done (by kernel_rfl) ?_ _
    have kAL := kept_alloc [] w11.drew (.cells #[.slice sb lb cb] 34)
    have hst15 := hstd.got_a (M := [⟨sb, lb, cb, GB⟩]) hr14 ((kAL.mono (by simp)).trans hk14) (fun k e => (hn14.out k e).imp id (fun h => Nat.le_trans kAL.size h)) (fun y hy => by rw [List.mem_singleton] at hy; rw [hy]; exact hFbd) hb15 hk15
    have hoB := hstd.ha.got.noByt
    replace hTX : Told w5.heap.size w15 (.slice sl10 P10.length cl10) P10 TL := by
      have t1 := hTXd.kept0 kAL
      have t2 : Told w5.heap.size w14 (.slice sl10 P10.length cl10) P10 TL := t1.kept hk14 (fun k hm => by
        have := (hst.pool.lt 2 k (hm)).2
        omega) (fun k hm c hc => by
        obtain ⟨cur, hcur⟩ := (hstd.ha.got.kept0 kAL).blk k (Option.mem_toList.1 hm)
        exact blk_ne hc hcur (by decide) rfl)
      exact t2.keptT hk15 (NoByt.cons (Outbox.noByt_nil _) hx14 (by decide)) (NoRow.cons (noRow_nil _) hx14 (by decide))
    obtain ⟨y0, y1⟩ := hst15.two
    go_wp2_with (first
      | (at_builtin; refine wpList_append_any rfl _ _ rfl w.heap.size (.slice a.w1 a.Y.length a.w3) (.slice sl10 P10.length cl10) a.Y P10 rfl rfl hst15.ha.way hTX.row.lies (by have := hTX.len; omega) hst15.bw ?_; intro u1 un u3 w17 hr17 hk17 hn17)
      | (refine Wire.wpList_store_cell rfl 26 _ _ rfl yb 0 33 _ (.slice u1 un u3) rfl rfl (hst15.y.kept hk17 (fun e => by have := hst15.pool.one 9 3 yb (by simp [feet]) e; omega)) (by simp) Outbox.Try.sizeBB rfl ?_; intro w18 hb18 hk18; simp only [List.setIfInBounds_toArray, List.set_cons_zero] at hb18))
    have hst18 := hst15.way_a hr17 hk17 hn17.out (fun y hy => far_byt (hTX.mem y hy) hst15.noFlat) hb18 hk18
    rw [hTX.bs] at hst18
    have hB1 := hB0
    refine ⟨⟨rfl, rfl, by rw [hL1.out]; rfl, by rw [hL2.out]; rfl, by rw [hL3.out]; rfl⟩, _, _, _, _, _, _, hst18, hB1.swap, ?_, ?_, ?_, ?_⟩
    · have := hf.my; exact ⟨Nat.le_trans (Nat.le_of_eq hmyT) (Nat.le_succ_of_le this.1), Nat.le_succ_of_le this.2⟩
    · have := hf.sent; exact ⟨Nat.le_succ_of_le this.1, Nat.le_succ_of_le this.2⟩
    · exact ⟨hwnT.trans hf.win.1, hf.win.2⟩
    · have := hf.got; exact ⟨(by rw [List.length_append]; exact Nat.add_le_add_right this.1 1), Nat.le_succ_of_le this.2⟩
  · go_simp
    refine hKK.out _ _ (((hGd.kept (kept_alloc [] w11.drew (.cells #[.slice sb lb cb] 34)) (by simp)).cell 2).trans rfl) (fun _ => ?_)
    clear hKK KK
    try simp only [Act.put, List.setIfInBounds_toArray, List.set_cons_zero, List.set_cons_succ]
    refine wpAnyH_ready (rs := [4]) (by kernel_rfl) (by simp) ?_
    refine AllReadyH.cons (o := ⟨some 198, _, _, _, _, _⟩) rfl (fun KK hKK => ?_) AllReadyH.nil
    have csent3 : w11.cell? ⟨w.heap.size, 3, none⟩ = some (.slice a.g1 a.G.length a.g3) := csent
    have hxlt : w.heap.size < w11.heap.size := hstd.x.lt
    have hxlt' : w.heap.size < w11.drew.heap.size := hstd.x.lt
    have hxne : ¬ (w.heap.size = w11.heap.size) := by omega
    go_simp
    refine hKK.out _ _ (((hGd.kept (kept_alloc [] w11.drew (.cells #[.slice sb lb cb] 34)) (by simp)).cell 2).trans rfl) (fun _ => ?_)
    clear hKK KK csent3 hxlt hxlt' hxne
    try simp only [Act.put, List.setIfInBounds_toArray, List.set_cons_zero, List.set_cons_succ]
    refine wpAnyH_ready (rs := [8]) (by kernel_rfl) (by simp) ?_
    refine AllReadyH.cons (o := ⟨some 202, _, _, _, _, _⟩) rfl (fun KK hKK => ?_) AllReadyH.nil
    refine step_append_any rfl (.tmp 198) (.tmp 201) rfl w.heap.size (.slice a.g1 a.G.length a.g3) (.slice (some ⟨w11.drew.heap.size, 0, none⟩) 1 1) a.G [⟨sb, lb, cb, GB⟩] (by simp [Act.eval]) (by simp [Act.eval]) (hstd.ha.got.kept0 (kept_alloc [] w11.drew (.cells #[.slice sb lb cb] 34))) (lies_one _ _ (by simp) (cell_one_new _ _ _ 0 _ rfl)) (Nat.le_trans (Nat.add_le_add_right hgl 1) (by decide)) (Nat.le_trans hstd.bw (kept_alloc [] w11.drew (.cells #[.slice sb lb cb] 34)).size) ?_
    intro p1 pn p3 w14 hr14 hk14 hn14
    have hnr : w10.heap.size ∉ (Value.slice a.g1 a.G.length a.g3).ownBlock.toList := fun e => hstd.alien hGd notGot 2 e
    have hG14 := (hGd.kept (kept_alloc [] w11.drew (.cells #[.slice sb lb cb] 34)) (by simp)).kept hk14 hnr
    have hH1 := (hG14.cell 2).trans rfl
    refine hKK.out _ _ hH1 (fun _ => ?_)
    replace hH := hH1
    clear hKK KK hH1
    try simp only [Act.put, List.setIfInBounds_toArray, List.set_cons_zero, List.set_cons_succ]
    refine wpAnyH_take (i := 9) (oi := ⟨some 203, _, _, _, _, _⟩) (v := (.pointer (some ⟨w.heap.size, 0, none⟩))) rfl (by kernel_rfl) (by kernel_rfl) (by kernel_rfl) (fun _ _ _ h => h) (Or.inl ⟨by rfl, fun W hSw => by go_simp⟩) hH ?_
    try simp only [Act.put, List.setIfInBounds_toArray, List.set_cons_zero, List.set_cons_succ]
    refine wpAnyH_take (i := 10) (oi := ⟨some 204, _, _, _, _, _⟩) (v := (.pointer (some ⟨w.heap.size, 3, none⟩))) rfl (by kernel_rfl) (by kernel_rfl) (by kernel_rfl) (fun _ _ _ h => h) (Or.inl ⟨by rfl, fun W hSw => by go_simp⟩) hH ?_
    try simp only [Act.put, List.setIfInBounds_toArray, List.set_cons_zero, List.set_cons_succ]
    refine wpAnyH_ready (rs := [11]) (by kernel_rfl) (by simp) ?_
    refine AllReadyH.cons (o := ⟨none, _, _, _, _, _⟩) rfl (fun KK hKK => ?_) AllReadyH.nil
    have hxo : w.heap.size ∉ (Value.slice a.g1 a.G.length a.g3).ownBlock.toList := fun e => by have := hstd.pool.one 8 2 w.heap.size (by simp [feet]) e; omega
    have hx14 := ((hstd.x.kept (kept_alloc [] w11.drew (.cells #[.slice sb lb cb] 34)) (by simp)).kept hk14 hxo)
    refine step_store_cell rfl 26 (.tmp 204) (.tmp 202) rfl w.heap.size 3 29 _ (.slice p1 pn p3) (by simp [Act.eval]) (by simp [Act.eval]) hx14 (by simp) Outbox.Try.sizeBB rfl ?_
    intro w15 hb15 hk15
    simp only [List.setIfInBounds_toArray, List.set_cons_zero, List.set_cons_succ] at hb15
    have hH1 := ((hG14.kept hk15 hnx).cell 2).trans rfl
    refine hKK.out _ _ hH1 (fun _ => ?_)
    replace hH := hH1
    clear hKK KK hH1
    try simp only [Act.put]
    refine wpAnyH_done (by kernel_rfl) ?_ _
    have kAL := kept_alloc [] w11.drew (.cells #[.slice sb lb cb] 34)
    have hst15 := hstd.got_a (M := [⟨sb, lb, cb, GB⟩]) hr14 ((kAL.mono (by simp)).trans hk14) (fun k e => (hn14.out k e).imp id (fun h => Nat.le_trans kAL.size h)) (fun y hy => by rw [List.mem_singleton] at hy; rw [hy]; exact hFbd) hb15 hk15
    have hoB := hstd.ha.got.noByt
    replace hTX : Told w5.heap.size w15 (.slice sl10 P10.length cl10) P10 TL := by
      have t1 := hTXd.kept0 kAL
      have t2 : Told w5.heap.size w14 (.slice sl10 P10.length cl10) P10 TL := t1.kept hk14 (fun k hm => by
        have := (hst.pool.lt 2 k (hm)).2
        omega) (fun k hm c hc => by
        obtain ⟨cur, hcur⟩ := (hstd.ha.got.kept0 kAL).blk k (Option.mem_toList.1 hm)
        exact blk_ne hc hcur (by decide) rfl)
      exact t2.keptT hk15 (NoByt.cons (Outbox.noByt_nil _) hx14 (by decide)) (NoRow.cons (noRow_nil _) hx14 (by decide))
    obtain ⟨y0, y1⟩ := hst15.two
    go_wp2_with (first
      | (at_builtin; refine wpList_append_any rfl _ _ rfl w.heap.size (.slice a.w1 a.Y.length a.w3) (.slice sl10 P10.length cl10) a.Y P10 rfl rfl hst15.ha.way hTX.row.lies (by have := hTX.len; omega) hst15.bw ?_; intro u1 un u3 w17 hr17 hk17 hn17)
      | (refine Wire.wpList_store_cell rfl 26 _ _ rfl yb 0 33 _ (.slice u1 un u3) rfl rfl (hst15.y.kept hk17 (fun e => by have := hst15.pool.one 9 3 yb (by simp [feet]) e; omega)) (by simp) Outbox.Try.sizeBB rfl ?_; intro w18 hb18 hk18; simp only [List.setIfInBounds_toArray, List.set_cons_zero] at hb18))
    have hst18 := hst15.way_a hr17 hk17 hn17.out (fun y hy => far_byt (hTX.mem y hy) hst15.noFlat) hb18 hk18
    rw [hTX.bs] at hst18
    have hB1 := hB0
    refine ⟨⟨rfl, rfl, by rw [hL1.out]; rfl, by rw [hL2.out]; rfl, by rw [hL3.out]; rfl⟩, _, _, _, _, _, _, hst18, hB1.swap, ?_, ?_, ?_, ?_⟩
    · have := hf.my; exact ⟨Nat.le_trans (Nat.le_of_eq hmyT) (Nat.le_succ_of_le this.1), Nat.le_succ_of_le this.2⟩
    · have := hf.sent; exact ⟨Nat.le_succ_of_le this.1, Nat.le_succ_of_le this.2⟩
    · exact ⟨hwnT.trans hf.win.1, hf.win.2⟩
    · have := hf.got; exact ⟨(by rw [List.length_append]; exact Nat.add_le_add_right this.1 1), Nat.le_succ_of_le this.2⟩
set_option maxRecDepth 100000 in
set_option maxHeartbeats 8000000 in
/-- A packet comes. -/
theorem sw1_come3_new_not (h1 : 1 ≤ m) (h2 : m ≤ 64) (hl : len ≤ 120) (hjl : j + 1 ≤ len) (hst3 : St w w.heap.size w.heap.size yb a b A B wa wb w3) (hf : Far2 m j A B wa wb) (hwa : wa.length ≤ 400) (hwb : wb.length ≤ 400) (hfx : Far (flat (feet w.heap.size yb a b)) w3 t.x) (hNet : Blk w3 nk 36 #[.int .i64 t.k, .int .i64 t.who, .int .i64 t.at', .slice t.x.sa t.x.len t.x.cap]) (hxx : Hid (t.x.len = t.x.bs.length)) (h300 : ¬ (300 < t.x.len)) {N : Nat} {x : Bv} (hk : t.k = 3) (hat : t.at' = (N : Int)) (hx : b.Y[N]? = some x) (hNw : A.s.isNew x.bs = true) (hHs : A.s.has x.bs = false) {c : Code} (hc : Try.f3.body.bind (findB 4) = some c) (hL1 : Hid (L1 = [.int .i64 (m : Int), sl1, v2, v3, v4, .pointer (some ⟨w.heap.size, 0, none⟩), v6, v7, v8, .pointer (some ⟨yb, 0, none⟩), v10, .pointer (some ⟨nk, 0, none⟩), .int .i64 1, .int .i64 0])) (hL2 : Hid (L2 = [v22, v23, v24, v25, v26, v27, v28, v29, v30, v31, v32, v33, v34, v35, v36, v37, v38, v39, v40, v41, v42, v43, v44, v45, v46, v47, v48, v49, sl50])) (hL3 : Hid (L3 = [v286])) :
    Code.wp Try.prog c (SwPost L1 L2 L3 w m j yb) ⟨#[.int .i64 (m : Int), sl1, v2, v3, v4, .pointer (some ⟨w.heap.size, 0, none⟩), v6, v7, v8, .pointer (some ⟨yb, 0, none⟩), v10, .pointer (some ⟨nk, 0, none⟩), .int .i64 1, .int .i64 0, v14, v15, v16, v17, v18, v19, v20, v21, v22, v23, v24, v25, v26, v27, v28, v29, v30, v31, v32, v33, v34, v35, v36, v37, v38, v39, v40, v41, v42, v43, v44, v45, v46, v47, v48, v49, sl50, v51, v52, v53, v54, v55, v56, v57, v58, v59, v60, v61, v62, v63, v64, v65, .int .i64 3, v67, v68, v69, v70, v71, v72, v73, v74, v75, v76, v77, v78, v79, v80, v81, v82, v83, v84, v85, v86, v87, v88, v89, v90, v91, v92, v93, v94, v95, v96, v97, v98, v99, v100, v101, v102, v103, v104, v105, v106, v107, v108, v109, v110, v111, v112, v113, v114, v115, v116, v117, v118, v119, v120, v121, v122, v123, v124, v125, v126, v127, v128, v129, v130, v131, v132, v133, v134, v135, v136, v137, v138, v139, v140, v141, v142, v143, v144, v145, v146, v147, v148, v149, v150, v151, v152, v153, v154, v155, v156, v157, v158, v159, v160, v161, v162, v163, v164, v165, v166, v167, v168, v169, v170, v171, v172, v173, v174, v175, v176, v177, v178, v179, v180, v181, v182, v183, v184, v185, v186, v187, v188, v189, v190, v191, v192, v193, v194, v195, v196, v197, v198, v199, v200, v201, v202, v203, v204, v205, v206, v207, v208, v209, v210, v211, v212, v213, v214, v215, v216, v217, v218, v219, v220, v221, v222, v223, v224, v225, v226, v227, v228, v229, v230, v231, v232, v233, v234, v235, v236, v237, v238, v239, v240, v241, v242, v243, v244, v245, v246, v247, v248, v249, v250, v251, v252, v253, v254, v255, v256, v257, v258, v259, v260, v261, v262, v263, v264, v265, v266, v267, v268, v269, v270, v271, v272, v273, v274, v275, v276, v277, v278, v279, v280, v281, v282, v283, v284, v285, v286], []⟩ w3 := by
  have d0 : w3.cell? ⟨nk, 0, none⟩ = some (.int .i64 t.k) := (hNet.cell 0).trans rfl
  have d1 : w3.cell? ⟨nk, 1, none⟩ = some (.int .i64 t.who) := (hNet.cell 1).trans rfl
  have d2 : w3.cell? ⟨nk, 2, none⟩ = some (.int .i64 t.at') := (hNet.cell 2).trans rfl
  have d3 : w3.cell? ⟨nk, 3, none⟩ = some (.slice t.x.sa t.x.len t.x.cap) := (hNet.cell 3).trans rfl
  obtain ⟨⟨oa1, oa2⟩, ob1, ob2⟩ := hf.ob (by omega)
  conv at hc => lhs; whnf
  injection hc with hc
  subst hc
  rw [hk] at d0
  clear hk
  rw [hat] at d2
  have hNl : N < b.Y.length := (List.getElem?_eq_some_iff.1 hx).1
  have i1 : ¬ ((N : Int) < 0) := by omega
  have i2 : ¬ ((b.Y.length : Int) ≤ (N : Int)) := by omega
  have i3 : (N : Int) < (b.Y.length : Int) := by omega
  have hyl : b.Y.length ≤ 400 := by
    have := congrArg List.length hst3.hb.wayL
    rw [List.length_map] at this
    omega
  have hyI : (b.Y.length : Int) ≤ 400 := by omega
  obtain ⟨g, off, ew, ce⟩ := hst3.hb.way.lies.at N x hx
  have cy : w3.cell? ⟨yb, 1, none⟩ = some (.slice (some ⟨g, off, none⟩) b.Y.length b.w3) := by rw [← ew]; exact hst3.two.2
  have hrow0 : Lies w3 (.slice (some ⟨g, off, none⟩) b.Y.length b.w3) b.Y := by rw [← ew]; exact hst3.hb.way.lies
  have c : ∀ n, (w3.drewN n).cell? ⟨yb, 1, none⟩ = some (.slice (some ⟨g, off, none⟩) b.Y.length b.w3) := fun n => cy
  have u : ∀ n, (w3.drewN n).cell? ⟨nk, 2, none⟩ = some (.int .i64 (N : Int)) := fun n => d2
  go_wp2_with fail
  go_quiet (fail)
  have kq_w4 := kept_drewN [] w3 nq
  obtain ⟨w4, hq_w4⟩ : ∃ w4, w3.drewN nq = w4 := ⟨_, rfl⟩
  rw [hq_w4] at kq_w4 ⊢
  clear hq_w4 nq
  clear c u
  have c : ∀ n, (w4.drewN n).cell? ⟨yb, 1, none⟩ = some (.slice (some ⟨g, off, none⟩) b.Y.length b.w3) := fun n => (World.cell?_of_block (kq_w4.block yb hst3.y.lt (by simp))).trans cy
  have u : ∀ n, (w4.drewN n).cell? ⟨nk, 2, none⟩ = some (.int .i64 (N : Int)) := fun n => (World.cell?_of_block (kq_w4.block nk hNet.lt (by simp))).trans d2
  have ce4 : ∀ n, (w4.drewN n).cell? ⟨g, off + N, none⟩ = some (.slice x.sa x.len x.cap) := fun n => (World.cell?_of_block (kq_w4.block g (hst3.hb.way.lt g (by simp [Sv.way, ew, Value.ownBlock])).2 (by simp))).trans ce
  go_wp2_with fail
  go_quiet (fail)
  have kq_w5 := kept_drewN [] w4 nq
  obtain ⟨w5, hq_w5⟩ : ∃ w5, w4.drewN nq = w5 := ⟨_, rfl⟩
  rw [hq_w5] at kq_w5 ⊢
  clear hq_w5 nq
  clear c u ce4 ce cy
  have kq := kq_w4.trans kq_w5
  have hst5 := hst3.kept0 kq
  have hNet5 := hNet.kept kq (by simp)
  have hfx5 := (hst5.hb.wayF x (List.mem_of_getElem? hx))
  have hrow5 := hrow0.kept kq (by simp)
  have cy5 : w5.cell? ⟨yb, 1, none⟩ = some (.slice (some ⟨g, off, none⟩) b.Y.length b.w3) := by rw [← ew]; exact hst5.two.2
  have cn0 : w5.cell? ⟨nk, 0, none⟩ = some (.int .i64 3) := (World.cell?_of_block (kq.block nk hNet.lt (by simp))).trans d0
  have cn2 : w5.cell? ⟨nk, 2, none⟩ = some (.int .i64 (N : Int)) := (World.cell?_of_block (kq.block nk hNet.lt (by simp))).trans d2
  have hmem : x.bs ∈ wb := by rw [← hst3.hb.wayL]; exact List.mem_map_of_mem (List.mem_of_getElem? hx)
  clear d0 d1 d2 d3 kq_w4 kq_w5 hrow0
  have hnyb : nk ∉ [yb] := fun e => hst5.alien hNet5 notNet 9 (by rw [List.mem_singleton] at e; rw [e]; simp [feet])
  have hxl : x.bs.length ≤ 1000 := by
    obtain ⟨p, _, e, _⟩ := hf.both.ba.ok x.bs hmem
    rw [e]
    have := Wire.bytesL_len p
    omega
  go_upto_region 38 with fail
  have hst := hst5
  have hwire := hfx5.wire
  clear hst5 cy5 cn0 cn2 hrow5
  have hmyT : (A.s.taken x.bs).my = A.s.my := (taken_is A.s x.bs).1
  have hwnT : (A.s.taken x.bs).ob.w = A.s.ob.w := taken_w A.s x.bs
  have q := take_any w5 hst.ha.ss (.slice x.sa x.len x.cap) x.bs 0 _ hwire (Nat.le_refl _) hxl (by omega) oa2 hst.bw
  rw [hNw, hHs] at q
  have hSD : Hid (A.take x.bs = Sd.mk (A.s.taken x.bs) [] []) := by
    show _ = _
    unfold Sd.take Sd.turn
    rw [hHs, hNw]
    rfl
  have hB0 := hf.both.swap.take hmem
  rw [hSD.out] at hB0
  have hTll : (A.s.takeL x.bs).length ≤ 1001 := takeL_len _ (by have := hf.win; omega)
  generalize A.s.takeL x.bs = TL at *
  generalize A.s.gotB x.bs = GB at *
  have hT' : ∃ TK, A.s.taken x.bs = TK := ⟨_, rfl⟩
  obtain ⟨TK, hTK⟩ := hT'
  rw [hTK] at q hmyT hwnT hB0
  clear hTK hSD hNw hHs
  have hyo : a.Y.length ≤ 400 := by
    have := congrArg List.length hst.ha.wayL
    rw [List.length_map] at this
    omega
  obtain ⟨c0, c1, c2, c3, c4, c5, c6, c7⟩ := hst.eight
  go_wp2_with (first
    | (go_at_call 10; refine q.mono ?_; rintro e w10 ⟨v10, P10, F10, sb, lb, cb, rfl, hF10, hT10, hA10⟩; obtain ⟨sl10, cl10, rfl⟩ := hT10.row.form; have hst10 := hst.call_a hA10 hmyT)
    | (refine wpList_store_blk rfl 41 _ _ rfl w10.heap.size 41 _ [.bool true, .bool false, .slice sb lb cb] rfl rfl (blk_new w10 41 #[.bool false, .bool false, .slice none 0 0]) rfl Try.sizeGot (by simp [Value.oneCell']) ?_; intro w11 hb11 hk11 hz11; have kG : Kept [] w10 w11 := (kept_alloc [] w10 (.cells #[.bool false, .bool false, .slice none 0 0] 41)).young hk11 (Nat.le_refl _); have hst11 := hst10.kept0 kG; have g0 : w11.cell? ⟨w10.heap.size, 0, none⟩ = some (.bool true) := (hb11.cell 0).trans rfl; have g1 : w11.cell? ⟨w10.heap.size, 1, none⟩ = some (.bool false) := (hb11.cell 1).trans rfl)
    | (refine Wire.wpList_store_cell rfl 26 _ _ rfl w.heap.size 2 29 _ (.slice none 0 0) rfl rfl hst11.x (by simp) Outbox.Try.sizeBB rfl ?_; intro w12 hb12 hk12; simp only [List.setIfInBounds_toArray, List.set_cons_zero, List.set_cons_succ] at hb12)
    | (refine Wire.wpList_store_cell rfl 26 _ _ rfl w.heap.size 3 29 _ (.slice none 0 0) rfl rfl hb12 (by simp) Outbox.Try.sizeBB rfl ?_; intro w13 hb13 hk13; simp only [List.setIfInBounds_toArray, List.set_cons_zero, List.set_cons_succ] at hb13; have kX := hk12.trans hk13; have hst13 := hst11.fresh_a hb13 kX; have hb13g := hb11.kept kX (fun e => hst11.alien hb11 notGot 8 (by rw [List.mem_singleton] at e; rw [e]; simp [feet])); have g1' : w13.cell? ⟨w10.heap.size, 1, none⟩ = some (.bool false) := (hb13g.cell 1).trans rfl; have hTX := ((hT10.kept0 kG).keptT kX (hst11.noByt 8) (NoRow.cons (noRow_nil _) hst11.x (by decide))); obtain ⟨y0, y1⟩ := hst13.two)
    | (at_builtin; refine wpList_append_any rfl _ _ rfl w.heap.size (.slice a.w1 a.Y.length a.w3) (.slice sl10 P10.length cl10) a.Y P10 rfl rfl hst13.ha.way hTX.row.lies (by have := hTX.len; omega) hst13.bw ?_; intro u1 un u3 w17 hr17 hk17 hn17)
    | (refine Wire.wpList_store_cell rfl 26 _ _ rfl yb 0 33 _ (.slice u1 un u3) rfl rfl (hst13.y.kept hk17 (fun e => by have := hst13.pool.one 9 3 yb (by simp [feet]) e; omega)) (by simp) Outbox.Try.sizeBB rfl ?_; intro w18 hb18 hk18; simp only [List.setIfInBounds_toArray, List.set_cons_zero] at hb18))
  have hst18 := hst13.way_a hr17 hk17 hn17.out (fun y hy => far_byt (hTX.mem y hy) hst13.noFlat) hb18 hk18
  rw [hTX.bs] at hst18
  have hB1 := hB0
  refine ⟨⟨rfl, rfl, by rw [hL1.out]; rfl, by rw [hL2.out]; rfl, by rw [hL3.out]; rfl⟩, _, _, _, _, _, _, hst18, hB1.swap, ?_, ?_, ?_, ?_⟩
  · have := hf.my; exact ⟨Nat.le_trans (Nat.le_of_eq hmyT) (Nat.le_succ_of_le this.1), Nat.le_succ_of_le this.2⟩
  · have := hf.sent; exact ⟨Nat.zero_le _, Nat.le_succ_of_le this.2⟩
  · exact ⟨hwnT.trans hf.win.1, hf.win.2⟩
  · have := hf.got; exact ⟨Nat.zero_le _, Nat.le_succ_of_le this.2⟩
set_option maxRecDepth 100000 in
set_option maxHeartbeats 8000000 in
/-- A packet comes. -/
theorem sw1_come3_new_has (h1 : 1 ≤ m) (h2 : m ≤ 64) (hl : len ≤ 120) (hjl : j + 1 ≤ len) (hst3 : St w w.heap.size w.heap.size yb a b A B wa wb w3) (hf : Far2 m j A B wa wb) (hwa : wa.length ≤ 400) (hwb : wb.length ≤ 400) (hfx : Far (flat (feet w.heap.size yb a b)) w3 t.x) (hNet : Blk w3 nk 36 #[.int .i64 t.k, .int .i64 t.who, .int .i64 t.at', .slice t.x.sa t.x.len t.x.cap]) (hxx : Hid (t.x.len = t.x.bs.length)) (h300 : ¬ (300 < t.x.len)) {N : Nat} {x : Bv} (hk : t.k = 3) (hat : t.at' = (N : Int)) (hx : b.Y[N]? = some x) (hNw : A.s.isNew x.bs = true) (hHs : A.s.has x.bs = true) {c : Code} (hc : Try.f3.body.bind (findB 4) = some c) (hL1 : Hid (L1 = [.int .i64 (m : Int), sl1, v2, v3, v4, .pointer (some ⟨w.heap.size, 0, none⟩), v6, v7, v8, .pointer (some ⟨yb, 0, none⟩), v10, .pointer (some ⟨nk, 0, none⟩), .int .i64 1, .int .i64 0])) (hL2 : Hid (L2 = [v22, v23, v24, v25, v26, v27, v28, v29, v30, v31, v32, v33, v34, v35, v36, v37, v38, v39, v40, v41, v42, v43, v44, v45, v46, v47, v48, v49, sl50])) (hL3 : Hid (L3 = [v286])) :
    Code.wp Try.prog c (SwPost L1 L2 L3 w m j yb) ⟨#[.int .i64 (m : Int), sl1, v2, v3, v4, .pointer (some ⟨w.heap.size, 0, none⟩), v6, v7, v8, .pointer (some ⟨yb, 0, none⟩), v10, .pointer (some ⟨nk, 0, none⟩), .int .i64 1, .int .i64 0, v14, v15, v16, v17, v18, v19, v20, v21, v22, v23, v24, v25, v26, v27, v28, v29, v30, v31, v32, v33, v34, v35, v36, v37, v38, v39, v40, v41, v42, v43, v44, v45, v46, v47, v48, v49, sl50, v51, v52, v53, v54, v55, v56, v57, v58, v59, v60, v61, v62, v63, v64, v65, .int .i64 3, v67, v68, v69, v70, v71, v72, v73, v74, v75, v76, v77, v78, v79, v80, v81, v82, v83, v84, v85, v86, v87, v88, v89, v90, v91, v92, v93, v94, v95, v96, v97, v98, v99, v100, v101, v102, v103, v104, v105, v106, v107, v108, v109, v110, v111, v112, v113, v114, v115, v116, v117, v118, v119, v120, v121, v122, v123, v124, v125, v126, v127, v128, v129, v130, v131, v132, v133, v134, v135, v136, v137, v138, v139, v140, v141, v142, v143, v144, v145, v146, v147, v148, v149, v150, v151, v152, v153, v154, v155, v156, v157, v158, v159, v160, v161, v162, v163, v164, v165, v166, v167, v168, v169, v170, v171, v172, v173, v174, v175, v176, v177, v178, v179, v180, v181, v182, v183, v184, v185, v186, v187, v188, v189, v190, v191, v192, v193, v194, v195, v196, v197, v198, v199, v200, v201, v202, v203, v204, v205, v206, v207, v208, v209, v210, v211, v212, v213, v214, v215, v216, v217, v218, v219, v220, v221, v222, v223, v224, v225, v226, v227, v228, v229, v230, v231, v232, v233, v234, v235, v236, v237, v238, v239, v240, v241, v242, v243, v244, v245, v246, v247, v248, v249, v250, v251, v252, v253, v254, v255, v256, v257, v258, v259, v260, v261, v262, v263, v264, v265, v266, v267, v268, v269, v270, v271, v272, v273, v274, v275, v276, v277, v278, v279, v280, v281, v282, v283, v284, v285, v286], []⟩ w3 := by
  have d0 : w3.cell? ⟨nk, 0, none⟩ = some (.int .i64 t.k) := (hNet.cell 0).trans rfl
  have d1 : w3.cell? ⟨nk, 1, none⟩ = some (.int .i64 t.who) := (hNet.cell 1).trans rfl
  have d2 : w3.cell? ⟨nk, 2, none⟩ = some (.int .i64 t.at') := (hNet.cell 2).trans rfl
  have d3 : w3.cell? ⟨nk, 3, none⟩ = some (.slice t.x.sa t.x.len t.x.cap) := (hNet.cell 3).trans rfl
  obtain ⟨⟨oa1, oa2⟩, ob1, ob2⟩ := hf.ob (by omega)
  conv at hc => lhs; whnf
  injection hc with hc
  subst hc
  rw [hk] at d0
  clear hk
  rw [hat] at d2
  have hNl : N < b.Y.length := (List.getElem?_eq_some_iff.1 hx).1
  have i1 : ¬ ((N : Int) < 0) := by omega
  have i2 : ¬ ((b.Y.length : Int) ≤ (N : Int)) := by omega
  have i3 : (N : Int) < (b.Y.length : Int) := by omega
  have hyl : b.Y.length ≤ 400 := by
    have := congrArg List.length hst3.hb.wayL
    rw [List.length_map] at this
    omega
  have hyI : (b.Y.length : Int) ≤ 400 := by omega
  obtain ⟨g, off, ew, ce⟩ := hst3.hb.way.lies.at N x hx
  have cy : w3.cell? ⟨yb, 1, none⟩ = some (.slice (some ⟨g, off, none⟩) b.Y.length b.w3) := by rw [← ew]; exact hst3.two.2
  have hrow0 : Lies w3 (.slice (some ⟨g, off, none⟩) b.Y.length b.w3) b.Y := by rw [← ew]; exact hst3.hb.way.lies
  have c : ∀ n, (w3.drewN n).cell? ⟨yb, 1, none⟩ = some (.slice (some ⟨g, off, none⟩) b.Y.length b.w3) := fun n => cy
  have u : ∀ n, (w3.drewN n).cell? ⟨nk, 2, none⟩ = some (.int .i64 (N : Int)) := fun n => d2
  go_wp2_with fail
  go_quiet (fail)
  have kq_w4 := kept_drewN [] w3 nq
  obtain ⟨w4, hq_w4⟩ : ∃ w4, w3.drewN nq = w4 := ⟨_, rfl⟩
  rw [hq_w4] at kq_w4 ⊢
  clear hq_w4 nq
  clear c u
  have c : ∀ n, (w4.drewN n).cell? ⟨yb, 1, none⟩ = some (.slice (some ⟨g, off, none⟩) b.Y.length b.w3) := fun n => (World.cell?_of_block (kq_w4.block yb hst3.y.lt (by simp))).trans cy
  have u : ∀ n, (w4.drewN n).cell? ⟨nk, 2, none⟩ = some (.int .i64 (N : Int)) := fun n => (World.cell?_of_block (kq_w4.block nk hNet.lt (by simp))).trans d2
  have ce4 : ∀ n, (w4.drewN n).cell? ⟨g, off + N, none⟩ = some (.slice x.sa x.len x.cap) := fun n => (World.cell?_of_block (kq_w4.block g (hst3.hb.way.lt g (by simp [Sv.way, ew, Value.ownBlock])).2 (by simp))).trans ce
  go_wp2_with fail
  go_quiet (fail)
  have kq_w5 := kept_drewN [] w4 nq
  obtain ⟨w5, hq_w5⟩ : ∃ w5, w4.drewN nq = w5 := ⟨_, rfl⟩
  rw [hq_w5] at kq_w5 ⊢
  clear hq_w5 nq
  clear c u ce4 ce cy
  have kq := kq_w4.trans kq_w5
  have hst5 := hst3.kept0 kq
  have hNet5 := hNet.kept kq (by simp)
  have hfx5 := (hst5.hb.wayF x (List.mem_of_getElem? hx))
  have hrow5 := hrow0.kept kq (by simp)
  have cy5 : w5.cell? ⟨yb, 1, none⟩ = some (.slice (some ⟨g, off, none⟩) b.Y.length b.w3) := by rw [← ew]; exact hst5.two.2
  have cn0 : w5.cell? ⟨nk, 0, none⟩ = some (.int .i64 3) := (World.cell?_of_block (kq.block nk hNet.lt (by simp))).trans d0
  have cn2 : w5.cell? ⟨nk, 2, none⟩ = some (.int .i64 (N : Int)) := (World.cell?_of_block (kq.block nk hNet.lt (by simp))).trans d2
  have hmem : x.bs ∈ wb := by rw [← hst3.hb.wayL]; exact List.mem_map_of_mem (List.mem_of_getElem? hx)
  clear d0 d1 d2 d3 kq_w4 kq_w5 hrow0
  have hnyb : nk ∉ [yb] := fun e => hst5.alien hNet5 notNet 9 (by rw [List.mem_singleton] at e; rw [e]; simp [feet])
  have hxl : x.bs.length ≤ 1000 := by
    obtain ⟨p, _, e, _⟩ := hf.both.ba.ok x.bs hmem
    rw [e]
    have := Wire.bytesL_len p
    omega
  go_upto_region 38 with fail
  have hst := hst5
  have hwire := hfx5.wire
  clear hst5 cy5 cn0 cn2 hrow5
  have hmyT : (A.s.taken x.bs).my = A.s.my := (taken_is A.s x.bs).1
  have hwnT : (A.s.taken x.bs).ob.w = A.s.ob.w := taken_w A.s x.bs
  have q := take_any w5 hst.ha.ss (.slice x.sa x.len x.cap) x.bs 0 _ hwire (Nat.le_refl _) hxl (by omega) oa2 hst.bw
  rw [hNw, hHs] at q
  have hSD : Hid (A.take x.bs = Sd.mk (A.s.taken x.bs) [] ([] ++ [A.s.gotB x.bs])) := by
    show _ = _
    unfold Sd.take Sd.turn Ss.gotB
    rw [hHs, hNw]
    rfl
  have hB0 := hf.both.swap.take hmem
  rw [hSD.out] at hB0
  have hTll : (A.s.takeL x.bs).length ≤ 1001 := takeL_len _ (by have := hf.win; omega)
  generalize A.s.takeL x.bs = TL at *
  generalize A.s.gotB x.bs = GB at *
  have hT' : ∃ TK, A.s.taken x.bs = TK := ⟨_, rfl⟩
  obtain ⟨TK, hTK⟩ := hT'
  rw [hTK] at q hmyT hwnT hB0
  clear hTK hSD hNw hHs
  have hyo : a.Y.length ≤ 400 := by
    have := congrArg List.length hst.ha.wayL
    rw [List.length_map] at this
    omega
  obtain ⟨c0, c1, c2, c3, c4, c5, c6, c7⟩ := hst.eight
  go_wp2_with (first
    | (go_at_call 10; refine q.mono ?_; rintro e w10 ⟨v10, P10, F10, sb, lb, cb, rfl, hF10, hT10, hA10⟩; obtain ⟨sl10, cl10, rfl⟩ := hT10.row.form; have hst10 := hst.call_a hA10 hmyT)
    | (refine wpList_store_blk rfl 41 _ _ rfl w10.heap.size 41 _ [.bool true, .bool true, .slice sb lb cb] rfl rfl (blk_new w10 41 #[.bool false, .bool false, .slice none 0 0]) rfl Try.sizeGot (by simp [Value.oneCell']) ?_; intro w11 hb11 hk11 hz11; have kG : Kept [] w10 w11 := (kept_alloc [] w10 (.cells #[.bool false, .bool false, .slice none 0 0] 41)).young hk11 (Nat.le_refl _); have hst11 := hst10.kept0 kG; have g0 : w11.cell? ⟨w10.heap.size, 0, none⟩ = some (.bool true) := (hb11.cell 0).trans rfl; have g1 : w11.cell? ⟨w10.heap.size, 1, none⟩ = some (.bool true) := (hb11.cell 1).trans rfl)
    | (refine Wire.wpList_store_cell rfl 26 _ _ rfl w.heap.size 2 29 _ (.slice none 0 0) rfl rfl hst11.x (by simp) Outbox.Try.sizeBB rfl ?_; intro w12 hb12 hk12; simp only [List.setIfInBounds_toArray, List.set_cons_zero, List.set_cons_succ] at hb12)
    | (refine Wire.wpList_store_cell rfl 26 _ _ rfl w.heap.size 3 29 _ (.slice none 0 0) rfl rfl hb12 (by simp) Outbox.Try.sizeBB rfl ?_; intro w13 hb13 hk13; simp only [List.setIfInBounds_toArray, List.set_cons_zero, List.set_cons_succ] at hb13; have kX := hk12.trans hk13; have hst13 := hst11.fresh_a hb13 kX; have hb13g := hb11.kept kX (fun e => hst11.alien hb11 notGot 8 (by rw [List.mem_singleton] at e; rw [e]; simp [feet])); have g1' : w13.cell? ⟨w10.heap.size, 1, none⟩ = some (.bool true) := (hb13g.cell 1).trans rfl; obtain ⟨y0, y1⟩ := hst13.two))
  have hTX := ((hT10.kept0 kG).keptT kX (hst11.noByt 8) (NoRow.cons (noRow_nil _) hst11.x (by decide)))
  have hFb0 := hF10 (flat (feet w.heap.size yb { a with F := F10, s1 := none, s3 := 0, S := [], g1 := none, g3 := 0, G := [] } b)) (fun k hm => by
    obtain ⟨i, h10, hmi⟩ := flat_mem hm
    by_cases e : i = 0
    · subst e
      exact .inl hmi
    · right
      have hmi2 : k ∈ feet w.heap.size yb a b i := by
        unfold feet at hmi ⊢
        split at hmi <;> first | exact hmi | exact absurd rfl e | exact absurd hmi (by simp [Sv.foot, Sv.sent, Sv.got, Value.ownBlock])
      exact (hst.pool.lt i k hmi2).2)
  have hFb := ((hFb0.step kG (K' := (flat (feet w.heap.size yb { a with F := F10, s1 := none, s3 := 0, S := [], g1 := none, g3 := 0, G := [] } b))) (by simp) (fun k hm => .inl hm)).step kX (K' := (flat (feet w.heap.size yb { a with F := F10, s1 := none, s3 := 0, S := [], g1 := none, g3 := 0, G := [] } b))) (fun k hm => by rw [List.mem_singleton] at hm; rw [hm]; exact mem_flat (i := 8) (by decide) (by simp [feet])) (fun k hm => .inl hm))
  have kdX := kept_drew [] w13
  have hstd := hst13.kept0 kdX
  have hGd := hb13g.kept kdX (by simp)
  have hFbd := hFb.step kdX (K' := (flat (feet w.heap.size yb { a with F := F10, s1 := none, s3 := 0, S := [], g1 := none, g3 := 0, G := [] } b))) (by simp) (fun k hm => .inl hm)
  have hTXd := hTX.kept0 kdX
  clear hFb hFb0
  have hgl : ([] : List Bv).length ≤ 1000 := by simp
  have hnx : w10.heap.size ∉ [w.heap.size] := fun e => by
    rw [List.mem_singleton] at e
    exact hstd.alien hGd notGot 8 (by rw [e]; simp [feet])
  have d3d : w13.drew.cell? ⟨w10.heap.size, 2, none⟩ = some (.slice sb lb cb) := (hGd.cell 2).trans rfl
  have csent : w13.drew.cell? ⟨w.heap.size, 3, none⟩ = some (.slice none 0 0) := (hstd.x.cell 3).trans rfl
  refine wp_region_held_drew (S := fun W => W.cell? ⟨w10.heap.size, 2, none⟩ = some (.slice sb lb cb)) (by kernel_rfl) d3d (fun hP => ?_)
  have hH := hP
  clear hP
  refine wpAnyH_take (i := 0) (oi := ⟨some 194, _, _, _, _, _⟩) (v := (.int .i64 0)) rfl (by kernel_rfl) (by kernel_rfl) (by kernel_rfl) (fun _ _ _ h => h) (Or.inl ⟨by rfl, fun W hSw => by go_simp⟩) hH ?_
  try simp only [Act.put, List.setIfInBounds_toArray, List.set_cons_zero, List.set_cons_succ]
  refine wpAnyH_take (i := 1) (oi := ⟨some 195, _, _, _, _, _⟩) (v := (.int .i64 0)) rfl (by kernel_rfl) (by kernel_rfl) (by kernel_rfl) (fun _ _ _ h => h) (Or.inl ⟨by rfl, fun W hSw => by go_simp⟩) hH ?_
  try simp only [Act.put, List.setIfInBounds_toArray, List.set_cons_zero, List.set_cons_succ]
  refine wpAnyH_take (i := 2) (oi := ⟨some 196, _, _, _, _, _⟩) (v := (.pointer (some ⟨w.heap.size, 0, none⟩))) rfl (by kernel_rfl) (by kernel_rfl) (by kernel_rfl) (fun _ _ _ h => h) (Or.inl ⟨by rfl, fun W hSw => by go_simp⟩) hH ?_
  try simp only [Act.put, List.setIfInBounds_toArray, List.set_cons_zero, List.set_cons_succ]
  refine wpAnyH_take (i := 3) (oi := ⟨some 197, _, _, _, _, _⟩) (v := (.pointer (some ⟨w.heap.size, 3, none⟩))) rfl (by kernel_rfl) (by kernel_rfl) (by kernel_rfl) (fun _ _ _ h => h) (Or.inl ⟨by rfl, fun W hSw => by go_simp⟩) hH ?_
  try simp only [Act.put, List.setIfInBounds_toArray, List.set_cons_zero, List.set_cons_succ]
  refine wpAnyH_take (i := 5) (oi := ⟨some 199, _, _, _, _, _⟩) (v := (.pointer (some ⟨w10.heap.size, 2, none⟩))) rfl (by kernel_rfl) (by kernel_rfl) (by kernel_rfl) (fun _ _ _ h => h) (Or.inl ⟨by rfl, fun W hSw => by go_simp⟩) hH ?_
  try simp only [Act.put, List.setIfInBounds_toArray, List.set_cons_zero, List.set_cons_succ]
  refine wpAnyH_take (i := 6) (oi := ⟨some 200, _, _, _, _, _⟩) (v := (.slice sb lb cb)) rfl (by kernel_rfl) (by kernel_rfl) (by kernel_rfl) (fun _ _ _ h => h) (Or.inl ⟨by rfl, fun W hSw => by go_simp⟩) hH ?_
  try simp only [Act.put, List.setIfInBounds_toArray, List.set_cons_zero, List.set_cons_succ]
  refine wpAnyH_ready (rs := [4, 7]) (by kernel_rfl) (by simp) ?_
  refine AllReadyH.cons (o := ⟨some 198, _, _, _, _, _⟩) rfl (fun KK hKK => ?_) (AllReadyH.cons (o := ⟨some 201, _, _, _, _, _⟩) rfl (fun KK hKK => ?_) AllReadyH.nil)
  · go_simp
    refine hKK.out _ _ d3d (fun _ => ?_)
    clear hKK KK
    try simp only [Act.put, List.setIfInBounds_toArray, List.set_cons_zero, List.set_cons_succ]
    refine wpAnyH_ready (rs := [7]) (by kernel_rfl) (by simp) ?_
    refine AllReadyH.cons (o := ⟨some 201, _, _, _, _, _⟩) rfl (fun KK hKK => ?_) AllReadyH.nil
    go_simp
    have hH1 := ((hGd.kept (kept_alloc [] w13.drew (.cells #[.slice sb lb cb] 34)) (by simp)).cell 2).trans rfl
    refine hKK.out _ _ hH1 (fun _ => ?_)
    replace hH := hH1
    clear hKK KK hH1
    try simp only [Act.put, List.setIfInBounds_toArray, List.set_cons_zero, List.set_cons_succ]
    refine wpAnyH_ready (rs := [8]) (by kernel_rfl) (by simp) ?_
    refine AllReadyH.cons (o := ⟨some 202, _, _, _, _, _⟩) rfl (fun KK hKK => ?_) AllReadyH.nil
    refine step_append_any rfl (.tmp 198) (.tmp 201) rfl w.heap.size (.slice none 0 0) (.slice (some ⟨w13.drew.heap.size, 0, none⟩) 1 1) [] [⟨sb, lb, cb, GB⟩] (by simp [Act.eval]) (by simp [Act.eval]) (hstd.ha.got.kept0 (kept_alloc [] w13.drew (.cells #[.slice sb lb cb] 34))) (lies_one _ _ (by simp) (cell_one_new _ _ _ 0 _ rfl)) (Nat.le_trans (Nat.add_le_add_right hgl 1) (by decide)) (Nat.le_trans hstd.bw (kept_alloc [] w13.drew (.cells #[.slice sb lb cb] 34)).size) ?_
    intro p1 pn p3 w14 hr14 hk14 hn14
    have hnr : w10.heap.size ∉ (Value.slice none 0 0).ownBlock.toList := fun e => hstd.alien hGd notGot 2 e
    have hG14 := (hGd.kept (kept_alloc [] w13.drew (.cells #[.slice sb lb cb] 34)) (by simp)).kept hk14 hnr
    have hH1 := (hG14.cell 2).trans rfl
    refine hKK.out _ _ hH1 (fun _ => ?_)
    replace hH := hH1
    clear hKK KK hH1
    try simp only [Act.put, List.setIfInBounds_toArray, List.set_cons_zero, List.set_cons_succ]
    refine wpAnyH_take (i := 9) (oi := ⟨some 203, _, _, _, _, _⟩) (v := (.pointer (some ⟨w.heap.size, 0, none⟩))) rfl (by kernel_rfl) (by kernel_rfl) (by kernel_rfl) (fun _ _ _ h => h) (Or.inl ⟨by rfl, fun W hSw => by go_simp⟩) hH ?_
    try simp only [Act.put, List.setIfInBounds_toArray, List.set_cons_zero, List.set_cons_succ]
    refine wpAnyH_take (i := 10) (oi := ⟨some 204, _, _, _, _, _⟩) (v := (.pointer (some ⟨w.heap.size, 3, none⟩))) rfl (by kernel_rfl) (by kernel_rfl) (by kernel_rfl) (fun _ _ _ h => h) (Or.inl ⟨by rfl, fun W hSw => by go_simp⟩) hH ?_
    try simp only [Act.put, List.setIfInBounds_toArray, List.set_cons_zero, List.set_cons_succ]
    refine wpAnyH_ready (rs := [11]) (by kernel_rfl) (by simp) ?_
    refine AllReadyH.cons (o := ⟨none, _, _, _, _, _⟩) rfl (fun KK hKK => ?_) AllReadyH.nil
    have hxo : w.heap.size ∉ (Value.slice none 0 0).ownBlock.toList := fun e => by have := hstd.pool.one 8 2 w.heap.size (by simp [feet]) e; omega
    have hx14 := ((hstd.x.kept (kept_alloc [] w13.drew (.cells #[.slice sb lb cb] 34)) (by simp)).kept hk14 hxo)
    refine step_store_cell rfl 26 (.tmp 204) (.tmp 202) rfl w.heap.size 3 29 _ (.slice p1 pn p3) (by simp [Act.eval]) (by simp [Act.eval]) hx14 (by simp) Outbox.Try.sizeBB rfl ?_
    intro w15 hb15 hk15
    simp only [List.setIfInBounds_toArray, List.set_cons_zero, List.set_cons_succ] at hb15
    have hH1 := ((hG14.kept hk15 hnx).cell 2).trans rfl
    refine hKK.out _ _ hH1 (fun _ => ?_)
    replace hH := hH1
    clear hKK KK hH1
    try simp only [Act.put]
    refine wpAnyH_done (by kernel_rfl) ?_ _
    have kAL := kept_alloc [] w13.drew (.cells #[.slice sb lb cb] 34)
    have hst15 := hstd.got_a (M := [⟨sb, lb, cb, GB⟩]) hr14 ((kAL.mono (by simp)).trans hk14) (fun k e => (hn14.out k e).imp id (fun h => Nat.le_trans kAL.size h)) (fun y hy => by rw [List.mem_singleton] at hy; rw [hy]; exact hFbd) hb15 hk15
    have hoB := hstd.ha.got.noByt
    replace hTX : Told w5.heap.size w15 (.slice sl10 P10.length cl10) P10 TL := by
      have t1 := hTXd.kept0 kAL
      have t2 : Told w5.heap.size w14 (.slice sl10 P10.length cl10) P10 TL := t1.kept hk14 (fun k hm => by
        have := (hst.pool.lt 2 k (by simp [Value.ownBlock] at hm)).2
        omega) (fun k hm c hc => by
        obtain ⟨cur, hcur⟩ := (hstd.ha.got.kept0 kAL).blk k (Option.mem_toList.1 hm)
        exact blk_ne hc hcur (by decide) rfl)
      exact t2.keptT hk15 (NoByt.cons (Outbox.noByt_nil _) hx14 (by decide)) (NoRow.cons (noRow_nil _) hx14 (by decide))
    obtain ⟨y0, y1⟩ := hst15.two
    go_wp2_with (first
      | (at_builtin; refine wpList_append_any rfl _ _ rfl w.heap.size (.slice a.w1 a.Y.length a.w3) (.slice sl10 P10.length cl10) a.Y P10 rfl rfl hst15.ha.way hTX.row.lies (by have := hTX.len; omega) hst15.bw ?_; intro u1 un u3 w17 hr17 hk17 hn17)
      | (refine Wire.wpList_store_cell rfl 26 _ _ rfl yb 0 33 _ (.slice u1 un u3) rfl rfl (hst15.y.kept hk17 (fun e => by have := hst15.pool.one 9 3 yb (by simp [feet]) e; omega)) (by simp) Outbox.Try.sizeBB rfl ?_; intro w18 hb18 hk18; simp only [List.setIfInBounds_toArray, List.set_cons_zero] at hb18))
    have hst18 := hst15.way_a hr17 hk17 hn17.out (fun y hy => far_byt (hTX.mem y hy) hst15.noFlat) hb18 hk18
    rw [hTX.bs] at hst18
    have hB1 := hB0
    refine ⟨⟨rfl, rfl, by rw [hL1.out]; rfl, by rw [hL2.out]; rfl, by rw [hL3.out]; rfl⟩, _, _, _, _, _, _, hst18, hB1.swap, ?_, ?_, ?_, ?_⟩
    · have := hf.my; exact ⟨Nat.le_trans (Nat.le_of_eq hmyT) (Nat.le_succ_of_le this.1), Nat.le_succ_of_le this.2⟩
    · have := hf.sent; exact ⟨Nat.zero_le _, Nat.le_succ_of_le this.2⟩
    · exact ⟨hwnT.trans hf.win.1, hf.win.2⟩
    · have := hf.got; exact ⟨by simp, Nat.le_succ_of_le this.2⟩
  · go_simp
    refine hKK.out _ _ (((hGd.kept (kept_alloc [] w13.drew (.cells #[.slice sb lb cb] 34)) (by simp)).cell 2).trans rfl) (fun _ => ?_)
    clear hKK KK
    try simp only [Act.put, List.setIfInBounds_toArray, List.set_cons_zero, List.set_cons_succ]
    refine wpAnyH_ready (rs := [4]) (by kernel_rfl) (by simp) ?_
    refine AllReadyH.cons (o := ⟨some 198, _, _, _, _, _⟩) rfl (fun KK hKK => ?_) AllReadyH.nil
    have csent3 : w13.cell? ⟨w.heap.size, 3, none⟩ = some (.slice none 0 0) := csent
    have hxlt : w.heap.size < w13.heap.size := hstd.x.lt
    have hxlt' : w.heap.size < w13.drew.heap.size := hstd.x.lt
    have hxne : ¬ (w.heap.size = w13.heap.size) := by omega
    go_simp
    refine hKK.out _ _ (((hGd.kept (kept_alloc [] w13.drew (.cells #[.slice sb lb cb] 34)) (by simp)).cell 2).trans rfl) (fun _ => ?_)
    clear hKK KK csent3 hxlt hxlt' hxne
    try simp only [Act.put, List.setIfInBounds_toArray, List.set_cons_zero, List.set_cons_succ]
    refine wpAnyH_ready (rs := [8]) (by kernel_rfl) (by simp) ?_
    refine AllReadyH.cons (o := ⟨some 202, _, _, _, _, _⟩) rfl (fun KK hKK => ?_) AllReadyH.nil
    refine step_append_any rfl (.tmp 198) (.tmp 201) rfl w.heap.size (.slice none 0 0) (.slice (some ⟨w13.drew.heap.size, 0, none⟩) 1 1) [] [⟨sb, lb, cb, GB⟩] (by simp [Act.eval]) (by simp [Act.eval]) (hstd.ha.got.kept0 (kept_alloc [] w13.drew (.cells #[.slice sb lb cb] 34))) (lies_one _ _ (by simp) (cell_one_new _ _ _ 0 _ rfl)) (Nat.le_trans (Nat.add_le_add_right hgl 1) (by decide)) (Nat.le_trans hstd.bw (kept_alloc [] w13.drew (.cells #[.slice sb lb cb] 34)).size) ?_
    intro p1 pn p3 w14 hr14 hk14 hn14
    have hnr : w10.heap.size ∉ (Value.slice none 0 0).ownBlock.toList := fun e => hstd.alien hGd notGot 2 e
    have hG14 := (hGd.kept (kept_alloc [] w13.drew (.cells #[.slice sb lb cb] 34)) (by simp)).kept hk14 hnr
    have hH1 := (hG14.cell 2).trans rfl
    refine hKK.out _ _ hH1 (fun _ => ?_)
    replace hH := hH1
    clear hKK KK hH1
    try simp only [Act.put, List.setIfInBounds_toArray, List.set_cons_zero, List.set_cons_succ]
    refine wpAnyH_take (i := 9) (oi := ⟨some 203, _, _, _, _, _⟩) (v := (.pointer (some ⟨w.heap.size, 0, none⟩))) rfl (by kernel_rfl) (by kernel_rfl) (by kernel_rfl) (fun _ _ _ h => h) (Or.inl ⟨by rfl, fun W hSw => by go_simp⟩) hH ?_
    try simp only [Act.put, List.setIfInBounds_toArray, List.set_cons_zero, List.set_cons_succ]
    refine wpAnyH_take (i := 10) (oi := ⟨some 204, _, _, _, _, _⟩) (v := (.pointer (some ⟨w.heap.size, 3, none⟩))) rfl (by kernel_rfl) (by kernel_rfl) (by kernel_rfl) (fun _ _ _ h => h) (Or.inl ⟨by rfl, fun W hSw => by go_simp⟩) hH ?_
    try simp only [Act.put, List.setIfInBounds_toArray, List.set_cons_zero, List.set_cons_succ]
    refine wpAnyH_ready (rs := [11]) (by kernel_rfl) (by simp) ?_
    refine AllReadyH.cons (o := ⟨none, _, _, _, _, _⟩) rfl (fun KK hKK => ?_) AllReadyH.nil
    have hxo : w.heap.size ∉ (Value.slice none 0 0).ownBlock.toList := fun e => by have := hstd.pool.one 8 2 w.heap.size (by simp [feet]) e; omega
    have hx14 := ((hstd.x.kept (kept_alloc [] w13.drew (.cells #[.slice sb lb cb] 34)) (by simp)).kept hk14 hxo)
    refine step_store_cell rfl 26 (.tmp 204) (.tmp 202) rfl w.heap.size 3 29 _ (.slice p1 pn p3) (by simp [Act.eval]) (by simp [Act.eval]) hx14 (by simp) Outbox.Try.sizeBB rfl ?_
    intro w15 hb15 hk15
    simp only [List.setIfInBounds_toArray, List.set_cons_zero, List.set_cons_succ] at hb15
    have hH1 := ((hG14.kept hk15 hnx).cell 2).trans rfl
    refine hKK.out _ _ hH1 (fun _ => ?_)
    replace hH := hH1
    clear hKK KK hH1
    try simp only [Act.put]
    refine wpAnyH_done (by kernel_rfl) ?_ _
    have kAL := kept_alloc [] w13.drew (.cells #[.slice sb lb cb] 34)
    have hst15 := hstd.got_a (M := [⟨sb, lb, cb, GB⟩]) hr14 ((kAL.mono (by simp)).trans hk14) (fun k e => (hn14.out k e).imp id (fun h => Nat.le_trans kAL.size h)) (fun y hy => by rw [List.mem_singleton] at hy; rw [hy]; exact hFbd) hb15 hk15
    have hoB := hstd.ha.got.noByt
    replace hTX : Told w5.heap.size w15 (.slice sl10 P10.length cl10) P10 TL := by
      have t1 := hTXd.kept0 kAL
      have t2 : Told w5.heap.size w14 (.slice sl10 P10.length cl10) P10 TL := t1.kept hk14 (fun k hm => by
        have := (hst.pool.lt 2 k (by simp [Value.ownBlock] at hm)).2
        omega) (fun k hm c hc => by
        obtain ⟨cur, hcur⟩ := (hstd.ha.got.kept0 kAL).blk k (Option.mem_toList.1 hm)
        exact blk_ne hc hcur (by decide) rfl)
      exact t2.keptT hk15 (NoByt.cons (Outbox.noByt_nil _) hx14 (by decide)) (NoRow.cons (noRow_nil _) hx14 (by decide))
    obtain ⟨y0, y1⟩ := hst15.two
    go_wp2_with (first
      | (at_builtin; refine wpList_append_any rfl _ _ rfl w.heap.size (.slice a.w1 a.Y.length a.w3) (.slice sl10 P10.length cl10) a.Y P10 rfl rfl hst15.ha.way hTX.row.lies (by have := hTX.len; omega) hst15.bw ?_; intro u1 un u3 w17 hr17 hk17 hn17)
      | (refine Wire.wpList_store_cell rfl 26 _ _ rfl yb 0 33 _ (.slice u1 un u3) rfl rfl (hst15.y.kept hk17 (fun e => by have := hst15.pool.one 9 3 yb (by simp [feet]) e; omega)) (by simp) Outbox.Try.sizeBB rfl ?_; intro w18 hb18 hk18; simp only [List.setIfInBounds_toArray, List.set_cons_zero] at hb18))
    have hst18 := hst15.way_a hr17 hk17 hn17.out (fun y hy => far_byt (hTX.mem y hy) hst15.noFlat) hb18 hk18
    rw [hTX.bs] at hst18
    have hB1 := hB0
    refine ⟨⟨rfl, rfl, by rw [hL1.out]; rfl, by rw [hL2.out]; rfl, by rw [hL3.out]; rfl⟩, _, _, _, _, _, _, hst18, hB1.swap, ?_, ?_, ?_, ?_⟩
    · have := hf.my; exact ⟨Nat.le_trans (Nat.le_of_eq hmyT) (Nat.le_succ_of_le this.1), Nat.le_succ_of_le this.2⟩
    · have := hf.sent; exact ⟨Nat.zero_le _, Nat.le_succ_of_le this.2⟩
    · exact ⟨hwnT.trans hf.win.1, hf.win.2⟩
    · have := hf.got; exact ⟨by simp, Nat.le_succ_of_le this.2⟩
end Go.Proofs.Ytnbkbakbjllmcaa.Session
