/-
  SessionOrder: a tick, a start anew, nothing.
-/
import Derived.Test.YtnbkbakbjllmcaaSsP
import Derived.Deep.CutRange
import Derived.Deep.CutBlock
namespace Go.Proofs.Ytnbkbakbjllmcaa.Session
open Go.RowKit
open Outbox (Ob nums OutAt Bv Byt NoByt RowAt NRow)
open Wire (Ps Pv bytesL parseM parseE)
set_option linter.unusedVariables false

variable {m j len : Nat} {w w3 : World} {yb nk : Nat} {a b : Sv} {A B : Sd} {wa wb : List (List Nat)} {t : Nt} {L1 L2 L3 : List Value} {sl1 sl50 v2 v3 v4 v6 v7 v8 v10 v14 v15 v16 v17 v18 v19 v20 v21 v22 v23 v24 v25 v26 v27 v28 v29 v30 v31 v32 v33 v34 v35 v36 v37 v38 v39 v40 v41 v42 v43 v44 v45 v46 v47 v48 v49 v51 v52 v53 v54 v55 v56 v57 v58 v59 v60 v61 v62 v63 v64 v65 v67 v68 v69 v70 v71 v72 v73 v74 v75 v76 v77 v78 v79 v80 v81 v82 v83 v84 v85 v86 v87 v88 v89 v90 v91 v92 v93 v94 v95 v96 v97 v98 v99 v100 v101 v102 v103 v104 v105 v106 v107 v108 v109 v110 v111 v112 v113 v114 v115 v116 v117 v118 v119 v120 v121 v122 v123 v124 v125 v126 v127 v128 v129 v130 v131 v132 v133 v134 v135 v136 v137 v138 v139 v140 v141 v142 v143 v144 v145 v146 v147 v148 v149 v150 v151 v152 v153 v154 v155 v156 v157 v158 v159 v160 v161 v162 v163 v164 v165 v166 v167 v168 v169 v170 v171 v172 v173 v174 v175 v176 v177 v178 v179 v180 v181 v182 v183 v184 v185 v186 v187 v188 v189 v190 v191 v192 v193 v194 v195 v196 v197 v198 v199 v200 v201 v202 v203 v204 v205 v206 v207 v208 v209 v210 v211 v212 v213 v214 v215 v216 v217 v218 v219 v220 v221 v222 v223 v224 v225 v226 v227 v228 v229 v230 v231 v232 v233 v234 v235 v236 v237 v238 v239 v240 v241 v242 v243 v244 v245 v246 v247 v248 v249 v250 v251 v252 v253 v254 v255 v256 v257 v258 v259 v260 v261 v262 v263 v264 v265 v266 v267 v268 v269 v270 v271 v272 v273 v274 v275 v276 v277 v278 v279 v280 v281 v282 v283 v284 v285 v286 : Value}
set_option maxRecDepth 100000 in
set_option maxHeartbeats 8000000 in
/-- A tick of side 0. -/
theorem sw0_tick (h1 : 1 ≤ m) (h2 : m ≤ 64) (hl : len ≤ 120) (hjl : j + 1 ≤ len) (hst3 : St w w.heap.size w.heap.size yb a b A B wa wb w3) (hf : Far2 m j A B wa wb) (hwa : wa.length ≤ 400) (hwb : wb.length ≤ 400) (hfx : Far (flat (feet w.heap.size yb a b)) w3 t.x) (hNet : Blk w3 nk 36 #[.int .i64 t.k, .int .i64 t.who, .int .i64 t.at', .slice t.x.sa t.x.len t.x.cap]) (hxx : Hid (t.x.len = t.x.bs.length)) (h300 : ¬ (300 < t.x.len)) (hk1 : t.k = 1) {c : Code} (hc : Try.f3.body.bind (findB 4) = some c) (hL1 : Hid (L1 = [.int .i64 (m : Int), sl1, v2, v3, v4, .pointer (some ⟨w.heap.size, 0, none⟩), v6, v7, v8, .pointer (some ⟨yb, 0, none⟩), v10, .pointer (some ⟨nk, 0, none⟩), .int .i64 0, .int .i64 1])) (hL2 : Hid (L2 = [v22, v23, v24, v25, v26, v27, v28, v29, v30, v31, v32, v33, v34, v35, v36, v37, v38, v39, v40, v41, v42, v43, v44, v45, v46, v47, v48, v49, sl50])) (hL3 : Hid (L3 = [v286])) :
    Code.wp Try.prog c (SwPost L1 L2 L3 w m j yb) ⟨#[.int .i64 (m : Int), sl1, v2, v3, v4, .pointer (some ⟨w.heap.size, 0, none⟩), v6, v7, v8, .pointer (some ⟨yb, 0, none⟩), v10, .pointer (some ⟨nk, 0, none⟩), .int .i64 0, .int .i64 1, v14, v15, v16, v17, v18, v19, v20, v21, v22, v23, v24, v25, v26, v27, v28, v29, v30, v31, v32, v33, v34, v35, v36, v37, v38, v39, v40, v41, v42, v43, v44, v45, v46, v47, v48, v49, sl50, v51, v52, v53, v54, v55, v56, v57, v58, v59, v60, v61, v62, v63, v64, v65, .int .i64 1, v67, v68, v69, v70, v71, v72, v73, v74, v75, v76, v77, v78, v79, v80, v81, v82, v83, v84, v85, v86, v87, v88, v89, v90, v91, v92, v93, v94, v95, v96, v97, v98, v99, v100, v101, v102, v103, v104, v105, v106, v107, v108, v109, v110, v111, v112, v113, v114, v115, v116, v117, v118, v119, v120, v121, v122, v123, v124, v125, v126, v127, v128, v129, v130, v131, v132, v133, v134, v135, v136, v137, v138, v139, v140, v141, v142, v143, v144, v145, v146, v147, v148, v149, v150, v151, v152, v153, v154, v155, v156, v157, v158, v159, v160, v161, v162, v163, v164, v165, v166, v167, v168, v169, v170, v171, v172, v173, v174, v175, v176, v177, v178, v179, v180, v181, v182, v183, v184, v185, v186, v187, v188, v189, v190, v191, v192, v193, v194, v195, v196, v197, v198, v199, v200, v201, v202, v203, v204, v205, v206, v207, v208, v209, v210, v211, v212, v213, v214, v215, v216, v217, v218, v219, v220, v221, v222, v223, v224, v225, v226, v227, v228, v229, v230, v231, v232, v233, v234, v235, v236, v237, v238, v239, v240, v241, v242, v243, v244, v245, v246, v247, v248, v249, v250, v251, v252, v253, v254, v255, v256, v257, v258, v259, v260, v261, v262, v263, v264, v265, v266, v267, v268, v269, v270, v271, v272, v273, v274, v275, v276, v277, v278, v279, v280, v281, v282, v283, v284, v285, v286], []⟩ w3 := by
  have d0 : w3.cell? ⟨nk, 0, none⟩ = some (.int .i64 t.k) := (hNet.cell 0).trans rfl
  have d1 : w3.cell? ⟨nk, 1, none⟩ = some (.int .i64 t.who) := (hNet.cell 1).trans rfl
  have d2 : w3.cell? ⟨nk, 2, none⟩ = some (.int .i64 t.at') := (hNet.cell 2).trans rfl
  have d3 : w3.cell? ⟨nk, 3, none⟩ = some (.slice t.x.sa t.x.len t.x.cap) := (hNet.cell 3).trans rfl
  obtain ⟨⟨oa1, oa2⟩, ob1, ob2⟩ := hf.ob (by omega)
  conv at hc => lhs; whnf
  injection hc with hc
  subst hc
  rw [hk1] at d0
  clear hk1
  obtain ⟨TL, hTL⟩ : ∃ TL, Hid (A.s.tickL = TL) := ⟨_, rfl⟩
  have hTl : TL.length ≤ 1000 := by rw [← hTL.out]; exact tickL_len (by have := hf.win; omega)
  have qt := tick_any w3 hst3.ha.ss (by omega) oa2
  rw [hTL.out] at qt
  have hyl : a.Y.length ≤ 400 := by
    have := congrArg List.length hst3.ha.wayL
    rw [List.length_map] at this
    omega
  obtain ⟨c0, c1, c2, c3, c4, c5, c6, c7⟩ := hst3.eight
  go_wp2_with (first
    | (go_at_call 9; refine qt.mono ?_; rintro e w6 ⟨v6, P6, rfl, hT6, hA6⟩; obtain ⟨sl6, cl6, rfl⟩ := hT6.row.form; have hst6 := hst3.call_a hA6 rfl; have hl6 : P6.length ≤ 1000 := (by have := hT6.len; omega); obtain ⟨y0, y1⟩ := hst6.two)
    | (at_builtin; refine wpList_append_any rfl _ _ rfl w.heap.size (.slice a.w1 a.Y.length a.w3) (.slice sl6 P6.length cl6) a.Y P6 rfl rfl hst6.ha.way hT6.row.lies (by omega) hst6.bw ?_; intro u1 un u3 w7 hr7 hk7 hn7)
    | (refine Wire.wpList_store_cell rfl 26 _ _ rfl yb 0 33 _ (.slice u1 un u3) rfl rfl (hst6.y.kept hk7 (fun e => by have := hst6.pool.one 9 3 yb (by simp [feet]) e; omega)) (by simp) Outbox.Try.sizeBB rfl ?_; intro w8 hb8 hk8; simp only [List.setIfInBounds_toArray, List.set_cons_zero] at hb8))
  have hst8 := hst6.way_a hr7 hk7 hn7.out (fun x hx => far_byt (hT6.mem x hx) hst6.noFlat) hb8 hk8
  rw [hT6.bs, ← hTL.out] at hst8
  refine ⟨⟨rfl, rfl, by rw [hL1.out]; rfl, by rw [hL2.out]; rfl, by rw [hL3.out]; rfl⟩, _, _, _, _, _, _, hst8, hf.both.ticked, ?_, ?_, ?_, ?_⟩
  · have := hf.my; exact ⟨Nat.le_succ_of_le this.1, Nat.le_succ_of_le this.2⟩
  · have := hf.sent; exact ⟨Nat.le_succ_of_le this.1, Nat.le_succ_of_le this.2⟩
  · exact hf.win
  · have := hf.got; exact ⟨Nat.le_succ_of_le this.1, Nat.le_succ_of_le this.2⟩
set_option maxRecDepth 100000 in
set_option maxHeartbeats 8000000 in
/-- A tick of side 1. -/
theorem sw1_tick (h1 : 1 ≤ m) (h2 : m ≤ 64) (hl : len ≤ 120) (hjl : j + 1 ≤ len) (hst3 : St w w.heap.size w.heap.size yb a b A B wa wb w3) (hf : Far2 m j A B wa wb) (hwa : wa.length ≤ 400) (hwb : wb.length ≤ 400) (hfx : Far (flat (feet w.heap.size yb a b)) w3 t.x) (hNet : Blk w3 nk 36 #[.int .i64 t.k, .int .i64 t.who, .int .i64 t.at', .slice t.x.sa t.x.len t.x.cap]) (hxx : Hid (t.x.len = t.x.bs.length)) (h300 : ¬ (300 < t.x.len)) (hk1 : t.k = 1) {c : Code} (hc : Try.f3.body.bind (findB 4) = some c) (hL1 : Hid (L1 = [.int .i64 (m : Int), sl1, v2, v3, v4, .pointer (some ⟨w.heap.size, 0, none⟩), v6, v7, v8, .pointer (some ⟨yb, 0, none⟩), v10, .pointer (some ⟨nk, 0, none⟩), .int .i64 1, .int .i64 0])) (hL2 : Hid (L2 = [v22, v23, v24, v25, v26, v27, v28, v29, v30, v31, v32, v33, v34, v35, v36, v37, v38, v39, v40, v41, v42, v43, v44, v45, v46, v47, v48, v49, sl50])) (hL3 : Hid (L3 = [v286])) :
    Code.wp Try.prog c (SwPost L1 L2 L3 w m j yb) ⟨#[.int .i64 (m : Int), sl1, v2, v3, v4, .pointer (some ⟨w.heap.size, 0, none⟩), v6, v7, v8, .pointer (some ⟨yb, 0, none⟩), v10, .pointer (some ⟨nk, 0, none⟩), .int .i64 1, .int .i64 0, v14, v15, v16, v17, v18, v19, v20, v21, v22, v23, v24, v25, v26, v27, v28, v29, v30, v31, v32, v33, v34, v35, v36, v37, v38, v39, v40, v41, v42, v43, v44, v45, v46, v47, v48, v49, sl50, v51, v52, v53, v54, v55, v56, v57, v58, v59, v60, v61, v62, v63, v64, v65, .int .i64 1, v67, v68, v69, v70, v71, v72, v73, v74, v75, v76, v77, v78, v79, v80, v81, v82, v83, v84, v85, v86, v87, v88, v89, v90, v91, v92, v93, v94, v95, v96, v97, v98, v99, v100, v101, v102, v103, v104, v105, v106, v107, v108, v109, v110, v111, v112, v113, v114, v115, v116, v117, v118, v119, v120, v121, v122, v123, v124, v125, v126, v127, v128, v129, v130, v131, v132, v133, v134, v135, v136, v137, v138, v139, v140, v141, v142, v143, v144, v145, v146, v147, v148, v149, v150, v151, v152, v153, v154, v155, v156, v157, v158, v159, v160, v161, v162, v163, v164, v165, v166, v167, v168, v169, v170, v171, v172, v173, v174, v175, v176, v177, v178, v179, v180, v181, v182, v183, v184, v185, v186, v187, v188, v189, v190, v191, v192, v193, v194, v195, v196, v197, v198, v199, v200, v201, v202, v203, v204, v205, v206, v207, v208, v209, v210, v211, v212, v213, v214, v215, v216, v217, v218, v219, v220, v221, v222, v223, v224, v225, v226, v227, v228, v229, v230, v231, v232, v233, v234, v235, v236, v237, v238, v239, v240, v241, v242, v243, v244, v245, v246, v247, v248, v249, v250, v251, v252, v253, v254, v255, v256, v257, v258, v259, v260, v261, v262, v263, v264, v265, v266, v267, v268, v269, v270, v271, v272, v273, v274, v275, v276, v277, v278, v279, v280, v281, v282, v283, v284, v285, v286], []⟩ w3 := by
  have d0 : w3.cell? ⟨nk, 0, none⟩ = some (.int .i64 t.k) := (hNet.cell 0).trans rfl
  have d1 : w3.cell? ⟨nk, 1, none⟩ = some (.int .i64 t.who) := (hNet.cell 1).trans rfl
  have d2 : w3.cell? ⟨nk, 2, none⟩ = some (.int .i64 t.at') := (hNet.cell 2).trans rfl
  have d3 : w3.cell? ⟨nk, 3, none⟩ = some (.slice t.x.sa t.x.len t.x.cap) := (hNet.cell 3).trans rfl
  obtain ⟨⟨oa1, oa2⟩, ob1, ob2⟩ := hf.ob (by omega)
  conv at hc => lhs; whnf
  injection hc with hc
  subst hc
  rw [hk1] at d0
  clear hk1
  obtain ⟨TL, hTL⟩ : ∃ TL, Hid (B.s.tickL = TL) := ⟨_, rfl⟩
  have hTl : TL.length ≤ 1000 := by rw [← hTL.out]; exact tickL_len (by have := hf.win; omega)
  have qt := tick_any w3 hst3.hb.ss (by omega) ob2
  rw [hTL.out] at qt
  have hyl : b.Y.length ≤ 400 := by
    have := congrArg List.length hst3.hb.wayL
    rw [List.length_map] at this
    omega
  obtain ⟨c0, c1, c2, c3, c4, c5, c6, c7⟩ := hst3.eight
  go_wp2_with (first
    | (go_at_call 9; refine qt.mono ?_; rintro e w6 ⟨v6, P6, rfl, hT6, hA6⟩; obtain ⟨sl6, cl6, rfl⟩ := hT6.row.form; have hst6 := hst3.call_b hA6 rfl; have hl6 : P6.length ≤ 1000 := (by have := hT6.len; omega); obtain ⟨y0, y1⟩ := hst6.two)
    | (at_builtin; refine wpList_append_any rfl _ _ rfl w.heap.size (.slice b.w1 b.Y.length b.w3) (.slice sl6 P6.length cl6) b.Y P6 rfl rfl hst6.hb.way hT6.row.lies (by omega) hst6.bw ?_; intro u1 un u3 w7 hr7 hk7 hn7)
    | (refine Wire.wpList_store_cell rfl 26 _ _ rfl yb 1 33 _ (.slice u1 un u3) rfl rfl (hst6.y.kept hk7 (fun e => by have := hst6.pool.one 9 7 yb (by simp [feet]) e; omega)) (by simp) Outbox.Try.sizeBB rfl ?_; intro w8 hb8 hk8; simp only [List.setIfInBounds_toArray, List.set_cons_zero, List.set_cons_succ] at hb8))
  have hst8 := hst6.way_b hr7 hk7 hn7.out (fun x hx => far_byt (hT6.mem x hx) hst6.noFlat) hb8 hk8
  rw [hT6.bs, ← hTL.out] at hst8
  refine ⟨⟨rfl, rfl, by rw [hL1.out]; rfl, by rw [hL2.out]; rfl, by rw [hL3.out]; rfl⟩, _, _, _, _, _, _, hst8, hf.both.swap.ticked.swap, ?_, ?_, ?_, ?_⟩
  · have := hf.my; exact ⟨Nat.le_succ_of_le this.1, Nat.le_succ_of_le this.2⟩
  · have := hf.sent; exact ⟨Nat.le_succ_of_le this.1, Nat.le_succ_of_le this.2⟩
  · exact hf.win
  · have := hf.got; exact ⟨Nat.le_succ_of_le this.1, Nat.le_succ_of_le this.2⟩
set_option maxRecDepth 100000 in
set_option maxHeartbeats 8000000 in
/-- Side 0 is started anew. -/
theorem sw0_again (h1 : 1 ≤ m) (h2 : m ≤ 64) (hl : len ≤ 120) (hjl : j + 1 ≤ len) (hst3 : St w w.heap.size w.heap.size yb a b A B wa wb w3) (hf : Far2 m j A B wa wb) (hwa : wa.length ≤ 400) (hwb : wb.length ≤ 400) (hfx : Far (flat (feet w.heap.size yb a b)) w3 t.x) (hNet : Blk w3 nk 36 #[.int .i64 t.k, .int .i64 t.who, .int .i64 t.at', .slice t.x.sa t.x.len t.x.cap]) (hxx : Hid (t.x.len = t.x.bs.length)) (h300 : ¬ (300 < t.x.len)) (hk5 : t.k = 5) {c : Code} (hc : Try.f3.body.bind (findB 4) = some c) (hL1 : Hid (L1 = [.int .i64 (m : Int), sl1, v2, v3, v4, .pointer (some ⟨w.heap.size, 0, none⟩), v6, v7, v8, .pointer (some ⟨yb, 0, none⟩), v10, .pointer (some ⟨nk, 0, none⟩), .int .i64 0, .int .i64 1])) (hL2 : Hid (L2 = [v22, v23, v24, v25, v26, v27, v28, v29, v30, v31, v32, v33, v34, v35, v36, v37, v38, v39, v40, v41, v42, v43, v44, v45, v46, v47, v48, v49, sl50])) (hL3 : Hid (L3 = [v286])) :
    Code.wp Try.prog c (SwPost L1 L2 L3 w m j yb) ⟨#[.int .i64 (m : Int), sl1, v2, v3, v4, .pointer (some ⟨w.heap.size, 0, none⟩), v6, v7, v8, .pointer (some ⟨yb, 0, none⟩), v10, .pointer (some ⟨nk, 0, none⟩), .int .i64 0, .int .i64 1, v14, v15, v16, v17, v18, v19, v20, v21, v22, v23, v24, v25, v26, v27, v28, v29, v30, v31, v32, v33, v34, v35, v36, v37, v38, v39, v40, v41, v42, v43, v44, v45, v46, v47, v48, v49, sl50, v51, v52, v53, v54, v55, v56, v57, v58, v59, v60, v61, v62, v63, v64, v65, .int .i64 5, v67, v68, v69, v70, v71, v72, v73, v74, v75, v76, v77, v78, v79, v80, v81, v82, v83, v84, v85, v86, v87, v88, v89, v90, v91, v92, v93, v94, v95, v96, v97, v98, v99, v100, v101, v102, v103, v104, v105, v106, v107, v108, v109, v110, v111, v112, v113, v114, v115, v116, v117, v118, v119, v120, v121, v122, v123, v124, v125, v126, v127, v128, v129, v130, v131, v132, v133, v134, v135, v136, v137, v138, v139, v140, v141, v142, v143, v144, v145, v146, v147, v148, v149, v150, v151, v152, v153, v154, v155, v156, v157, v158, v159, v160, v161, v162, v163, v164, v165, v166, v167, v168, v169, v170, v171, v172, v173, v174, v175, v176, v177, v178, v179, v180, v181, v182, v183, v184, v185, v186, v187, v188, v189, v190, v191, v192, v193, v194, v195, v196, v197, v198, v199, v200, v201, v202, v203, v204, v205, v206, v207, v208, v209, v210, v211, v212, v213, v214, v215, v216, v217, v218, v219, v220, v221, v222, v223, v224, v225, v226, v227, v228, v229, v230, v231, v232, v233, v234, v235, v236, v237, v238, v239, v240, v241, v242, v243, v244, v245, v246, v247, v248, v249, v250, v251, v252, v253, v254, v255, v256, v257, v258, v259, v260, v261, v262, v263, v264, v265, v266, v267, v268, v269, v270, v271, v272, v273, v274, v275, v276, v277, v278, v279, v280, v281, v282, v283, v284, v285, v286], []⟩ w3 := by
  have d0 : w3.cell? ⟨nk, 0, none⟩ = some (.int .i64 t.k) := (hNet.cell 0).trans rfl
  have d1 : w3.cell? ⟨nk, 1, none⟩ = some (.int .i64 t.who) := (hNet.cell 1).trans rfl
  have d2 : w3.cell? ⟨nk, 2, none⟩ = some (.int .i64 t.at') := (hNet.cell 2).trans rfl
  have d3 : w3.cell? ⟨nk, 3, none⟩ = some (.slice t.x.sa t.x.len t.x.cap) := (hNet.cell 3).trans rfl
  obtain ⟨⟨oa1, oa2⟩, ob1, ob2⟩ := hf.ob (by omega)
  conv at hc => lhs; whnf
  injection hc with hc
  subst hc
  rw [hk5] at d0
  clear hk5
  have hmy : A.s.my ≤ 1000 := by have := hf.my; omega
  have hmyI : (A.s.my : Int) ≤ 1000 := by omega
  have qn := new_any (A.s.my + 1) m 5 (by omega) (by omega) h1 h2 (by omega) (by omega) w3
  rw [Int.natCast_add, Int.natCast_one] at qn
  replace qn : Calls Try.prog 6 #[.int .u32 ((A.s.my : Int) + 1), .int .i64 (m : Int), .int .i64 5] w3 fun e w' => ∃ F : Foot, e = .returned (.tuple #[.pointer (some ⟨F.o, 0, none⟩), .int .i64 0]) ∧ SsAt w' w3.heap.size F (made (A.s.my + 1) m 5) ∧ Kept [] w3 w' := qn
  obtain ⟨c0, c1, c2, c3, c4, c5, c6, c7⟩ := hst3.eight
  go_wp2_with (first
    | (go_at_call 6; refine qn.mono ?_; rintro e w6 ⟨F5, rfl, hS6, hk6⟩; have hx6 := hst3.x.kept hk6 (by simp); have c1b : w6.cell? ⟨w.heap.size, 1, none⟩ = some (.int .u32 (A.s.my : Int)) := (hx6.cell 1).trans rfl)
    | (refine wpList_store_part rfl 28 _ _ rfl w.heap.size 29 [] [.pointer (some ⟨a.F.o, 0, none⟩), .int .u32 (A.s.my : Int), a.sent, a.got] [.pointer (some ⟨b.F.o, 0, none⟩), .int .u32 (B.s.my : Int), b.sent, b.got] [.pointer (some ⟨F5.o, 0, none⟩), .int .u32 ((A.s.my + 1 : Nat) : Int), .slice none 0 0, .slice none 0 0] 0 rfl rfl (by simp [Act.eval]) hx6 rfl Try.sizeOne (by simp [Value.oneCell']) ?_; intro w7 hb7 hk7 hz7))
  have hst8 := hst3.again_a (hS6.lower hst3.bw) hk6 (fun k hm => (hS6.lt k hm).1) hb7 hk7
  refine ⟨⟨rfl, rfl, by rw [hL1.out]; rfl, by rw [hL2.out]; rfl, by rw [hL3.out]; rfl⟩, _, _, _, _, _, _, hst8, (hf.both.again m 5 (by have := hf.my; omega)), ?_, ?_, ?_, ?_⟩
  · have := hf.my; exact ⟨Nat.succ_le_succ this.1, Nat.le_succ_of_le this.2⟩
  · have := hf.sent; exact ⟨Nat.zero_le _, Nat.le_succ_of_le this.2⟩
  · exact ⟨rfl, hf.win.2⟩
  · have := hf.got; exact ⟨Nat.zero_le _, Nat.le_succ_of_le this.2⟩
set_option maxRecDepth 100000 in
set_option maxHeartbeats 8000000 in
/-- Side 1 is started anew. -/
theorem sw1_again (h1 : 1 ≤ m) (h2 : m ≤ 64) (hl : len ≤ 120) (hjl : j + 1 ≤ len) (hst3 : St w w.heap.size w.heap.size yb a b A B wa wb w3) (hf : Far2 m j A B wa wb) (hwa : wa.length ≤ 400) (hwb : wb.length ≤ 400) (hfx : Far (flat (feet w.heap.size yb a b)) w3 t.x) (hNet : Blk w3 nk 36 #[.int .i64 t.k, .int .i64 t.who, .int .i64 t.at', .slice t.x.sa t.x.len t.x.cap]) (hxx : Hid (t.x.len = t.x.bs.length)) (h300 : ¬ (300 < t.x.len)) (hk5 : t.k = 5) {c : Code} (hc : Try.f3.body.bind (findB 4) = some c) (hL1 : Hid (L1 = [.int .i64 (m : Int), sl1, v2, v3, v4, .pointer (some ⟨w.heap.size, 0, none⟩), v6, v7, v8, .pointer (some ⟨yb, 0, none⟩), v10, .pointer (some ⟨nk, 0, none⟩), .int .i64 1, .int .i64 0])) (hL2 : Hid (L2 = [v22, v23, v24, v25, v26, v27, v28, v29, v30, v31, v32, v33, v34, v35, v36, v37, v38, v39, v40, v41, v42, v43, v44, v45, v46, v47, v48, v49, sl50])) (hL3 : Hid (L3 = [v286])) :
    Code.wp Try.prog c (SwPost L1 L2 L3 w m j yb) ⟨#[.int .i64 (m : Int), sl1, v2, v3, v4, .pointer (some ⟨w.heap.size, 0, none⟩), v6, v7, v8, .pointer (some ⟨yb, 0, none⟩), v10, .pointer (some ⟨nk, 0, none⟩), .int .i64 1, .int .i64 0, v14, v15, v16, v17, v18, v19, v20, v21, v22, v23, v24, v25, v26, v27, v28, v29, v30, v31, v32, v33, v34, v35, v36, v37, v38, v39, v40, v41, v42, v43, v44, v45, v46, v47, v48, v49, sl50, v51, v52, v53, v54, v55, v56, v57, v58, v59, v60, v61, v62, v63, v64, v65, .int .i64 5, v67, v68, v69, v70, v71, v72, v73, v74, v75, v76, v77, v78, v79, v80, v81, v82, v83, v84, v85, v86, v87, v88, v89, v90, v91, v92, v93, v94, v95, v96, v97, v98, v99, v100, v101, v102, v103, v104, v105, v106, v107, v108, v109, v110, v111, v112, v113, v114, v115, v116, v117, v118, v119, v120, v121, v122, v123, v124, v125, v126, v127, v128, v129, v130, v131, v132, v133, v134, v135, v136, v137, v138, v139, v140, v141, v142, v143, v144, v145, v146, v147, v148, v149, v150, v151, v152, v153, v154, v155, v156, v157, v158, v159, v160, v161, v162, v163, v164, v165, v166, v167, v168, v169, v170, v171, v172, v173, v174, v175, v176, v177, v178, v179, v180, v181, v182, v183, v184, v185, v186, v187, v188, v189, v190, v191, v192, v193, v194, v195, v196, v197, v198, v199, v200, v201, v202, v203, v204, v205, v206, v207, v208, v209, v210, v211, v212, v213, v214, v215, v216, v217, v218, v219, v220, v221, v222, v223, v224, v225, v226, v227, v228, v229, v230, v231, v232, v233, v234, v235, v236, v237, v238, v239, v240, v241, v242, v243, v244, v245, v246, v247, v248, v249, v250, v251, v252, v253, v254, v255, v256, v257, v258, v259, v260, v261, v262, v263, v264, v265, v266, v267, v268, v269, v270, v271, v272, v273, v274, v275, v276, v277, v278, v279, v280, v281, v282, v283, v284, v285, v286], []⟩ w3 := by
  have d0 : w3.cell? ⟨nk, 0, none⟩ = some (.int .i64 t.k) := (hNet.cell 0).trans rfl
  have d1 : w3.cell? ⟨nk, 1, none⟩ = some (.int .i64 t.who) := (hNet.cell 1).trans rfl
  have d2 : w3.cell? ⟨nk, 2, none⟩ = some (.int .i64 t.at') := (hNet.cell 2).trans rfl
  have d3 : w3.cell? ⟨nk, 3, none⟩ = some (.slice t.x.sa t.x.len t.x.cap) := (hNet.cell 3).trans rfl
  obtain ⟨⟨oa1, oa2⟩, ob1, ob2⟩ := hf.ob (by omega)
  conv at hc => lhs; whnf
  injection hc with hc
  subst hc
  rw [hk5] at d0
  clear hk5
  have hmy : B.s.my ≤ 1000 := by have := hf.my; omega
  have hmyI : (B.s.my : Int) ≤ 1000 := by omega
  have qn := new_any (B.s.my + 1) m 5 (by omega) (by omega) h1 h2 (by omega) (by omega) w3
  rw [Int.natCast_add, Int.natCast_one] at qn
  replace qn : Calls Try.prog 6 #[.int .u32 ((B.s.my : Int) + 1), .int .i64 (m : Int), .int .i64 5] w3 fun e w' => ∃ F : Foot, e = .returned (.tuple #[.pointer (some ⟨F.o, 0, none⟩), .int .i64 0]) ∧ SsAt w' w3.heap.size F (made (B.s.my + 1) m 5) ∧ Kept [] w3 w' := qn
  obtain ⟨c0, c1, c2, c3, c4, c5, c6, c7⟩ := hst3.eight
  go_wp2_with (first
    | (go_at_call 6; refine qn.mono ?_; rintro e w6 ⟨F5, rfl, hS6, hk6⟩; have hx6 := hst3.x.kept hk6 (by simp); have c1b : w6.cell? ⟨w.heap.size, 5, none⟩ = some (.int .u32 (B.s.my : Int)) := (hx6.cell 5).trans rfl)
    | (refine wpList_store_part rfl 28 _ _ rfl w.heap.size 29 [.pointer (some ⟨a.F.o, 0, none⟩), .int .u32 (A.s.my : Int), a.sent, a.got] [.pointer (some ⟨b.F.o, 0, none⟩), .int .u32 (B.s.my : Int), b.sent, b.got] [] [.pointer (some ⟨F5.o, 0, none⟩), .int .u32 ((B.s.my + 1 : Nat) : Int), .slice none 0 0, .slice none 0 0] 4 rfl rfl (by simp [Act.eval]) hx6 rfl Try.sizeOne (by simp [Value.oneCell']) ?_; intro w7 hb7 hk7 hz7))
  have hst8 := hst3.again_b (hS6.lower hst3.bw) hk6 (fun k hm => (hS6.lt k hm).1) hb7 hk7
  refine ⟨⟨rfl, rfl, by rw [hL1.out]; rfl, by rw [hL2.out]; rfl, by rw [hL3.out]; rfl⟩, _, _, _, _, _, _, hst8, ((hf.both.swap.again m 5 (by have := hf.my; omega)).swap), ?_, ?_, ?_, ?_⟩
  · have := hf.my; exact ⟨Nat.le_succ_of_le this.1, Nat.succ_le_succ this.2⟩
  · have := hf.sent; exact ⟨Nat.le_succ_of_le this.1, Nat.zero_le _⟩
  · exact ⟨hf.win.1, rfl⟩
  · have := hf.got; exact ⟨Nat.le_succ_of_le this.1, Nat.zero_le _⟩
set_option maxRecDepth 100000 in
set_option maxHeartbeats 8000000 in
/-- Nothing is done. -/
theorem sw0_none (h1 : 1 ≤ m) (h2 : m ≤ 64) (hl : len ≤ 120) (hjl : j + 1 ≤ len) (hst3 : St w w.heap.size w.heap.size yb a b A B wa wb w3) (hf : Far2 m j A B wa wb) (hwa : wa.length ≤ 400) (hwb : wb.length ≤ 400) (hfx : Far (flat (feet w.heap.size yb a b)) w3 t.x) (hNet : Blk w3 nk 36 #[.int .i64 t.k, .int .i64 t.who, .int .i64 t.at', .slice t.x.sa t.x.len t.x.cap]) (hxx : Hid (t.x.len = t.x.bs.length)) (h300 : ¬ (300 < t.x.len)) (hk0 : ¬ (t.k = 0)) (hk1 : ¬ (t.k = 1)) (hk2 : ¬ (t.k = 2)) (hk3 : ¬ (t.k = 3)) (hk4 : ¬ (t.k = 4)) (hk5 : ¬ (t.k = 5)) {c : Code} (hc : Try.f3.body.bind (findB 4) = some c) (hL1 : Hid (L1 = [.int .i64 (m : Int), sl1, v2, v3, v4, .pointer (some ⟨w.heap.size, 0, none⟩), v6, v7, v8, .pointer (some ⟨yb, 0, none⟩), v10, .pointer (some ⟨nk, 0, none⟩), .int .i64 0, .int .i64 1])) (hL2 : Hid (L2 = [v22, v23, v24, v25, v26, v27, v28, v29, v30, v31, v32, v33, v34, v35, v36, v37, v38, v39, v40, v41, v42, v43, v44, v45, v46, v47, v48, v49, sl50])) (hL3 : Hid (L3 = [v286])) :
    Code.wp Try.prog c (SwPost L1 L2 L3 w m j yb) ⟨#[.int .i64 (m : Int), sl1, v2, v3, v4, .pointer (some ⟨w.heap.size, 0, none⟩), v6, v7, v8, .pointer (some ⟨yb, 0, none⟩), v10, .pointer (some ⟨nk, 0, none⟩), .int .i64 0, .int .i64 1, v14, v15, v16, v17, v18, v19, v20, v21, v22, v23, v24, v25, v26, v27, v28, v29, v30, v31, v32, v33, v34, v35, v36, v37, v38, v39, v40, v41, v42, v43, v44, v45, v46, v47, v48, v49, sl50, v51, v52, v53, v54, v55, v56, v57, v58, v59, v60, v61, v62, v63, v64, v65, .int .i64 t.k, v67, v68, v69, v70, v71, v72, v73, v74, v75, v76, v77, v78, v79, v80, v81, v82, v83, v84, v85, v86, v87, v88, v89, v90, v91, v92, v93, v94, v95, v96, v97, v98, v99, v100, v101, v102, v103, v104, v105, v106, v107, v108, v109, v110, v111, v112, v113, v114, v115, v116, v117, v118, v119, v120, v121, v122, v123, v124, v125, v126, v127, v128, v129, v130, v131, v132, v133, v134, v135, v136, v137, v138, v139, v140, v141, v142, v143, v144, v145, v146, v147, v148, v149, v150, v151, v152, v153, v154, v155, v156, v157, v158, v159, v160, v161, v162, v163, v164, v165, v166, v167, v168, v169, v170, v171, v172, v173, v174, v175, v176, v177, v178, v179, v180, v181, v182, v183, v184, v185, v186, v187, v188, v189, v190, v191, v192, v193, v194, v195, v196, v197, v198, v199, v200, v201, v202, v203, v204, v205, v206, v207, v208, v209, v210, v211, v212, v213, v214, v215, v216, v217, v218, v219, v220, v221, v222, v223, v224, v225, v226, v227, v228, v229, v230, v231, v232, v233, v234, v235, v236, v237, v238, v239, v240, v241, v242, v243, v244, v245, v246, v247, v248, v249, v250, v251, v252, v253, v254, v255, v256, v257, v258, v259, v260, v261, v262, v263, v264, v265, v266, v267, v268, v269, v270, v271, v272, v273, v274, v275, v276, v277, v278, v279, v280, v281, v282, v283, v284, v285, v286], []⟩ w3 := by
  have d0 : w3.cell? ⟨nk, 0, none⟩ = some (.int .i64 t.k) := (hNet.cell 0).trans rfl
  have d1 : w3.cell? ⟨nk, 1, none⟩ = some (.int .i64 t.who) := (hNet.cell 1).trans rfl
  have d2 : w3.cell? ⟨nk, 2, none⟩ = some (.int .i64 t.at') := (hNet.cell 2).trans rfl
  have d3 : w3.cell? ⟨nk, 3, none⟩ = some (.slice t.x.sa t.x.len t.x.cap) := (hNet.cell 3).trans rfl
  obtain ⟨⟨oa1, oa2⟩, ob1, ob2⟩ := hf.ob (by omega)
  conv at hc => lhs; whnf
  injection hc with hc
  subst hc
  have b0 : (t.k == 0) = false := by simpa using hk0
  have b1 : (t.k == 1) = false := by simpa using hk1
  have b2 : (t.k == 2) = false := by simpa using hk2
  have b3 : (t.k == 3) = false := by simpa using hk3
  have b4 : (t.k == 4) = false := by simpa using hk4
  have b5 : (t.k == 5) = false := by simpa using hk5
  go_wp2_with fail
  exact ⟨⟨rfl, rfl, by rw [hL1.out]; rfl, by rw [hL2.out]; rfl, by rw [hL3.out]; rfl⟩, _, _, _, _, _, _, hst3, hf.next⟩
set_option maxRecDepth 100000 in
set_option maxHeartbeats 8000000 in
/-- Nothing is done. -/
theorem sw1_none (h1 : 1 ≤ m) (h2 : m ≤ 64) (hl : len ≤ 120) (hjl : j + 1 ≤ len) (hst3 : St w w.heap.size w.heap.size yb a b A B wa wb w3) (hf : Far2 m j A B wa wb) (hwa : wa.length ≤ 400) (hwb : wb.length ≤ 400) (hfx : Far (flat (feet w.heap.size yb a b)) w3 t.x) (hNet : Blk w3 nk 36 #[.int .i64 t.k, .int .i64 t.who, .int .i64 t.at', .slice t.x.sa t.x.len t.x.cap]) (hxx : Hid (t.x.len = t.x.bs.length)) (h300 : ¬ (300 < t.x.len)) (hk0 : ¬ (t.k = 0)) (hk1 : ¬ (t.k = 1)) (hk2 : ¬ (t.k = 2)) (hk3 : ¬ (t.k = 3)) (hk4 : ¬ (t.k = 4)) (hk5 : ¬ (t.k = 5)) {c : Code} (hc : Try.f3.body.bind (findB 4) = some c) (hL1 : Hid (L1 = [.int .i64 (m : Int), sl1, v2, v3, v4, .pointer (some ⟨w.heap.size, 0, none⟩), v6, v7, v8, .pointer (some ⟨yb, 0, none⟩), v10, .pointer (some ⟨nk, 0, none⟩), .int .i64 1, .int .i64 0])) (hL2 : Hid (L2 = [v22, v23, v24, v25, v26, v27, v28, v29, v30, v31, v32, v33, v34, v35, v36, v37, v38, v39, v40, v41, v42, v43, v44, v45, v46, v47, v48, v49, sl50])) (hL3 : Hid (L3 = [v286])) :
    Code.wp Try.prog c (SwPost L1 L2 L3 w m j yb) ⟨#[.int .i64 (m : Int), sl1, v2, v3, v4, .pointer (some ⟨w.heap.size, 0, none⟩), v6, v7, v8, .pointer (some ⟨yb, 0, none⟩), v10, .pointer (some ⟨nk, 0, none⟩), .int .i64 1, .int .i64 0, v14, v15, v16, v17, v18, v19, v20, v21, v22, v23, v24, v25, v26, v27, v28, v29, v30, v31, v32, v33, v34, v35, v36, v37, v38, v39, v40, v41, v42, v43, v44, v45, v46, v47, v48, v49, sl50, v51, v52, v53, v54, v55, v56, v57, v58, v59, v60, v61, v62, v63, v64, v65, .int .i64 t.k, v67, v68, v69, v70, v71, v72, v73, v74, v75, v76, v77, v78, v79, v80, v81, v82, v83, v84, v85, v86, v87, v88, v89, v90, v91, v92, v93, v94, v95, v96, v97, v98, v99, v100, v101, v102, v103, v104, v105, v106, v107, v108, v109, v110, v111, v112, v113, v114, v115, v116, v117, v118, v119, v120, v121, v122, v123, v124, v125, v126, v127, v128, v129, v130, v131, v132, v133, v134, v135, v136, v137, v138, v139, v140, v141, v142, v143, v144, v145, v146, v147, v148, v149, v150, v151, v152, v153, v154, v155, v156, v157, v158, v159, v160, v161, v162, v163, v164, v165, v166, v167, v168, v169, v170, v171, v172, v173, v174, v175, v176, v177, v178, v179, v180, v181, v182, v183, v184, v185, v186, v187, v188, v189, v190, v191, v192, v193, v194, v195, v196, v197, v198, v199, v200, v201, v202, v203, v204, v205, v206, v207, v208, v209, v210, v211, v212, v213, v214, v215, v216, v217, v218, v219, v220, v221, v222, v223, v224, v225, v226, v227, v228, v229, v230, v231, v232, v233, v234, v235, v236, v237, v238, v239, v240, v241, v242, v243, v244, v245, v246, v247, v248, v249, v250, v251, v252, v253, v254, v255, v256, v257, v258, v259, v260, v261, v262, v263, v264, v265, v266, v267, v268, v269, v270, v271, v272, v273, v274, v275, v276, v277, v278, v279, v280, v281, v282, v283, v284, v285, v286], []⟩ w3 := by
  have d0 : w3.cell? ⟨nk, 0, none⟩ = some (.int .i64 t.k) := (hNet.cell 0).trans rfl
  have d1 : w3.cell? ⟨nk, 1, none⟩ = some (.int .i64 t.who) := (hNet.cell 1).trans rfl
  have d2 : w3.cell? ⟨nk, 2, none⟩ = some (.int .i64 t.at') := (hNet.cell 2).trans rfl
  have d3 : w3.cell? ⟨nk, 3, none⟩ = some (.slice t.x.sa t.x.len t.x.cap) := (hNet.cell 3).trans rfl
  obtain ⟨⟨oa1, oa2⟩, ob1, ob2⟩ := hf.ob (by omega)
  conv at hc => lhs; whnf
  injection hc with hc
  subst hc
  have b0 : (t.k == 0) = false := by simpa using hk0
  have b1 : (t.k == 1) = false := by simpa using hk1
  have b2 : (t.k == 2) = false := by simpa using hk2
  have b3 : (t.k == 3) = false := by simpa using hk3
  have b4 : (t.k == 4) = false := by simpa using hk4
  have b5 : (t.k == 5) = false := by simpa using hk5
  go_wp2_with fail
  exact ⟨⟨rfl, rfl, by rw [hL1.out]; rfl, by rw [hL2.out]; rfl, by rw [hL3.out]; rfl⟩, _, _, _, _, _, _, hst3, hf.next⟩
end Go.Proofs.Ytnbkbakbjllmcaa.Session
