/-
  SessionOrder: any deed of the net.
-/
import Derived.Test.YtnbkbakbjllmcaaSsQ2
import Derived.Test.YtnbkbakbjllmcaaSsQ0
import Derived.Test.YtnbkbakbjllmcaaSsQ1
import Derived.Test.YtnbkbakbjllmcaaSsQ3
import Derived.Test.YtnbkbakbjllmcaaSsQ4
import Derived.Test.YtnbkbakbjllmcaaSsQ5
import Derived.Test.YtnbkbakbjllmcaaSsQ6
import Derived.Test.YtnbkbakbjllmcaaSsQ7
import Derived.Test.YtnbkbakbjllmcaaSsQ8
namespace Go.Proofs.Ytnbkbakbjllmcaa.Session
open Go.RowKit
open Outbox (Ob nums OutAt Bv Byt NoByt RowAt NRow)
open Wire (Ps Pv bytesL parseM parseE)
set_option linter.unusedVariables false

variable {m j len : Nat} {w w3 : World} {yb nk : Nat} {a b : Sv} {A B : Sd} {wa wb : List (List Nat)} {t : Nt} {L1 L2 L3 : List Value} {sl1 sl50 v2 v3 v4 v6 v7 v8 v10 v14 v15 v16 v17 v18 v19 v20 v21 v22 v23 v24 v25 v26 v27 v28 v29 v30 v31 v32 v33 v34 v35 v36 v37 v38 v39 v40 v41 v42 v43 v44 v45 v46 v47 v48 v49 v51 v52 v53 v54 v55 v56 v57 v58 v59 v60 v61 v62 v63 v64 v65 v67 v68 v69 v70 v71 v72 v73 v74 v75 v76 v77 v78 v79 v80 v81 v82 v83 v84 v85 v86 v87 v88 v89 v90 v91 v92 v93 v94 v95 v96 v97 v98 v99 v100 v101 v102 v103 v104 v105 v106 v107 v108 v109 v110 v111 v112 v113 v114 v115 v116 v117 v118 v119 v120 v121 v122 v123 v124 v125 v126 v127 v128 v129 v130 v131 v132 v133 v134 v135 v136 v137 v138 v139 v140 v141 v142 v143 v144 v145 v146 v147 v148 v149 v150 v151 v152 v153 v154 v155 v156 v157 v158 v159 v160 v161 v162 v163 v164 v165 v166 v167 v168 v169 v170 v171 v172 v173 v174 v175 v176 v177 v178 v179 v180 v181 v182 v183 v184 v185 v186 v187 v188 v189 v190 v191 v192 v193 v194 v195 v196 v197 v198 v199 v200 v201 v202 v203 v204 v205 v206 v207 v208 v209 v210 v211 v212 v213 v214 v215 v216 v217 v218 v219 v220 v221 v222 v223 v224 v225 v226 v227 v228 v229 v230 v231 v232 v233 v234 v235 v236 v237 v238 v239 v240 v241 v242 v243 v244 v245 v246 v247 v248 v249 v250 v251 v252 v253 v254 v255 v256 v257 v258 v259 v260 v261 v262 v263 v264 v265 v266 v267 v268 v269 v270 v271 v272 v273 v274 v275 v276 v277 v278 v279 v280 v281 v282 v283 v284 v285 v286 : Value}
set_option maxRecDepth 100000 in
set_option maxHeartbeats 4000000 in
/-- Any deed of side 0. -/
theorem sw0_any (h1 : 1 ≤ m) (h2 : m ≤ 64) (hl : len ≤ 120) (hjl : j + 1 ≤ len) (hst3 : St w w.heap.size w.heap.size yb a b A B wa wb w3) (hf : Far2 m j A B wa wb) (hwa : wa.length ≤ 400) (hwb : wb.length ≤ 400) (hfx : Far (flat (feet w.heap.size yb a b)) w3 t.x) (hNet : Blk w3 nk 36 #[.int .i64 t.k, .int .i64 t.who, .int .i64 t.at', .slice t.x.sa t.x.len t.x.cap]) (hxx : Hid (t.x.len = t.x.bs.length)) (h300 : ¬ (300 < t.x.len)) {c : Code} (hc : Try.f3.body.bind (findB 4) = some c) (hL1 : Hid (L1 = [.int .i64 (m : Int), sl1, v2, v3, v4, .pointer (some ⟨w.heap.size, 0, none⟩), v6, v7, v8, .pointer (some ⟨yb, 0, none⟩), v10, .pointer (some ⟨nk, 0, none⟩), .int .i64 0, .int .i64 1])) (hL2 : Hid (L2 = [v22, v23, v24, v25, v26, v27, v28, v29, v30, v31, v32, v33, v34, v35, v36, v37, v38, v39, v40, v41, v42, v43, v44, v45, v46, v47, v48, v49, sl50])) (hL3 : Hid (L3 = [v286])) :
    Code.wp Try.prog c (SwPost L1 L2 L3 w m j yb) ⟨#[.int .i64 (m : Int), sl1, v2, v3, v4, .pointer (some ⟨w.heap.size, 0, none⟩), v6, v7, v8, .pointer (some ⟨yb, 0, none⟩), v10, .pointer (some ⟨nk, 0, none⟩), .int .i64 0, .int .i64 1, v14, v15, v16, v17, v18, v19, v20, v21, v22, v23, v24, v25, v26, v27, v28, v29, v30, v31, v32, v33, v34, v35, v36, v37, v38, v39, v40, v41, v42, v43, v44, v45, v46, v47, v48, v49, sl50, v51, v52, v53, v54, v55, v56, v57, v58, v59, v60, v61, v62, v63, v64, v65, .int .i64 t.k, v67, v68, v69, v70, v71, v72, v73, v74, v75, v76, v77, v78, v79, v80, v81, v82, v83, v84, v85, v86, v87, v88, v89, v90, v91, v92, v93, v94, v95, v96, v97, v98, v99, v100, v101, v102, v103, v104, v105, v106, v107, v108, v109, v110, v111, v112, v113, v114, v115, v116, v117, v118, v119, v120, v121, v122, v123, v124, v125, v126, v127, v128, v129, v130, v131, v132, v133, v134, v135, v136, v137, v138, v139, v140, v141, v142, v143, v144, v145, v146, v147, v148, v149, v150, v151, v152, v153, v154, v155, v156, v157, v158, v159, v160, v161, v162, v163, v164, v165, v166, v167, v168, v169, v170, v171, v172, v173, v174, v175, v176, v177, v178, v179, v180, v181, v182, v183, v184, v185, v186, v187, v188, v189, v190, v191, v192, v193, v194, v195, v196, v197, v198, v199, v200, v201, v202, v203, v204, v205, v206, v207, v208, v209, v210, v211, v212, v213, v214, v215, v216, v217, v218, v219, v220, v221, v222, v223, v224, v225, v226, v227, v228, v229, v230, v231, v232, v233, v234, v235, v236, v237, v238, v239, v240, v241, v242, v243, v244, v245, v246, v247, v248, v249, v250, v251, v252, v253, v254, v255, v256, v257, v258, v259, v260, v261, v262, v263, v264, v265, v266, v267, v268, v269, v270, v271, v272, v273, v274, v275, v276, v277, v278, v279, v280, v281, v282, v283, v284, v285, v286], []⟩ w3 := by
  by_cases k0 : t.k = 0
  · rw [k0]
    by_cases p : A.s.peer = 0
    · exact sw0_send_none h1 h2 hl hjl hst3 hf hwa hwb hfx hNet hxx h300 k0 p hc hL1 hL2 hL3
    · by_cases s1 : t.x.len < 1
      · exact sw0_send_short h1 h2 hl hjl hst3 hf hwa hwb hfx hNet hxx h300 k0 p s1 hc hL1 hL2 hL3
      · by_cases s2 : 200 < t.x.len
        · exact sw0_send_long h1 h2 hl hjl hst3 hf hwa hwb hfx hNet hxx h300 k0 p s2 hc hL1 hL2 hL3
        · exact sw0_send_may h1 h2 hl hjl hst3 hf hwa hwb hfx hNet hxx h300 k0 p (by omega) (by omega) hc hL1 hL2 hL3
  by_cases k1 : t.k = 1
  · rw [k1]
    exact sw0_tick h1 h2 hl hjl hst3 hf hwa hwb hfx hNet hxx h300 k1 hc hL1 hL2 hL3
  by_cases k5 : t.k = 5
  · rw [k5]
    exact sw0_again h1 h2 hl hjl hst3 hf hwa hwb hfx hNet hxx h300 k5 hc hL1 hL2 hL3
  by_cases k2 : t.k = 2
  · rw [k2]
    by_cases n1 : t.at' < 0
    · exact sw0_out2_neg h1 h2 hl hjl hst3 hf hwa hwb hfx hNet hxx h300 k2 n1 hc hL1 hL2 hL3
    by_cases n2 : (a.Y.length : Int) ≤ t.at'
    · exact sw0_out2_big h1 h2 hl hjl hst3 hf hwa hwb hfx hNet hxx h300 k2 n1 n2 hc hL1 hL2 hL3
    obtain ⟨N, hN⟩ : ∃ N : Nat, t.at' = (N : Int) := ⟨t.at'.toNat, by omega⟩
    obtain ⟨x, hx⟩ : ∃ x, a.Y[N]? = some x := ⟨_, List.getElem?_eq_getElem (by omega)⟩
    cases e1 : B.s.isNew x.bs with
    | true =>
      cases e2 : B.s.has x.bs with
      | true => exact sw0_come2_new_has h1 h2 hl hjl hst3 hf hwa hwb hfx hNet hxx h300 k2 hN hx e1 e2 hc hL1 hL2 hL3
      | false => exact sw0_come2_new_not h1 h2 hl hjl hst3 hf hwa hwb hfx hNet hxx h300 k2 hN hx e1 e2 hc hL1 hL2 hL3
    | false =>
      cases e2 : B.s.has x.bs with
      | true => exact sw0_come2_old_has h1 h2 hl hjl hst3 hf hwa hwb hfx hNet hxx h300 k2 hN hx e1 e2 hc hL1 hL2 hL3
      | false => exact sw0_come2_old_not h1 h2 hl hjl hst3 hf hwa hwb hfx hNet hxx h300 k2 hN hx e1 e2 hc hL1 hL2 hL3
  by_cases k3 : t.k = 3
  · rw [k3]
    by_cases n1 : t.at' < 0
    · exact sw0_out3_neg h1 h2 hl hjl hst3 hf hwa hwb hfx hNet hxx h300 k3 n1 hc hL1 hL2 hL3
    by_cases n2 : (a.Y.length : Int) ≤ t.at'
    · exact sw0_out3_big h1 h2 hl hjl hst3 hf hwa hwb hfx hNet hxx h300 k3 n1 n2 hc hL1 hL2 hL3
    obtain ⟨N, hN⟩ : ∃ N : Nat, t.at' = (N : Int) := ⟨t.at'.toNat, by omega⟩
    obtain ⟨x, hx⟩ : ∃ x, a.Y[N]? = some x := ⟨_, List.getElem?_eq_getElem (by omega)⟩
    cases e1 : B.s.isNew x.bs with
    | true =>
      cases e2 : B.s.has x.bs with
      | true => exact sw0_come3_new_has h1 h2 hl hjl hst3 hf hwa hwb hfx hNet hxx h300 k3 hN hx e1 e2 hc hL1 hL2 hL3
      | false => exact sw0_come3_new_not h1 h2 hl hjl hst3 hf hwa hwb hfx hNet hxx h300 k3 hN hx e1 e2 hc hL1 hL2 hL3
    | false =>
      cases e2 : B.s.has x.bs with
      | true => exact sw0_come3_old_has h1 h2 hl hjl hst3 hf hwa hwb hfx hNet hxx h300 k3 hN hx e1 e2 hc hL1 hL2 hL3
      | false => exact sw0_come3_old_not h1 h2 hl hjl hst3 hf hwa hwb hfx hNet hxx h300 k3 hN hx e1 e2 hc hL1 hL2 hL3
  by_cases k4 : t.k = 4
  · rw [k4]
    by_cases n1 : t.at' < 0
    · exact sw0_out4_neg h1 h2 hl hjl hst3 hf hwa hwb hfx hNet hxx h300 k4 n1 hc hL1 hL2 hL3
    by_cases n2 : (a.Y.length : Int) ≤ t.at'
    · exact sw0_out4_big h1 h2 hl hjl hst3 hf hwa hwb hfx hNet hxx h300 k4 n1 n2 hc hL1 hL2 hL3
    obtain ⟨N, hN⟩ : ∃ N : Nat, t.at' = (N : Int) := ⟨t.at'.toNat, by omega⟩
    obtain ⟨x, hx⟩ : ∃ x, a.Y[N]? = some x := ⟨_, List.getElem?_eq_getElem (by omega)⟩
    exact sw0_lost h1 h2 hl hjl hst3 hf hwa hwb hfx hNet hxx h300 k4 hN hx hc hL1 hL2 hL3
  exact sw0_none h1 h2 hl hjl hst3 hf hwa hwb hfx hNet hxx h300 k0 k1 k2 k3 k4 k5 hc hL1 hL2 hL3
set_option maxRecDepth 100000 in
set_option maxHeartbeats 4000000 in
/-- Any deed of side 1. -/
theorem sw1_any (h1 : 1 ≤ m) (h2 : m ≤ 64) (hl : len ≤ 120) (hjl : j + 1 ≤ len) (hst3 : St w w.heap.size w.heap.size yb a b A B wa wb w3) (hf : Far2 m j A B wa wb) (hwa : wa.length ≤ 400) (hwb : wb.length ≤ 400) (hfx : Far (flat (feet w.heap.size yb a b)) w3 t.x) (hNet : Blk w3 nk 36 #[.int .i64 t.k, .int .i64 t.who, .int .i64 t.at', .slice t.x.sa t.x.len t.x.cap]) (hxx : Hid (t.x.len = t.x.bs.length)) (h300 : ¬ (300 < t.x.len)) {c : Code} (hc : Try.f3.body.bind (findB 4) = some c) (hL1 : Hid (L1 = [.int .i64 (m : Int), sl1, v2, v3, v4, .pointer (some ⟨w.heap.size, 0, none⟩), v6, v7, v8, .pointer (some ⟨yb, 0, none⟩), v10, .pointer (some ⟨nk, 0, none⟩), .int .i64 1, .int .i64 0])) (hL2 : Hid (L2 = [v22, v23, v24, v25, v26, v27, v28, v29, v30, v31, v32, v33, v34, v35, v36, v37, v38, v39, v40, v41, v42, v43, v44, v45, v46, v47, v48, v49, sl50])) (hL3 : Hid (L3 = [v286])) :
    Code.wp Try.prog c (SwPost L1 L2 L3 w m j yb) ⟨#[.int .i64 (m : Int), sl1, v2, v3, v4, .pointer (some ⟨w.heap.size, 0, none⟩), v6, v7, v8, .pointer (some ⟨yb, 0, none⟩), v10, .pointer (some ⟨nk, 0, none⟩), .int .i64 1, .int .i64 0, v14, v15, v16, v17, v18, v19, v20, v21, v22, v23, v24, v25, v26, v27, v28, v29, v30, v31, v32, v33, v34, v35, v36, v37, v38, v39, v40, v41, v42, v43, v44, v45, v46, v47, v48, v49, sl50, v51, v52, v53, v54, v55, v56, v57, v58, v59, v60, v61, v62, v63, v64, v65, .int .i64 t.k, v67, v68, v69, v70, v71, v72, v73, v74, v75, v76, v77, v78, v79, v80, v81, v82, v83, v84, v85, v86, v87, v88, v89, v90, v91, v92, v93, v94, v95, v96, v97, v98, v99, v100, v101, v102, v103, v104, v105, v106, v107, v108, v109, v110, v111, v112, v113, v114, v115, v116, v117, v118, v119, v120, v121, v122, v123, v124, v125, v126, v127, v128, v129, v130, v131, v132, v133, v134, v135, v136, v137, v138, v139, v140, v141, v142, v143, v144, v145, v146, v147, v148, v149, v150, v151, v152, v153, v154, v155, v156, v157, v158, v159, v160, v161, v162, v163, v164, v165, v166, v167, v168, v169, v170, v171, v172, v173, v174, v175, v176, v177, v178, v179, v180, v181, v182, v183, v184, v185, v186, v187, v188, v189, v190, v191, v192, v193, v194, v195, v196, v197, v198, v199, v200, v201, v202, v203, v204, v205, v206, v207, v208, v209, v210, v211, v212, v213, v214, v215, v216, v217, v218, v219, v220, v221, v222, v223, v224, v225, v226, v227, v228, v229, v230, v231, v232, v233, v234, v235, v236, v237, v238, v239, v240, v241, v242, v243, v244, v245, v246, v247, v248, v249, v250, v251, v252, v253, v254, v255, v256, v257, v258, v259, v260, v261, v262, v263, v264, v265, v266, v267, v268, v269, v270, v271, v272, v273, v274, v275, v276, v277, v278, v279, v280, v281, v282, v283, v284, v285, v286], []⟩ w3 := by
  by_cases k0 : t.k = 0
  · rw [k0]
    by_cases p : B.s.peer = 0
    · exact sw1_send_none h1 h2 hl hjl hst3 hf hwa hwb hfx hNet hxx h300 k0 p hc hL1 hL2 hL3
    · by_cases s1 : t.x.len < 1
      · exact sw1_send_short h1 h2 hl hjl hst3 hf hwa hwb hfx hNet hxx h300 k0 p s1 hc hL1 hL2 hL3
      · by_cases s2 : 200 < t.x.len
        · exact sw1_send_long h1 h2 hl hjl hst3 hf hwa hwb hfx hNet hxx h300 k0 p s2 hc hL1 hL2 hL3
        · exact sw1_send_may h1 h2 hl hjl hst3 hf hwa hwb hfx hNet hxx h300 k0 p (by omega) (by omega) hc hL1 hL2 hL3
  by_cases k1 : t.k = 1
  · rw [k1]
    exact sw1_tick h1 h2 hl hjl hst3 hf hwa hwb hfx hNet hxx h300 k1 hc hL1 hL2 hL3
  by_cases k5 : t.k = 5
  · rw [k5]
    exact sw1_again h1 h2 hl hjl hst3 hf hwa hwb hfx hNet hxx h300 k5 hc hL1 hL2 hL3
  by_cases k2 : t.k = 2
  · rw [k2]
    by_cases n1 : t.at' < 0
    · exact sw1_out2_neg h1 h2 hl hjl hst3 hf hwa hwb hfx hNet hxx h300 k2 n1 hc hL1 hL2 hL3
    by_cases n2 : (b.Y.length : Int) ≤ t.at'
    · exact sw1_out2_big h1 h2 hl hjl hst3 hf hwa hwb hfx hNet hxx h300 k2 n1 n2 hc hL1 hL2 hL3
    obtain ⟨N, hN⟩ : ∃ N : Nat, t.at' = (N : Int) := ⟨t.at'.toNat, by omega⟩
    obtain ⟨x, hx⟩ : ∃ x, b.Y[N]? = some x := ⟨_, List.getElem?_eq_getElem (by omega)⟩
    cases e1 : A.s.isNew x.bs with
    | true =>
      cases e2 : A.s.has x.bs with
      | true => exact sw1_come2_new_has h1 h2 hl hjl hst3 hf hwa hwb hfx hNet hxx h300 k2 hN hx e1 e2 hc hL1 hL2 hL3
      | false => exact sw1_come2_new_not h1 h2 hl hjl hst3 hf hwa hwb hfx hNet hxx h300 k2 hN hx e1 e2 hc hL1 hL2 hL3
    | false =>
      cases e2 : A.s.has x.bs with
      | true => exact sw1_come2_old_has h1 h2 hl hjl hst3 hf hwa hwb hfx hNet hxx h300 k2 hN hx e1 e2 hc hL1 hL2 hL3
      | false => exact sw1_come2_old_not h1 h2 hl hjl hst3 hf hwa hwb hfx hNet hxx h300 k2 hN hx e1 e2 hc hL1 hL2 hL3
  by_cases k3 : t.k = 3
  · rw [k3]
    by_cases n1 : t.at' < 0
    · exact sw1_out3_neg h1 h2 hl hjl hst3 hf hwa hwb hfx hNet hxx h300 k3 n1 hc hL1 hL2 hL3
    by_cases n2 : (b.Y.length : Int) ≤ t.at'
    · exact sw1_out3_big h1 h2 hl hjl hst3 hf hwa hwb hfx hNet hxx h300 k3 n1 n2 hc hL1 hL2 hL3
    obtain ⟨N, hN⟩ : ∃ N : Nat, t.at' = (N : Int) := ⟨t.at'.toNat, by omega⟩
    obtain ⟨x, hx⟩ : ∃ x, b.Y[N]? = some x := ⟨_, List.getElem?_eq_getElem (by omega)⟩
    cases e1 : A.s.isNew x.bs with
    | true =>
      cases e2 : A.s.has x.bs with
      | true => exact sw1_come3_new_has h1 h2 hl hjl hst3 hf hwa hwb hfx hNet hxx h300 k3 hN hx e1 e2 hc hL1 hL2 hL3
      | false => exact sw1_come3_new_not h1 h2 hl hjl hst3 hf hwa hwb hfx hNet hxx h300 k3 hN hx e1 e2 hc hL1 hL2 hL3
    | false =>
      cases e2 : A.s.has x.bs with
      | true => exact sw1_come3_old_has h1 h2 hl hjl hst3 hf hwa hwb hfx hNet hxx h300 k3 hN hx e1 e2 hc hL1 hL2 hL3
      | false => exact sw1_come3_old_not h1 h2 hl hjl hst3 hf hwa hwb hfx hNet hxx h300 k3 hN hx e1 e2 hc hL1 hL2 hL3
  by_cases k4 : t.k = 4
  · rw [k4]
    by_cases n1 : t.at' < 0
    · exact sw1_out4_neg h1 h2 hl hjl hst3 hf hwa hwb hfx hNet hxx h300 k4 n1 hc hL1 hL2 hL3
    by_cases n2 : (b.Y.length : Int) ≤ t.at'
    · exact sw1_out4_big h1 h2 hl hjl hst3 hf hwa hwb hfx hNet hxx h300 k4 n1 n2 hc hL1 hL2 hL3
    obtain ⟨N, hN⟩ : ∃ N : Nat, t.at' = (N : Int) := ⟨t.at'.toNat, by omega⟩
    obtain ⟨x, hx⟩ : ∃ x, b.Y[N]? = some x := ⟨_, List.getElem?_eq_getElem (by omega)⟩
    exact sw1_lost h1 h2 hl hjl hst3 hf hwa hwb hfx hNet hxx h300 k4 hN hx hc hL1 hL2 hL3
  exact sw1_none h1 h2 hl hjl hst3 hf hwa hwb hfx hNet hxx h300 k0 k1 k2 k3 k4 k5 hc hL1 hL2 hL3
end Go.Proofs.Ytnbkbakbjllmcaa.Session
