/-
  SessionOrder: a body is sent (side 0).
-/
import Derived.Test.YtnbkbakbjllmcaaSsP
import Derived.Deep.CutRange
import Derived.Deep.CutBlock
namespace Go.Proofs.Ytnbkbakbjllmcaa.Session
open Go.RowKit
open Outbox (Ob nums OutAt Bv Byt NoByt RowAt NRow)
open Wire (Ps Pv bytesL parseM parseE)
set_option linter.unusedVariables false

variable {m j len : Nat} {w w3 : World} {yb nk : Nat} {a b : Sv} {A B : Sd} {wa wb : List (List Nat)} {t : Nt} {L1 L2 L3 : List Value} {sl1 sl50 v2 v3 v4 v6 v7 v8 v10 v14 v15 v16 v17 v18 v19 v20 v21 v22 v23 v24 v25 v26 v27 v28 v29 v30 v31 v32 v33 v34 v35 v36 v37 v38 v39 v40 v41 v42 v43 v44 v45 v46 v47 v48 v49 v51 v52 v53 v54 v55 v56 v57 v58 v59 v60 v61 v62 v63 v64 v65 v67 v68 v69 v70 v71 v72 v73 v74 v75 v76 v77 v78 v79 v80 v81 v82 v83 v84 v85 v86 v87 v88 v89 v90 v91 v92 v93 v94 v95 v96 v97 v98 v99 v100 v101 v102 v103 v104 v105 v106 v107 v108 v109 v110 v111 v112 v113 v114 v115 v116 v117 v118 v119 v120 v121 v122 v123 v124 v125 v126 v127 v128 v129 v130 v131 v132 v133 v134 v135 v136 v137 v138 v139 v140 v141 v142 v143 v144 v145 v146 v147 v148 v149 v150 v151 v152 v153 v154 v155 v156 v157 v158 v159 v160 v161 v162 v163 v164 v165 v166 v167 v168 v169 v170 v171 v172 v173 v174 v175 v176 v177 v178 v179 v180 v181 v182 v183 v184 v185 v186 v187 v188 v189 v190 v191 v192 v193 v194 v195 v196 v197 v198 v199 v200 v201 v202 v203 v204 v205 v206 v207 v208 v209 v210 v211 v212 v213 v214 v215 v216 v217 v218 v219 v220 v221 v222 v223 v224 v225 v226 v227 v228 v229 v230 v231 v232 v233 v234 v235 v236 v237 v238 v239 v240 v241 v242 v243 v244 v245 v246 v247 v248 v249 v250 v251 v252 v253 v254 v255 v256 v257 v258 v259 v260 v261 v262 v263 v264 v265 v266 v267 v268 v269 v270 v271 v272 v273 v274 v275 v276 v277 v278 v279 v280 v281 v282 v283 v284 v285 v286 : Value}
set_option maxRecDepth 100000 in
set_option maxHeartbeats 8000000 in
/-- A body that may not be sent at side 0. -/
theorem sw0_send_none (h1 : 1 ≤ m) (h2 : m ≤ 64) (hl : len ≤ 120) (hjl : j + 1 ≤ len) (hst3 : St w w.heap.size w.heap.size yb a b A B wa wb w3) (hf : Far2 m j A B wa wb) (hwa : wa.length ≤ 400) (hwb : wb.length ≤ 400) (hfx : Far (flat (feet w.heap.size yb a b)) w3 t.x) (hNet : Blk w3 nk 36 #[.int .i64 t.k, .int .i64 t.who, .int .i64 t.at', .slice t.x.sa t.x.len t.x.cap]) (hxx : Hid (t.x.len = t.x.bs.length)) (h300 : ¬ (300 < t.x.len)) (hk0 : t.k = 0) (hw : A.s.peer = 0) {c : Code} (hc : Try.f3.body.bind (findB 4) = some c) (hL1 : Hid (L1 = [.int .i64 (m : Int), sl1, v2, v3, v4, .pointer (some ⟨w.heap.size, 0, none⟩), v6, v7, v8, .pointer (some ⟨yb, 0, none⟩), v10, .pointer (some ⟨nk, 0, none⟩), .int .i64 0, .int .i64 1])) (hL2 : Hid (L2 = [v22, v23, v24, v25, v26, v27, v28, v29, v30, v31, v32, v33, v34, v35, v36, v37, v38, v39, v40, v41, v42, v43, v44, v45, v46, v47, v48, v49, sl50])) (hL3 : Hid (L3 = [v286])) :
    Code.wp Try.prog c (SwPost L1 L2 L3 w m j yb) ⟨#[.int .i64 (m : Int), sl1, v2, v3, v4, .pointer (some ⟨w.heap.size, 0, none⟩), v6, v7, v8, .pointer (some ⟨yb, 0, none⟩), v10, .pointer (some ⟨nk, 0, none⟩), .int .i64 0, .int .i64 1, v14, v15, v16, v17, v18, v19, v20, v21, v22, v23, v24, v25, v26, v27, v28, v29, v30, v31, v32, v33, v34, v35, v36, v37, v38, v39, v40, v41, v42, v43, v44, v45, v46, v47, v48, v49, sl50, v51, v52, v53, v54, v55, v56, v57, v58, v59, v60, v61, v62, v63, v64, v65, .int .i64 0, v67, v68, v69, v70, v71, v72, v73, v74, v75, v76, v77, v78, v79, v80, v81, v82, v83, v84, v85, v86, v87, v88, v89, v90, v91, v92, v93, v94, v95, v96, v97, v98, v99, v100, v101, v102, v103, v104, v105, v106, v107, v108, v109, v110, v111, v112, v113, v114, v115, v116, v117, v118, v119, v120, v121, v122, v123, v124, v125, v126, v127, v128, v129, v130, v131, v132, v133, v134, v135, v136, v137, v138, v139, v140, v141, v142, v143, v144, v145, v146, v147, v148, v149, v150, v151, v152, v153, v154, v155, v156, v157, v158, v159, v160, v161, v162, v163, v164, v165, v166, v167, v168, v169, v170, v171, v172, v173, v174, v175, v176, v177, v178, v179, v180, v181, v182, v183, v184, v185, v186, v187, v188, v189, v190, v191, v192, v193, v194, v195, v196, v197, v198, v199, v200, v201, v202, v203, v204, v205, v206, v207, v208, v209, v210, v211, v212, v213, v214, v215, v216, v217, v218, v219, v220, v221, v222, v223, v224, v225, v226, v227, v228, v229, v230, v231, v232, v233, v234, v235, v236, v237, v238, v239, v240, v241, v242, v243, v244, v245, v246, v247, v248, v249, v250, v251, v252, v253, v254, v255, v256, v257, v258, v259, v260, v261, v262, v263, v264, v265, v266, v267, v268, v269, v270, v271, v272, v273, v274, v275, v276, v277, v278, v279, v280, v281, v282, v283, v284, v285, v286], []⟩ w3 := by
  have d0 : w3.cell? ⟨nk, 0, none⟩ = some (.int .i64 t.k) := (hNet.cell 0).trans rfl
  have d1 : w3.cell? ⟨nk, 1, none⟩ = some (.int .i64 t.who) := (hNet.cell 1).trans rfl
  have d2 : w3.cell? ⟨nk, 2, none⟩ = some (.int .i64 t.at') := (hNet.cell 2).trans rfl
  have d3 : w3.cell? ⟨nk, 3, none⟩ = some (.slice t.x.sa t.x.len t.x.cap) := (hNet.cell 3).trans rfl
  obtain ⟨⟨oa1, oa2⟩, ob1, ob2⟩ := hf.ob (by omega)
  conv at hc => lhs; whnf
  injection hc with hc
  subst hc
  rw [hk0] at d0
  clear hk0
  have q := peer_any w3 hst3.ha.ss
  obtain ⟨c0, c1, c2, c3, c4, c5, c6, c7⟩ := hst3.eight
  have g1 : ((A.s.peer : Int) != 0) = false := by simp; omega
  have hmf : A.s.may t.x.bs = false := by unfold Ss.may; simp [hw]
  have hSD : Hid (A.send t.x.bs = { A with s := A.s.sent t.x.bs }) := by
    show _ = _
    unfold Sd.send
    rw [hmf]
    rfl
  have hsl2 : A.sent.length ≤ A.sent.length + 1 := Nat.le_succ _
  clear hw
  go_wp2_with (go_at_call 7; refine q.mono ?_; rintro e w3 ⟨rfl, rfl⟩)
  clear c0 c1 c2 c3 c4 c5 c6 c7 q
  have hst4 := hst3
  have hNet4 := hNet
  have hfx4 := hfx
  have kd := kept_drew [] w3
  replace hst4 := hst4.kept0 kd
  replace hNet4 := hNet4.kept kd (by simp)
  replace hfx4 := hfx4.step kd (K' := flat (feet w.heap.size yb a b)) (by simp) (fun k hm => .inl hm)
  have e1 : w3.drew.cell? ⟨w.heap.size, 0, none⟩ = some (.pointer (some ⟨a.F.o, 0, none⟩)) := (hst4.x.cell 0).trans rfl
  have e2 : w3.drew.cell? ⟨nk, 3, none⟩ = some (.slice t.x.sa t.x.len t.x.cap) := (hNet4.cell 3).trans rfl
  have qs := send_any w3.drew hst4.ha.ss oa1 oa2 t.x.sa t.x.len t.x.cap _ t.x.bs hfx4.row (Nat.le_refl _) (by have := hxx.out; omega)
  have hfr := hst4.alien hNet4 notNet 0
  have hyl : a.Y.length ≤ 400 := by
    have := congrArg List.length hst4.ha.wayL
    rw [List.length_map] at this
    omega
  obtain ⟨SL, hSL⟩ : ∃ SL, Hid (A.s.sendL t.x.bs = SL) := ⟨_, rfl⟩
  have hSll : SL.length ≤ 1000 := by rw [← hSL.out]; exact sendL_len _ _
  replace qs : Calls Try.prog 8 #[.pointer (some ⟨a.F.o, 0, none⟩), .slice t.x.sa t.x.len t.x.cap] w3.drew fun e w' => ∃ v P F', e = .returned v ∧ Told w3.drew.heap.size w' v P SL ∧ After w3.drew w.heap.size a.F F' (A.s.sent t.x.bs) w' := by
    rw [← hSL.out]
    exact qs
  refine wp_region_held_drew (S := fun W => W.cell? ⟨w.heap.size, 0, none⟩ = some (.pointer (some ⟨a.F.o, 0, none⟩)) ∧ W.cell? ⟨nk, 3, none⟩ = some (.slice t.x.sa t.x.len t.x.cap)) (by kernel_rfl) ⟨e1, e2⟩ (fun hP => ?_)
  have hH := hP
  clear hP
  refine wpAnyH_take (i := 0) (oi := ⟨some 98, _, _, _, _, _⟩) (v := (.int .i64 0)) rfl (by kernel_rfl) (by kernel_rfl) (by kernel_rfl) (fun _ _ _ h => h) (Or.inl ⟨by rfl, fun W hSw => by go_simp⟩) hH ?_
  try simp only [Act.put, List.setIfInBounds_toArray, List.set_cons_zero, List.set_cons_succ]
  refine wpAnyH_take (i := 1) (oi := ⟨some 99, _, _, _, _, _⟩) (v := (.pointer (some ⟨w.heap.size, 0, none⟩))) rfl (by kernel_rfl) (by kernel_rfl) (by kernel_rfl) (fun _ _ _ h => h) (Or.inl ⟨by rfl, fun W hSw => by go_simp⟩) hH ?_
  try simp only [Act.put, List.setIfInBounds_toArray, List.set_cons_zero, List.set_cons_succ]
  refine wpAnyH_take (i := 2) (oi := ⟨some 100, _, _, _, _, _⟩) (v := (.pointer (some ⟨w.heap.size, 0, none⟩))) rfl (by kernel_rfl) (by kernel_rfl) (by kernel_rfl) (fun _ _ _ h => h) (Or.inl ⟨by rfl, fun W hSw => by go_simp⟩) hH ?_
  try simp only [Act.put, List.setIfInBounds_toArray, List.set_cons_zero, List.set_cons_succ]
  refine wpAnyH_take (i := 3) (oi := ⟨some 101, _, _, _, _, _⟩) (v := (.pointer (some ⟨a.F.o, 0, none⟩))) rfl (by kernel_rfl) (by kernel_rfl) (by kernel_rfl) (fun _ _ _ h => h) (Or.inl ⟨by rfl, fun W hSw => by obtain ⟨f1, f2⟩ := hSw; go_simp⟩) hH ?_
  try simp only [Act.put, List.setIfInBounds_toArray, List.set_cons_zero, List.set_cons_succ]
  refine wpAnyH_take (i := 4) (oi := ⟨some 102, _, _, _, _, _⟩) (v := (.pointer (some ⟨nk, 3, none⟩))) rfl (by kernel_rfl) (by kernel_rfl) (by kernel_rfl) (fun _ _ _ h => h) (Or.inl ⟨by rfl, fun W hSw => by go_simp⟩) hH ?_
  try simp only [Act.put, List.setIfInBounds_toArray, List.set_cons_zero, List.set_cons_succ]
  refine wpAnyH_take (i := 5) (oi := ⟨some 103, _, _, _, _, _⟩) (v := (.slice t.x.sa t.x.len t.x.cap)) rfl (by kernel_rfl) (by kernel_rfl) (by kernel_rfl) (fun _ _ _ h => h) (Or.inl ⟨by rfl, fun W hSw => by obtain ⟨f1, f2⟩ := hSw; go_simp⟩) hH ?_
  try simp only [Act.put, List.setIfInBounds_toArray, List.set_cons_zero, List.set_cons_succ]
  refine wpAnyH_ready (rs := [6]) (by kernel_rfl) (by simp) ?_
  refine AllReadyH.cons (o := ⟨some 104, _, _, _, _, _⟩) rfl (fun KK hKK => ?_) AllReadyH.nil
  go_simp
  refine qs.mono ?_
  rintro e w6 ⟨v6, P6, F6, rfl, hT6, hA6⟩
  obtain ⟨sl6, cl6, rfl⟩ := hT6.row.form
  have hmy : (A.s.sent t.x.bs).my = A.s.my := (send_my A t.x.bs).1
  have hst6 := hst4.call_a hA6 hmy
  have hNet6 := hNet4.kept hA6.kept hfr
  go_wp2_with fail
  have hH1 := (⟨by have := (hst6.x.cell 0).trans rfl; rw [← hA6.same]; exact this, (hNet6.cell 3).trans rfl⟩ : w6.cell? ⟨w.heap.size, 0, none⟩ = some (.pointer (some ⟨a.F.o, 0, none⟩)) ∧ w6.cell? ⟨nk, 3, none⟩ = some (.slice t.x.sa t.x.len t.x.cap))
  refine hKK.out _ _ hH1 (fun _ => ?_)
  replace hH := hH1
  clear hKK KK hH1
  try simp only [Act.put, List.setIfInBounds_toArray, List.set_cons_zero, List.set_cons_succ]
  refine wpAnyH_take (i := 7) (oi := ⟨some 14, _, _, _, _, _⟩) (v := (.slice sl6 P6.length cl6)) rfl (by kernel_rfl) (by kernel_rfl) (by kernel_rfl) (fun _ _ _ h => h) (Or.inl ⟨by rfl, fun W hSw => by go_simp⟩) hH ?_
  try simp only [Act.put, List.setIfInBounds_toArray, List.set_cons_zero, List.set_cons_succ]
  refine wpAnyH_done (by kernel_rfl) ?_ _
  have hl6 : P6.length ≤ 1000 := by have := hT6.len; omega
  obtain ⟨y0, y1⟩ := hst6.two
  go_wp2_with (first
    | (at_builtin; refine wpList_append_any rfl _ _ rfl w.heap.size (.slice a.w1 a.Y.length a.w3) (.slice sl6 P6.length cl6) a.Y P6 rfl rfl hst6.ha.way hT6.row.lies (by omega) hst6.bw ?_; intro u1 un u3 w7 hr7 hk7 hn7)
    | (refine Wire.wpList_store_cell rfl 26 _ _ rfl yb 0 33 _ (.slice u1 un u3) rfl rfl (hst6.y.kept hk7 (fun e => by have := hst6.pool.one 9 3 yb (by simp [feet]) e; omega)) (by simp) Outbox.Try.sizeBB rfl ?_; intro w8 hb8 hk8; simp only [List.setIfInBounds_toArray, List.set_cons_zero] at hb8))
  have hst8 := hst6.way_a hr7 hk7 hn7.out (fun x hx => far_byt (hT6.mem x hx) hst6.noFlat) hb8 hk8
  rw [hT6.bs, ← hSL.out] at hst8
  have hB := hf.both.send t.x.bs (by have := hf.sent; omega)
  rw [hSD.out] at hB
  have hwn : (A.s.sent t.x.bs).ob.w = A.s.ob.w := by
    unfold Ss.sent
    split <;> rfl
  refine ⟨⟨rfl, rfl, by rw [hL1.out]; rfl, by rw [hL2.out]; rfl, by rw [hL3.out]; rfl⟩, _, _, _, _, _, _, hst8, hB, ?_, ?_, ?_, ?_⟩
  · have := hf.my; exact ⟨Nat.le_trans (Nat.le_of_eq hmy) (Nat.le_succ_of_le this.1), Nat.le_succ_of_le this.2⟩
  · have := hf.sent; exact ⟨Nat.le_trans hsl2 (Nat.succ_le_succ this.1), Nat.le_succ_of_le this.2⟩
  · exact ⟨hwn.trans hf.win.1, hf.win.2⟩
  · have := hf.got; exact ⟨Nat.le_succ_of_le this.1, Nat.le_succ_of_le this.2⟩
set_option maxRecDepth 100000 in
set_option maxHeartbeats 8000000 in
/-- A body that may not be sent at side 0. -/
theorem sw0_send_short (h1 : 1 ≤ m) (h2 : m ≤ 64) (hl : len ≤ 120) (hjl : j + 1 ≤ len) (hst3 : St w w.heap.size w.heap.size yb a b A B wa wb w3) (hf : Far2 m j A B wa wb) (hwa : wa.length ≤ 400) (hwb : wb.length ≤ 400) (hfx : Far (flat (feet w.heap.size yb a b)) w3 t.x) (hNet : Blk w3 nk 36 #[.int .i64 t.k, .int .i64 t.who, .int .i64 t.at', .slice t.x.sa t.x.len t.x.cap]) (hxx : Hid (t.x.len = t.x.bs.length)) (h300 : ¬ (300 < t.x.len)) (hk0 : t.k = 0) (hw : ¬ (A.s.peer = 0)) (hw2 : t.x.len < 1) {c : Code} (hc : Try.f3.body.bind (findB 4) = some c) (hL1 : Hid (L1 = [.int .i64 (m : Int), sl1, v2, v3, v4, .pointer (some ⟨w.heap.size, 0, none⟩), v6, v7, v8, .pointer (some ⟨yb, 0, none⟩), v10, .pointer (some ⟨nk, 0, none⟩), .int .i64 0, .int .i64 1])) (hL2 : Hid (L2 = [v22, v23, v24, v25, v26, v27, v28, v29, v30, v31, v32, v33, v34, v35, v36, v37, v38, v39, v40, v41, v42, v43, v44, v45, v46, v47, v48, v49, sl50])) (hL3 : Hid (L3 = [v286])) :
    Code.wp Try.prog c (SwPost L1 L2 L3 w m j yb) ⟨#[.int .i64 (m : Int), sl1, v2, v3, v4, .pointer (some ⟨w.heap.size, 0, none⟩), v6, v7, v8, .pointer (some ⟨yb, 0, none⟩), v10, .pointer (some ⟨nk, 0, none⟩), .int .i64 0, .int .i64 1, v14, v15, v16, v17, v18, v19, v20, v21, v22, v23, v24, v25, v26, v27, v28, v29, v30, v31, v32, v33, v34, v35, v36, v37, v38, v39, v40, v41, v42, v43, v44, v45, v46, v47, v48, v49, sl50, v51, v52, v53, v54, v55, v56, v57, v58, v59, v60, v61, v62, v63, v64, v65, .int .i64 0, v67, v68, v69, v70, v71, v72, v73, v74, v75, v76, v77, v78, v79, v80, v81, v82, v83, v84, v85, v86, v87, v88, v89, v90, v91, v92, v93, v94, v95, v96, v97, v98, v99, v100, v101, v102, v103, v104, v105, v106, v107, v108, v109, v110, v111, v112, v113, v114, v115, v116, v117, v118, v119, v120, v121, v122, v123, v124, v125, v126, v127, v128, v129, v130, v131, v132, v133, v134, v135, v136, v137, v138, v139, v140, v141, v142, v143, v144, v145, v146, v147, v148, v149, v150, v151, v152, v153, v154, v155, v156, v157, v158, v159, v160, v161, v162, v163, v164, v165, v166, v167, v168, v169, v170, v171, v172, v173, v174, v175, v176, v177, v178, v179, v180, v181, v182, v183, v184, v185, v186, v187, v188, v189, v190, v191, v192, v193, v194, v195, v196, v197, v198, v199, v200, v201, v202, v203, v204, v205, v206, v207, v208, v209, v210, v211, v212, v213, v214, v215, v216, v217, v218, v219, v220, v221, v222, v223, v224, v225, v226, v227, v228, v229, v230, v231, v232, v233, v234, v235, v236, v237, v238, v239, v240, v241, v242, v243, v244, v245, v246, v247, v248, v249, v250, v251, v252, v253, v254, v255, v256, v257, v258, v259, v260, v261, v262, v263, v264, v265, v266, v267, v268, v269, v270, v271, v272, v273, v274, v275, v276, v277, v278, v279, v280, v281, v282, v283, v284, v285, v286], []⟩ w3 := by
  have d0 : w3.cell? ⟨nk, 0, none⟩ = some (.int .i64 t.k) := (hNet.cell 0).trans rfl
  have d1 : w3.cell? ⟨nk, 1, none⟩ = some (.int .i64 t.who) := (hNet.cell 1).trans rfl
  have d2 : w3.cell? ⟨nk, 2, none⟩ = some (.int .i64 t.at') := (hNet.cell 2).trans rfl
  have d3 : w3.cell? ⟨nk, 3, none⟩ = some (.slice t.x.sa t.x.len t.x.cap) := (hNet.cell 3).trans rfl
  obtain ⟨⟨oa1, oa2⟩, ob1, ob2⟩ := hf.ob (by omega)
  conv at hc => lhs; whnf
  injection hc with hc
  subst hc
  rw [hk0] at d0
  clear hk0
  have q := peer_any w3 hst3.ha.ss
  obtain ⟨c0, c1, c2, c3, c4, c5, c6, c7⟩ := hst3.eight
  have g1 : ((A.s.peer : Int) != 0) = true := by simp; omega
  have g2 : ¬ ((1 : Int) ≤ (t.x.len : Int)) := by omega
  have hmf : A.s.may t.x.bs = false := by unfold Ss.may; have := hxx.out; rw [decide_eq_false (show ¬ (1 ≤ t.x.bs.length) by omega)]; simp
  have hSD : Hid (A.send t.x.bs = { A with s := A.s.sent t.x.bs }) := by
    show _ = _
    unfold Sd.send
    rw [hmf]
    rfl
  have hsl2 : A.sent.length ≤ A.sent.length + 1 := Nat.le_succ _
  clear hw
  go_wp2_with (go_at_call 7; refine q.mono ?_; rintro e w3 ⟨rfl, rfl⟩)
  clear c0 c1 c2 c3 c4 c5 c6 c7 q
  have hst4 := hst3
  have hNet4 := hNet
  have hfx4 := hfx
  have kd := kept_drew [] w3
  replace hst4 := hst4.kept0 kd
  replace hNet4 := hNet4.kept kd (by simp)
  replace hfx4 := hfx4.step kd (K' := flat (feet w.heap.size yb a b)) (by simp) (fun k hm => .inl hm)
  have e1 : w3.drew.cell? ⟨w.heap.size, 0, none⟩ = some (.pointer (some ⟨a.F.o, 0, none⟩)) := (hst4.x.cell 0).trans rfl
  have e2 : w3.drew.cell? ⟨nk, 3, none⟩ = some (.slice t.x.sa t.x.len t.x.cap) := (hNet4.cell 3).trans rfl
  have qs := send_any w3.drew hst4.ha.ss oa1 oa2 t.x.sa t.x.len t.x.cap _ t.x.bs hfx4.row (Nat.le_refl _) (by have := hxx.out; omega)
  have hfr := hst4.alien hNet4 notNet 0
  have hyl : a.Y.length ≤ 400 := by
    have := congrArg List.length hst4.ha.wayL
    rw [List.length_map] at this
    omega
  obtain ⟨SL, hSL⟩ : ∃ SL, Hid (A.s.sendL t.x.bs = SL) := ⟨_, rfl⟩
  have hSll : SL.length ≤ 1000 := by rw [← hSL.out]; exact sendL_len _ _
  replace qs : Calls Try.prog 8 #[.pointer (some ⟨a.F.o, 0, none⟩), .slice t.x.sa t.x.len t.x.cap] w3.drew fun e w' => ∃ v P F', e = .returned v ∧ Told w3.drew.heap.size w' v P SL ∧ After w3.drew w.heap.size a.F F' (A.s.sent t.x.bs) w' := by
    rw [← hSL.out]
    exact qs
  refine wp_region_held_drew (S := fun W => W.cell? ⟨w.heap.size, 0, none⟩ = some (.pointer (some ⟨a.F.o, 0, none⟩)) ∧ W.cell? ⟨nk, 3, none⟩ = some (.slice t.x.sa t.x.len t.x.cap)) (by kernel_rfl) ⟨e1, e2⟩ (fun hP => ?_)
  have hH := hP
  clear hP
  refine wpAnyH_take (i := 0) (oi := ⟨some 98, _, _, _, _, _⟩) (v := (.int .i64 0)) rfl (by kernel_rfl) (by kernel_rfl) (by kernel_rfl) (fun _ _ _ h => h) (Or.inl ⟨by rfl, fun W hSw => by go_simp⟩) hH ?_
  try simp only [Act.put, List.setIfInBounds_toArray, List.set_cons_zero, List.set_cons_succ]
  refine wpAnyH_take (i := 1) (oi := ⟨some 99, _, _, _, _, _⟩) (v := (.pointer (some ⟨w.heap.size, 0, none⟩))) rfl (by kernel_rfl) (by kernel_rfl) (by kernel_rfl) (fun _ _ _ h => h) (Or.inl ⟨by rfl, fun W hSw => by go_simp⟩) hH ?_
  try simp only [Act.put, List.setIfInBounds_toArray, List.set_cons_zero, List.set_cons_succ]
  refine wpAnyH_take (i := 2) (oi := ⟨some 100, _, _, _, _, _⟩) (v := (.pointer (some ⟨w.heap.size, 0, none⟩))) rfl (by kernel_rfl) (by kernel_rfl) (by kernel_rfl) (fun _ _ _ h => h) (Or.inl ⟨by rfl, fun W hSw => by go_simp⟩) hH ?_
  try simp only [Act.put, List.setIfInBounds_toArray, List.set_cons_zero, List.set_cons_succ]
  refine wpAnyH_take (i := 3) (oi := ⟨some 101, _, _, _, _, _⟩) (v := (.pointer (some ⟨a.F.o, 0, none⟩))) rfl (by kernel_rfl) (by kernel_rfl) (by kernel_rfl) (fun _ _ _ h => h) (Or.inl ⟨by rfl, fun W hSw => by obtain ⟨f1, f2⟩ := hSw; go_simp⟩) hH ?_
  try simp only [Act.put, List.setIfInBounds_toArray, List.set_cons_zero, List.set_cons_succ]
  refine wpAnyH_take (i := 4) (oi := ⟨some 102, _, _, _, _, _⟩) (v := (.pointer (some ⟨nk, 3, none⟩))) rfl (by kernel_rfl) (by kernel_rfl) (by kernel_rfl) (fun _ _ _ h => h) (Or.inl ⟨by rfl, fun W hSw => by go_simp⟩) hH ?_
  try simp only [Act.put, List.setIfInBounds_toArray, List.set_cons_zero, List.set_cons_succ]
  refine wpAnyH_take (i := 5) (oi := ⟨some 103, _, _, _, _, _⟩) (v := (.slice t.x.sa t.x.len t.x.cap)) rfl (by kernel_rfl) (by kernel_rfl) (by kernel_rfl) (fun _ _ _ h => h) (Or.inl ⟨by rfl, fun W hSw => by obtain ⟨f1, f2⟩ := hSw; go_simp⟩) hH ?_
  try simp only [Act.put, List.setIfInBounds_toArray, List.set_cons_zero, List.set_cons_succ]
  refine wpAnyH_ready (rs := [6]) (by kernel_rfl) (by simp) ?_
  refine AllReadyH.cons (o := ⟨some 104, _, _, _, _, _⟩) rfl (fun KK hKK => ?_) AllReadyH.nil
  go_simp
  refine qs.mono ?_
  rintro e w6 ⟨v6, P6, F6, rfl, hT6, hA6⟩
  obtain ⟨sl6, cl6, rfl⟩ := hT6.row.form
  have hmy : (A.s.sent t.x.bs).my = A.s.my := (send_my A t.x.bs).1
  have hst6 := hst4.call_a hA6 hmy
  have hNet6 := hNet4.kept hA6.kept hfr
  go_wp2_with fail
  have hH1 := (⟨by have := (hst6.x.cell 0).trans rfl; rw [← hA6.same]; exact this, (hNet6.cell 3).trans rfl⟩ : w6.cell? ⟨w.heap.size, 0, none⟩ = some (.pointer (some ⟨a.F.o, 0, none⟩)) ∧ w6.cell? ⟨nk, 3, none⟩ = some (.slice t.x.sa t.x.len t.x.cap))
  refine hKK.out _ _ hH1 (fun _ => ?_)
  replace hH := hH1
  clear hKK KK hH1
  try simp only [Act.put, List.setIfInBounds_toArray, List.set_cons_zero, List.set_cons_succ]
  refine wpAnyH_take (i := 7) (oi := ⟨some 14, _, _, _, _, _⟩) (v := (.slice sl6 P6.length cl6)) rfl (by kernel_rfl) (by kernel_rfl) (by kernel_rfl) (fun _ _ _ h => h) (Or.inl ⟨by rfl, fun W hSw => by go_simp⟩) hH ?_
  try simp only [Act.put, List.setIfInBounds_toArray, List.set_cons_zero, List.set_cons_succ]
  refine wpAnyH_done (by kernel_rfl) ?_ _
  have hl6 : P6.length ≤ 1000 := by have := hT6.len; omega
  obtain ⟨y0, y1⟩ := hst6.two
  go_wp2_with (first
    | (at_builtin; refine wpList_append_any rfl _ _ rfl w.heap.size (.slice a.w1 a.Y.length a.w3) (.slice sl6 P6.length cl6) a.Y P6 rfl rfl hst6.ha.way hT6.row.lies (by omega) hst6.bw ?_; intro u1 un u3 w7 hr7 hk7 hn7)
    | (refine Wire.wpList_store_cell rfl 26 _ _ rfl yb 0 33 _ (.slice u1 un u3) rfl rfl (hst6.y.kept hk7 (fun e => by have := hst6.pool.one 9 3 yb (by simp [feet]) e; omega)) (by simp) Outbox.Try.sizeBB rfl ?_; intro w8 hb8 hk8; simp only [List.setIfInBounds_toArray, List.set_cons_zero] at hb8))
  have hst8 := hst6.way_a hr7 hk7 hn7.out (fun x hx => far_byt (hT6.mem x hx) hst6.noFlat) hb8 hk8
  rw [hT6.bs, ← hSL.out] at hst8
  have hB := hf.both.send t.x.bs (by have := hf.sent; omega)
  rw [hSD.out] at hB
  have hwn : (A.s.sent t.x.bs).ob.w = A.s.ob.w := by
    unfold Ss.sent
    split <;> rfl
  refine ⟨⟨rfl, rfl, by rw [hL1.out]; rfl, by rw [hL2.out]; rfl, by rw [hL3.out]; rfl⟩, _, _, _, _, _, _, hst8, hB, ?_, ?_, ?_, ?_⟩
  · have := hf.my; exact ⟨Nat.le_trans (Nat.le_of_eq hmy) (Nat.le_succ_of_le this.1), Nat.le_succ_of_le this.2⟩
  · have := hf.sent; exact ⟨Nat.le_trans hsl2 (Nat.succ_le_succ this.1), Nat.le_succ_of_le this.2⟩
  · exact ⟨hwn.trans hf.win.1, hf.win.2⟩
  · have := hf.got; exact ⟨Nat.le_succ_of_le this.1, Nat.le_succ_of_le this.2⟩
set_option maxRecDepth 100000 in
set_option maxHeartbeats 8000000 in
/-- A body that may not be sent at side 0. -/
theorem sw0_send_long (h1 : 1 ≤ m) (h2 : m ≤ 64) (hl : len ≤ 120) (hjl : j + 1 ≤ len) (hst3 : St w w.heap.size w.heap.size yb a b A B wa wb w3) (hf : Far2 m j A B wa wb) (hwa : wa.length ≤ 400) (hwb : wb.length ≤ 400) (hfx : Far (flat (feet w.heap.size yb a b)) w3 t.x) (hNet : Blk w3 nk 36 #[.int .i64 t.k, .int .i64 t.who, .int .i64 t.at', .slice t.x.sa t.x.len t.x.cap]) (hxx : Hid (t.x.len = t.x.bs.length)) (h300 : ¬ (300 < t.x.len)) (hk0 : t.k = 0) (hw : ¬ (A.s.peer = 0)) (hw2 : 200 < t.x.len) {c : Code} (hc : Try.f3.body.bind (findB 4) = some c) (hL1 : Hid (L1 = [.int .i64 (m : Int), sl1, v2, v3, v4, .pointer (some ⟨w.heap.size, 0, none⟩), v6, v7, v8, .pointer (some ⟨yb, 0, none⟩), v10, .pointer (some ⟨nk, 0, none⟩), .int .i64 0, .int .i64 1])) (hL2 : Hid (L2 = [v22, v23, v24, v25, v26, v27, v28, v29, v30, v31, v32, v33, v34, v35, v36, v37, v38, v39, v40, v41, v42, v43, v44, v45, v46, v47, v48, v49, sl50])) (hL3 : Hid (L3 = [v286])) :
    Code.wp Try.prog c (SwPost L1 L2 L3 w m j yb) ⟨#[.int .i64 (m : Int), sl1, v2, v3, v4, .pointer (some ⟨w.heap.size, 0, none⟩), v6, v7, v8, .pointer (some ⟨yb, 0, none⟩), v10, .pointer (some ⟨nk, 0, none⟩), .int .i64 0, .int .i64 1, v14, v15, v16, v17, v18, v19, v20, v21, v22, v23, v24, v25, v26, v27, v28, v29, v30, v31, v32, v33, v34, v35, v36, v37, v38, v39, v40, v41, v42, v43, v44, v45, v46, v47, v48, v49, sl50, v51, v52, v53, v54, v55, v56, v57, v58, v59, v60, v61, v62, v63, v64, v65, .int .i64 0, v67, v68, v69, v70, v71, v72, v73, v74, v75, v76, v77, v78, v79, v80, v81, v82, v83, v84, v85, v86, v87, v88, v89, v90, v91, v92, v93, v94, v95, v96, v97, v98, v99, v100, v101, v102, v103, v104, v105, v106, v107, v108, v109, v110, v111, v112, v113, v114, v115, v116, v117, v118, v119, v120, v121, v122, v123, v124, v125, v126, v127, v128, v129, v130, v131, v132, v133, v134, v135, v136, v137, v138, v139, v140, v141, v142, v143, v144, v145, v146, v147, v148, v149, v150, v151, v152, v153, v154, v155, v156, v157, v158, v159, v160, v161, v162, v163, v164, v165, v166, v167, v168, v169, v170, v171, v172, v173, v174, v175, v176, v177, v178, v179, v180, v181, v182, v183, v184, v185, v186, v187, v188, v189, v190, v191, v192, v193, v194, v195, v196, v197, v198, v199, v200, v201, v202, v203, v204, v205, v206, v207, v208, v209, v210, v211, v212, v213, v214, v215, v216, v217, v218, v219, v220, v221, v222, v223, v224, v225, v226, v227, v228, v229, v230, v231, v232, v233, v234, v235, v236, v237, v238, v239, v240, v241, v242, v243, v244, v245, v246, v247, v248, v249, v250, v251, v252, v253, v254, v255, v256, v257, v258, v259, v260, v261, v262, v263, v264, v265, v266, v267, v268, v269, v270, v271, v272, v273, v274, v275, v276, v277, v278, v279, v280, v281, v282, v283, v284, v285, v286], []⟩ w3 := by
  have d0 : w3.cell? ⟨nk, 0, none⟩ = some (.int .i64 t.k) := (hNet.cell 0).trans rfl
  have d1 : w3.cell? ⟨nk, 1, none⟩ = some (.int .i64 t.who) := (hNet.cell 1).trans rfl
  have d2 : w3.cell? ⟨nk, 2, none⟩ = some (.int .i64 t.at') := (hNet.cell 2).trans rfl
  have d3 : w3.cell? ⟨nk, 3, none⟩ = some (.slice t.x.sa t.x.len t.x.cap) := (hNet.cell 3).trans rfl
  obtain ⟨⟨oa1, oa2⟩, ob1, ob2⟩ := hf.ob (by omega)
  conv at hc => lhs; whnf
  injection hc with hc
  subst hc
  rw [hk0] at d0
  clear hk0
  have q := peer_any w3 hst3.ha.ss
  obtain ⟨c0, c1, c2, c3, c4, c5, c6, c7⟩ := hst3.eight
  have g1 : ((A.s.peer : Int) != 0) = true := by simp; omega
  have g2 : (1 : Int) ≤ (t.x.len : Int) := by omega
  have g3 : ¬ ((t.x.len : Int) ≤ 200) := by omega
  have hmf : A.s.may t.x.bs = false := by unfold Ss.may; have := hxx.out; rw [decide_eq_false (show ¬ (t.x.bs.length ≤ 200) by omega)]; simp
  have hSD : Hid (A.send t.x.bs = { A with s := A.s.sent t.x.bs }) := by
    show _ = _
    unfold Sd.send
    rw [hmf]
    rfl
  have hsl2 : A.sent.length ≤ A.sent.length + 1 := Nat.le_succ _
  clear hw
  go_wp2_with (go_at_call 7; refine q.mono ?_; rintro e w3 ⟨rfl, rfl⟩)
  clear c0 c1 c2 c3 c4 c5 c6 c7 q
  have hst4 := hst3
  have hNet4 := hNet
  have hfx4 := hfx
  have kd := kept_drew [] w3
  replace hst4 := hst4.kept0 kd
  replace hNet4 := hNet4.kept kd (by simp)
  replace hfx4 := hfx4.step kd (K' := flat (feet w.heap.size yb a b)) (by simp) (fun k hm => .inl hm)
  have e1 : w3.drew.cell? ⟨w.heap.size, 0, none⟩ = some (.pointer (some ⟨a.F.o, 0, none⟩)) := (hst4.x.cell 0).trans rfl
  have e2 : w3.drew.cell? ⟨nk, 3, none⟩ = some (.slice t.x.sa t.x.len t.x.cap) := (hNet4.cell 3).trans rfl
  have qs := send_any w3.drew hst4.ha.ss oa1 oa2 t.x.sa t.x.len t.x.cap _ t.x.bs hfx4.row (Nat.le_refl _) (by have := hxx.out; omega)
  have hfr := hst4.alien hNet4 notNet 0
  have hyl : a.Y.length ≤ 400 := by
    have := congrArg List.length hst4.ha.wayL
    rw [List.length_map] at this
    omega
  obtain ⟨SL, hSL⟩ : ∃ SL, Hid (A.s.sendL t.x.bs = SL) := ⟨_, rfl⟩
  have hSll : SL.length ≤ 1000 := by rw [← hSL.out]; exact sendL_len _ _
  replace qs : Calls Try.prog 8 #[.pointer (some ⟨a.F.o, 0, none⟩), .slice t.x.sa t.x.len t.x.cap] w3.drew fun e w' => ∃ v P F', e = .returned v ∧ Told w3.drew.heap.size w' v P SL ∧ After w3.drew w.heap.size a.F F' (A.s.sent t.x.bs) w' := by
    rw [← hSL.out]
    exact qs
  refine wp_region_held_drew (S := fun W => W.cell? ⟨w.heap.size, 0, none⟩ = some (.pointer (some ⟨a.F.o, 0, none⟩)) ∧ W.cell? ⟨nk, 3, none⟩ = some (.slice t.x.sa t.x.len t.x.cap)) (by kernel_rfl) ⟨e1, e2⟩ (fun hP => ?_)
  have hH := hP
  clear hP
  refine wpAnyH_take (i := 0) (oi := ⟨some 98, _, _, _, _, _⟩) (v := (.int .i64 0)) rfl (by kernel_rfl) (by kernel_rfl) (by kernel_rfl) (fun _ _ _ h => h) (Or.inl ⟨by rfl, fun W hSw => by go_simp⟩) hH ?_
  try simp only [Act.put, List.setIfInBounds_toArray, List.set_cons_zero, List.set_cons_succ]
  refine wpAnyH_take (i := 1) (oi := ⟨some 99, _, _, _, _, _⟩) (v := (.pointer (some ⟨w.heap.size, 0, none⟩))) rfl (by kernel_rfl) (by kernel_rfl) (by kernel_rfl) (fun _ _ _ h => h) (Or.inl ⟨by rfl, fun W hSw => by go_simp⟩) hH ?_
  try simp only [Act.put, List.setIfInBounds_toArray, List.set_cons_zero, List.set_cons_succ]
  refine wpAnyH_take (i := 2) (oi := ⟨some 100, _, _, _, _, _⟩) (v := (.pointer (some ⟨w.heap.size, 0, none⟩))) rfl (by kernel_rfl) (by kernel_rfl) (by kernel_rfl) (fun _ _ _ h => h) (Or.inl ⟨by rfl, fun W hSw => by go_simp⟩) hH ?_
  try simp only [Act.put, List.setIfInBounds_toArray, List.set_cons_zero, List.set_cons_succ]
  refine wpAnyH_take (i := 3) (oi := ⟨some 101, _, _, _, _, _⟩) (v := (.pointer (some ⟨a.F.o, 0, none⟩))) rfl (by kernel_rfl) (by kernel_rfl) (by kernel_rfl) (fun _ _ _ h => h) (Or.inl ⟨by rfl, fun W hSw => by obtain ⟨f1, f2⟩ := hSw; go_simp⟩) hH ?_
  try simp only [Act.put, List.setIfInBounds_toArray, List.set_cons_zero, List.set_cons_succ]
  refine wpAnyH_take (i := 4) (oi := ⟨some 102, _, _, _, _, _⟩) (v := (.pointer (some ⟨nk, 3, none⟩))) rfl (by kernel_rfl) (by kernel_rfl) (by kernel_rfl) (fun _ _ _ h => h) (Or.inl ⟨by rfl, fun W hSw => by go_simp⟩) hH ?_
  try simp only [Act.put, List.setIfInBounds_toArray, List.set_cons_zero, List.set_cons_succ]
  refine wpAnyH_take (i := 5) (oi := ⟨some 103, _, _, _, _, _⟩) (v := (.slice t.x.sa t.x.len t.x.cap)) rfl (by kernel_rfl) (by kernel_rfl) (by kernel_rfl) (fun _ _ _ h => h) (Or.inl ⟨by rfl, fun W hSw => by obtain ⟨f1, f2⟩ := hSw; go_simp⟩) hH ?_
  try simp only [Act.put, List.setIfInBounds_toArray, List.set_cons_zero, List.set_cons_succ]
  refine wpAnyH_ready (rs := [6]) (by kernel_rfl) (by simp) ?_
  refine AllReadyH.cons (o := ⟨some 104, _, _, _, _, _⟩) rfl (fun KK hKK => ?_) AllReadyH.nil
  go_simp
  refine qs.mono ?_
  rintro e w6 ⟨v6, P6, F6, rfl, hT6, hA6⟩
  obtain ⟨sl6, cl6, rfl⟩ := hT6.row.form
  have hmy : (A.s.sent t.x.bs).my = A.s.my := (send_my A t.x.bs).1
  have hst6 := hst4.call_a hA6 hmy
  have hNet6 := hNet4.kept hA6.kept hfr
  go_wp2_with fail
  have hH1 := (⟨by have := (hst6.x.cell 0).trans rfl; rw [← hA6.same]; exact this, (hNet6.cell 3).trans rfl⟩ : w6.cell? ⟨w.heap.size, 0, none⟩ = some (.pointer (some ⟨a.F.o, 0, none⟩)) ∧ w6.cell? ⟨nk, 3, none⟩ = some (.slice t.x.sa t.x.len t.x.cap))
  refine hKK.out _ _ hH1 (fun _ => ?_)
  replace hH := hH1
  clear hKK KK hH1
  try simp only [Act.put, List.setIfInBounds_toArray, List.set_cons_zero, List.set_cons_succ]
  refine wpAnyH_take (i := 7) (oi := ⟨some 14, _, _, _, _, _⟩) (v := (.slice sl6 P6.length cl6)) rfl (by kernel_rfl) (by kernel_rfl) (by kernel_rfl) (fun _ _ _ h => h) (Or.inl ⟨by rfl, fun W hSw => by go_simp⟩) hH ?_
  try simp only [Act.put, List.setIfInBounds_toArray, List.set_cons_zero, List.set_cons_succ]
  refine wpAnyH_done (by kernel_rfl) ?_ _
  have hl6 : P6.length ≤ 1000 := by have := hT6.len; omega
  obtain ⟨y0, y1⟩ := hst6.two
  go_wp2_with (first
    | (at_builtin; refine wpList_append_any rfl _ _ rfl w.heap.size (.slice a.w1 a.Y.length a.w3) (.slice sl6 P6.length cl6) a.Y P6 rfl rfl hst6.ha.way hT6.row.lies (by omega) hst6.bw ?_; intro u1 un u3 w7 hr7 hk7 hn7)
    | (refine Wire.wpList_store_cell rfl 26 _ _ rfl yb 0 33 _ (.slice u1 un u3) rfl rfl (hst6.y.kept hk7 (fun e => by have := hst6.pool.one 9 3 yb (by simp [feet]) e; omega)) (by simp) Outbox.Try.sizeBB rfl ?_; intro w8 hb8 hk8; simp only [List.setIfInBounds_toArray, List.set_cons_zero] at hb8))
  have hst8 := hst6.way_a hr7 hk7 hn7.out (fun x hx => far_byt (hT6.mem x hx) hst6.noFlat) hb8 hk8
  rw [hT6.bs, ← hSL.out] at hst8
  have hB := hf.both.send t.x.bs (by have := hf.sent; omega)
  rw [hSD.out] at hB
  have hwn : (A.s.sent t.x.bs).ob.w = A.s.ob.w := by
    unfold Ss.sent
    split <;> rfl
  refine ⟨⟨rfl, rfl, by rw [hL1.out]; rfl, by rw [hL2.out]; rfl, by rw [hL3.out]; rfl⟩, _, _, _, _, _, _, hst8, hB, ?_, ?_, ?_, ?_⟩
  · have := hf.my; exact ⟨Nat.le_trans (Nat.le_of_eq hmy) (Nat.le_succ_of_le this.1), Nat.le_succ_of_le this.2⟩
  · have := hf.sent; exact ⟨Nat.le_trans hsl2 (Nat.succ_le_succ this.1), Nat.le_succ_of_le this.2⟩
  · exact ⟨hwn.trans hf.win.1, hf.win.2⟩
  · have := hf.got; exact ⟨Nat.le_succ_of_le this.1, Nat.le_succ_of_le this.2⟩
set_option maxRecDepth 100000 in
set_option maxHeartbeats 8000000 in
/-- A body is sent at side 0. -/
theorem sw0_send_may (h1 : 1 ≤ m) (h2 : m ≤ 64) (hl : len ≤ 120) (hjl : j + 1 ≤ len) (hst3 : St w w.heap.size w.heap.size yb a b A B wa wb w3) (hf : Far2 m j A B wa wb) (hwa : wa.length ≤ 400) (hwb : wb.length ≤ 400) (hfx : Far (flat (feet w.heap.size yb a b)) w3 t.x) (hNet : Blk w3 nk 36 #[.int .i64 t.k, .int .i64 t.who, .int .i64 t.at', .slice t.x.sa t.x.len t.x.cap]) (hxx : Hid (t.x.len = t.x.bs.length)) (h300 : ¬ (300 < t.x.len)) (hk0 : t.k = 0) (hw : ¬ (A.s.peer = 0)) (hw1 : 1 ≤ t.x.len) (hw2 : t.x.len ≤ 200) {c : Code} (hc : Try.f3.body.bind (findB 4) = some c) (hL1 : Hid (L1 = [.int .i64 (m : Int), sl1, v2, v3, v4, .pointer (some ⟨w.heap.size, 0, none⟩), v6, v7, v8, .pointer (some ⟨yb, 0, none⟩), v10, .pointer (some ⟨nk, 0, none⟩), .int .i64 0, .int .i64 1])) (hL2 : Hid (L2 = [v22, v23, v24, v25, v26, v27, v28, v29, v30, v31, v32, v33, v34, v35, v36, v37, v38, v39, v40, v41, v42, v43, v44, v45, v46, v47, v48, v49, sl50])) (hL3 : Hid (L3 = [v286])) :
    Code.wp Try.prog c (SwPost L1 L2 L3 w m j yb) ⟨#[.int .i64 (m : Int), sl1, v2, v3, v4, .pointer (some ⟨w.heap.size, 0, none⟩), v6, v7, v8, .pointer (some ⟨yb, 0, none⟩), v10, .pointer (some ⟨nk, 0, none⟩), .int .i64 0, .int .i64 1, v14, v15, v16, v17, v18, v19, v20, v21, v22, v23, v24, v25, v26, v27, v28, v29, v30, v31, v32, v33, v34, v35, v36, v37, v38, v39, v40, v41, v42, v43, v44, v45, v46, v47, v48, v49, sl50, v51, v52, v53, v54, v55, v56, v57, v58, v59, v60, v61, v62, v63, v64, v65, .int .i64 0, v67, v68, v69, v70, v71, v72, v73, v74, v75, v76, v77, v78, v79, v80, v81, v82, v83, v84, v85, v86, v87, v88, v89, v90, v91, v92, v93, v94, v95, v96, v97, v98, v99, v100, v101, v102, v103, v104, v105, v106, v107, v108, v109, v110, v111, v112, v113, v114, v115, v116, v117, v118, v119, v120, v121, v122, v123, v124, v125, v126, v127, v128, v129, v130, v131, v132, v133, v134, v135, v136, v137, v138, v139, v140, v141, v142, v143, v144, v145, v146, v147, v148, v149, v150, v151, v152, v153, v154, v155, v156, v157, v158, v159, v160, v161, v162, v163, v164, v165, v166, v167, v168, v169, v170, v171, v172, v173, v174, v175, v176, v177, v178, v179, v180, v181, v182, v183, v184, v185, v186, v187, v188, v189, v190, v191, v192, v193, v194, v195, v196, v197, v198, v199, v200, v201, v202, v203, v204, v205, v206, v207, v208, v209, v210, v211, v212, v213, v214, v215, v216, v217, v218, v219, v220, v221, v222, v223, v224, v225, v226, v227, v228, v229, v230, v231, v232, v233, v234, v235, v236, v237, v238, v239, v240, v241, v242, v243, v244, v245, v246, v247, v248, v249, v250, v251, v252, v253, v254, v255, v256, v257, v258, v259, v260, v261, v262, v263, v264, v265, v266, v267, v268, v269, v270, v271, v272, v273, v274, v275, v276, v277, v278, v279, v280, v281, v282, v283, v284, v285, v286], []⟩ w3 := by
  have d0 : w3.cell? ⟨nk, 0, none⟩ = some (.int .i64 t.k) := (hNet.cell 0).trans rfl
  have d1 : w3.cell? ⟨nk, 1, none⟩ = some (.int .i64 t.who) := (hNet.cell 1).trans rfl
  have d2 : w3.cell? ⟨nk, 2, none⟩ = some (.int .i64 t.at') := (hNet.cell 2).trans rfl
  have d3 : w3.cell? ⟨nk, 3, none⟩ = some (.slice t.x.sa t.x.len t.x.cap) := (hNet.cell 3).trans rfl
  obtain ⟨⟨oa1, oa2⟩, ob1, ob2⟩ := hf.ob (by omega)
  conv at hc => lhs; whnf
  injection hc with hc
  subst hc
  rw [hk0] at d0
  clear hk0
  have q := peer_any w3 hst3.ha.ss
  obtain ⟨c0, c1, c2, c3, c4, c5, c6, c7⟩ := hst3.eight
  have g1 : ((A.s.peer : Int) != 0) = true := by simp; omega
  have g2 : (1 : Int) ≤ (t.x.len : Int) := by omega
  have g3 : (t.x.len : Int) ≤ 200 := by omega
  have hmay : A.s.may t.x.bs = true := by
    unfold Ss.may
    have := hxx.out
    rw [decide_eq_true (show 1 ≤ t.x.bs.length by omega), decide_eq_true (show t.x.bs.length ≤ 200 by omega)]
    simpa using hw
  have hSD : Hid (A.send t.x.bs = { A with s := A.s.sent t.x.bs, sent := A.sent ++ [t.x.bs] }) := by
    show _ = _
    unfold Sd.send
    rw [hmay]
    rfl
  have hsl2 : (A.sent ++ [t.x.bs]).length ≤ A.sent.length + 1 := by simp
  clear hw
  have hsS : a.S.length ≤ 120 := by
    have := congrArg List.length hst3.ha.sentL
    rw [List.length_map] at this
    have := hf.sent
    omega
  go_wp2_with (go_at_call 7; refine q.mono ?_; rintro e w3 ⟨rfl, rfl⟩)
  clear c0 c1 c2 c3 c4 c5 c6 c7 q
  have hst3d := hst3.kept0 (kept_drew [] w3)
  have hNetd := hNet.kept (kept_drew [] w3) (by simp)
  have hfxd := hfx.step (kept_drew [] w3) (K' := flat (feet w.heap.size yb a b)) (by simp) (fun k hm => .inl hm)
  have hnx : nk ∉ [w.heap.size] := fun e => by
    rw [List.mem_singleton] at e
    exact hst3d.alien hNetd notNet 8 (by rw [e]; simp [feet])
  have d3d : w3.drew.cell? ⟨nk, 3, none⟩ = some (.slice t.x.sa t.x.len t.x.cap) := (hNetd.cell 3).trans rfl
  have csent : w3.drew.cell? ⟨w.heap.size, 2, none⟩ = some (.slice a.s1 a.S.length a.s3) := (hst3d.x.cell 2).trans rfl
  refine wp_region_held_drew (S := fun W => W.cell? ⟨nk, 3, none⟩ = some (.slice t.x.sa t.x.len t.x.cap)) (by kernel_rfl) d3d (fun hP => ?_)
  have hH := hP
  clear hP
  refine wpAnyH_take (i := 0) (oi := ⟨some 87, _, _, _, _, _⟩) (v := (.int .i64 0)) rfl (by kernel_rfl) (by kernel_rfl) (by kernel_rfl) (fun _ _ _ h => h) (Or.inl ⟨by rfl, fun W hSw => by go_simp⟩) hH ?_
  try simp only [Act.put, List.setIfInBounds_toArray, List.set_cons_zero, List.set_cons_succ]
  refine wpAnyH_take (i := 1) (oi := ⟨some 88, _, _, _, _, _⟩) (v := (.int .i64 0)) rfl (by kernel_rfl) (by kernel_rfl) (by kernel_rfl) (fun _ _ _ h => h) (Or.inl ⟨by rfl, fun W hSw => by go_simp⟩) hH ?_
  try simp only [Act.put, List.setIfInBounds_toArray, List.set_cons_zero, List.set_cons_succ]
  refine wpAnyH_take (i := 2) (oi := ⟨some 89, _, _, _, _, _⟩) (v := (.pointer (some ⟨w.heap.size, 0, none⟩))) rfl (by kernel_rfl) (by kernel_rfl) (by kernel_rfl) (fun _ _ _ h => h) (Or.inl ⟨by rfl, fun W hSw => by go_simp⟩) hH ?_
  try simp only [Act.put, List.setIfInBounds_toArray, List.set_cons_zero, List.set_cons_succ]
  refine wpAnyH_take (i := 3) (oi := ⟨some 90, _, _, _, _, _⟩) (v := (.pointer (some ⟨w.heap.size, 2, none⟩))) rfl (by kernel_rfl) (by kernel_rfl) (by kernel_rfl) (fun _ _ _ h => h) (Or.inl ⟨by rfl, fun W hSw => by go_simp⟩) hH ?_
  try simp only [Act.put, List.setIfInBounds_toArray, List.set_cons_zero, List.set_cons_succ]
  refine wpAnyH_take (i := 5) (oi := ⟨some 92, _, _, _, _, _⟩) (v := (.pointer (some ⟨nk, 3, none⟩))) rfl (by kernel_rfl) (by kernel_rfl) (by kernel_rfl) (fun _ _ _ h => h) (Or.inl ⟨by rfl, fun W hSw => by go_simp⟩) hH ?_
  try simp only [Act.put, List.setIfInBounds_toArray, List.set_cons_zero, List.set_cons_succ]
  refine wpAnyH_take (i := 6) (oi := ⟨some 93, _, _, _, _, _⟩) (v := (.slice t.x.sa t.x.len t.x.cap)) rfl (by kernel_rfl) (by kernel_rfl) (by kernel_rfl) (fun _ _ _ h => h) (Or.inl ⟨by rfl, fun W hSw => by go_simp⟩) hH ?_
  try simp only [Act.put, List.setIfInBounds_toArray, List.set_cons_zero, List.set_cons_succ]
  refine wpAnyH_ready (rs := [4, 7]) (by kernel_rfl) (by simp) ?_
  refine AllReadyH.cons (o := ⟨some 91, _, _, _, _, _⟩) rfl (fun KK hKK => ?_) (AllReadyH.cons (o := ⟨some 94, _, _, _, _, _⟩) rfl (fun KK hKK => ?_) AllReadyH.nil)
  · go_simp
    refine hKK.out _ _ d3d (fun _ => ?_)
    clear hKK KK
    try simp only [Act.put, List.setIfInBounds_toArray, List.set_cons_zero, List.set_cons_succ]
    refine wpAnyH_ready (rs := [7]) (by kernel_rfl) (by simp) ?_
    refine AllReadyH.cons (o := ⟨some 94, _, _, _, _, _⟩) rfl (fun KK hKK => ?_) AllReadyH.nil
    go_simp
    have hH1 := ((hNetd.kept (kept_alloc [] w3.drew (.cells #[.slice t.x.sa t.x.len t.x.cap] 34)) (by simp)).cell 3).trans rfl
    refine hKK.out _ _ hH1 (fun _ => ?_)
    replace hH := hH1
    clear hKK KK hH1
    try simp only [Act.put, List.setIfInBounds_toArray, List.set_cons_zero, List.set_cons_succ]
    refine wpAnyH_ready (rs := [8]) (by kernel_rfl) (by simp) ?_
    refine AllReadyH.cons (o := ⟨some 95, _, _, _, _, _⟩) rfl (fun KK hKK => ?_) AllReadyH.nil
    refine step_append_any rfl (.tmp 91) (.tmp 94) rfl w.heap.size (.slice a.s1 a.S.length a.s3) (.slice (some ⟨w3.drew.heap.size, 0, none⟩) 1 1) a.S [t.x] (by simp [Act.eval]) (by simp [Act.eval]) (hst3d.ha.sent.kept0 (kept_alloc [] w3.drew (.cells #[.slice t.x.sa t.x.len t.x.cap] 34))) (lies_one _ _ (by simp) (cell_one_new _ _ _ 0 _ rfl)) (by simp; omega) (Nat.le_trans hst3d.bw (kept_alloc [] w3.drew (.cells #[.slice t.x.sa t.x.len t.x.cap] 34)).size) ?_
    intro u1 un u3 w4 hr4 hk4 hn4
    have hnr : nk ∉ (Value.slice a.s1 a.S.length a.s3).ownBlock.toList := fun e => hst3d.alien hNetd notNet 1 e
    have hNet4 := (hNetd.kept (kept_alloc [] w3.drew (.cells #[.slice t.x.sa t.x.len t.x.cap] 34)) (by simp)).kept hk4 hnr
    have hH1 := (hNet4.cell 3).trans rfl
    refine hKK.out _ _ hH1 (fun _ => ?_)
    replace hH := hH1
    clear hKK KK hH1
    try simp only [Act.put, List.setIfInBounds_toArray, List.set_cons_zero, List.set_cons_succ]
    refine wpAnyH_take (i := 9) (oi := ⟨some 96, _, _, _, _, _⟩) (v := (.pointer (some ⟨w.heap.size, 0, none⟩))) rfl (by kernel_rfl) (by kernel_rfl) (by kernel_rfl) (fun _ _ _ h => h) (Or.inl ⟨by rfl, fun W hSw => by go_simp⟩) hH ?_
    try simp only [Act.put, List.setIfInBounds_toArray, List.set_cons_zero, List.set_cons_succ]
    refine wpAnyH_take (i := 10) (oi := ⟨some 97, _, _, _, _, _⟩) (v := (.pointer (some ⟨w.heap.size, 2, none⟩))) rfl (by kernel_rfl) (by kernel_rfl) (by kernel_rfl) (fun _ _ _ h => h) (Or.inl ⟨by rfl, fun W hSw => by go_simp⟩) hH ?_
    try simp only [Act.put, List.setIfInBounds_toArray, List.set_cons_zero, List.set_cons_succ]
    refine wpAnyH_ready (rs := [11]) (by kernel_rfl) (by simp) ?_
    refine AllReadyH.cons (o := ⟨none, _, _, _, _, _⟩) rfl (fun KK hKK => ?_) AllReadyH.nil
    have hxo : w.heap.size ∉ (Value.slice a.s1 a.S.length a.s3).ownBlock.toList := fun e => by have := hst3d.pool.one 8 1 w.heap.size (by simp [feet]) e; omega
    have hx4 := ((hst3d.x.kept (kept_alloc [] w3.drew (.cells #[.slice t.x.sa t.x.len t.x.cap] 34)) (by simp)).kept hk4 hxo)
    refine step_store_cell rfl 26 (.tmp 97) (.tmp 95) rfl w.heap.size 2 29 _ (.slice u1 un u3) (by simp [Act.eval]) (by simp [Act.eval]) hx4 (by simp) Outbox.Try.sizeBB rfl ?_
    intro w5 hb5 hk5
    simp only [List.setIfInBounds_toArray, List.set_cons_zero, List.set_cons_succ] at hb5
    have hNet5 := hNet4.kept hk5 hnx
    have hH1 := (hNet5.cell 3).trans rfl
    refine hKK.out _ _ hH1 (fun _ => ?_)
    replace hH := hH1
    clear hKK KK hH1
    try simp only [Act.put]
    refine wpAnyH_done (by kernel_rfl) ?_ _
    go_wp2_with fail
    have hk4' : Kept a.sent.ownBlock.toList w3.drew w4 := ((kept_alloc [] w3.drew (.cells #[.slice t.x.sa t.x.len t.x.cap] 34)).mono (by simp)).trans hk4
    have hn4' : ∀ k, (Value.slice u1 un u3).ownBlock = some k → a.sent.ownBlock = some k ∨ w3.drew.heap.size ≤ k := fun k e => (hn4.out k e).imp id (fun h => Nat.le_trans (kept_alloc [] w3.drew (.cells #[.slice t.x.sa t.x.len t.x.cap] 34)).size h)
    have hS6 := hst3d.sent_a hr4 hk4' hn4' (fun x hx => by rw [List.mem_singleton] at hx; rw [hx]; exact hfxd) hb5 hk5
    obtain ⟨z, hst4, hfx4⟩ : ∃ z : Sv, St w w.heap.size w.heap.size yb z b { A with sent := A.sent ++ [t.x.bs] } B wa wb w5 ∧ Far (flat (feet w.heap.size yb z b)) w5 t.x := ⟨_, hS6, hS6.ha.sentF t.x (List.mem_append_right _ (by simp))⟩
    replace hNet4 := hNet5
    clear hS6 hst3 hst3d hr4 hn4' hn4 hk4' hk4 hb5 hk5 hx4 hNetd hNet5 hfxd csent d3d
    have kd := kept_drew [] w5
    replace hst4 := hst4.kept0 kd
    replace hNet4 := hNet4.kept kd (by simp)
    replace hfx4 := hfx4.step kd (K' := flat (feet w.heap.size yb z b)) (by simp) (fun k hm => .inl hm)
    have e1 : w5.drew.cell? ⟨w.heap.size, 0, none⟩ = some (.pointer (some ⟨z.F.o, 0, none⟩)) := (hst4.x.cell 0).trans rfl
    have e2 : w5.drew.cell? ⟨nk, 3, none⟩ = some (.slice t.x.sa t.x.len t.x.cap) := (hNet4.cell 3).trans rfl
    have qs := send_any w5.drew hst4.ha.ss oa1 oa2 t.x.sa t.x.len t.x.cap _ t.x.bs hfx4.row (Nat.le_refl _) (by have := hxx.out; omega)
    have hfr := hst4.alien hNet4 notNet 0
    have hyl : z.Y.length ≤ 400 := by
      have := congrArg List.length hst4.ha.wayL
      rw [List.length_map] at this
      omega
    obtain ⟨SL, hSL⟩ : ∃ SL, Hid (A.s.sendL t.x.bs = SL) := ⟨_, rfl⟩
    have hSll : SL.length ≤ 1000 := by rw [← hSL.out]; exact sendL_len _ _
    replace qs : Calls Try.prog 8 #[.pointer (some ⟨z.F.o, 0, none⟩), .slice t.x.sa t.x.len t.x.cap] w5.drew fun e w' => ∃ v P F', e = .returned v ∧ Told w5.drew.heap.size w' v P SL ∧ After w5.drew w.heap.size z.F F' (A.s.sent t.x.bs) w' := by
      rw [← hSL.out]
      exact qs
    refine wp_region_held_drew (S := fun W => W.cell? ⟨w.heap.size, 0, none⟩ = some (.pointer (some ⟨z.F.o, 0, none⟩)) ∧ W.cell? ⟨nk, 3, none⟩ = some (.slice t.x.sa t.x.len t.x.cap)) (by kernel_rfl) ⟨e1, e2⟩ (fun hP => ?_)
    have hH := hP
    clear hP
    refine wpAnyH_take (i := 0) (oi := ⟨some 98, _, _, _, _, _⟩) (v := (.int .i64 0)) rfl (by kernel_rfl) (by kernel_rfl) (by kernel_rfl) (fun _ _ _ h => h) (Or.inl ⟨by rfl, fun W hSw => by go_simp⟩) hH ?_
    try simp only [Act.put, List.setIfInBounds_toArray, List.set_cons_zero, List.set_cons_succ]
    refine wpAnyH_take (i := 1) (oi := ⟨some 99, _, _, _, _, _⟩) (v := (.pointer (some ⟨w.heap.size, 0, none⟩))) rfl (by kernel_rfl) (by kernel_rfl) (by kernel_rfl) (fun _ _ _ h => h) (Or.inl ⟨by rfl, fun W hSw => by go_simp⟩) hH ?_
    try simp only [Act.put, List.setIfInBounds_toArray, List.set_cons_zero, List.set_cons_succ]
    refine wpAnyH_take (i := 2) (oi := ⟨some 100, _, _, _, _, _⟩) (v := (.pointer (some ⟨w.heap.size, 0, none⟩))) rfl (by kernel_rfl) (by kernel_rfl) (by kernel_rfl) (fun _ _ _ h => h) (Or.inl ⟨by rfl, fun W hSw => by go_simp⟩) hH ?_
    try simp only [Act.put, List.setIfInBounds_toArray, List.set_cons_zero, List.set_cons_succ]
    refine wpAnyH_take (i := 3) (oi := ⟨some 101, _, _, _, _, _⟩) (v := (.pointer (some ⟨z.F.o, 0, none⟩))) rfl (by kernel_rfl) (by kernel_rfl) (by kernel_rfl) (fun _ _ _ h => h) (Or.inl ⟨by rfl, fun W hSw => by obtain ⟨f1, f2⟩ := hSw; go_simp⟩) hH ?_
    try simp only [Act.put, List.setIfInBounds_toArray, List.set_cons_zero, List.set_cons_succ]
    refine wpAnyH_take (i := 4) (oi := ⟨some 102, _, _, _, _, _⟩) (v := (.pointer (some ⟨nk, 3, none⟩))) rfl (by kernel_rfl) (by kernel_rfl) (by kernel_rfl) (fun _ _ _ h => h) (Or.inl ⟨by rfl, fun W hSw => by go_simp⟩) hH ?_
    try simp only [Act.put, List.setIfInBounds_toArray, List.set_cons_zero, List.set_cons_succ]
    refine wpAnyH_take (i := 5) (oi := ⟨some 103, _, _, _, _, _⟩) (v := (.slice t.x.sa t.x.len t.x.cap)) rfl (by kernel_rfl) (by kernel_rfl) (by kernel_rfl) (fun _ _ _ h => h) (Or.inl ⟨by rfl, fun W hSw => by obtain ⟨f1, f2⟩ := hSw; go_simp⟩) hH ?_
    try simp only [Act.put, List.setIfInBounds_toArray, List.set_cons_zero, List.set_cons_succ]
    refine wpAnyH_ready (rs := [6]) (by kernel_rfl) (by simp) ?_
    refine AllReadyH.cons (o := ⟨some 104, _, _, _, _, _⟩) rfl (fun KK hKK => ?_) AllReadyH.nil
    go_simp
    refine qs.mono ?_
    rintro e w6 ⟨v6, P6, F6, rfl, hT6, hA6⟩
    obtain ⟨sl6, cl6, rfl⟩ := hT6.row.form
    have hmy : (A.s.sent t.x.bs).my = A.s.my := (send_my A t.x.bs).1
    have hst6 := hst4.call_a hA6 hmy
    have hNet6 := hNet4.kept hA6.kept hfr
    go_wp2_with fail
    have hH1 := (⟨by have := (hst6.x.cell 0).trans rfl; rw [← hA6.same]; exact this, (hNet6.cell 3).trans rfl⟩ : w6.cell? ⟨w.heap.size, 0, none⟩ = some (.pointer (some ⟨z.F.o, 0, none⟩)) ∧ w6.cell? ⟨nk, 3, none⟩ = some (.slice t.x.sa t.x.len t.x.cap))
    refine hKK.out _ _ hH1 (fun _ => ?_)
    replace hH := hH1
    clear hKK KK hH1
    try simp only [Act.put, List.setIfInBounds_toArray, List.set_cons_zero, List.set_cons_succ]
    refine wpAnyH_take (i := 7) (oi := ⟨some 14, _, _, _, _, _⟩) (v := (.slice sl6 P6.length cl6)) rfl (by kernel_rfl) (by kernel_rfl) (by kernel_rfl) (fun _ _ _ h => h) (Or.inl ⟨by rfl, fun W hSw => by go_simp⟩) hH ?_
    try simp only [Act.put, List.setIfInBounds_toArray, List.set_cons_zero, List.set_cons_succ]
    refine wpAnyH_done (by kernel_rfl) ?_ _
    have hl6 : P6.length ≤ 1000 := by have := hT6.len; omega
    obtain ⟨y0, y1⟩ := hst6.two
    go_wp2_with (first
      | (at_builtin; refine wpList_append_any rfl _ _ rfl w.heap.size (.slice z.w1 z.Y.length z.w3) (.slice sl6 P6.length cl6) z.Y P6 rfl rfl hst6.ha.way hT6.row.lies (by omega) hst6.bw ?_; intro u1 un u3 w7 hr7 hk7 hn7)
      | (refine Wire.wpList_store_cell rfl 26 _ _ rfl yb 0 33 _ (.slice u1 un u3) rfl rfl (hst6.y.kept hk7 (fun e => by have := hst6.pool.one 9 3 yb (by simp [feet]) e; omega)) (by simp) Outbox.Try.sizeBB rfl ?_; intro w8 hb8 hk8; simp only [List.setIfInBounds_toArray, List.set_cons_zero] at hb8))
    have hst8 := hst6.way_a hr7 hk7 hn7.out (fun x hx => far_byt (hT6.mem x hx) hst6.noFlat) hb8 hk8
    rw [hT6.bs, ← hSL.out] at hst8
    have hB := hf.both.send t.x.bs (by have := hf.sent; omega)
    rw [hSD.out] at hB
    have hwn : (A.s.sent t.x.bs).ob.w = A.s.ob.w := by
      unfold Ss.sent
      split <;> rfl
    refine ⟨⟨rfl, rfl, by rw [hL1.out]; rfl, by rw [hL2.out]; rfl, by rw [hL3.out]; rfl⟩, _, _, _, _, _, _, hst8, hB, ?_, ?_, ?_, ?_⟩
    · have := hf.my; exact ⟨Nat.le_trans (Nat.le_of_eq hmy) (Nat.le_succ_of_le this.1), Nat.le_succ_of_le this.2⟩
    · have := hf.sent; exact ⟨Nat.le_trans hsl2 (Nat.succ_le_succ this.1), Nat.le_succ_of_le this.2⟩
    · exact ⟨hwn.trans hf.win.1, hf.win.2⟩
    · have := hf.got; exact ⟨Nat.le_succ_of_le this.1, Nat.le_succ_of_le this.2⟩
  · go_simp
    refine hKK.out _ _ (((hNetd.kept (kept_alloc [] w3.drew (.cells #[.slice t.x.sa t.x.len t.x.cap] 34)) (by simp)).cell 3).trans rfl) (fun _ => ?_)
    clear hKK KK
    try simp only [Act.put, List.setIfInBounds_toArray, List.set_cons_zero, List.set_cons_succ]
    refine wpAnyH_ready (rs := [4]) (by kernel_rfl) (by simp) ?_
    refine AllReadyH.cons (o := ⟨some 91, _, _, _, _, _⟩) rfl (fun KK hKK => ?_) AllReadyH.nil
    have csent3 : w3.cell? ⟨w.heap.size, 2, none⟩ = some (.slice a.s1 a.S.length a.s3) := csent
    have hxlt : w.heap.size < w3.heap.size := hst3d.x.lt
    have hxlt' : w.heap.size < w3.drew.heap.size := hst3d.x.lt
    have hxne : ¬ (w.heap.size = w3.heap.size) := by omega
    go_simp
    refine hKK.out _ _ (((hNetd.kept (kept_alloc [] w3.drew (.cells #[.slice t.x.sa t.x.len t.x.cap] 34)) (by simp)).cell 3).trans rfl) (fun _ => ?_)
    clear hKK KK csent3 hxlt hxlt' hxne
    try simp only [Act.put, List.setIfInBounds_toArray, List.set_cons_zero, List.set_cons_succ]
    refine wpAnyH_ready (rs := [8]) (by kernel_rfl) (by simp) ?_
    refine AllReadyH.cons (o := ⟨some 95, _, _, _, _, _⟩) rfl (fun KK hKK => ?_) AllReadyH.nil
    refine step_append_any rfl (.tmp 91) (.tmp 94) rfl w.heap.size (.slice a.s1 a.S.length a.s3) (.slice (some ⟨w3.drew.heap.size, 0, none⟩) 1 1) a.S [t.x] (by simp [Act.eval]) (by simp [Act.eval]) (hst3d.ha.sent.kept0 (kept_alloc [] w3.drew (.cells #[.slice t.x.sa t.x.len t.x.cap] 34))) (lies_one _ _ (by simp) (cell_one_new _ _ _ 0 _ rfl)) (by simp; omega) (Nat.le_trans hst3d.bw (kept_alloc [] w3.drew (.cells #[.slice t.x.sa t.x.len t.x.cap] 34)).size) ?_
    intro u1 un u3 w4 hr4 hk4 hn4
    have hnr : nk ∉ (Value.slice a.s1 a.S.length a.s3).ownBlock.toList := fun e => hst3d.alien hNetd notNet 1 e
    have hNet4 := (hNetd.kept (kept_alloc [] w3.drew (.cells #[.slice t.x.sa t.x.len t.x.cap] 34)) (by simp)).kept hk4 hnr
    have hH1 := (hNet4.cell 3).trans rfl
    refine hKK.out _ _ hH1 (fun _ => ?_)
    replace hH := hH1
    clear hKK KK hH1
    try simp only [Act.put, List.setIfInBounds_toArray, List.set_cons_zero, List.set_cons_succ]
    refine wpAnyH_take (i := 9) (oi := ⟨some 96, _, _, _, _, _⟩) (v := (.pointer (some ⟨w.heap.size, 0, none⟩))) rfl (by kernel_rfl) (by kernel_rfl) (by kernel_rfl) (fun _ _ _ h => h) (Or.inl ⟨by rfl, fun W hSw => by go_simp⟩) hH ?_
    try simp only [Act.put, List.setIfInBounds_toArray, List.set_cons_zero, List.set_cons_succ]
    refine wpAnyH_take (i := 10) (oi := ⟨some 97, _, _, _, _, _⟩) (v := (.pointer (some ⟨w.heap.size, 2, none⟩))) rfl (by kernel_rfl) (by kernel_rfl) (by kernel_rfl) (fun _ _ _ h => h) (Or.inl ⟨by rfl, fun W hSw => by go_simp⟩) hH ?_
    try simp only [Act.put, List.setIfInBounds_toArray, List.set_cons_zero, List.set_cons_succ]
    refine wpAnyH_ready (rs := [11]) (by kernel_rfl) (by simp) ?_
    refine AllReadyH.cons (o := ⟨none, _, _, _, _, _⟩) rfl (fun KK hKK => ?_) AllReadyH.nil
    have hxo : w.heap.size ∉ (Value.slice a.s1 a.S.length a.s3).ownBlock.toList := fun e => by have := hst3d.pool.one 8 1 w.heap.size (by simp [feet]) e; omega
    have hx4 := ((hst3d.x.kept (kept_alloc [] w3.drew (.cells #[.slice t.x.sa t.x.len t.x.cap] 34)) (by simp)).kept hk4 hxo)
    refine step_store_cell rfl 26 (.tmp 97) (.tmp 95) rfl w.heap.size 2 29 _ (.slice u1 un u3) (by simp [Act.eval]) (by simp [Act.eval]) hx4 (by simp) Outbox.Try.sizeBB rfl ?_
    intro w5 hb5 hk5
    simp only [List.setIfInBounds_toArray, List.set_cons_zero, List.set_cons_succ] at hb5
    have hNet5 := hNet4.kept hk5 hnx
    have hH1 := (hNet5.cell 3).trans rfl
    refine hKK.out _ _ hH1 (fun _ => ?_)
    replace hH := hH1
    clear hKK KK hH1
    try simp only [Act.put]
    refine wpAnyH_done (by kernel_rfl) ?_ _
    go_wp2_with fail
    have hk4' : Kept a.sent.ownBlock.toList w3.drew w4 := ((kept_alloc [] w3.drew (.cells #[.slice t.x.sa t.x.len t.x.cap] 34)).mono (by simp)).trans hk4
    have hn4' : ∀ k, (Value.slice u1 un u3).ownBlock = some k → a.sent.ownBlock = some k ∨ w3.drew.heap.size ≤ k := fun k e => (hn4.out k e).imp id (fun h => Nat.le_trans (kept_alloc [] w3.drew (.cells #[.slice t.x.sa t.x.len t.x.cap] 34)).size h)
    have hS6 := hst3d.sent_a hr4 hk4' hn4' (fun x hx => by rw [List.mem_singleton] at hx; rw [hx]; exact hfxd) hb5 hk5
    obtain ⟨z, hst4, hfx4⟩ : ∃ z : Sv, St w w.heap.size w.heap.size yb z b { A with sent := A.sent ++ [t.x.bs] } B wa wb w5 ∧ Far (flat (feet w.heap.size yb z b)) w5 t.x := ⟨_, hS6, hS6.ha.sentF t.x (List.mem_append_right _ (by simp))⟩
    replace hNet4 := hNet5
    clear hS6 hst3 hst3d hr4 hn4' hn4 hk4' hk4 hb5 hk5 hx4 hNetd hNet5 hfxd csent d3d
    have kd := kept_drew [] w5
    replace hst4 := hst4.kept0 kd
    replace hNet4 := hNet4.kept kd (by simp)
    replace hfx4 := hfx4.step kd (K' := flat (feet w.heap.size yb z b)) (by simp) (fun k hm => .inl hm)
    have e1 : w5.drew.cell? ⟨w.heap.size, 0, none⟩ = some (.pointer (some ⟨z.F.o, 0, none⟩)) := (hst4.x.cell 0).trans rfl
    have e2 : w5.drew.cell? ⟨nk, 3, none⟩ = some (.slice t.x.sa t.x.len t.x.cap) := (hNet4.cell 3).trans rfl
    have qs := send_any w5.drew hst4.ha.ss oa1 oa2 t.x.sa t.x.len t.x.cap _ t.x.bs hfx4.row (Nat.le_refl _) (by have := hxx.out; omega)
    have hfr := hst4.alien hNet4 notNet 0
    have hyl : z.Y.length ≤ 400 := by
      have := congrArg List.length hst4.ha.wayL
      rw [List.length_map] at this
      omega
    obtain ⟨SL, hSL⟩ : ∃ SL, Hid (A.s.sendL t.x.bs = SL) := ⟨_, rfl⟩
    have hSll : SL.length ≤ 1000 := by rw [← hSL.out]; exact sendL_len _ _
    replace qs : Calls Try.prog 8 #[.pointer (some ⟨z.F.o, 0, none⟩), .slice t.x.sa t.x.len t.x.cap] w5.drew fun e w' => ∃ v P F', e = .returned v ∧ Told w5.drew.heap.size w' v P SL ∧ After w5.drew w.heap.size z.F F' (A.s.sent t.x.bs) w' := by
      rw [← hSL.out]
      exact qs
    refine wp_region_held_drew (S := fun W => W.cell? ⟨w.heap.size, 0, none⟩ = some (.pointer (some ⟨z.F.o, 0, none⟩)) ∧ W.cell? ⟨nk, 3, none⟩ = some (.slice t.x.sa t.x.len t.x.cap)) (by kernel_rfl) ⟨e1, e2⟩ (fun hP => ?_)
    have hH := hP
    clear hP
    refine wpAnyH_take (i := 0) (oi := ⟨some 98, _, _, _, _, _⟩) (v := (.int .i64 0)) rfl (by kernel_rfl) (by kernel_rfl) (by kernel_rfl) (fun _ _ _ h => h) (Or.inl ⟨by rfl, fun W hSw => by go_simp⟩) hH ?_
    try simp only [Act.put, List.setIfInBounds_toArray, List.set_cons_zero, List.set_cons_succ]
    refine wpAnyH_take (i := 1) (oi := ⟨some 99, _, _, _, _, _⟩) (v := (.pointer (some ⟨w.heap.size, 0, none⟩))) rfl (by kernel_rfl) (by kernel_rfl) (by kernel_rfl) (fun _ _ _ h => h) (Or.inl ⟨by rfl, fun W hSw => by go_simp⟩) hH ?_
    try simp only [Act.put, List.setIfInBounds_toArray, List.set_cons_zero, List.set_cons_succ]
    refine wpAnyH_take (i := 2) (oi := ⟨some 100, _, _, _, _, _⟩) (v := (.pointer (some ⟨w.heap.size, 0, none⟩))) rfl (by kernel_rfl) (by kernel_rfl) (by kernel_rfl) (fun _ _ _ h => h) (Or.inl ⟨by rfl, fun W hSw => by go_simp⟩) hH ?_
    try simp only [Act.put, List.setIfInBounds_toArray, List.set_cons_zero, List.set_cons_succ]
    refine wpAnyH_take (i := 3) (oi := ⟨some 101, _, _, _, _, _⟩) (v := (.pointer (some ⟨z.F.o, 0, none⟩))) rfl (by kernel_rfl) (by kernel_rfl) (by kernel_rfl) (fun _ _ _ h => h) (Or.inl ⟨by rfl, fun W hSw => by obtain ⟨f1, f2⟩ := hSw; go_simp⟩) hH ?_
    try simp only [Act.put, List.setIfInBounds_toArray, List.set_cons_zero, List.set_cons_succ]
    refine wpAnyH_take (i := 4) (oi := ⟨some 102, _, _, _, _, _⟩) (v := (.pointer (some ⟨nk, 3, none⟩))) rfl (by kernel_rfl) (by kernel_rfl) (by kernel_rfl) (fun _ _ _ h => h) (Or.inl ⟨by rfl, fun W hSw => by go_simp⟩) hH ?_
    try simp only [Act.put, List.setIfInBounds_toArray, List.set_cons_zero, List.set_cons_succ]
    refine wpAnyH_take (i := 5) (oi := ⟨some 103, _, _, _, _, _⟩) (v := (.slice t.x.sa t.x.len t.x.cap)) rfl (by kernel_rfl) (by kernel_rfl) (by kernel_rfl) (fun _ _ _ h => h) (Or.inl ⟨by rfl, fun W hSw => by obtain ⟨f1, f2⟩ := hSw; go_simp⟩) hH ?_
    try simp only [Act.put, List.setIfInBounds_toArray, List.set_cons_zero, List.set_cons_succ]
    refine wpAnyH_ready (rs := [6]) (by kernel_rfl) (by simp) ?_
    refine AllReadyH.cons (o := ⟨some 104, _, _, _, _, _⟩) rfl (fun KK hKK => ?_) AllReadyH.nil
    go_simp
    refine qs.mono ?_
    rintro e w6 ⟨v6, P6, F6, rfl, hT6, hA6⟩
    obtain ⟨sl6, cl6, rfl⟩ := hT6.row.form
    have hmy : (A.s.sent t.x.bs).my = A.s.my := (send_my A t.x.bs).1
    have hst6 := hst4.call_a hA6 hmy
    have hNet6 := hNet4.kept hA6.kept hfr
    go_wp2_with fail
    have hH1 := (⟨by have := (hst6.x.cell 0).trans rfl; rw [← hA6.same]; exact this, (hNet6.cell 3).trans rfl⟩ : w6.cell? ⟨w.heap.size, 0, none⟩ = some (.pointer (some ⟨z.F.o, 0, none⟩)) ∧ w6.cell? ⟨nk, 3, none⟩ = some (.slice t.x.sa t.x.len t.x.cap))
    refine hKK.out _ _ hH1 (fun _ => ?_)
    replace hH := hH1
    clear hKK KK hH1
    try simp only [Act.put, List.setIfInBounds_toArray, List.set_cons_zero, List.set_cons_succ]
    refine wpAnyH_take (i := 7) (oi := ⟨some 14, _, _, _, _, _⟩) (v := (.slice sl6 P6.length cl6)) rfl (by kernel_rfl) (by kernel_rfl) (by kernel_rfl) (fun _ _ _ h => h) (Or.inl ⟨by rfl, fun W hSw => by go_simp⟩) hH ?_
    try simp only [Act.put, List.setIfInBounds_toArray, List.set_cons_zero, List.set_cons_succ]
    refine wpAnyH_done (by kernel_rfl) ?_ _
    have hl6 : P6.length ≤ 1000 := by have := hT6.len; omega
    obtain ⟨y0, y1⟩ := hst6.two
    go_wp2_with (first
      | (at_builtin; refine wpList_append_any rfl _ _ rfl w.heap.size (.slice z.w1 z.Y.length z.w3) (.slice sl6 P6.length cl6) z.Y P6 rfl rfl hst6.ha.way hT6.row.lies (by omega) hst6.bw ?_; intro u1 un u3 w7 hr7 hk7 hn7)
      | (refine Wire.wpList_store_cell rfl 26 _ _ rfl yb 0 33 _ (.slice u1 un u3) rfl rfl (hst6.y.kept hk7 (fun e => by have := hst6.pool.one 9 3 yb (by simp [feet]) e; omega)) (by simp) Outbox.Try.sizeBB rfl ?_; intro w8 hb8 hk8; simp only [List.setIfInBounds_toArray, List.set_cons_zero] at hb8))
    have hst8 := hst6.way_a hr7 hk7 hn7.out (fun x hx => far_byt (hT6.mem x hx) hst6.noFlat) hb8 hk8
    rw [hT6.bs, ← hSL.out] at hst8
    have hB := hf.both.send t.x.bs (by have := hf.sent; omega)
    rw [hSD.out] at hB
    have hwn : (A.s.sent t.x.bs).ob.w = A.s.ob.w := by
      unfold Ss.sent
      split <;> rfl
    refine ⟨⟨rfl, rfl, by rw [hL1.out]; rfl, by rw [hL2.out]; rfl, by rw [hL3.out]; rfl⟩, _, _, _, _, _, _, hst8, hB, ?_, ?_, ?_, ?_⟩
    · have := hf.my; exact ⟨Nat.le_trans (Nat.le_of_eq hmy) (Nat.le_succ_of_le this.1), Nat.le_succ_of_le this.2⟩
    · have := hf.sent; exact ⟨Nat.le_trans hsl2 (Nat.succ_le_succ this.1), Nat.le_succ_of_le this.2⟩
    · exact ⟨hwn.trans hf.win.1, hf.win.2⟩
    · have := hf.got; exact ⟨Nat.le_succ_of_le this.1, Nat.le_succ_of_le this.2⟩
end Go.Proofs.Ytnbkbakbjllmcaa.Session
