/-
  SessionOrder: a packet comes (side 0, kind 2).
-/
import Derived.Test.YtnbkbakbjllmcaaSsQT
import Derived.Deep.CutRange
import Derived.Deep.CutBlock
namespace Go.Proofs.Ytnbkbakbjllmcaa.Session
open Go.RowKit
open Outbox (Ob nums OutAt Bv Byt NoByt RowAt NRow)
open Wire (Ps Pv bytesL parseM parseE)
set_option linter.unusedVariables false

variable {m j len : Nat} {w w3 : World} {yb nk : Nat} {a b : Sv} {A B : Sd} {wa wb : List (List Nat)} {t : Nt} {L1 L2 L3 : List Value} {sl1 sl50 v2 v3 v4 v6 v7 v8 v10 v14 v15 v16 v17 v18 v19 v20 v21 v22 v23 v24 v25 v26 v27 v28 v29 v30 v31 v32 v33 v34 v35 v36 v37 v38 v39 v40 v41 v42 v43 v44 v45 v46 v47 v48 v49 v51 v52 v53 v54 v55 v56 v57 v58 v59 v60 v61 v62 v63 v64 v65 v67 v68 v69 v70 v71 v72 v73 v74 v75 v76 v77 v78 v79 v80 v81 v82 v83 v84 v85 v86 v87 v88 v89 v90 v91 v92 v93 v94 v95 v96 v97 v98 v99 v100 v101 v102 v103 v104 v105 v106 v107 v108 v109 v110 v111 v112 v113 v114 v115 v116 v117 v118 v119 v120 v121 v122 v123 v124 v125 v126 v127 v128 v129 v130 v131 v132 v133 v134 v135 v136 v137 v138 v139 v140 v141 v142 v143 v144 v145 v146 v147 v148 v149 v150 v151 v152 v153 v154 v155 v156 v157 v158 v159 v160 v161 v162 v163 v164 v165 v166 v167 v168 v169 v170 v171 v172 v173 v174 v175 v176 v177 v178 v179 v180 v181 v182 v183 v184 v185 v186 v187 v188 v189 v190 v191 v192 v193 v194 v195 v196 v197 v198 v199 v200 v201 v202 v203 v204 v205 v206 v207 v208 v209 v210 v211 v212 v213 v214 v215 v216 v217 v218 v219 v220 v221 v222 v223 v224 v225 v226 v227 v228 v229 v230 v231 v232 v233 v234 v235 v236 v237 v238 v239 v240 v241 v242 v243 v244 v245 v246 v247 v248 v249 v250 v251 v252 v253 v254 v255 v256 v257 v258 v259 v260 v261 v262 v263 v264 v265 v266 v267 v268 v269 v270 v271 v272 v273 v274 v275 v276 v277 v278 v279 v280 v281 v282 v283 v284 v285 v286 : Value}
set_option maxRecDepth 100000 in
set_option maxHeartbeats 8000000 in
/-- A packet comes. -/
theorem sw0_come2_old_not (h1 : 1 ≤ m) (h2 : m ≤ 64) (hl : len ≤ 120) (hjl : j + 1 ≤ len) (hst3 : St w w.heap.size w.heap.size yb a b A B wa wb w3) (hf : Far2 m j A B wa wb) (hwa : wa.length ≤ 400) (hwb : wb.length ≤ 400) (hfx : Far (flat (feet w.heap.size yb a b)) w3 t.x) (hNet : Blk w3 nk 36 #[.int .i64 t.k, .int .i64 t.who, .int .i64 t.at', .slice t.x.sa t.x.len t.x.cap]) (hxx : Hid (t.x.len = t.x.bs.length)) (h300 : ¬ (300 < t.x.len)) {N : Nat} {x : Bv} (hk : t.k = 2) (hat : t.at' = (N : Int)) (hx : a.Y[N]? = some x) (hNw : B.s.isNew x.bs = false) (hHs : B.s.has x.bs = false) {c : Code} (hc : Try.f3.body.bind (findB 4) = some c) (hL1 : Hid (L1 = [.int .i64 (m : Int), sl1, v2, v3, v4, .pointer (some ⟨w.heap.size, 0, none⟩), v6, v7, v8, .pointer (some ⟨yb, 0, none⟩), v10, .pointer (some ⟨nk, 0, none⟩), .int .i64 0, .int .i64 1])) (hL2 : Hid (L2 = [v22, v23, v24, v25, v26, v27, v28, v29, v30, v31, v32, v33, v34, v35, v36, v37, v38, v39, v40, v41, v42, v43, v44, v45, v46, v47, v48, v49, sl50])) (hL3 : Hid (L3 = [v286])) :
    Code.wp Try.prog c (SwPost L1 L2 L3 w m j yb) ⟨#[.int .i64 (m : Int), sl1, v2, v3, v4, .pointer (some ⟨w.heap.size, 0, none⟩), v6, v7, v8, .pointer (some ⟨yb, 0, none⟩), v10, .pointer (some ⟨nk, 0, none⟩), .int .i64 0, .int .i64 1, v14, v15, v16, v17, v18, v19, v20, v21, v22, v23, v24, v25, v26, v27, v28, v29, v30, v31, v32, v33, v34, v35, v36, v37, v38, v39, v40, v41, v42, v43, v44, v45, v46, v47, v48, v49, sl50, v51, v52, v53, v54, v55, v56, v57, v58, v59, v60, v61, v62, v63, v64, v65, .int .i64 2, v67, v68, v69, v70, v71, v72, v73, v74, v75, v76, v77, v78, v79, v80, v81, v82, v83, v84, v85, v86, v87, v88, v89, v90, v91, v92, v93, v94, v95, v96, v97, v98, v99, v100, v101, v102, v103, v104, v105, v106, v107, v108, v109, v110, v111, v112, v113, v114, v115, v116, v117, v118, v119, v120, v121, v122, v123, v124, v125, v126, v127, v128, v129, v130, v131, v132, v133, v134, v135, v136, v137, v138, v139, v140, v141, v142, v143, v144, v145, v146, v147, v148, v149, v150, v151, v152, v153, v154, v155, v156, v157, v158, v159, v160, v161, v162, v163, v164, v165, v166, v167, v168, v169, v170, v171, v172, v173, v174, v175, v176, v177, v178, v179, v180, v181, v182, v183, v184, v185, v186, v187, v188, v189, v190, v191, v192, v193, v194, v195, v196, v197, v198, v199, v200, v201, v202, v203, v204, v205, v206, v207, v208, v209, v210, v211, v212, v213, v214, v215, v216, v217, v218, v219, v220, v221, v222, v223, v224, v225, v226, v227, v228, v229, v230, v231, v232, v233, v234, v235, v236, v237, v238, v239, v240, v241, v242, v243, v244, v245, v246, v247, v248, v249, v250, v251, v252, v253, v254, v255, v256, v257, v258, v259, v260, v261, v262, v263, v264, v265, v266, v267, v268, v269, v270, v271, v272, v273, v274, v275, v276, v277, v278, v279, v280, v281, v282, v283, v284, v285, v286], []⟩ w3 := by
  have d0 : w3.cell? ⟨nk, 0, none⟩ = some (.int .i64 t.k) := (hNet.cell 0).trans rfl
  have d1 : w3.cell? ⟨nk, 1, none⟩ = some (.int .i64 t.who) := (hNet.cell 1).trans rfl
  have d2 : w3.cell? ⟨nk, 2, none⟩ = some (.int .i64 t.at') := (hNet.cell 2).trans rfl
  have d3 : w3.cell? ⟨nk, 3, none⟩ = some (.slice t.x.sa t.x.len t.x.cap) := (hNet.cell 3).trans rfl
  obtain ⟨⟨oa1, oa2⟩, ob1, ob2⟩ := hf.ob (by omega)
  conv at hc => lhs; whnf
  injection hc with hc
  subst hc
  rw [hk] at d0
  clear hk
  rw [hat] at d2
  have hNl : N < a.Y.length := (List.getElem?_eq_some_iff.1 hx).1
  have i1 : ¬ ((N : Int) < 0) := by omega
  have i2 : ¬ ((a.Y.length : Int) ≤ (N : Int)) := by omega
  have i3 : (N : Int) < (a.Y.length : Int) := by omega
  have hyl : a.Y.length ≤ 400 := by
    have := congrArg List.length hst3.ha.wayL
    rw [List.length_map] at this
    omega
  have hyI : (a.Y.length : Int) ≤ 400 := by omega
  obtain ⟨g, off, ew, ce⟩ := hst3.ha.way.lies.at N x hx
  have cy : w3.cell? ⟨yb, 0, none⟩ = some (.slice (some ⟨g, off, none⟩) a.Y.length a.w3) := by rw [← ew]; exact hst3.two.1
  have hrow0 : Lies w3 (.slice (some ⟨g, off, none⟩) a.Y.length a.w3) a.Y := by rw [← ew]; exact hst3.ha.way.lies
  have c : ∀ n, (w3.drewN n).cell? ⟨yb, 0, none⟩ = some (.slice (some ⟨g, off, none⟩) a.Y.length a.w3) := fun n => cy
  have u : ∀ n, (w3.drewN n).cell? ⟨nk, 2, none⟩ = some (.int .i64 (N : Int)) := fun n => d2
  go_wp2_with fail
  go_quiet (fail)
  have kq_w4 := kept_drewN [] w3 nq
  obtain ⟨w4, hq_w4⟩ : ∃ w4, w3.drewN nq = w4 := ⟨_, rfl⟩
  rw [hq_w4] at kq_w4 ⊢
  clear hq_w4 nq
  clear c u
  have c : ∀ n, (w4.drewN n).cell? ⟨yb, 0, none⟩ = some (.slice (some ⟨g, off, none⟩) a.Y.length a.w3) := fun n => (World.cell?_of_block (kq_w4.block yb hst3.y.lt (by simp))).trans cy
  have u : ∀ n, (w4.drewN n).cell? ⟨nk, 2, none⟩ = some (.int .i64 (N : Int)) := fun n => (World.cell?_of_block (kq_w4.block nk hNet.lt (by simp))).trans d2
  have ce4 : ∀ n, (w4.drewN n).cell? ⟨g, off + N, none⟩ = some (.slice x.sa x.len x.cap) := fun n => (World.cell?_of_block (kq_w4.block g (hst3.ha.way.lt g (by simp [Sv.way, ew, Value.ownBlock])).2 (by simp))).trans ce
  go_wp2_with fail
  go_quiet (fail)
  have kq_w5 := kept_drewN [] w4 nq
  obtain ⟨w5, hq_w5⟩ : ∃ w5, w4.drewN nq = w5 := ⟨_, rfl⟩
  rw [hq_w5] at kq_w5 ⊢
  clear hq_w5 nq
  clear c u ce4 ce cy
  have kq := kq_w4.trans kq_w5
  have hst5 := hst3.kept0 kq
  have hNet5 := hNet.kept kq (by simp)
  have hfx5 := (hst5.ha.wayF x (List.mem_of_getElem? hx))
  have hrow5 := hrow0.kept kq (by simp)
  have cy5 : w5.cell? ⟨yb, 0, none⟩ = some (.slice (some ⟨g, off, none⟩) a.Y.length a.w3) := by rw [← ew]; exact hst5.two.1
  have cn0 : w5.cell? ⟨nk, 0, none⟩ = some (.int .i64 2) := (World.cell?_of_block (kq.block nk hNet.lt (by simp))).trans d0
  have cn2 : w5.cell? ⟨nk, 2, none⟩ = some (.int .i64 (N : Int)) := (World.cell?_of_block (kq.block nk hNet.lt (by simp))).trans d2
  have hmem : x.bs ∈ wa := by rw [← hst3.ha.wayL]; exact List.mem_map_of_mem (List.mem_of_getElem? hx)
  clear d0 d1 d2 d3 kq_w4 kq_w5 hrow0
  have hnyb : nk ∉ [yb] := fun e => hst5.alien hNet5 notNet 9 (by rw [List.mem_singleton] at e; rw [e]; simp [feet])
  have hxl : x.bs.length ≤ 1000 := by
    obtain ⟨p, _, e, _⟩ := hf.both.ab.ok x.bs hmem
    rw [e]
    have := Wire.bytesL_len p
    omega
  go_wp2_with fail
  obtain ⟨sa1, cp1, hrun1, hl1, ho1⟩ := hrow5.take N (Nat.le_of_lt hNl)
  obtain ⟨sa2, cp2, hrun2, hl2, ho2⟩ := hrow5.drop (N + 1) hNl
  have hrun2' : ∀ w, (Instr.sliceAt 26 (.slice (some ⟨g, off, none⟩) a.Y.length a.w3) (some (.int .i64 ((N : Int) + 1))) none none).run Try.prog w = .ok (.slice sa2 (a.Y.length - (N + 1)) cp2) w := hrun2
  clear hrun2
  have kd := kept_drew [] w5
  have kE := kept_alloc [] w5.drew (.cells #[] 34)
  have kDE := kd.trans kE
  have hE : BRow w.heap.size (w5.drew.alloc (.cells #[] 34)) (.slice (some ⟨w5.drew.heap.size, 0, none⟩) 0 0) [] := World.ownsRow_made w5.drew #[] 0 (Nat.le_trans hst5.bw kd.size) (by unfold maxLen; omega) rfl
  have c1 : w5.drew.cell? ⟨yb, 0, none⟩ = some (.slice (some ⟨g, off, none⟩) a.Y.length a.w3) := cy5
  have c2 : w5.drew.cell? ⟨nk, 2, none⟩ = some (.int .i64 (N : Int)) := cn2
  refine wp_region_held_drew (S := fun W => W.cell? ⟨yb, 0, none⟩ = some (.slice (some ⟨g, off, none⟩) a.Y.length a.w3) ∧ W.cell? ⟨nk, 2, none⟩ = some (.int .i64 (N : Int))) (by kernel_rfl) ⟨c1, c2⟩ (fun hP => ?_)
  have hH := hP
  clear hP
  refine wpAnyH_take (i := 1) (oi := ⟨some 153, _, _, _, _, _⟩) (v := (.int .i64 0)) rfl (by kernel_rfl) (by kernel_rfl) (by kernel_rfl) (fun _ _ _ h => h) (Or.inl ⟨by rfl, fun W hSw => by go_simp⟩) hH ?_
  try simp only [Act.put, List.setIfInBounds_toArray, List.set_cons_zero, List.set_cons_succ]
  refine wpAnyH_take (i := 2) (oi := ⟨some 154, _, _, _, _, _⟩) (v := (.pointer (some ⟨yb, 0, none⟩))) rfl (by kernel_rfl) (by kernel_rfl) (by kernel_rfl) (fun _ _ _ h => h) (Or.inl ⟨by rfl, fun W hSw => by go_simp⟩) hH ?_
  try simp only [Act.put, List.setIfInBounds_toArray, List.set_cons_zero, List.set_cons_succ]
  refine wpAnyH_take (i := 3) (oi := ⟨some 155, _, _, _, _, _⟩) (v := (.slice (some ⟨g, off, none⟩) a.Y.length a.w3)) rfl (by kernel_rfl) (by kernel_rfl) (by kernel_rfl) (fun _ _ _ h => h) (Or.inl ⟨by rfl, fun W hSw => by obtain ⟨f1, f2⟩ := hSw; go_simp⟩) hH ?_
  try simp only [Act.put, List.setIfInBounds_toArray, List.set_cons_zero, List.set_cons_succ]
  refine wpAnyH_take (i := 4) (oi := ⟨some 156, _, _, _, _, _⟩) (v := (.pointer (some ⟨nk, 2, none⟩))) rfl (by kernel_rfl) (by kernel_rfl) (by kernel_rfl) (fun _ _ _ h => h) (Or.inl ⟨by rfl, fun W hSw => by go_simp⟩) hH ?_
  try simp only [Act.put, List.setIfInBounds_toArray, List.set_cons_zero, List.set_cons_succ]
  refine wpAnyH_take (i := 5) (oi := ⟨some 157, _, _, _, _, _⟩) (v := (.int .i64 (N : Int))) rfl (by kernel_rfl) (by kernel_rfl) (by kernel_rfl) (fun _ _ _ h => h) (Or.inl ⟨by rfl, fun W hSw => by obtain ⟨f1, f2⟩ := hSw; go_simp⟩) hH ?_
  try simp only [Act.put, List.setIfInBounds_toArray, List.set_cons_zero, List.set_cons_succ]
  refine wpAnyH_take (i := 6) (oi := ⟨some 158, _, _, _, _, _⟩) (v := (.slice sa1 N cp1)) rfl (by kernel_rfl) (by kernel_rfl) (by kernel_rfl) (fun _ _ _ h => h) (Or.inl ⟨by rfl, fun W hSw => by go_simp⟩) hH ?_
  try simp only [Act.put, List.setIfInBounds_toArray, List.set_cons_zero, List.set_cons_succ]
  refine wpAnyH_ready (rs := [0]) (by kernel_rfl) (by simp) ?_
  refine AllReadyH.cons (o := ⟨some 152, _, _, _, _, _⟩) rfl (fun KK hKK => ?_) AllReadyH.nil
  go_simp
  have hH1 := (⟨(World.cell?_of_block (kDE.block yb hst5.y.lt (by simp))).trans cy5, (World.cell?_of_block (kDE.block nk hNet5.lt (by simp))).trans cn2⟩ : ((w5.drew.alloc (.cells #[] 34)).cell? ⟨yb, 0, none⟩ = some (.slice (some ⟨g, off, none⟩) a.Y.length a.w3) ∧ (w5.drew.alloc (.cells #[] 34)).cell? ⟨nk, 2, none⟩ = some (.int .i64 (N : Int))))
  refine hKK.out _ _ hH1 (fun _ => ?_)
  replace hH := hH1
  clear hKK KK hH1
  try simp only [Act.put, List.setIfInBounds_toArray, List.set_cons_zero, List.set_cons_succ]
  refine wpAnyH_ready (rs := [7]) (by kernel_rfl) (by simp) ?_
  refine AllReadyH.cons (o := ⟨some 159, _, _, _, _, _⟩) rfl (fun KK hKK => ?_) AllReadyH.nil
  refine step_append_any rfl (.tmp 152) (.tmp 158) rfl w.heap.size (.slice (some ⟨w5.drew.heap.size, 0, none⟩) 0 0) (.slice sa1 N cp1) [] (a.Y.take N) (by simp [Act.eval]) (by simp [Act.eval]) hE (hl1.kept kDE (by simp)) (by simp; omega) (Nat.le_trans hst5.bw kDE.size) ?_
  intro r1 rn r3 w6 hr6 hk6 hn6
  have hk56 : Kept [] w5 w6 := Kept.more kDE hk6 (fun k hm => .inr (by simp [Value.ownBlock] at hm; omega))
  have hn6' : ∀ k, (Value.slice r1 rn r3).ownBlock = some k → w5.heap.size ≤ k := fun k e => (hn6.out k e).elim (fun h => by simp [Value.ownBlock] at h; omega) (fun h => Nat.le_trans kDE.size h)
  have hH1 := (⟨(World.cell?_of_block (hk56.block yb hst5.y.lt (by simp))).trans cy5, (World.cell?_of_block (hk56.block nk hNet5.lt (by simp))).trans cn2⟩ : (w6.cell? ⟨yb, 0, none⟩ = some (.slice (some ⟨g, off, none⟩) a.Y.length a.w3) ∧ w6.cell? ⟨nk, 2, none⟩ = some (.int .i64 (N : Int))))
  refine hKK.out _ _ hH1 (fun _ => ?_)
  replace hH := hH1
  clear hKK KK hH1
  try simp only [Act.put, List.setIfInBounds_toArray, List.set_cons_zero, List.set_cons_succ]
  refine wpAnyH_take (i := 8) (oi := ⟨some 17, _, _, _, _, _⟩) (v := (.slice r1 rn r3)) rfl (by kernel_rfl) (by kernel_rfl) (by kernel_rfl) (fun _ _ _ h => h) (Or.inl ⟨by rfl, fun W hSw => by go_simp⟩) hH ?_
  try simp only [Act.put, List.setIfInBounds_toArray, List.set_cons_zero, List.set_cons_succ]
  refine wpAnyH_done (by kernel_rfl) ?_ _
  go_wp2_with fail
  rw [List.nil_append] at hr6
  have kd6 := kept_drew [] w6
  have k56 := hk56.trans kd6
  have c1 : w6.drew.cell? ⟨yb, 0, none⟩ = some (.slice (some ⟨g, off, none⟩) a.Y.length a.w3) := (World.cell?_of_block (k56.block yb hst5.y.lt (by simp))).trans cy5
  have c2 : w6.drew.cell? ⟨nk, 2, none⟩ = some (.int .i64 (N : Int)) := (World.cell?_of_block (k56.block nk hNet5.lt (by simp))).trans cn2
  refine wp_region_held_drew (S := fun W => W.cell? ⟨yb, 0, none⟩ = some (.slice (some ⟨g, off, none⟩) a.Y.length a.w3) ∧ W.cell? ⟨nk, 2, none⟩ = some (.int .i64 (N : Int))) (by kernel_rfl) ⟨c1, c2⟩ (fun hP => ?_)
  have hH := hP
  clear hP
  refine wpAnyH_take (i := 0) (oi := ⟨some 160, _, _, _, _, _⟩) (v := (.slice r1 rn r3)) rfl (by kernel_rfl) (by kernel_rfl) (by kernel_rfl) (fun _ _ _ h => h) (Or.inl ⟨by rfl, fun W hSw => by go_simp⟩) hH ?_
  try simp only [Act.put, List.setIfInBounds_toArray, List.set_cons_zero, List.set_cons_succ]
  refine wpAnyH_take (i := 1) (oi := ⟨some 161, _, _, _, _, _⟩) (v := (.int .i64 0)) rfl (by kernel_rfl) (by kernel_rfl) (by kernel_rfl) (fun _ _ _ h => h) (Or.inl ⟨by rfl, fun W hSw => by go_simp⟩) hH ?_
  try simp only [Act.put, List.setIfInBounds_toArray, List.set_cons_zero, List.set_cons_succ]
  refine wpAnyH_take (i := 2) (oi := ⟨some 162, _, _, _, _, _⟩) (v := (.pointer (some ⟨yb, 0, none⟩))) rfl (by kernel_rfl) (by kernel_rfl) (by kernel_rfl) (fun _ _ _ h => h) (Or.inl ⟨by rfl, fun W hSw => by go_simp⟩) hH ?_
  try simp only [Act.put, List.setIfInBounds_toArray, List.set_cons_zero, List.set_cons_succ]
  refine wpAnyH_take (i := 3) (oi := ⟨some 163, _, _, _, _, _⟩) (v := (.slice (some ⟨g, off, none⟩) a.Y.length a.w3)) rfl (by kernel_rfl) (by kernel_rfl) (by kernel_rfl) (fun _ _ _ h => h) (Or.inl ⟨by rfl, fun W hSw => by obtain ⟨f1, f2⟩ := hSw; go_simp⟩) hH ?_
  try simp only [Act.put, List.setIfInBounds_toArray, List.set_cons_zero, List.set_cons_succ]
  refine wpAnyH_take (i := 4) (oi := ⟨some 164, _, _, _, _, _⟩) (v := (.pointer (some ⟨nk, 2, none⟩))) rfl (by kernel_rfl) (by kernel_rfl) (by kernel_rfl) (fun _ _ _ h => h) (Or.inl ⟨by rfl, fun W hSw => by go_simp⟩) hH ?_
  try simp only [Act.put, List.setIfInBounds_toArray, List.set_cons_zero, List.set_cons_succ]
  refine wpAnyH_take (i := 5) (oi := ⟨some 165, _, _, _, _, _⟩) (v := (.int .i64 (N : Int))) rfl (by kernel_rfl) (by kernel_rfl) (by kernel_rfl) (fun _ _ _ h => h) (Or.inl ⟨by rfl, fun W hSw => by obtain ⟨f1, f2⟩ := hSw; go_simp⟩) hH ?_
  try simp only [Act.put, List.setIfInBounds_toArray, List.set_cons_zero, List.set_cons_succ]
  refine wpAnyH_take (i := 6) (oi := ⟨some 166, _, _, _, _, _⟩) (v := (.int .i64 ((N : Int) + 1))) rfl (by kernel_rfl) (by kernel_rfl) (by kernel_rfl) (fun _ _ _ h => h) (Or.inl ⟨by rfl, fun W hSw => by have hwr : IntKind.i64.wrap ((N : Int) + 1) = (N : Int) + 1 := (by rw [IntKind.wrap_i64]; omega); go_simp⟩) hH ?_
  try simp only [Act.put, List.setIfInBounds_toArray, List.set_cons_zero, List.set_cons_succ]
  refine wpAnyH_take (i := 7) (oi := ⟨some 167, _, _, _, _, _⟩) (v := (.slice sa2 (a.Y.length - (N + 1)) cp2)) rfl (by kernel_rfl) (by kernel_rfl) (by kernel_rfl) (fun _ _ _ h => h) (Or.inl ⟨by rfl, fun W hSw => by go_simp⟩) hH ?_
  try simp only [Act.put, List.setIfInBounds_toArray, List.set_cons_zero, List.set_cons_succ]
  refine wpAnyH_ready (rs := [8]) (by kernel_rfl) (by simp) ?_
  refine AllReadyH.cons (o := ⟨some 168, _, _, _, _, _⟩) rfl (fun KK hKK => ?_) AllReadyH.nil
  refine step_append_any rfl (.tmp 160) (.tmp 167) rfl w.heap.size (.slice r1 rn r3) (.slice sa2 (a.Y.length - (N + 1)) cp2) (a.Y.take N) (a.Y.drop (N + 1)) (by simp [Act.eval]) (by simp [Act.eval]) (hr6.kept0 kd6) (hl2.kept k56 (by simp)) (by simp; omega) (Nat.le_trans hst5.bw k56.size) ?_
  intro q1 qn q3 w7 hr7 hk7 hn7
  have hk57 : Kept [] w5 w7 := Kept.more k56 hk7 (fun k hm => .inr (hn6' k (by simpa using hm)))
  have hn7' : ∀ k, (Value.slice q1 qn q3).ownBlock = some k → w5.heap.size ≤ k := fun k e => (hn7.out k e).elim (hn6' k) (fun h => Nat.le_trans k56.size h)
  have hH1 := (⟨(World.cell?_of_block (hk57.block yb hst5.y.lt (by simp))).trans cy5, (World.cell?_of_block (hk57.block nk hNet5.lt (by simp))).trans cn2⟩ : (w7.cell? ⟨yb, 0, none⟩ = some (.slice (some ⟨g, off, none⟩) a.Y.length a.w3) ∧ w7.cell? ⟨nk, 2, none⟩ = some (.int .i64 (N : Int))))
  refine hKK.out _ _ hH1 (fun _ => ?_)
  replace hH := hH1
  clear hKK KK hH1
  try simp only [Act.put, List.setIfInBounds_toArray, List.set_cons_zero, List.set_cons_succ]
  refine wpAnyH_take (i := 9) (oi := ⟨some 17, _, _, _, _, _⟩) (v := (.slice q1 qn q3)) rfl (by kernel_rfl) (by kernel_rfl) (by kernel_rfl) (fun _ _ _ h => h) (Or.inl ⟨by rfl, fun W hSw => by go_simp⟩) hH ?_
  try simp only [Act.put, List.setIfInBounds_toArray, List.set_cons_zero, List.set_cons_succ]
  refine wpAnyH_done (by kernel_rfl) ?_ _
  go_upto_region 38 with (refine Wire.wpList_store_cell rfl 26 _ _ rfl yb 0 33 _ (.slice q1 qn q3) rfl rfl (hst5.y.kept hk57 (by simp)) (by simp) Outbox.Try.sizeBB rfl ?_; intro w8 hb8 hk8; simp only [List.setIfInBounds_toArray, List.set_cons_zero] at hb8; have cn08 : w8.cell? ⟨nk, 0, none⟩ = some (.int .i64 2) := (World.cell?_of_block (hk8.block nk (Nat.lt_of_lt_of_le hNet5.lt hk57.size) hnyb)).trans ((World.cell?_of_block (hk57.block nk hNet5.lt (by simp))).trans cn0))
  have hst8 := hst5.less_a hr7 hk57 hn7' (fun y hy => (List.mem_append.1 hy).elim List.mem_of_mem_take List.mem_of_mem_drop) hb8 hk8
  have hwire : Wire.ByteRow 0 w8.heap.size w8 (.slice x.sa x.len x.cap) x.bs := ((hfx5.step hk57 (K' := flat (feet w.heap.size yb a b)) (by simp) (fun k hm => .inl hm)).step hk8 (K' := []) (fun k hm => by rw [List.mem_singleton] at hm; rw [hm]; exact mem_flat (i := 9) (by decide) (by simp [feet])) (by simp)).wire
  obtain ⟨z, hst⟩ : ∃ z : Sv, St w w.heap.size w.heap.size yb z b A B (((a.Y.take N) ++ (a.Y.drop (N + 1))).map Bv.bs) wb w8 := ⟨_, hst8⟩
  clear hst8 hr7 hr6 hk57 hk56 hk7 hk6 hn7' hn6' hn7 hn6 hb8 hk8 hl1 hl2 hrun1 hrun2' hE kDE kd kE kd6 k56 ho1 ho2 c1 c2 hst5 cy5 cn0 cn2 hrow5 hH
  have hmyT : (B.s.taken x.bs).my = B.s.my := (taken_is B.s x.bs).1
  have hwnT : (B.s.taken x.bs).ob.w = B.s.ob.w := taken_w B.s x.bs
  have q := take_any w8 hst.hb.ss (.slice x.sa x.len x.cap) x.bs 0 _ hwire (Nat.le_refl _) hxl (by omega) ob2 hst.bw
  rw [hNw, hHs] at q
  have hSD : Hid (B.take x.bs = Sd.mk (B.s.taken x.bs) B.sent B.got) := by
    show _ = _
    unfold Sd.take Sd.turn
    rw [hHs, hNw]
    rfl
  have hB0 := hf.both.take hmem
  rw [hSD.out] at hB0
  have hTll : (B.s.takeL x.bs).length ≤ 1001 := takeL_len _ (by have := hf.win; omega)
  generalize B.s.takeL x.bs = TL at *
  generalize B.s.gotB x.bs = GB at *
  have hT' : ∃ TK, B.s.taken x.bs = TK := ⟨_, rfl⟩
  obtain ⟨TK, hTK⟩ := hT'
  rw [hTK] at q hmyT hwnT hB0
  clear hTK hSD hNw hHs
  have hyo : b.Y.length ≤ 400 := by
    have := congrArg List.length hst.hb.wayL
    rw [List.length_map] at this
    omega
  obtain ⟨c0, c1, c2, c3, c4, c5, c6, c7⟩ := hst.eight
  go_wp2_with (first
    | (go_at_call 10; refine q.mono ?_; rintro e w10 ⟨v10, P10, F10, sb, lb, cb, rfl, hF10, hT10, hA10⟩; obtain ⟨sl10, cl10, rfl⟩ := hT10.row.form; have hst10 := hst.call_b hA10 hmyT)
    | (refine wpList_store_blk rfl 41 _ _ rfl w10.heap.size 41 _ [.bool false, .bool false, .slice sb lb cb] rfl rfl (blk_new w10 41 #[.bool false, .bool false, .slice none 0 0]) rfl Try.sizeGot (by simp [Value.oneCell']) ?_; intro w11 hb11 hk11 hz11; have kG : Kept [] w10 w11 := (kept_alloc [] w10 (.cells #[.bool false, .bool false, .slice none 0 0] 41)).young hk11 (Nat.le_refl _); have hst11 := hst10.kept0 kG; have g0 : w11.cell? ⟨w10.heap.size, 0, none⟩ = some (.bool false) := (hb11.cell 0).trans rfl; have g1 : w11.cell? ⟨w10.heap.size, 1, none⟩ = some (.bool false) := (hb11.cell 1).trans rfl; have hTX := (hT10.kept0 kG); obtain ⟨y0, y1⟩ := hst11.two)
    | (at_builtin; refine wpList_append_any rfl _ _ rfl w.heap.size (.slice b.w1 b.Y.length b.w3) (.slice sl10 P10.length cl10) b.Y P10 rfl rfl hst11.hb.way hTX.row.lies (by have := hTX.len; omega) hst11.bw ?_; intro u1 un u3 w17 hr17 hk17 hn17)
    | (refine Wire.wpList_store_cell rfl 26 _ _ rfl yb 1 33 _ (.slice u1 un u3) rfl rfl (hst11.y.kept hk17 (fun e => by have := hst11.pool.one 9 7 yb (by simp [feet]) e; omega)) (by simp) Outbox.Try.sizeBB rfl ?_; intro w18 hb18 hk18; simp only [List.setIfInBounds_toArray, List.set_cons_zero, List.set_cons_succ] at hb18))
  have hst18 := hst11.way_b hr17 hk17 hn17.out (fun y hy => far_byt (hTX.mem y hy) hst11.noFlat) hb18 hk18
  rw [hTX.bs] at hst18
  have hB1 := hB0.fewer (wa' := ((a.Y.take N) ++ (a.Y.drop (N + 1))).map Bv.bs) (sub_rest hst3.ha.wayL N)
  refine ⟨⟨rfl, rfl, by rw [hL1.out]; rfl, by rw [hL2.out]; rfl, by rw [hL3.out]; rfl⟩, _, _, _, _, _, _, hst18, hB1, ?_, ?_, ?_, ?_⟩
  · have := hf.my; exact ⟨Nat.le_succ_of_le this.1, Nat.le_trans (Nat.le_of_eq hmyT) (Nat.le_succ_of_le this.2)⟩
  · have := hf.sent; exact ⟨Nat.le_succ_of_le this.1, Nat.le_succ_of_le this.2⟩
  · exact ⟨hf.win.1, hwnT.trans hf.win.2⟩
  · have := hf.got; exact ⟨Nat.le_succ_of_le this.1, Nat.le_succ_of_le this.2⟩
set_option maxRecDepth 100000 in
set_option maxHeartbeats 8000000 in
/-- A packet comes. -/
theorem sw0_come2_old_has (h1 : 1 ≤ m) (h2 : m ≤ 64) (hl : len ≤ 120) (hjl : j + 1 ≤ len) (hst3 : St w w.heap.size w.heap.size yb a b A B wa wb w3) (hf : Far2 m j A B wa wb) (hwa : wa.length ≤ 400) (hwb : wb.length ≤ 400) (hfx : Far (flat (feet w.heap.size yb a b)) w3 t.x) (hNet : Blk w3 nk 36 #[.int .i64 t.k, .int .i64 t.who, .int .i64 t.at', .slice t.x.sa t.x.len t.x.cap]) (hxx : Hid (t.x.len = t.x.bs.length)) (h300 : ¬ (300 < t.x.len)) {N : Nat} {x : Bv} (hk : t.k = 2) (hat : t.at' = (N : Int)) (hx : a.Y[N]? = some x) (hNw : B.s.isNew x.bs = false) (hHs : B.s.has x.bs = true) {c : Code} (hc : Try.f3.body.bind (findB 4) = some c) (hL1 : Hid (L1 = [.int .i64 (m : Int), sl1, v2, v3, v4, .pointer (some ⟨w.heap.size, 0, none⟩), v6, v7, v8, .pointer (some ⟨yb, 0, none⟩), v10, .pointer (some ⟨nk, 0, none⟩), .int .i64 0, .int .i64 1])) (hL2 : Hid (L2 = [v22, v23, v24, v25, v26, v27, v28, v29, v30, v31, v32, v33, v34, v35, v36, v37, v38, v39, v40, v41, v42, v43, v44, v45, v46, v47, v48, v49, sl50])) (hL3 : Hid (L3 = [v286])) :
    Code.wp Try.prog c (SwPost L1 L2 L3 w m j yb) ⟨#[.int .i64 (m : Int), sl1, v2, v3, v4, .pointer (some ⟨w.heap.size, 0, none⟩), v6, v7, v8, .pointer (some ⟨yb, 0, none⟩), v10, .pointer (some ⟨nk, 0, none⟩), .int .i64 0, .int .i64 1, v14, v15, v16, v17, v18, v19, v20, v21, v22, v23, v24, v25, v26, v27, v28, v29, v30, v31, v32, v33, v34, v35, v36, v37, v38, v39, v40, v41, v42, v43, v44, v45, v46, v47, v48, v49, sl50, v51, v52, v53, v54, v55, v56, v57, v58, v59, v60, v61, v62, v63, v64, v65, .int .i64 2, v67, v68, v69, v70, v71, v72, v73, v74, v75, v76, v77, v78, v79, v80, v81, v82, v83, v84, v85, v86, v87, v88, v89, v90, v91, v92, v93, v94, v95, v96, v97, v98, v99, v100, v101, v102, v103, v104, v105, v106, v107, v108, v109, v110, v111, v112, v113, v114, v115, v116, v117, v118, v119, v120, v121, v122, v123, v124, v125, v126, v127, v128, v129, v130, v131, v132, v133, v134, v135, v136, v137, v138, v139, v140, v141, v142, v143, v144, v145, v146, v147, v148, v149, v150, v151, v152, v153, v154, v155, v156, v157, v158, v159, v160, v161, v162, v163, v164, v165, v166, v167, v168, v169, v170, v171, v172, v173, v174, v175, v176, v177, v178, v179, v180, v181, v182, v183, v184, v185, v186, v187, v188, v189, v190, v191, v192, v193, v194, v195, v196, v197, v198, v199, v200, v201, v202, v203, v204, v205, v206, v207, v208, v209, v210, v211, v212, v213, v214, v215, v216, v217, v218, v219, v220, v221, v222, v223, v224, v225, v226, v227, v228, v229, v230, v231, v232, v233, v234, v235, v236, v237, v238, v239, v240, v241, v242, v243, v244, v245, v246, v247, v248, v249, v250, v251, v252, v253, v254, v255, v256, v257, v258, v259, v260, v261, v262, v263, v264, v265, v266, v267, v268, v269, v270, v271, v272, v273, v274, v275, v276, v277, v278, v279, v280, v281, v282, v283, v284, v285, v286], []⟩ w3 := by
  have d0 : w3.cell? ⟨nk, 0, none⟩ = some (.int .i64 t.k) := (hNet.cell 0).trans rfl
  have d1 : w3.cell? ⟨nk, 1, none⟩ = some (.int .i64 t.who) := (hNet.cell 1).trans rfl
  have d2 : w3.cell? ⟨nk, 2, none⟩ = some (.int .i64 t.at') := (hNet.cell 2).trans rfl
  have d3 : w3.cell? ⟨nk, 3, none⟩ = some (.slice t.x.sa t.x.len t.x.cap) := (hNet.cell 3).trans rfl
  obtain ⟨⟨oa1, oa2⟩, ob1, ob2⟩ := hf.ob (by omega)
  conv at hc => lhs; whnf
  injection hc with hc
  subst hc
  rw [hk] at d0
  clear hk
  rw [hat] at d2
  have hNl : N < a.Y.length := (List.getElem?_eq_some_iff.1 hx).1
  have i1 : ¬ ((N : Int) < 0) := by omega
  have i2 : ¬ ((a.Y.length : Int) ≤ (N : Int)) := by omega
  have i3 : (N : Int) < (a.Y.length : Int) := by omega
  have hyl : a.Y.length ≤ 400 := by
    have := congrArg List.length hst3.ha.wayL
    rw [List.length_map] at this
    omega
  have hyI : (a.Y.length : Int) ≤ 400 := by omega
  obtain ⟨g, off, ew, ce⟩ := hst3.ha.way.lies.at N x hx
  have cy : w3.cell? ⟨yb, 0, none⟩ = some (.slice (some ⟨g, off, none⟩) a.Y.length a.w3) := by rw [← ew]; exact hst3.two.1
  have hrow0 : Lies w3 (.slice (some ⟨g, off, none⟩) a.Y.length a.w3) a.Y := by rw [← ew]; exact hst3.ha.way.lies
  have c : ∀ n, (w3.drewN n).cell? ⟨yb, 0, none⟩ = some (.slice (some ⟨g, off, none⟩) a.Y.length a.w3) := fun n => cy
  have u : ∀ n, (w3.drewN n).cell? ⟨nk, 2, none⟩ = some (.int .i64 (N : Int)) := fun n => d2
  go_wp2_with fail
  go_quiet (fail)
  have kq_w4 := kept_drewN [] w3 nq
  obtain ⟨w4, hq_w4⟩ : ∃ w4, w3.drewN nq = w4 := ⟨_, rfl⟩
  rw [hq_w4] at kq_w4 ⊢
  clear hq_w4 nq
  clear c u
  have c : ∀ n, (w4.drewN n).cell? ⟨yb, 0, none⟩ = some (.slice (some ⟨g, off, none⟩) a.Y.length a.w3) := fun n => (World.cell?_of_block (kq_w4.block yb hst3.y.lt (by simp))).trans cy
  have u : ∀ n, (w4.drewN n).cell? ⟨nk, 2, none⟩ = some (.int .i64 (N : Int)) := fun n => (World.cell?_of_block (kq_w4.block nk hNet.lt (by simp))).trans d2
  have ce4 : ∀ n, (w4.drewN n).cell? ⟨g, off + N, none⟩ = some (.slice x.sa x.len x.cap) := fun n => (World.cell?_of_block (kq_w4.block g (hst3.ha.way.lt g (by simp [Sv.way, ew, Value.ownBlock])).2 (by simp))).trans ce
  go_wp2_with fail
  go_quiet (fail)
  have kq_w5 := kept_drewN [] w4 nq
  obtain ⟨w5, hq_w5⟩ : ∃ w5, w4.drewN nq = w5 := ⟨_, rfl⟩
  rw [hq_w5] at kq_w5 ⊢
  clear hq_w5 nq
  clear c u ce4 ce cy
  have kq := kq_w4.trans kq_w5
  have hst5 := hst3.kept0 kq
  have hNet5 := hNet.kept kq (by simp)
  have hfx5 := (hst5.ha.wayF x (List.mem_of_getElem? hx))
  have hrow5 := hrow0.kept kq (by simp)
  have cy5 : w5.cell? ⟨yb, 0, none⟩ = some (.slice (some ⟨g, off, none⟩) a.Y.length a.w3) := by rw [← ew]; exact hst5.two.1
  have cn0 : w5.cell? ⟨nk, 0, none⟩ = some (.int .i64 2) := (World.cell?_of_block (kq.block nk hNet.lt (by simp))).trans d0
  have cn2 : w5.cell? ⟨nk, 2, none⟩ = some (.int .i64 (N : Int)) := (World.cell?_of_block (kq.block nk hNet.lt (by simp))).trans d2
  have hmem : x.bs ∈ wa := by rw [← hst3.ha.wayL]; exact List.mem_map_of_mem (List.mem_of_getElem? hx)
  clear d0 d1 d2 d3 kq_w4 kq_w5 hrow0
  have hnyb : nk ∉ [yb] := fun e => hst5.alien hNet5 notNet 9 (by rw [List.mem_singleton] at e; rw [e]; simp [feet])
  have hxl : x.bs.length ≤ 1000 := by
    obtain ⟨p, _, e, _⟩ := hf.both.ab.ok x.bs hmem
    rw [e]
    have := Wire.bytesL_len p
    omega
  go_wp2_with fail
  obtain ⟨sa1, cp1, hrun1, hl1, ho1⟩ := hrow5.take N (Nat.le_of_lt hNl)
  obtain ⟨sa2, cp2, hrun2, hl2, ho2⟩ := hrow5.drop (N + 1) hNl
  have hrun2' : ∀ w, (Instr.sliceAt 26 (.slice (some ⟨g, off, none⟩) a.Y.length a.w3) (some (.int .i64 ((N : Int) + 1))) none none).run Try.prog w = .ok (.slice sa2 (a.Y.length - (N + 1)) cp2) w := hrun2
  clear hrun2
  have kd := kept_drew [] w5
  have kE := kept_alloc [] w5.drew (.cells #[] 34)
  have kDE := kd.trans kE
  have hE : BRow w.heap.size (w5.drew.alloc (.cells #[] 34)) (.slice (some ⟨w5.drew.heap.size, 0, none⟩) 0 0) [] := World.ownsRow_made w5.drew #[] 0 (Nat.le_trans hst5.bw kd.size) (by unfold maxLen; omega) rfl
  have c1 : w5.drew.cell? ⟨yb, 0, none⟩ = some (.slice (some ⟨g, off, none⟩) a.Y.length a.w3) := cy5
  have c2 : w5.drew.cell? ⟨nk, 2, none⟩ = some (.int .i64 (N : Int)) := cn2
  refine wp_region_held_drew (S := fun W => W.cell? ⟨yb, 0, none⟩ = some (.slice (some ⟨g, off, none⟩) a.Y.length a.w3) ∧ W.cell? ⟨nk, 2, none⟩ = some (.int .i64 (N : Int))) (by kernel_rfl) ⟨c1, c2⟩ (fun hP => ?_)
  have hH := hP
  clear hP
  refine wpAnyH_take (i := 1) (oi := ⟨some 153, _, _, _, _, _⟩) (v := (.int .i64 0)) rfl (by kernel_rfl) (by kernel_rfl) (by kernel_rfl) (fun _ _ _ h => h) (Or.inl ⟨by rfl, fun W hSw => by go_simp⟩) hH ?_
  try simp only [Act.put, List.setIfInBounds_toArray, List.set_cons_zero, List.set_cons_succ]
  refine wpAnyH_take (i := 2) (oi := ⟨some 154, _, _, _, _, _⟩) (v := (.pointer (some ⟨yb, 0, none⟩))) rfl (by kernel_rfl) (by kernel_rfl) (by kernel_rfl) (fun _ _ _ h => h) (Or.inl ⟨by rfl, fun W hSw => by go_simp⟩) hH ?_
  try simp only [Act.put, List.setIfInBounds_toArray, List.set_cons_zero, List.set_cons_succ]
  refine wpAnyH_take (i := 3) (oi := ⟨some 155, _, _, _, _, _⟩) (v := (.slice (some ⟨g, off, none⟩) a.Y.length a.w3)) rfl (by kernel_rfl) (by kernel_rfl) (by kernel_rfl) (fun _ _ _ h => h) (Or.inl ⟨by rfl, fun W hSw => by obtain ⟨f1, f2⟩ := hSw; go_simp⟩) hH ?_
  try simp only [Act.put, List.setIfInBounds_toArray, List.set_cons_zero, List.set_cons_succ]
  refine wpAnyH_take (i := 4) (oi := ⟨some 156, _, _, _, _, _⟩) (v := (.pointer (some ⟨nk, 2, none⟩))) rfl (by kernel_rfl) (by kernel_rfl) (by kernel_rfl) (fun _ _ _ h => h) (Or.inl ⟨by rfl, fun W hSw => by go_simp⟩) hH ?_
  try simp only [Act.put, List.setIfInBounds_toArray, List.set_cons_zero, List.set_cons_succ]
  refine wpAnyH_take (i := 5) (oi := ⟨some 157, _, _, _, _, _⟩) (v := (.int .i64 (N : Int))) rfl (by kernel_rfl) (by kernel_rfl) (by kernel_rfl) (fun _ _ _ h => h) (Or.inl ⟨by rfl, fun W hSw => by obtain ⟨f1, f2⟩ := hSw; go_simp⟩) hH ?_
  try simp only [Act.put, List.setIfInBounds_toArray, List.set_cons_zero, List.set_cons_succ]
  refine wpAnyH_take (i := 6) (oi := ⟨some 158, _, _, _, _, _⟩) (v := (.slice sa1 N cp1)) rfl (by kernel_rfl) (by kernel_rfl) (by kernel_rfl) (fun _ _ _ h => h) (Or.inl ⟨by rfl, fun W hSw => by go_simp⟩) hH ?_
  try simp only [Act.put, List.setIfInBounds_toArray, List.set_cons_zero, List.set_cons_succ]
  refine wpAnyH_ready (rs := [0]) (by kernel_rfl) (by simp) ?_
  refine AllReadyH.cons (o := ⟨some 152, _, _, _, _, _⟩) rfl (fun KK hKK => ?_) AllReadyH.nil
  go_simp
  have hH1 := (⟨(World.cell?_of_block (kDE.block yb hst5.y.lt (by simp))).trans cy5, (World.cell?_of_block (kDE.block nk hNet5.lt (by simp))).trans cn2⟩ : ((w5.drew.alloc (.cells #[] 34)).cell? ⟨yb, 0, none⟩ = some (.slice (some ⟨g, off, none⟩) a.Y.length a.w3) ∧ (w5.drew.alloc (.cells #[] 34)).cell? ⟨nk, 2, none⟩ = some (.int .i64 (N : Int))))
  refine hKK.out _ _ hH1 (fun _ => ?_)
  replace hH := hH1
  clear hKK KK hH1
  try simp only [Act.put, List.setIfInBounds_toArray, List.set_cons_zero, List.set_cons_succ]
  refine wpAnyH_ready (rs := [7]) (by kernel_rfl) (by simp) ?_
  refine AllReadyH.cons (o := ⟨some 159, _, _, _, _, _⟩) rfl (fun KK hKK => ?_) AllReadyH.nil
  refine step_append_any rfl (.tmp 152) (.tmp 158) rfl w.heap.size (.slice (some ⟨w5.drew.heap.size, 0, none⟩) 0 0) (.slice sa1 N cp1) [] (a.Y.take N) (by simp [Act.eval]) (by simp [Act.eval]) hE (hl1.kept kDE (by simp)) (by simp; omega) (Nat.le_trans hst5.bw kDE.size) ?_
  intro r1 rn r3 w6 hr6 hk6 hn6
  have hk56 : Kept [] w5 w6 := Kept.more kDE hk6 (fun k hm => .inr (by simp [Value.ownBlock] at hm; omega))
  have hn6' : ∀ k, (Value.slice r1 rn r3).ownBlock = some k → w5.heap.size ≤ k := fun k e => (hn6.out k e).elim (fun h => by simp [Value.ownBlock] at h; omega) (fun h => Nat.le_trans kDE.size h)
  have hH1 := (⟨(World.cell?_of_block (hk56.block yb hst5.y.lt (by simp))).trans cy5, (World.cell?_of_block (hk56.block nk hNet5.lt (by simp))).trans cn2⟩ : (w6.cell? ⟨yb, 0, none⟩ = some (.slice (some ⟨g, off, none⟩) a.Y.length a.w3) ∧ w6.cell? ⟨nk, 2, none⟩ = some (.int .i64 (N : Int))))
  refine hKK.out _ _ hH1 (fun _ => ?_)
  replace hH := hH1
  clear hKK KK hH1
  try simp only [Act.put, List.setIfInBounds_toArray, List.set_cons_zero, List.set_cons_succ]
  refine wpAnyH_take (i := 8) (oi := ⟨some 17, _, _, _, _, _⟩) (v := (.slice r1 rn r3)) rfl (by kernel_rfl) (by kernel_rfl) (by kernel_rfl) (fun _ _ _ h => h) (Or.inl ⟨by rfl, fun W hSw => by go_simp⟩) hH ?_
  try simp only [Act.put, List.setIfInBounds_toArray, List.set_cons_zero, List.set_cons_succ]
  refine wpAnyH_done (by kernel_rfl) ?_ _
  go_wp2_with fail
  rw [List.nil_append] at hr6
  have kd6 := kept_drew [] w6
  have k56 := hk56.trans kd6
  have c1 : w6.drew.cell? ⟨yb, 0, none⟩ = some (.slice (some ⟨g, off, none⟩) a.Y.length a.w3) := (World.cell?_of_block (k56.block yb hst5.y.lt (by simp))).trans cy5
  have c2 : w6.drew.cell? ⟨nk, 2, none⟩ = some (.int .i64 (N : Int)) := (World.cell?_of_block (k56.block nk hNet5.lt (by simp))).trans cn2
  refine wp_region_held_drew (S := fun W => W.cell? ⟨yb, 0, none⟩ = some (.slice (some ⟨g, off, none⟩) a.Y.length a.w3) ∧ W.cell? ⟨nk, 2, none⟩ = some (.int .i64 (N : Int))) (by kernel_rfl) ⟨c1, c2⟩ (fun hP => ?_)
  have hH := hP
  clear hP
  refine wpAnyH_take (i := 0) (oi := ⟨some 160, _, _, _, _, _⟩) (v := (.slice r1 rn r3)) rfl (by kernel_rfl) (by kernel_rfl) (by kernel_rfl) (fun _ _ _ h => h) (Or.inl ⟨by rfl, fun W hSw => by go_simp⟩) hH ?_
  try simp only [Act.put, List.setIfInBounds_toArray, List.set_cons_zero, List.set_cons_succ]
  refine wpAnyH_take (i := 1) (oi := ⟨some 161, _, _, _, _, _⟩) (v := (.int .i64 0)) rfl (by kernel_rfl) (by kernel_rfl) (by kernel_rfl) (fun _ _ _ h => h) (Or.inl ⟨by rfl, fun W hSw => by go_simp⟩) hH ?_
  try simp only [Act.put, List.setIfInBounds_toArray, List.set_cons_zero, List.set_cons_succ]
  refine wpAnyH_take (i := 2) (oi := ⟨some 162, _, _, _, _, _⟩) (v := (.pointer (some ⟨yb, 0, none⟩))) rfl (by kernel_rfl) (by kernel_rfl) (by kernel_rfl) (fun _ _ _ h => h) (Or.inl ⟨by rfl, fun W hSw => by go_simp⟩) hH ?_
  try simp only [Act.put, List.setIfInBounds_toArray, List.set_cons_zero, List.set_cons_succ]
  refine wpAnyH_take (i := 3) (oi := ⟨some 163, _, _, _, _, _⟩) (v := (.slice (some ⟨g, off, none⟩) a.Y.length a.w3)) rfl (by kernel_rfl) (by kernel_rfl) (by kernel_rfl) (fun _ _ _ h => h) (Or.inl ⟨by rfl, fun W hSw => by obtain ⟨f1, f2⟩ := hSw; go_simp⟩) hH ?_
  try simp only [Act.put, List.setIfInBounds_toArray, List.set_cons_zero, List.set_cons_succ]
  refine wpAnyH_take (i := 4) (oi := ⟨some 164, _, _, _, _, _⟩) (v := (.pointer (some ⟨nk, 2, none⟩))) rfl (by kernel_rfl) (by kernel_rfl) (by kernel_rfl) (fun _ _ _ h => h) (Or.inl ⟨by rfl, fun W hSw => by go_simp⟩) hH ?_
  try simp only [Act.put, List.setIfInBounds_toArray, List.set_cons_zero, List.set_cons_succ]
  refine wpAnyH_take (i := 5) (oi := ⟨some 165, _, _, _, _, _⟩) (v := (.int .i64 (N : Int))) rfl (by kernel_rfl) (by kernel_rfl) (by kernel_rfl) (fun _ _ _ h => h) (Or.inl ⟨by rfl, fun W hSw => by obtain ⟨f1, f2⟩ := hSw; go_simp⟩) hH ?_
  try simp only [Act.put, List.setIfInBounds_toArray, List.set_cons_zero, List.set_cons_succ]
  refine wpAnyH_take (i := 6) (oi := ⟨some 166, _, _, _, _, _⟩) (v := (.int .i64 ((N : Int) + 1))) rfl (by kernel_rfl) (by kernel_rfl) (by kernel_rfl) (fun _ _ _ h => h) (Or.inl ⟨by rfl, fun W hSw => by have hwr : IntKind.i64.wrap ((N : Int) + 1) = (N : Int) + 1 := (by rw [IntKind.wrap_i64]; omega); go_simp⟩) hH ?_
  try simp only [Act.put, List.setIfInBounds_toArray, List.set_cons_zero, List.set_cons_succ]
  refine wpAnyH_take (i := 7) (oi := ⟨some 167, _, _, _, _, _⟩) (v := (.slice sa2 (a.Y.length - (N + 1)) cp2)) rfl (by kernel_rfl) (by kernel_rfl) (by kernel_rfl) (fun _ _ _ h => h) (Or.inl ⟨by rfl, fun W hSw => by go_simp⟩) hH ?_
  try simp only [Act.put, List.setIfInBounds_toArray, List.set_cons_zero, List.set_cons_succ]
  refine wpAnyH_ready (rs := [8]) (by kernel_rfl) (by simp) ?_
  refine AllReadyH.cons (o := ⟨some 168, _, _, _, _, _⟩) rfl (fun KK hKK => ?_) AllReadyH.nil
  refine step_append_any rfl (.tmp 160) (.tmp 167) rfl w.heap.size (.slice r1 rn r3) (.slice sa2 (a.Y.length - (N + 1)) cp2) (a.Y.take N) (a.Y.drop (N + 1)) (by simp [Act.eval]) (by simp [Act.eval]) (hr6.kept0 kd6) (hl2.kept k56 (by simp)) (by simp; omega) (Nat.le_trans hst5.bw k56.size) ?_
  intro q1 qn q3 w7 hr7 hk7 hn7
  have hk57 : Kept [] w5 w7 := Kept.more k56 hk7 (fun k hm => .inr (hn6' k (by simpa using hm)))
  have hn7' : ∀ k, (Value.slice q1 qn q3).ownBlock = some k → w5.heap.size ≤ k := fun k e => (hn7.out k e).elim (hn6' k) (fun h => Nat.le_trans k56.size h)
  have hH1 := (⟨(World.cell?_of_block (hk57.block yb hst5.y.lt (by simp))).trans cy5, (World.cell?_of_block (hk57.block nk hNet5.lt (by simp))).trans cn2⟩ : (w7.cell? ⟨yb, 0, none⟩ = some (.slice (some ⟨g, off, none⟩) a.Y.length a.w3) ∧ w7.cell? ⟨nk, 2, none⟩ = some (.int .i64 (N : Int))))
  refine hKK.out _ _ hH1 (fun _ => ?_)
  replace hH := hH1
  clear hKK KK hH1
  try simp only [Act.put, List.setIfInBounds_toArray, List.set_cons_zero, List.set_cons_succ]
  refine wpAnyH_take (i := 9) (oi := ⟨some 17, _, _, _, _, _⟩) (v := (.slice q1 qn q3)) rfl (by kernel_rfl) (by kernel_rfl) (by kernel_rfl) (fun _ _ _ h => h) (Or.inl ⟨by rfl, fun W hSw => by go_simp⟩) hH ?_
  try simp only [Act.put, List.setIfInBounds_toArray, List.set_cons_zero, List.set_cons_succ]
  refine wpAnyH_done (by kernel_rfl) ?_ _
  go_upto_region 38 with (refine Wire.wpList_store_cell rfl 26 _ _ rfl yb 0 33 _ (.slice q1 qn q3) rfl rfl (hst5.y.kept hk57 (by simp)) (by simp) Outbox.Try.sizeBB rfl ?_; intro w8 hb8 hk8; simp only [List.setIfInBounds_toArray, List.set_cons_zero] at hb8; have cn08 : w8.cell? ⟨nk, 0, none⟩ = some (.int .i64 2) := (World.cell?_of_block (hk8.block nk (Nat.lt_of_lt_of_le hNet5.lt hk57.size) hnyb)).trans ((World.cell?_of_block (hk57.block nk hNet5.lt (by simp))).trans cn0))
  have hst8 := hst5.less_a hr7 hk57 hn7' (fun y hy => (List.mem_append.1 hy).elim List.mem_of_mem_take List.mem_of_mem_drop) hb8 hk8
  have hwire : Wire.ByteRow 0 w8.heap.size w8 (.slice x.sa x.len x.cap) x.bs := ((hfx5.step hk57 (K' := flat (feet w.heap.size yb a b)) (by simp) (fun k hm => .inl hm)).step hk8 (K' := []) (fun k hm => by rw [List.mem_singleton] at hm; rw [hm]; exact mem_flat (i := 9) (by decide) (by simp [feet])) (by simp)).wire
  obtain ⟨z, hst⟩ : ∃ z : Sv, St w w.heap.size w.heap.size yb z b A B (((a.Y.take N) ++ (a.Y.drop (N + 1))).map Bv.bs) wb w8 := ⟨_, hst8⟩
  clear hst8 hr7 hr6 hk57 hk56 hk7 hk6 hn7' hn6' hn7 hn6 hb8 hk8 hl1 hl2 hrun1 hrun2' hE kDE kd kE kd6 k56 ho1 ho2 c1 c2 hst5 cy5 cn0 cn2 hrow5 hH
  have hmyT : (B.s.taken x.bs).my = B.s.my := (taken_is B.s x.bs).1
  have hwnT : (B.s.taken x.bs).ob.w = B.s.ob.w := taken_w B.s x.bs
  have q := take_any w8 hst.hb.ss (.slice x.sa x.len x.cap) x.bs 0 _ hwire (Nat.le_refl _) hxl (by omega) ob2 hst.bw
  rw [hNw, hHs] at q
  have hSD : Hid (B.take x.bs = Sd.mk (B.s.taken x.bs) B.sent (B.got ++ [B.s.gotB x.bs])) := by
    show _ = _
    unfold Sd.take Sd.turn Ss.gotB
    rw [hHs, hNw]
    rfl
  have hB0 := hf.both.take hmem
  rw [hSD.out] at hB0
  have hTll : (B.s.takeL x.bs).length ≤ 1001 := takeL_len _ (by have := hf.win; omega)
  generalize B.s.takeL x.bs = TL at *
  generalize B.s.gotB x.bs = GB at *
  have hT' : ∃ TK, B.s.taken x.bs = TK := ⟨_, rfl⟩
  obtain ⟨TK, hTK⟩ := hT'
  rw [hTK] at q hmyT hwnT hB0
  clear hTK hSD hNw hHs
  have hyo : b.Y.length ≤ 400 := by
    have := congrArg List.length hst.hb.wayL
    rw [List.length_map] at this
    omega
  have hgl0 : b.G.length ≤ 1000 := by
    have e := congrArg List.length hst.hb.gotL
    rw [List.length_map] at e
    rw [e]
    have := hf.got
    omega
  obtain ⟨c0, c1, c2, c3, c4, c5, c6, c7⟩ := hst.eight
  go_wp2_with (first
    | (go_at_call 10; refine q.mono ?_; rintro e w10 ⟨v10, P10, F10, sb, lb, cb, rfl, hF10, hT10, hA10⟩; obtain ⟨sl10, cl10, rfl⟩ := hT10.row.form; have hst10 := hst.call_b hA10 hmyT)
    | (refine wpList_store_blk rfl 41 _ _ rfl w10.heap.size 41 _ [.bool false, .bool true, .slice sb lb cb] rfl rfl (blk_new w10 41 #[.bool false, .bool false, .slice none 0 0]) rfl Try.sizeGot (by simp [Value.oneCell']) ?_; intro w11 hb11 hk11 hz11; have kG : Kept [] w10 w11 := (kept_alloc [] w10 (.cells #[.bool false, .bool false, .slice none 0 0] 41)).young hk11 (Nat.le_refl _); have hst11 := hst10.kept0 kG; have g0 : w11.cell? ⟨w10.heap.size, 0, none⟩ = some (.bool false) := (hb11.cell 0).trans rfl; have g1 : w11.cell? ⟨w10.heap.size, 1, none⟩ = some (.bool true) := (hb11.cell 1).trans rfl; obtain ⟨y0, y1⟩ := hst11.two))
  have hTX := (hT10.kept0 kG)
  have hFb0 := hF10 (flat (feet w.heap.size yb z { b with F := F10 })) (fun k hm => by
    obtain ⟨i, h10, hmi⟩ := flat_mem hm
    by_cases e : i = 4
    · subst e
      exact .inl hmi
    · right
      have hmi2 : k ∈ feet w.heap.size yb z b i := by
        unfold feet at hmi ⊢
        split at hmi <;> first | exact hmi | exact absurd rfl e | exact absurd hmi (by simp [Sv.foot, Sv.sent, Sv.got, Value.ownBlock])
      exact (hst.pool.lt i k hmi2).2)
  have hFb := (hFb0.step kG (K' := (flat (feet w.heap.size yb z { b with F := F10 }))) (by simp) (fun k hm => .inl hm))
  have kdX := kept_drew [] w11
  have hstd := hst11.kept0 kdX
  have hGd := hb11.kept kdX (by simp)
  have hFbd := hFb.step kdX (K' := (flat (feet w.heap.size yb z { b with F := F10 }))) (by simp) (fun k hm => .inl hm)
  have hTXd := hTX.kept0 kdX
  clear hFb hFb0
  have hgl : (b.G : List Bv).length ≤ 1000 := hgl0
  have hnx : w10.heap.size ∉ [w.heap.size] := fun e => by
    rw [List.mem_singleton] at e
    exact hstd.alien hGd notGot 8 (by rw [e]; simp [feet])
  have d3d : w11.drew.cell? ⟨w10.heap.size, 2, none⟩ = some (.slice sb lb cb) := (hGd.cell 2).trans rfl
  have csent : w11.drew.cell? ⟨w.heap.size, 7, none⟩ = some (.slice b.g1 b.G.length b.g3) := (hstd.x.cell 7).trans rfl
  refine wp_region_held_drew (S := fun W => W.cell? ⟨w10.heap.size, 2, none⟩ = some (.slice sb lb cb)) (by kernel_rfl) d3d (fun hP => ?_)
  have hH := hP
  clear hP
  refine wpAnyH_take (i := 0) (oi := ⟨some 194, _, _, _, _, _⟩) (v := (.int .i64 1)) rfl (by kernel_rfl) (by kernel_rfl) (by kernel_rfl) (fun _ _ _ h => h) (Or.inl ⟨by rfl, fun W hSw => by go_simp⟩) hH ?_
  try simp only [Act.put, List.setIfInBounds_toArray, List.set_cons_zero, List.set_cons_succ]
  refine wpAnyH_take (i := 1) (oi := ⟨some 195, _, _, _, _, _⟩) (v := (.int .i64 1)) rfl (by kernel_rfl) (by kernel_rfl) (by kernel_rfl) (fun _ _ _ h => h) (Or.inl ⟨by rfl, fun W hSw => by go_simp⟩) hH ?_
  try simp only [Act.put, List.setIfInBounds_toArray, List.set_cons_zero, List.set_cons_succ]
  refine wpAnyH_take (i := 2) (oi := ⟨some 196, _, _, _, _, _⟩) (v := (.pointer (some ⟨w.heap.size, 4, none⟩))) rfl (by kernel_rfl) (by kernel_rfl) (by kernel_rfl) (fun _ _ _ h => h) (Or.inl ⟨by rfl, fun W hSw => by go_simp⟩) hH ?_
  try simp only [Act.put, List.setIfInBounds_toArray, List.set_cons_zero, List.set_cons_succ]
  refine wpAnyH_take (i := 3) (oi := ⟨some 197, _, _, _, _, _⟩) (v := (.pointer (some ⟨w.heap.size, 7, none⟩))) rfl (by kernel_rfl) (by kernel_rfl) (by kernel_rfl) (fun _ _ _ h => h) (Or.inl ⟨by rfl, fun W hSw => by go_simp⟩) hH ?_
  try simp only [Act.put, List.setIfInBounds_toArray, List.set_cons_zero, List.set_cons_succ]
  refine wpAnyH_take (i := 5) (oi := ⟨some 199, _, _, _, _, _⟩) (v := (.pointer (some ⟨w10.heap.size, 2, none⟩))) rfl (by kernel_rfl) (by kernel_rfl) (by kernel_rfl) (fun _ _ _ h => h) (Or.inl ⟨by rfl, fun W hSw => by go_simp⟩) hH ?_
  try simp only [Act.put, List.setIfInBounds_toArray, List.set_cons_zero, List.set_cons_succ]
  refine wpAnyH_take (i := 6) (oi := ⟨some 200, _, _, _, _, _⟩) (v := (.slice sb lb cb)) rfl (by kernel_rfl) (by kernel_rfl) (by kernel_rfl) (fun _ _ _ h => h) (Or.inl ⟨by rfl, fun W hSw => by go_simp⟩) hH ?_
  try simp only [Act.put, List.setIfInBounds_toArray, List.set_cons_zero, List.set_cons_succ]
  refine wpAnyH_ready (rs := [4, 7]) (by kernel_rfl) (by simp) ?_
  refine AllReadyH.cons (o := ⟨some 198, _, _, _, _, _⟩) rfl (fun KK hKK => ?_) (AllReadyH.cons (o := ⟨some 201, _, _, _, _, _⟩) rfl (fun KK hKK => ?_) AllReadyH.nil)
  · go_simp
    refine hKK.out _ _ d3d (fun _ => ?_)
    clear hKK KK
    try simp only [Act.put, List.setIfInBounds_toArray, List.set_cons_zero, List.set_cons_succ]
    refine wpAnyH_ready (rs := [7]) (by kernel_rfl) (by simp) ?_
    refine AllReadyH.cons (o := ⟨some 201, _, _, _, _, _⟩) rfl (fun KK hKK => ?_) AllReadyH.nil
    go_simp
    have hH1 := ((hGd.kept (kept_alloc [] w11.drew (.cells #[.slice sb lb cb] 34)) (by simp)).cell 2).trans rfl
    refine hKK.out _ _ hH1 (fun _ => ?_)
    replace hH := hH1
    clear hKK KK hH1
    try simp only [Act.put, List.setIfInBounds_toArray, List.set_cons_zero, List.set_cons_succ]
    refine wpAnyH_ready (rs := [8]) (by kernel_rfl) (by simp) ?_
    refine AllReadyH.cons (o := ⟨some 202, _, _, _, _, _⟩) rfl (fun KK hKK => ?_) AllReadyH.nil
    refine step_append_any rfl (.tmp 198) (.tmp 201) rfl w.heap.size (.slice b.g1 b.G.length b.g3) (.slice (some ⟨w11.drew.heap.size, 0, none⟩) 1 1) b.G [⟨sb, lb, cb, GB⟩] (by simp [Act.eval]) (by simp [Act.eval]) (hstd.hb.got.kept0 (kept_alloc [] w11.drew (.cells #[.slice sb lb cb] 34))) (lies_one _ _ (by simp) (cell_one_new _ _ _ 0 _ rfl)) (Nat.le_trans (Nat.add_le_add_right hgl 1) (by decide)) (Nat.le_trans hstd.bw (kept_alloc [] w11.drew (.cells #[.slice sb lb cb] 34)).size) ?_
    intro p1 pn p3 w14 hr14 hk14 hn14
    have hnr : w10.heap.size ∉ (Value.slice b.g1 b.G.length b.g3).ownBlock.toList := fun e => hstd.alien hGd notGot 6 e
    have hG14 := (hGd.kept (kept_alloc [] w11.drew (.cells #[.slice sb lb cb] 34)) (by simp)).kept hk14 hnr
    have hH1 := (hG14.cell 2).trans rfl
    refine hKK.out _ _ hH1 (fun _ => ?_)
    replace hH := hH1
    clear hKK KK hH1
    try simp only [Act.put, List.setIfInBounds_toArray, List.set_cons_zero, List.set_cons_succ]
    refine wpAnyH_take (i := 9) (oi := ⟨some 203, _, _, _, _, _⟩) (v := (.pointer (some ⟨w.heap.size, 4, none⟩))) rfl (by kernel_rfl) (by kernel_rfl) (by kernel_rfl) (fun _ _ _ h => h) (Or.inl ⟨by rfl, fun W hSw => by go_simp⟩) hH ?_
    try simp only [Act.put, List.setIfInBounds_toArray, List.set_cons_zero, List.set_cons_succ]
    refine wpAnyH_take (i := 10) (oi := ⟨some 204, _, _, _, _, _⟩) (v := (.pointer (some ⟨w.heap.size, 7, none⟩))) rfl (by kernel_rfl) (by kernel_rfl) (by kernel_rfl) (fun _ _ _ h => h) (Or.inl ⟨by rfl, fun W hSw => by go_simp⟩) hH ?_
    try simp only [Act.put, List.setIfInBounds_toArray, List.set_cons_zero, List.set_cons_succ]
    refine wpAnyH_ready (rs := [11]) (by kernel_rfl) (by simp) ?_
    refine AllReadyH.cons (o := ⟨none, _, _, _, _, _⟩) rfl (fun KK hKK => ?_) AllReadyH.nil
    have hxo : w.heap.size ∉ (Value.slice b.g1 b.G.length b.g3).ownBlock.toList := fun e => by have := hstd.pool.one 8 6 w.heap.size (by simp [feet]) e; omega
    have hx14 := ((hstd.x.kept (kept_alloc [] w11.drew (.cells #[.slice sb lb cb] 34)) (by simp)).kept hk14 hxo)
    refine step_store_cell rfl 26 (.tmp 204) (.tmp 202) rfl w.heap.size 7 29 _ (.slice p1 pn p3) (by simp [Act.eval]) (by simp [Act.eval]) hx14 (by simp) Outbox.Try.sizeBB rfl ?_
    intro w15 hb15 hk15
    simp only [List.setIfInBounds_toArray, List.set_cons_zero, List.set_cons_succ] at hb15
    have hH1 := ((hG14.kept hk15 hnx).cell 2).trans rfl
    refine hKK.out _ _ hH1 (fun _ => ?_)
    replace hH := hH1
    clear hKK KK hH1
    try simp only [Act.put]
    refine wpAnyH_done (by kernel_rfl) ?_ _
    have kAL := kept_alloc [] w11.drew (.cells #[.slice sb lb cb] 34)
    have hst15 := hstd.got_b (M := [⟨sb, lb, cb, GB⟩]) hr14 ((kAL.mono (by simp)).trans hk14) (fun k e => (hn14.out k e).imp id (fun h => Nat.le_trans kAL.size h)) (fun y hy => by rw [List.mem_singleton] at hy; rw [hy]; exact hFbd) hb15 hk15
    have hoB := hstd.hb.got.noByt
    replace hTX : Told w8.heap.size w15 (.slice sl10 P10.length cl10) P10 TL := by
      have t1 := hTXd.kept0 kAL
      have t2 : Told w8.heap.size w14 (.slice sl10 P10.length cl10) P10 TL := t1.kept hk14 (fun k hm => by
        have := (hst.pool.lt 6 k (hm)).2
        omega) (fun k hm c hc => by
        obtain ⟨cur, hcur⟩ := (hstd.hb.got.kept0 kAL).blk k (Option.mem_toList.1 hm)
        exact blk_ne hc hcur (by decide) rfl)
      exact t2.keptT hk15 (NoByt.cons (Outbox.noByt_nil _) hx14 (by decide)) (NoRow.cons (noRow_nil _) hx14 (by decide))
    obtain ⟨y0, y1⟩ := hst15.two
    go_wp2_with (first
      | (at_builtin; refine wpList_append_any rfl _ _ rfl w.heap.size (.slice b.w1 b.Y.length b.w3) (.slice sl10 P10.length cl10) b.Y P10 rfl rfl hst15.hb.way hTX.row.lies (by have := hTX.len; omega) hst15.bw ?_; intro u1 un u3 w17 hr17 hk17 hn17)
      | (refine Wire.wpList_store_cell rfl 26 _ _ rfl yb 1 33 _ (.slice u1 un u3) rfl rfl (hst15.y.kept hk17 (fun e => by have := hst15.pool.one 9 7 yb (by simp [feet]) e; omega)) (by simp) Outbox.Try.sizeBB rfl ?_; intro w18 hb18 hk18; simp only [List.setIfInBounds_toArray, List.set_cons_zero, List.set_cons_succ] at hb18))
    have hst18 := hst15.way_b hr17 hk17 hn17.out (fun y hy => far_byt (hTX.mem y hy) hst15.noFlat) hb18 hk18
    rw [hTX.bs] at hst18
    have hB1 := hB0.fewer (wa' := ((a.Y.take N) ++ (a.Y.drop (N + 1))).map Bv.bs) (sub_rest hst3.ha.wayL N)
    refine ⟨⟨rfl, rfl, by rw [hL1.out]; rfl, by rw [hL2.out]; rfl, by rw [hL3.out]; rfl⟩, _, _, _, _, _, _, hst18, hB1, ?_, ?_, ?_, ?_⟩
    · have := hf.my; exact ⟨Nat.le_succ_of_le this.1, Nat.le_trans (Nat.le_of_eq hmyT) (Nat.le_succ_of_le this.2)⟩
    · have := hf.sent; exact ⟨Nat.le_succ_of_le this.1, Nat.le_succ_of_le this.2⟩
    · exact ⟨hf.win.1, hwnT.trans hf.win.2⟩
    · have := hf.got; exact ⟨Nat.le_succ_of_le this.1, (by rw [List.length_append]; exact Nat.add_le_add_right this.2 1)⟩
  · go_simp
    refine hKK.out _ _ (((hGd.kept (kept_alloc [] w11.drew (.cells #[.slice sb lb cb] 34)) (by simp)).cell 2).trans rfl) (fun _ => ?_)
    clear hKK KK
    try simp only [Act.put, List.setIfInBounds_toArray, List.set_cons_zero, List.set_cons_succ]
    refine wpAnyH_ready (rs := [4]) (by kernel_rfl) (by simp) ?_
    refine AllReadyH.cons (o := ⟨some 198, _, _, _, _, _⟩) rfl (fun KK hKK => ?_) AllReadyH.nil
    have csent3 : w11.cell? ⟨w.heap.size, 7, none⟩ = some (.slice b.g1 b.G.length b.g3) := csent
    have hxlt : w.heap.size < w11.heap.size := hstd.x.lt
    have hxlt' : w.heap.size < w11.drew.heap.size := hstd.x.lt
    have hxne : ¬ (w.heap.size = w11.heap.size) := by omega
    go_simp
    refine hKK.out _ _ (((hGd.kept (kept_alloc [] w11.drew (.cells #[.slice sb lb cb] 34)) (by simp)).cell 2).trans rfl) (fun _ => ?_)
    clear hKK KK csent3 hxlt hxlt' hxne
    try simp only [Act.put, List.setIfInBounds_toArray, List.set_cons_zero, List.set_cons_succ]
    refine wpAnyH_ready (rs := [8]) (by kernel_rfl) (by simp) ?_
    refine AllReadyH.cons (o := ⟨some 202, _, _, _, _, _⟩) rfl (fun KK hKK => ?_) AllReadyH.nil
    refine step_append_any rfl (.tmp 198) (.tmp 201) rfl w.heap.size (.slice b.g1 b.G.length b.g3) (.slice (some ⟨w11.drew.heap.size, 0, none⟩) 1 1) b.G [⟨sb, lb, cb, GB⟩] (by simp [Act.eval]) (by simp [Act.eval]) (hstd.hb.got.kept0 (kept_alloc [] w11.drew (.cells #[.slice sb lb cb] 34))) (lies_one _ _ (by simp) (cell_one_new _ _ _ 0 _ rfl)) (Nat.le_trans (Nat.add_le_add_right hgl 1) (by decide)) (Nat.le_trans hstd.bw (kept_alloc [] w11.drew (.cells #[.slice sb lb cb] 34)).size) ?_
    intro p1 pn p3 w14 hr14 hk14 hn14
    have hnr : w10.heap.size ∉ (Value.slice b.g1 b.G.length b.g3).ownBlock.toList := fun e => hstd.alien hGd notGot 6 e
    have hG14 := (hGd.kept (kept_alloc [] w11.drew (.cells #[.slice sb lb cb] 34)) (by simp)).kept hk14 hnr
    have hH1 := (hG14.cell 2).trans rfl
    refine hKK.out _ _ hH1 (fun _ => ?_)
    replace hH := hH1
    clear hKK KK hH1
    try simp only [Act.put, List.setIfInBounds_toArray, List.set_cons_zero, List.set_cons_succ]
    refine wpAnyH_take (i := 9) (oi := ⟨some 203, _, _, _, _, _⟩) (v := (.pointer (some ⟨w.heap.size, 4, none⟩))) rfl (by kernel_rfl) (by kernel_rfl) (by kernel_rfl) (fun _ _ _ h => h) (Or.inl ⟨by rfl, fun W hSw => by go_simp⟩) hH ?_
    try simp only [Act.put, List.setIfInBounds_toArray, List.set_cons_zero, List.set_cons_succ]
    refine wpAnyH_take (i := 10) (oi := ⟨some 204, _, _, _, _, _⟩) (v := (.pointer (some ⟨w.heap.size, 7, none⟩))) rfl (by kernel_rfl) (by kernel_rfl) (by kernel_rfl) (fun _ _ _ h => h) (Or.inl ⟨by rfl, fun W hSw => by go_simp⟩) hH ?_
    try simp only [Act.put, List.setIfInBounds_toArray, List.set_cons_zero, List.set_cons_succ]
    refine wpAnyH_ready (rs := [11]) (by kernel_rfl) (by simp) ?_
    refine AllReadyH.cons (o := ⟨none, _, _, _, _, _⟩) rfl (fun KK hKK => ?_) AllReadyH.nil
    have hxo : w.heap.size ∉ (Value.slice b.g1 b.G.length b.g3).ownBlock.toList := fun e => by have := hstd.pool.one 8 6 w.heap.size (by simp [feet]) e; omega
    have hx14 := ((hstd.x.kept (kept_alloc [] w11.drew (.cells #[.slice sb lb cb] 34)) (by simp)).kept hk14 hxo)
    refine step_store_cell rfl 26 (.tmp 204) (.tmp 202) rfl w.heap.size 7 29 _ (.slice p1 pn p3) (by simp [Act.eval]) (by simp [Act.eval]) hx14 (by simp) Outbox.Try.sizeBB rfl ?_
    intro w15 hb15 hk15
    simp only [List.setIfInBounds_toArray, List.set_cons_zero, List.set_cons_succ] at hb15
    have hH1 := ((hG14.kept hk15 hnx).cell 2).trans rfl
    refine hKK.out _ _ hH1 (fun _ => ?_)
    replace hH := hH1
    clear hKK KK hH1
    try simp only [Act.put]
    refine wpAnyH_done (by kernel_rfl) ?_ _
    have kAL := kept_alloc [] w11.drew (.cells #[.slice sb lb cb] 34)
    have hst15 := hstd.got_b (M := [⟨sb, lb, cb, GB⟩]) hr14 ((kAL.mono (by simp)).trans hk14) (fun k e => (hn14.out k e).imp id (fun h => Nat.le_trans kAL.size h)) (fun y hy => by rw [List.mem_singleton] at hy; rw [hy]; exact hFbd) hb15 hk15
    have hoB := hstd.hb.got.noByt
    replace hTX : Told w8.heap.size w15 (.slice sl10 P10.length cl10) P10 TL := by
      have t1 := hTXd.kept0 kAL
      have t2 : Told w8.heap.size w14 (.slice sl10 P10.length cl10) P10 TL := t1.kept hk14 (fun k hm => by
        have := (hst.pool.lt 6 k (hm)).2
        omega) (fun k hm c hc => by
        obtain ⟨cur, hcur⟩ := (hstd.hb.got.kept0 kAL).blk k (Option.mem_toList.1 hm)
        exact blk_ne hc hcur (by decide) rfl)
      exact t2.keptT hk15 (NoByt.cons (Outbox.noByt_nil _) hx14 (by decide)) (NoRow.cons (noRow_nil _) hx14 (by decide))
    obtain ⟨y0, y1⟩ := hst15.two
    go_wp2_with (first
      | (at_builtin; refine wpList_append_any rfl _ _ rfl w.heap.size (.slice b.w1 b.Y.length b.w3) (.slice sl10 P10.length cl10) b.Y P10 rfl rfl hst15.hb.way hTX.row.lies (by have := hTX.len; omega) hst15.bw ?_; intro u1 un u3 w17 hr17 hk17 hn17)
      | (refine Wire.wpList_store_cell rfl 26 _ _ rfl yb 1 33 _ (.slice u1 un u3) rfl rfl (hst15.y.kept hk17 (fun e => by have := hst15.pool.one 9 7 yb (by simp [feet]) e; omega)) (by simp) Outbox.Try.sizeBB rfl ?_; intro w18 hb18 hk18; simp only [List.setIfInBounds_toArray, List.set_cons_zero, List.set_cons_succ] at hb18))
    have hst18 := hst15.way_b hr17 hk17 hn17.out (fun y hy => far_byt (hTX.mem y hy) hst15.noFlat) hb18 hk18
    rw [hTX.bs] at hst18
    have hB1 := hB0.fewer (wa' := ((a.Y.take N) ++ (a.Y.drop (N + 1))).map Bv.bs) (sub_rest hst3.ha.wayL N)
    refine ⟨⟨rfl, rfl, by rw [hL1.out]; rfl, by rw [hL2.out]; rfl, by rw [hL3.out]; rfl⟩, _, _, _, _, _, _, hst18, hB1, ?_, ?_, ?_, ?_⟩
    · have := hf.my; exact ⟨Nat.le_succ_of_le this.1, Nat.le_trans (Nat.le_of_eq hmyT) (Nat.le_succ_of_le this.2)⟩
    · have := hf.sent; exact ⟨Nat.le_succ_of_le this.1, Nat.le_succ_of_le this.2⟩
    · exact ⟨hf.win.1, hwnT.trans hf.win.2⟩
    · have := hf.got; exact ⟨Nat.le_succ_of_le this.1, (by rw [List.length_append]; exact Nat.add_le_add_right this.2 1)⟩
set_option maxRecDepth 100000 in
set_option maxHeartbeats 8000000 in
/-- A packet comes. -/
theorem sw0_come2_new_not (h1 : 1 ≤ m) (h2 : m ≤ 64) (hl : len ≤ 120) (hjl : j + 1 ≤ len) (hst3 : St w w.heap.size w.heap.size yb a b A B wa wb w3) (hf : Far2 m j A B wa wb) (hwa : wa.length ≤ 400) (hwb : wb.length ≤ 400) (hfx : Far (flat (feet w.heap.size yb a b)) w3 t.x) (hNet : Blk w3 nk 36 #[.int .i64 t.k, .int .i64 t.who, .int .i64 t.at', .slice t.x.sa t.x.len t.x.cap]) (hxx : Hid (t.x.len = t.x.bs.length)) (h300 : ¬ (300 < t.x.len)) {N : Nat} {x : Bv} (hk : t.k = 2) (hat : t.at' = (N : Int)) (hx : a.Y[N]? = some x) (hNw : B.s.isNew x.bs = true) (hHs : B.s.has x.bs = false) {c : Code} (hc : Try.f3.body.bind (findB 4) = some c) (hL1 : Hid (L1 = [.int .i64 (m : Int), sl1, v2, v3, v4, .pointer (some ⟨w.heap.size, 0, none⟩), v6, v7, v8, .pointer (some ⟨yb, 0, none⟩), v10, .pointer (some ⟨nk, 0, none⟩), .int .i64 0, .int .i64 1])) (hL2 : Hid (L2 = [v22, v23, v24, v25, v26, v27, v28, v29, v30, v31, v32, v33, v34, v35, v36, v37, v38, v39, v40, v41, v42, v43, v44, v45, v46, v47, v48, v49, sl50])) (hL3 : Hid (L3 = [v286])) :
    Code.wp Try.prog c (SwPost L1 L2 L3 w m j yb) ⟨#[.int .i64 (m : Int), sl1, v2, v3, v4, .pointer (some ⟨w.heap.size, 0, none⟩), v6, v7, v8, .pointer (some ⟨yb, 0, none⟩), v10, .pointer (some ⟨nk, 0, none⟩), .int .i64 0, .int .i64 1, v14, v15, v16, v17, v18, v19, v20, v21, v22, v23, v24, v25, v26, v27, v28, v29, v30, v31, v32, v33, v34, v35, v36, v37, v38, v39, v40, v41, v42, v43, v44, v45, v46, v47, v48, v49, sl50, v51, v52, v53, v54, v55, v56, v57, v58, v59, v60, v61, v62, v63, v64, v65, .int .i64 2, v67, v68, v69, v70, v71, v72, v73, v74, v75, v76, v77, v78, v79, v80, v81, v82, v83, v84, v85, v86, v87, v88, v89, v90, v91, v92, v93, v94, v95, v96, v97, v98, v99, v100, v101, v102, v103, v104, v105, v106, v107, v108, v109, v110, v111, v112, v113, v114, v115, v116, v117, v118, v119, v120, v121, v122, v123, v124, v125, v126, v127, v128, v129, v130, v131, v132, v133, v134, v135, v136, v137, v138, v139, v140, v141, v142, v143, v144, v145, v146, v147, v148, v149, v150, v151, v152, v153, v154, v155, v156, v157, v158, v159, v160, v161, v162, v163, v164, v165, v166, v167, v168, v169, v170, v171, v172, v173, v174, v175, v176, v177, v178, v179, v180, v181, v182, v183, v184, v185, v186, v187, v188, v189, v190, v191, v192, v193, v194, v195, v196, v197, v198, v199, v200, v201, v202, v203, v204, v205, v206, v207, v208, v209, v210, v211, v212, v213, v214, v215, v216, v217, v218, v219, v220, v221, v222, v223, v224, v225, v226, v227, v228, v229, v230, v231, v232, v233, v234, v235, v236, v237, v238, v239, v240, v241, v242, v243, v244, v245, v246, v247, v248, v249, v250, v251, v252, v253, v254, v255, v256, v257, v258, v259, v260, v261, v262, v263, v264, v265, v266, v267, v268, v269, v270, v271, v272, v273, v274, v275, v276, v277, v278, v279, v280, v281, v282, v283, v284, v285, v286], []⟩ w3 := by
  have d0 : w3.cell? ⟨nk, 0, none⟩ = some (.int .i64 t.k) := (hNet.cell 0).trans rfl
  have d1 : w3.cell? ⟨nk, 1, none⟩ = some (.int .i64 t.who) := (hNet.cell 1).trans rfl
  have d2 : w3.cell? ⟨nk, 2, none⟩ = some (.int .i64 t.at') := (hNet.cell 2).trans rfl
  have d3 : w3.cell? ⟨nk, 3, none⟩ = some (.slice t.x.sa t.x.len t.x.cap) := (hNet.cell 3).trans rfl
  obtain ⟨⟨oa1, oa2⟩, ob1, ob2⟩ := hf.ob (by omega)
  conv at hc => lhs; whnf
  injection hc with hc
  subst hc
  rw [hk] at d0
  clear hk
  rw [hat] at d2
  have hNl : N < a.Y.length := (List.getElem?_eq_some_iff.1 hx).1
  have i1 : ¬ ((N : Int) < 0) := by omega
  have i2 : ¬ ((a.Y.length : Int) ≤ (N : Int)) := by omega
  have i3 : (N : Int) < (a.Y.length : Int) := by omega
  have hyl : a.Y.length ≤ 400 := by
    have := congrArg List.length hst3.ha.wayL
    rw [List.length_map] at this
    omega
  have hyI : (a.Y.length : Int) ≤ 400 := by omega
  obtain ⟨g, off, ew, ce⟩ := hst3.ha.way.lies.at N x hx
  have cy : w3.cell? ⟨yb, 0, none⟩ = some (.slice (some ⟨g, off, none⟩) a.Y.length a.w3) := by rw [← ew]; exact hst3.two.1
  have hrow0 : Lies w3 (.slice (some ⟨g, off, none⟩) a.Y.length a.w3) a.Y := by rw [← ew]; exact hst3.ha.way.lies
  have c : ∀ n, (w3.drewN n).cell? ⟨yb, 0, none⟩ = some (.slice (some ⟨g, off, none⟩) a.Y.length a.w3) := fun n => cy
  have u : ∀ n, (w3.drewN n).cell? ⟨nk, 2, none⟩ = some (.int .i64 (N : Int)) := fun n => d2
  go_wp2_with fail
  go_quiet (fail)
  have kq_w4 := kept_drewN [] w3 nq
  obtain ⟨w4, hq_w4⟩ : ∃ w4, w3.drewN nq = w4 := ⟨_, rfl⟩
  rw [hq_w4] at kq_w4 ⊢
  clear hq_w4 nq
  clear c u
  have c : ∀ n, (w4.drewN n).cell? ⟨yb, 0, none⟩ = some (.slice (some ⟨g, off, none⟩) a.Y.length a.w3) := fun n => (World.cell?_of_block (kq_w4.block yb hst3.y.lt (by simp))).trans cy
  have u : ∀ n, (w4.drewN n).cell? ⟨nk, 2, none⟩ = some (.int .i64 (N : Int)) := fun n => (World.cell?_of_block (kq_w4.block nk hNet.lt (by simp))).trans d2
  have ce4 : ∀ n, (w4.drewN n).cell? ⟨g, off + N, none⟩ = some (.slice x.sa x.len x.cap) := fun n => (World.cell?_of_block (kq_w4.block g (hst3.ha.way.lt g (by simp [Sv.way, ew, Value.ownBlock])).2 (by simp))).trans ce
  go_wp2_with fail
  go_quiet (fail)
  have kq_w5 := kept_drewN [] w4 nq
  obtain ⟨w5, hq_w5⟩ : ∃ w5, w4.drewN nq = w5 := ⟨_, rfl⟩
  rw [hq_w5] at kq_w5 ⊢
  clear hq_w5 nq
  clear c u ce4 ce cy
  have kq := kq_w4.trans kq_w5
  have hst5 := hst3.kept0 kq
  have hNet5 := hNet.kept kq (by simp)
  have hfx5 := (hst5.ha.wayF x (List.mem_of_getElem? hx))
  have hrow5 := hrow0.kept kq (by simp)
  have cy5 : w5.cell? ⟨yb, 0, none⟩ = some (.slice (some ⟨g, off, none⟩) a.Y.length a.w3) := by rw [← ew]; exact hst5.two.1
  have cn0 : w5.cell? ⟨nk, 0, none⟩ = some (.int .i64 2) := (World.cell?_of_block (kq.block nk hNet.lt (by simp))).trans d0
  have cn2 : w5.cell? ⟨nk, 2, none⟩ = some (.int .i64 (N : Int)) := (World.cell?_of_block (kq.block nk hNet.lt (by simp))).trans d2
  have hmem : x.bs ∈ wa := by rw [← hst3.ha.wayL]; exact List.mem_map_of_mem (List.mem_of_getElem? hx)
  clear d0 d1 d2 d3 kq_w4 kq_w5 hrow0
  have hnyb : nk ∉ [yb] := fun e => hst5.alien hNet5 notNet 9 (by rw [List.mem_singleton] at e; rw [e]; simp [feet])
  have hxl : x.bs.length ≤ 1000 := by
    obtain ⟨p, _, e, _⟩ := hf.both.ab.ok x.bs hmem
    rw [e]
    have := Wire.bytesL_len p
    omega
  go_wp2_with fail
  obtain ⟨sa1, cp1, hrun1, hl1, ho1⟩ := hrow5.take N (Nat.le_of_lt hNl)
  obtain ⟨sa2, cp2, hrun2, hl2, ho2⟩ := hrow5.drop (N + 1) hNl
  have hrun2' : ∀ w, (Instr.sliceAt 26 (.slice (some ⟨g, off, none⟩) a.Y.length a.w3) (some (.int .i64 ((N : Int) + 1))) none none).run Try.prog w = .ok (.slice sa2 (a.Y.length - (N + 1)) cp2) w := hrun2
  clear hrun2
  have kd := kept_drew [] w5
  have kE := kept_alloc [] w5.drew (.cells #[] 34)
  have kDE := kd.trans kE
  have hE : BRow w.heap.size (w5.drew.alloc (.cells #[] 34)) (.slice (some ⟨w5.drew.heap.size, 0, none⟩) 0 0) [] := World.ownsRow_made w5.drew #[] 0 (Nat.le_trans hst5.bw kd.size) (by unfold maxLen; omega) rfl
  have c1 : w5.drew.cell? ⟨yb, 0, none⟩ = some (.slice (some ⟨g, off, none⟩) a.Y.length a.w3) := cy5
  have c2 : w5.drew.cell? ⟨nk, 2, none⟩ = some (.int .i64 (N : Int)) := cn2
  refine wp_region_held_drew (S := fun W => W.cell? ⟨yb, 0, none⟩ = some (.slice (some ⟨g, off, none⟩) a.Y.length a.w3) ∧ W.cell? ⟨nk, 2, none⟩ = some (.int .i64 (N : Int))) (by kernel_rfl) ⟨c1, c2⟩ (fun hP => ?_)
  have hH := hP
  clear hP
  refine wpAnyH_take (i := 1) (oi := ⟨some 153, _, _, _, _, _⟩) (v := (.int .i64 0)) rfl (by kernel_rfl) (by kernel_rfl) (by kernel_rfl) (fun _ _ _ h => h) (Or.inl ⟨by rfl, fun W hSw => by go_simp⟩) hH ?_
  try simp only [Act.put, List.setIfInBounds_toArray, List.set_cons_zero, List.set_cons_succ]
  refine wpAnyH_take (i := 2) (oi := ⟨some 154, _, _, _, _, _⟩) (v := (.pointer (some ⟨yb, 0, none⟩))) rfl (by kernel_rfl) (by kernel_rfl) (by kernel_rfl) (fun _ _ _ h => h) (Or.inl ⟨by rfl, fun W hSw => by go_simp⟩) hH ?_
  try simp only [Act.put, List.setIfInBounds_toArray, List.set_cons_zero, List.set_cons_succ]
  refine wpAnyH_take (i := 3) (oi := ⟨some 155, _, _, _, _, _⟩) (v := (.slice (some ⟨g, off, none⟩) a.Y.length a.w3)) rfl (by kernel_rfl) (by kernel_rfl) (by kernel_rfl) (fun _ _ _ h => h) (Or.inl ⟨by rfl, fun W hSw => by obtain ⟨f1, f2⟩ := hSw; go_simp⟩) hH ?_
  try simp only [Act.put, List.setIfInBounds_toArray, List.set_cons_zero, List.set_cons_succ]
  refine wpAnyH_take (i := 4) (oi := ⟨some 156, _, _, _, _, _⟩) (v := (.pointer (some ⟨nk, 2, none⟩))) rfl (by kernel_rfl) (by kernel_rfl) (by kernel_rfl) (fun _ _ _ h => h) (Or.inl ⟨by rfl, fun W hSw => by go_simp⟩) hH ?_
  try simp only [Act.put, List.setIfInBounds_toArray, List.set_cons_zero, List.set_cons_succ]
  refine wpAnyH_take (i := 5) (oi := ⟨some 157, _, _, _, _, _⟩) (v := (.int .i64 (N : Int))) rfl (by kernel_rfl) (by kernel_rfl) (by kernel_rfl) (fun _ _ _ h => h) (Or.inl ⟨by rfl, fun W hSw => by obtain ⟨f1, f2⟩ := hSw; go_simp⟩) hH ?_
  try simp only [Act.put, List.setIfInBounds_toArray, List.set_cons_zero, List.set_cons_succ]
  refine wpAnyH_take (i := 6) (oi := ⟨some 158, _, _, _, _, _⟩) (v := (.slice sa1 N cp1)) rfl (by kernel_rfl) (by kernel_rfl) (by kernel_rfl) (fun _ _ _ h => h) (Or.inl ⟨by rfl, fun W hSw => by go_simp⟩) hH ?_
  try simp only [Act.put, List.setIfInBounds_toArray, List.set_cons_zero, List.set_cons_succ]
  refine wpAnyH_ready (rs := [0]) (by kernel_rfl) (by simp) ?_
  refine AllReadyH.cons (o := ⟨some 152, _, _, _, _, _⟩) rfl (fun KK hKK => ?_) AllReadyH.nil
  go_simp
  have hH1 := (⟨(World.cell?_of_block (kDE.block yb hst5.y.lt (by simp))).trans cy5, (World.cell?_of_block (kDE.block nk hNet5.lt (by simp))).trans cn2⟩ : ((w5.drew.alloc (.cells #[] 34)).cell? ⟨yb, 0, none⟩ = some (.slice (some ⟨g, off, none⟩) a.Y.length a.w3) ∧ (w5.drew.alloc (.cells #[] 34)).cell? ⟨nk, 2, none⟩ = some (.int .i64 (N : Int))))
  refine hKK.out _ _ hH1 (fun _ => ?_)
  replace hH := hH1
  clear hKK KK hH1
  try simp only [Act.put, List.setIfInBounds_toArray, List.set_cons_zero, List.set_cons_succ]
  refine wpAnyH_ready (rs := [7]) (by kernel_rfl) (by simp) ?_
  refine AllReadyH.cons (o := ⟨some 159, _, _, _, _, _⟩) rfl (fun KK hKK => ?_) AllReadyH.nil
  refine step_append_any rfl (.tmp 152) (.tmp 158) rfl w.heap.size (.slice (some ⟨w5.drew.heap.size, 0, none⟩) 0 0) (.slice sa1 N cp1) [] (a.Y.take N) (by simp [Act.eval]) (by simp [Act.eval]) hE (hl1.kept kDE (by simp)) (by simp; omega) (Nat.le_trans hst5.bw kDE.size) ?_
  intro r1 rn r3 w6 hr6 hk6 hn6
  have hk56 : Kept [] w5 w6 := Kept.more kDE hk6 (fun k hm => .inr (by simp [Value.ownBlock] at hm; omega))
  have hn6' : ∀ k, (Value.slice r1 rn r3).ownBlock = some k → w5.heap.size ≤ k := fun k e => (hn6.out k e).elim (fun h => by simp [Value.ownBlock] at h; omega) (fun h => Nat.le_trans kDE.size h)
  have hH1 := (⟨(World.cell?_of_block (hk56.block yb hst5.y.lt (by simp))).trans cy5, (World.cell?_of_block (hk56.block nk hNet5.lt (by simp))).trans cn2⟩ : (w6.cell? ⟨yb, 0, none⟩ = some (.slice (some ⟨g, off, none⟩) a.Y.length a.w3) ∧ w6.cell? ⟨nk, 2, none⟩ = some (.int .i64 (N : Int))))
  refine hKK.out _ _ hH1 (fun _ => ?_)
  replace hH := hH1
  clear hKK KK hH1
  try simp only [Act.put, List.setIfInBounds_toArray, List.set_cons_zero, List.set_cons_succ]
  refine wpAnyH_take (i := 8) (oi := ⟨some 17, _, _, _, _, _⟩) (v := (.slice r1 rn r3)) rfl (by kernel_rfl) (by kernel_rfl) (by kernel_rfl) (fun _ _ _ h => h) (Or.inl ⟨by rfl, fun W hSw => by go_simp⟩) hH ?_
  try simp only [Act.put, List.setIfInBounds_toArray, List.set_cons_zero, List.set_cons_succ]
  refine wpAnyH_done (by kernel_rfl) ?_ _
  go_wp2_with fail
  rw [List.nil_append] at hr6
  have kd6 := kept_drew [] w6
  have k56 := hk56.trans kd6
  have c1 : w6.drew.cell? ⟨yb, 0, none⟩ = some (.slice (some ⟨g, off, none⟩) a.Y.length a.w3) := (World.cell?_of_block (k56.block yb hst5.y.lt (by simp))).trans cy5
  have c2 : w6.drew.cell? ⟨nk, 2, none⟩ = some (.int .i64 (N : Int)) := (World.cell?_of_block (k56.block nk hNet5.lt (by simp))).trans cn2
  refine wp_region_held_drew (S := fun W => W.cell? ⟨yb, 0, none⟩ = some (.slice (some ⟨g, off, none⟩) a.Y.length a.w3) ∧ W.cell? ⟨nk, 2, none⟩ = some (.int .i64 (N : Int))) (by kernel_rfl) ⟨c1, c2⟩ (fun hP => ?_)
  have hH := hP
  clear hP
  refine wpAnyH_take (i := 0) (oi := ⟨some 160, _, _, _, _, _⟩) (v := (.slice r1 rn r3)) rfl (by kernel_rfl) (by kernel_rfl) (by kernel_rfl) (fun _ _ _ h => h) (Or.inl ⟨by rfl, fun W hSw => by go_simp⟩) hH ?_
  try simp only [Act.put, List.setIfInBounds_toArray, List.set_cons_zero, List.set_cons_succ]
  refine wpAnyH_take (i := 1) (oi := ⟨some 161, _, _, _, _, _⟩) (v := (.int .i64 0)) rfl (by kernel_rfl) (by kernel_rfl) (by kernel_rfl) (fun _ _ _ h => h) (Or.inl ⟨by rfl, fun W hSw => by go_simp⟩) hH ?_
  try simp only [Act.put, List.setIfInBounds_toArray, List.set_cons_zero, List.set_cons_succ]
  refine wpAnyH_take (i := 2) (oi := ⟨some 162, _, _, _, _, _⟩) (v := (.pointer (some ⟨yb, 0, none⟩))) rfl (by kernel_rfl) (by kernel_rfl) (by kernel_rfl) (fun _ _ _ h => h) (Or.inl ⟨by rfl, fun W hSw => by go_simp⟩) hH ?_
  try simp only [Act.put, List.setIfInBounds_toArray, List.set_cons_zero, List.set_cons_succ]
  refine wpAnyH_take (i := 3) (oi := ⟨some 163, _, _, _, _, _⟩) (v := (.slice (some ⟨g, off, none⟩) a.Y.length a.w3)) rfl (by kernel_rfl) (by kernel_rfl) (by kernel_rfl) (fun _ _ _ h => h) (Or.inl ⟨by rfl, fun W hSw => by obtain ⟨f1, f2⟩ := hSw; go_simp⟩) hH ?_
  try simp only [Act.put, List.setIfInBounds_toArray, List.set_cons_zero, List.set_cons_succ]
  refine wpAnyH_take (i := 4) (oi := ⟨some 164, _, _, _, _, _⟩) (v := (.pointer (some ⟨nk, 2, none⟩))) rfl (by kernel_rfl) (by kernel_rfl) (by kernel_rfl) (fun _ _ _ h => h) (Or.inl ⟨by rfl, fun W hSw => by go_simp⟩) hH ?_
  try simp only [Act.put, List.setIfInBounds_toArray, List.set_cons_zero, List.set_cons_succ]
  refine wpAnyH_take (i := 5) (oi := ⟨some 165, _, _, _, _, _⟩) (v := (.int .i64 (N : Int))) rfl (by kernel_rfl) (by kernel_rfl) (by kernel_rfl) (fun _ _ _ h => h) (Or.inl ⟨by rfl, fun W hSw => by obtain ⟨f1, f2⟩ := hSw; go_simp⟩) hH ?_
  try simp only [Act.put, List.setIfInBounds_toArray, List.set_cons_zero, List.set_cons_succ]
  refine wpAnyH_take (i := 6) (oi := ⟨some 166, _, _, _, _, _⟩) (v := (.int .i64 ((N : Int) + 1))) rfl (by kernel_rfl) (by kernel_rfl) (by kernel_rfl) (fun _ _ _ h => h) (Or.inl ⟨by rfl, fun W hSw => by have hwr : IntKind.i64.wrap ((N : Int) + 1) = (N : Int) + 1 := (by rw [IntKind.wrap_i64]; omega); go_simp⟩) hH ?_
  try simp only [Act.put, List.setIfInBounds_toArray, List.set_cons_zero, List.set_cons_succ]
  refine wpAnyH_take (i := 7) (oi := ⟨some 167, _, _, _, _, _⟩) (v := (.slice sa2 (a.Y.length - (N + 1)) cp2)) rfl (by kernel_rfl) (by kernel_rfl) (by kernel_rfl) (fun _ _ _ h => h) (Or.inl ⟨by rfl, fun W hSw => by go_simp⟩) hH ?_
  try simp only [Act.put, List.setIfInBounds_toArray, List.set_cons_zero, List.set_cons_succ]
  refine wpAnyH_ready (rs := [8]) (by kernel_rfl) (by simp) ?_
  refine AllReadyH.cons (o := ⟨some 168, _, _, _, _, _⟩) rfl (fun KK hKK => ?_) AllReadyH.nil
  refine step_append_any rfl (.tmp 160) (.tmp 167) rfl w.heap.size (.slice r1 rn r3) (.slice sa2 (a.Y.length - (N + 1)) cp2) (a.Y.take N) (a.Y.drop (N + 1)) (by simp [Act.eval]) (by simp [Act.eval]) (hr6.kept0 kd6) (hl2.kept k56 (by simp)) (by simp; omega) (Nat.le_trans hst5.bw k56.size) ?_
  intro q1 qn q3 w7 hr7 hk7 hn7
  have hk57 : Kept [] w5 w7 := Kept.more k56 hk7 (fun k hm => .inr (hn6' k (by simpa using hm)))
  have hn7' : ∀ k, (Value.slice q1 qn q3).ownBlock = some k → w5.heap.size ≤ k := fun k e => (hn7.out k e).elim (hn6' k) (fun h => Nat.le_trans k56.size h)
  have hH1 := (⟨(World.cell?_of_block (hk57.block yb hst5.y.lt (by simp))).trans cy5, (World.cell?_of_block (hk57.block nk hNet5.lt (by simp))).trans cn2⟩ : (w7.cell? ⟨yb, 0, none⟩ = some (.slice (some ⟨g, off, none⟩) a.Y.length a.w3) ∧ w7.cell? ⟨nk, 2, none⟩ = some (.int .i64 (N : Int))))
  refine hKK.out _ _ hH1 (fun _ => ?_)
  replace hH := hH1
  clear hKK KK hH1
  try simp only [Act.put, List.setIfInBounds_toArray, List.set_cons_zero, List.set_cons_succ]
  refine wpAnyH_take (i := 9) (oi := ⟨some 17, _, _, _, _, _⟩) (v := (.slice q1 qn q3)) rfl (by kernel_rfl) (by kernel_rfl) (by kernel_rfl) (fun _ _ _ h => h) (Or.inl ⟨by rfl, fun W hSw => by go_simp⟩) hH ?_
  try simp only [Act.put, List.setIfInBounds_toArray, List.set_cons_zero, List.set_cons_succ]
  refine wpAnyH_done (by kernel_rfl) ?_ _
  go_upto_region 38 with (refine Wire.wpList_store_cell rfl 26 _ _ rfl yb 0 33 _ (.slice q1 qn q3) rfl rfl (hst5.y.kept hk57 (by simp)) (by simp) Outbox.Try.sizeBB rfl ?_; intro w8 hb8 hk8; simp only [List.setIfInBounds_toArray, List.set_cons_zero] at hb8; have cn08 : w8.cell? ⟨nk, 0, none⟩ = some (.int .i64 2) := (World.cell?_of_block (hk8.block nk (Nat.lt_of_lt_of_le hNet5.lt hk57.size) hnyb)).trans ((World.cell?_of_block (hk57.block nk hNet5.lt (by simp))).trans cn0))
  have hst8 := hst5.less_a hr7 hk57 hn7' (fun y hy => (List.mem_append.1 hy).elim List.mem_of_mem_take List.mem_of_mem_drop) hb8 hk8
  have hwire : Wire.ByteRow 0 w8.heap.size w8 (.slice x.sa x.len x.cap) x.bs := ((hfx5.step hk57 (K' := flat (feet w.heap.size yb a b)) (by simp) (fun k hm => .inl hm)).step hk8 (K' := []) (fun k hm => by rw [List.mem_singleton] at hm; rw [hm]; exact mem_flat (i := 9) (by decide) (by simp [feet])) (by simp)).wire
  obtain ⟨z, hst⟩ : ∃ z : Sv, St w w.heap.size w.heap.size yb z b A B (((a.Y.take N) ++ (a.Y.drop (N + 1))).map Bv.bs) wb w8 := ⟨_, hst8⟩
  clear hst8 hr7 hr6 hk57 hk56 hk7 hk6 hn7' hn6' hn7 hn6 hb8 hk8 hl1 hl2 hrun1 hrun2' hE kDE kd kE kd6 k56 ho1 ho2 c1 c2 hst5 cy5 cn0 cn2 hrow5 hH
  have hmyT : (B.s.taken x.bs).my = B.s.my := (taken_is B.s x.bs).1
  have hwnT : (B.s.taken x.bs).ob.w = B.s.ob.w := taken_w B.s x.bs
  have q := take_any w8 hst.hb.ss (.slice x.sa x.len x.cap) x.bs 0 _ hwire (Nat.le_refl _) hxl (by omega) ob2 hst.bw
  rw [hNw, hHs] at q
  have hSD : Hid (B.take x.bs = Sd.mk (B.s.taken x.bs) [] []) := by
    show _ = _
    unfold Sd.take Sd.turn
    rw [hHs, hNw]
    rfl
  have hB0 := hf.both.take hmem
  rw [hSD.out] at hB0
  have hTll : (B.s.takeL x.bs).length ≤ 1001 := takeL_len _ (by have := hf.win; omega)
  generalize B.s.takeL x.bs = TL at *
  generalize B.s.gotB x.bs = GB at *
  have hT' : ∃ TK, B.s.taken x.bs = TK := ⟨_, rfl⟩
  obtain ⟨TK, hTK⟩ := hT'
  rw [hTK] at q hmyT hwnT hB0
  clear hTK hSD hNw hHs
  have hyo : b.Y.length ≤ 400 := by
    have := congrArg List.length hst.hb.wayL
    rw [List.length_map] at this
    omega
  obtain ⟨c0, c1, c2, c3, c4, c5, c6, c7⟩ := hst.eight
  go_wp2_with (first
    | (go_at_call 10; refine q.mono ?_; rintro e w10 ⟨v10, P10, F10, sb, lb, cb, rfl, hF10, hT10, hA10⟩; obtain ⟨sl10, cl10, rfl⟩ := hT10.row.form; have hst10 := hst.call_b hA10 hmyT)
    | (refine wpList_store_blk rfl 41 _ _ rfl w10.heap.size 41 _ [.bool true, .bool false, .slice sb lb cb] rfl rfl (blk_new w10 41 #[.bool false, .bool false, .slice none 0 0]) rfl Try.sizeGot (by simp [Value.oneCell']) ?_; intro w11 hb11 hk11 hz11; have kG : Kept [] w10 w11 := (kept_alloc [] w10 (.cells #[.bool false, .bool false, .slice none 0 0] 41)).young hk11 (Nat.le_refl _); have hst11 := hst10.kept0 kG; have g0 : w11.cell? ⟨w10.heap.size, 0, none⟩ = some (.bool true) := (hb11.cell 0).trans rfl; have g1 : w11.cell? ⟨w10.heap.size, 1, none⟩ = some (.bool false) := (hb11.cell 1).trans rfl)
    | (refine Wire.wpList_store_cell rfl 26 _ _ rfl w.heap.size 6 29 _ (.slice none 0 0) rfl rfl hst11.x (by simp) Outbox.Try.sizeBB rfl ?_; intro w12 hb12 hk12; simp only [List.setIfInBounds_toArray, List.set_cons_zero, List.set_cons_succ] at hb12)
    | (refine Wire.wpList_store_cell rfl 26 _ _ rfl w.heap.size 7 29 _ (.slice none 0 0) rfl rfl hb12 (by simp) Outbox.Try.sizeBB rfl ?_; intro w13 hb13 hk13; simp only [List.setIfInBounds_toArray, List.set_cons_zero, List.set_cons_succ] at hb13; have kX := hk12.trans hk13; have hst13 := hst11.fresh_b hb13 kX; have hb13g := hb11.kept kX (fun e => hst11.alien hb11 notGot 8 (by rw [List.mem_singleton] at e; rw [e]; simp [feet])); have g1' : w13.cell? ⟨w10.heap.size, 1, none⟩ = some (.bool false) := (hb13g.cell 1).trans rfl; have hTX := ((hT10.kept0 kG).keptT kX (hst11.noByt 8) (NoRow.cons (noRow_nil _) hst11.x (by decide))); obtain ⟨y0, y1⟩ := hst13.two)
    | (at_builtin; refine wpList_append_any rfl _ _ rfl w.heap.size (.slice b.w1 b.Y.length b.w3) (.slice sl10 P10.length cl10) b.Y P10 rfl rfl hst13.hb.way hTX.row.lies (by have := hTX.len; omega) hst13.bw ?_; intro u1 un u3 w17 hr17 hk17 hn17)
    | (refine Wire.wpList_store_cell rfl 26 _ _ rfl yb 1 33 _ (.slice u1 un u3) rfl rfl (hst13.y.kept hk17 (fun e => by have := hst13.pool.one 9 7 yb (by simp [feet]) e; omega)) (by simp) Outbox.Try.sizeBB rfl ?_; intro w18 hb18 hk18; simp only [List.setIfInBounds_toArray, List.set_cons_zero, List.set_cons_succ] at hb18))
  have hst18 := hst13.way_b hr17 hk17 hn17.out (fun y hy => far_byt (hTX.mem y hy) hst13.noFlat) hb18 hk18
  rw [hTX.bs] at hst18
  have hB1 := hB0.fewer (wa' := ((a.Y.take N) ++ (a.Y.drop (N + 1))).map Bv.bs) (sub_rest hst3.ha.wayL N)
  refine ⟨⟨rfl, rfl, by rw [hL1.out]; rfl, by rw [hL2.out]; rfl, by rw [hL3.out]; rfl⟩, _, _, _, _, _, _, hst18, hB1, ?_, ?_, ?_, ?_⟩
  · have := hf.my; exact ⟨Nat.le_succ_of_le this.1, Nat.le_trans (Nat.le_of_eq hmyT) (Nat.le_succ_of_le this.2)⟩
  · have := hf.sent; exact ⟨Nat.le_succ_of_le this.1, Nat.zero_le _⟩
  · exact ⟨hf.win.1, hwnT.trans hf.win.2⟩
  · have := hf.got; exact ⟨Nat.le_succ_of_le this.1, Nat.zero_le _⟩
set_option maxRecDepth 100000 in
set_option maxHeartbeats 8000000 in
/-- A packet comes. -/
theorem sw0_come2_new_has (h1 : 1 ≤ m) (h2 : m ≤ 64) (hl : len ≤ 120) (hjl : j + 1 ≤ len) (hst3 : St w w.heap.size w.heap.size yb a b A B wa wb w3) (hf : Far2 m j A B wa wb) (hwa : wa.length ≤ 400) (hwb : wb.length ≤ 400) (hfx : Far (flat (feet w.heap.size yb a b)) w3 t.x) (hNet : Blk w3 nk 36 #[.int .i64 t.k, .int .i64 t.who, .int .i64 t.at', .slice t.x.sa t.x.len t.x.cap]) (hxx : Hid (t.x.len = t.x.bs.length)) (h300 : ¬ (300 < t.x.len)) {N : Nat} {x : Bv} (hk : t.k = 2) (hat : t.at' = (N : Int)) (hx : a.Y[N]? = some x) (hNw : B.s.isNew x.bs = true) (hHs : B.s.has x.bs = true) {c : Code} (hc : Try.f3.body.bind (findB 4) = some c) (hL1 : Hid (L1 = [.int .i64 (m : Int), sl1, v2, v3, v4, .pointer (some ⟨w.heap.size, 0, none⟩), v6, v7, v8, .pointer (some ⟨yb, 0, none⟩), v10, .pointer (some ⟨nk, 0, none⟩), .int .i64 0, .int .i64 1])) (hL2 : Hid (L2 = [v22, v23, v24, v25, v26, v27, v28, v29, v30, v31, v32, v33, v34, v35, v36, v37, v38, v39, v40, v41, v42, v43, v44, v45, v46, v47, v48, v49, sl50])) (hL3 : Hid (L3 = [v286])) :
    Code.wp Try.prog c (SwPost L1 L2 L3 w m j yb) ⟨#[.int .i64 (m : Int), sl1, v2, v3, v4, .pointer (some ⟨w.heap.size, 0, none⟩), v6, v7, v8, .pointer (some ⟨yb, 0, none⟩), v10, .pointer (some ⟨nk, 0, none⟩), .int .i64 0, .int .i64 1, v14, v15, v16, v17, v18, v19, v20, v21, v22, v23, v24, v25, v26, v27, v28, v29, v30, v31, v32, v33, v34, v35, v36, v37, v38, v39, v40, v41, v42, v43, v44, v45, v46, v47, v48, v49, sl50, v51, v52, v53, v54, v55, v56, v57, v58, v59, v60, v61, v62, v63, v64, v65, .int .i64 2, v67, v68, v69, v70, v71, v72, v73, v74, v75, v76, v77, v78, v79, v80, v81, v82, v83, v84, v85, v86, v87, v88, v89, v90, v91, v92, v93, v94, v95, v96, v97, v98, v99, v100, v101, v102, v103, v104, v105, v106, v107, v108, v109, v110, v111, v112, v113, v114, v115, v116, v117, v118, v119, v120, v121, v122, v123, v124, v125, v126, v127, v128, v129, v130, v131, v132, v133, v134, v135, v136, v137, v138, v139, v140, v141, v142, v143, v144, v145, v146, v147, v148, v149, v150, v151, v152, v153, v154, v155, v156, v157, v158, v159, v160, v161, v162, v163, v164, v165, v166, v167, v168, v169, v170, v171, v172, v173, v174, v175, v176, v177, v178, v179, v180, v181, v182, v183, v184, v185, v186, v187, v188, v189, v190, v191, v192, v193, v194, v195, v196, v197, v198, v199, v200, v201, v202, v203, v204, v205, v206, v207, v208, v209, v210, v211, v212, v213, v214, v215, v216, v217, v218, v219, v220, v221, v222, v223, v224, v225, v226, v227, v228, v229, v230, v231, v232, v233, v234, v235, v236, v237, v238, v239, v240, v241, v242, v243, v244, v245, v246, v247, v248, v249, v250, v251, v252, v253, v254, v255, v256, v257, v258, v259, v260, v261, v262, v263, v264, v265, v266, v267, v268, v269, v270, v271, v272, v273, v274, v275, v276, v277, v278, v279, v280, v281, v282, v283, v284, v285, v286], []⟩ w3 := by
  have d0 : w3.cell? ⟨nk, 0, none⟩ = some (.int .i64 t.k) := (hNet.cell 0).trans rfl
  have d1 : w3.cell? ⟨nk, 1, none⟩ = some (.int .i64 t.who) := (hNet.cell 1).trans rfl
  have d2 : w3.cell? ⟨nk, 2, none⟩ = some (.int .i64 t.at') := (hNet.cell 2).trans rfl
  have d3 : w3.cell? ⟨nk, 3, none⟩ = some (.slice t.x.sa t.x.len t.x.cap) := (hNet.cell 3).trans rfl
  obtain ⟨⟨oa1, oa2⟩, ob1, ob2⟩ := hf.ob (by omega)
  conv at hc => lhs; whnf
  injection hc with hc
  subst hc
  rw [hk] at d0
  clear hk
  rw [hat] at d2
  have hNl : N < a.Y.length := (List.getElem?_eq_some_iff.1 hx).1
  have i1 : ¬ ((N : Int) < 0) := by omega
  have i2 : ¬ ((a.Y.length : Int) ≤ (N : Int)) := by omega
  have i3 : (N : Int) < (a.Y.length : Int) := by omega
  have hyl : a.Y.length ≤ 400 := by
    have := congrArg List.length hst3.ha.wayL
    rw [List.length_map] at this
    omega
  have hyI : (a.Y.length : Int) ≤ 400 := by omega
  obtain ⟨g, off, ew, ce⟩ := hst3.ha.way.lies.at N x hx
  have cy : w3.cell? ⟨yb, 0, none⟩ = some (.slice (some ⟨g, off, none⟩) a.Y.length a.w3) := by rw [← ew]; exact hst3.two.1
  have hrow0 : Lies w3 (.slice (some ⟨g, off, none⟩) a.Y.length a.w3) a.Y := by rw [← ew]; exact hst3.ha.way.lies
  have c : ∀ n, (w3.drewN n).cell? ⟨yb, 0, none⟩ = some (.slice (some ⟨g, off, none⟩) a.Y.length a.w3) := fun n => cy
  have u : ∀ n, (w3.drewN n).cell? ⟨nk, 2, none⟩ = some (.int .i64 (N : Int)) := fun n => d2
  go_wp2_with fail
  go_quiet (fail)
  have kq_w4 := kept_drewN [] w3 nq
  obtain ⟨w4, hq_w4⟩ : ∃ w4, w3.drewN nq = w4 := ⟨_, rfl⟩
  rw [hq_w4] at kq_w4 ⊢
  clear hq_w4 nq
  clear c u
  have c : ∀ n, (w4.drewN n).cell? ⟨yb, 0, none⟩ = some (.slice (some ⟨g, off, none⟩) a.Y.length a.w3) := fun n => (World.cell?_of_block (kq_w4.block yb hst3.y.lt (by simp))).trans cy
  have u : ∀ n, (w4.drewN n).cell? ⟨nk, 2, none⟩ = some (.int .i64 (N : Int)) := fun n => (World.cell?_of_block (kq_w4.block nk hNet.lt (by simp))).trans d2
  have ce4 : ∀ n, (w4.drewN n).cell? ⟨g, off + N, none⟩ = some (.slice x.sa x.len x.cap) := fun n => (World.cell?_of_block (kq_w4.block g (hst3.ha.way.lt g (by simp [Sv.way, ew, Value.ownBlock])).2 (by simp))).trans ce
  go_wp2_with fail
  go_quiet (fail)
  have kq_w5 := kept_drewN [] w4 nq
  obtain ⟨w5, hq_w5⟩ : ∃ w5, w4.drewN nq = w5 := ⟨_, rfl⟩
  rw [hq_w5] at kq_w5 ⊢
  clear hq_w5 nq
  clear c u ce4 ce cy
  have kq := kq_w4.trans kq_w5
  have hst5 := hst3.kept0 kq
  have hNet5 := hNet.kept kq (by simp)
  have hfx5 := (hst5.ha.wayF x (List.mem_of_getElem? hx))
  have hrow5 := hrow0.kept kq (by simp)
  have cy5 : w5.cell? ⟨yb, 0, none⟩ = some (.slice (some ⟨g, off, none⟩) a.Y.length a.w3) := by rw [← ew]; exact hst5.two.1
  have cn0 : w5.cell? ⟨nk, 0, none⟩ = some (.int .i64 2) := (World.cell?_of_block (kq.block nk hNet.lt (by simp))).trans d0
  have cn2 : w5.cell? ⟨nk, 2, none⟩ = some (.int .i64 (N : Int)) := (World.cell?_of_block (kq.block nk hNet.lt (by simp))).trans d2
  have hmem : x.bs ∈ wa := by rw [← hst3.ha.wayL]; exact List.mem_map_of_mem (List.mem_of_getElem? hx)
  clear d0 d1 d2 d3 kq_w4 kq_w5 hrow0
  have hnyb : nk ∉ [yb] := fun e => hst5.alien hNet5 notNet 9 (by rw [List.mem_singleton] at e; rw [e]; simp [feet])
  have hxl : x.bs.length ≤ 1000 := by
    obtain ⟨p, _, e, _⟩ := hf.both.ab.ok x.bs hmem
    rw [e]
    have := Wire.bytesL_len p
    omega
  go_wp2_with fail
  obtain ⟨sa1, cp1, hrun1, hl1, ho1⟩ := hrow5.take N (Nat.le_of_lt hNl)
  obtain ⟨sa2, cp2, hrun2, hl2, ho2⟩ := hrow5.drop (N + 1) hNl
  have hrun2' : ∀ w, (Instr.sliceAt 26 (.slice (some ⟨g, off, none⟩) a.Y.length a.w3) (some (.int .i64 ((N : Int) + 1))) none none).run Try.prog w = .ok (.slice sa2 (a.Y.length - (N + 1)) cp2) w := hrun2
  clear hrun2
  have kd := kept_drew [] w5
  have kE := kept_alloc [] w5.drew (.cells #[] 34)
  have kDE := kd.trans kE
  have hE : BRow w.heap.size (w5.drew.alloc (.cells #[] 34)) (.slice (some ⟨w5.drew.heap.size, 0, none⟩) 0 0) [] := World.ownsRow_made w5.drew #[] 0 (Nat.le_trans hst5.bw kd.size) (by unfold maxLen; omega) rfl
  have c1 : w5.drew.cell? ⟨yb, 0, none⟩ = some (.slice (some ⟨g, off, none⟩) a.Y.length a.w3) := cy5
  have c2 : w5.drew.cell? ⟨nk, 2, none⟩ = some (.int .i64 (N : Int)) := cn2
  refine wp_region_held_drew (S := fun W => W.cell? ⟨yb, 0, none⟩ = some (.slice (some ⟨g, off, none⟩) a.Y.length a.w3) ∧ W.cell? ⟨nk, 2, none⟩ = some (.int .i64 (N : Int))) (by kernel_rfl) ⟨c1, c2⟩ (fun hP => ?_)
  have hH := hP
  clear hP
  refine wpAnyH_take (i := 1) (oi := ⟨some 153, _, _, _, _, _⟩) (v := (.int .i64 0)) rfl (by kernel_rfl) (by kernel_rfl) (by kernel_rfl) (fun _ _ _ h => h) (Or.inl ⟨by rfl, fun W hSw => by go_simp⟩) hH ?_
  try simp only [Act.put, List.setIfInBounds_toArray, List.set_cons_zero, List.set_cons_succ]
  refine wpAnyH_take (i := 2) (oi := ⟨some 154, _, _, _, _, _⟩) (v := (.pointer (some ⟨yb, 0, none⟩))) rfl (by kernel_rfl) (by kernel_rfl) (by kernel_rfl) (fun _ _ _ h => h) (Or.inl ⟨by rfl, fun W hSw => by go_simp⟩) hH ?_
  try simp only [Act.put, List.setIfInBounds_toArray, List.set_cons_zero, List.set_cons_succ]
  refine wpAnyH_take (i := 3) (oi := ⟨some 155, _, _, _, _, _⟩) (v := (.slice (some ⟨g, off, none⟩) a.Y.length a.w3)) rfl (by kernel_rfl) (by kernel_rfl) (by kernel_rfl) (fun _ _ _ h => h) (Or.inl ⟨by rfl, fun W hSw => by obtain ⟨f1, f2⟩ := hSw; go_simp⟩) hH ?_
  try simp only [Act.put, List.setIfInBounds_toArray, List.set_cons_zero, List.set_cons_succ]
  refine wpAnyH_take (i := 4) (oi := ⟨some 156, _, _, _, _, _⟩) (v := (.pointer (some ⟨nk, 2, none⟩))) rfl (by kernel_rfl) (by kernel_rfl) (by kernel_rfl) (fun _ _ _ h => h) (Or.inl ⟨by rfl, fun W hSw => by go_simp⟩) hH ?_
  try simp only [Act.put, List.setIfInBounds_toArray, List.set_cons_zero, List.set_cons_succ]
  refine wpAnyH_take (i := 5) (oi := ⟨some 157, _, _, _, _, _⟩) (v := (.int .i64 (N : Int))) rfl (by kernel_rfl) (by kernel_rfl) (by kernel_rfl) (fun _ _ _ h => h) (Or.inl ⟨by rfl, fun W hSw => by obtain ⟨f1, f2⟩ := hSw; go_simp⟩) hH ?_
  try simp only [Act.put, List.setIfInBounds_toArray, List.set_cons_zero, List.set_cons_succ]
  refine wpAnyH_take (i := 6) (oi := ⟨some 158, _, _, _, _, _⟩) (v := (.slice sa1 N cp1)) rfl (by kernel_rfl) (by kernel_rfl) (by kernel_rfl) (fun _ _ _ h => h) (Or.inl ⟨by rfl, fun W hSw => by go_simp⟩) hH ?_
  try simp only [Act.put, List.setIfInBounds_toArray, List.set_cons_zero, List.set_cons_succ]
  refine wpAnyH_ready (rs := [0]) (by kernel_rfl) (by simp) ?_
  refine AllReadyH.cons (o := ⟨some 152, _, _, _, _, _⟩) rfl (fun KK hKK => ?_) AllReadyH.nil
  go_simp
  have hH1 := (⟨(World.cell?_of_block (kDE.block yb hst5.y.lt (by simp))).trans cy5, (World.cell?_of_block (kDE.block nk hNet5.lt (by simp))).trans cn2⟩ : ((w5.drew.alloc (.cells #[] 34)).cell? ⟨yb, 0, none⟩ = some (.slice (some ⟨g, off, none⟩) a.Y.length a.w3) ∧ (w5.drew.alloc (.cells #[] 34)).cell? ⟨nk, 2, none⟩ = some (.int .i64 (N : Int))))
  refine hKK.out _ _ hH1 (fun _ => ?_)
  replace hH := hH1
  clear hKK KK hH1
  try simp only [Act.put, List.setIfInBounds_toArray, List.set_cons_zero, List.set_cons_succ]
  refine wpAnyH_ready (rs := [7]) (by kernel_rfl) (by simp) ?_
  refine AllReadyH.cons (o := ⟨some 159, _, _, _, _, _⟩) rfl (fun KK hKK => ?_) AllReadyH.nil
  refine step_append_any rfl (.tmp 152) (.tmp 158) rfl w.heap.size (.slice (some ⟨w5.drew.heap.size, 0, none⟩) 0 0) (.slice sa1 N cp1) [] (a.Y.take N) (by simp [Act.eval]) (by simp [Act.eval]) hE (hl1.kept kDE (by simp)) (by simp; omega) (Nat.le_trans hst5.bw kDE.size) ?_
  intro r1 rn r3 w6 hr6 hk6 hn6
  have hk56 : Kept [] w5 w6 := Kept.more kDE hk6 (fun k hm => .inr (by simp [Value.ownBlock] at hm; omega))
  have hn6' : ∀ k, (Value.slice r1 rn r3).ownBlock = some k → w5.heap.size ≤ k := fun k e => (hn6.out k e).elim (fun h => by simp [Value.ownBlock] at h; omega) (fun h => Nat.le_trans kDE.size h)
  have hH1 := (⟨(World.cell?_of_block (hk56.block yb hst5.y.lt (by simp))).trans cy5, (World.cell?_of_block (hk56.block nk hNet5.lt (by simp))).trans cn2⟩ : (w6.cell? ⟨yb, 0, none⟩ = some (.slice (some ⟨g, off, none⟩) a.Y.length a.w3) ∧ w6.cell? ⟨nk, 2, none⟩ = some (.int .i64 (N : Int))))
  refine hKK.out _ _ hH1 (fun _ => ?_)
  replace hH := hH1
  clear hKK KK hH1
  try simp only [Act.put, List.setIfInBounds_toArray, List.set_cons_zero, List.set_cons_succ]
  refine wpAnyH_take (i := 8) (oi := ⟨some 17, _, _, _, _, _⟩) (v := (.slice r1 rn r3)) rfl (by kernel_rfl) (by kernel_rfl) (by kernel_rfl) (fun _ _ _ h => h) (Or.inl ⟨by rfl, fun W hSw => by go_simp⟩) hH ?_
  try simp only [Act.put, List.setIfInBounds_toArray, List.set_cons_zero, List.set_cons_succ]
  refine wpAnyH_done (by kernel_rfl) ?_ _
  go_wp2_with fail
  rw [List.nil_append] at hr6
  have kd6 := kept_drew [] w6
  have k56 := hk56.trans kd6
  have c1 : w6.drew.cell? ⟨yb, 0, none⟩ = some (.slice (some ⟨g, off, none⟩) a.Y.length a.w3) := (World.cell?_of_block (k56.block yb hst5.y.lt (by simp))).trans cy5
  have c2 : w6.drew.cell? ⟨nk, 2, none⟩ = some (.int .i64 (N : Int)) := (World.cell?_of_block (k56.block nk hNet5.lt (by simp))).trans cn2
  refine wp_region_held_drew (S := fun W => W.cell? ⟨yb, 0, none⟩ = some (.slice (some ⟨g, off, none⟩) a.Y.length a.w3) ∧ W.cell? ⟨nk, 2, none⟩ = some (.int .i64 (N : Int))) (by kernel_rfl) ⟨c1, c2⟩ (fun hP => ?_)
  have hH := hP
  clear hP
  refine wpAnyH_take (i := 0) (oi := ⟨some 160, _, _, _, _, _⟩) (v := (.slice r1 rn r3)) rfl (by kernel_rfl) (by kernel_rfl) (by kernel_rfl) (fun _ _ _ h => h) (Or.inl ⟨by rfl, fun W hSw => by go_simp⟩) hH ?_
  try simp only [Act.put, List.setIfInBounds_toArray, List.set_cons_zero, List.set_cons_succ]
  refine wpAnyH_take (i := 1) (oi := ⟨some 161, _, _, _, _, _⟩) (v := (.int .i64 0)) rfl (by kernel_rfl) (by kernel_rfl) (by kernel_rfl) (fun _ _ _ h => h) (Or.inl ⟨by rfl, fun W hSw => by go_simp⟩) hH ?_
  try simp only [Act.put, List.setIfInBounds_toArray, List.set_cons_zero, List.set_cons_succ]
  refine wpAnyH_take (i := 2) (oi := ⟨some 162, _, _, _, _, _⟩) (v := (.pointer (some ⟨yb, 0, none⟩))) rfl (by kernel_rfl) (by kernel_rfl) (by kernel_rfl) (fun _ _ _ h => h) (Or.inl ⟨by rfl, fun W hSw => by go_simp⟩) hH ?_
  try simp only [Act.put, List.setIfInBounds_toArray, List.set_cons_zero, List.set_cons_succ]
  refine wpAnyH_take (i := 3) (oi := ⟨some 163, _, _, _, _, _⟩) (v := (.slice (some ⟨g, off, none⟩) a.Y.length a.w3)) rfl (by kernel_rfl) (by kernel_rfl) (by kernel_rfl) (fun _ _ _ h => h) (Or.inl ⟨by rfl, fun W hSw => by obtain ⟨f1, f2⟩ := hSw; go_simp⟩) hH ?_
  try simp only [Act.put, List.setIfInBounds_toArray, List.set_cons_zero, List.set_cons_succ]
  refine wpAnyH_take (i := 4) (oi := ⟨some 164, _, _, _, _, _⟩) (v := (.pointer (some ⟨nk, 2, none⟩))) rfl (by kernel_rfl) (by kernel_rfl) (by kernel_rfl) (fun _ _ _ h => h) (Or.inl ⟨by rfl, fun W hSw => by go_simp⟩) hH ?_
  try simp only [Act.put, List.setIfInBounds_toArray, List.set_cons_zero, List.set_cons_succ]
  refine wpAnyH_take (i := 5) (oi := ⟨some 165, _, _, _, _, _⟩) (v := (.int .i64 (N : Int))) rfl (by kernel_rfl) (by kernel_rfl) (by kernel_rfl) (fun _ _ _ h => h) (Or.inl ⟨by rfl, fun W hSw => by obtain ⟨f1, f2⟩ := hSw; go_simp⟩) hH ?_
  try simp only [Act.put, List.setIfInBounds_toArray, List.set_cons_zero, List.set_cons_succ]
  refine wpAnyH_take (i := 6) (oi := ⟨some 166, _, _, _, _, _⟩) (v := (.int .i64 ((N : Int) + 1))) rfl (by kernel_rfl) (by kernel_rfl) (by kernel_rfl) (fun _ _ _ h => h) (Or.inl ⟨by rfl, fun W hSw => by have hwr : IntKind.i64.wrap ((N : Int) + 1) = (N : Int) + 1 := (by rw [IntKind.wrap_i64]; omega); go_simp⟩) hH ?_
  try simp only [Act.put, List.setIfInBounds_toArray, List.set_cons_zero, List.set_cons_succ]
  refine wpAnyH_take (i := 7) (oi := ⟨some 167, _, _, _, _, _⟩) (v := (.slice sa2 (a.Y.length - (N + 1)) cp2)) rfl (by kernel_rfl) (by kernel_rfl) (by kernel_rfl) (fun _ _ _ h => h) (Or.inl ⟨by rfl, fun W hSw => by go_simp⟩) hH ?_
  try simp only [Act.put, List.setIfInBounds_toArray, List.set_cons_zero, List.set_cons_succ]
  refine wpAnyH_ready (rs := [8]) (by kernel_rfl) (by simp) ?_
  refine AllReadyH.cons (o := ⟨some 168, _, _, _, _, _⟩) rfl (fun KK hKK => ?_) AllReadyH.nil
  refine step_append_any rfl (.tmp 160) (.tmp 167) rfl w.heap.size (.slice r1 rn r3) (.slice sa2 (a.Y.length - (N + 1)) cp2) (a.Y.take N) (a.Y.drop (N + 1)) (by simp [Act.eval]) (by simp [Act.eval]) (hr6.kept0 kd6) (hl2.kept k56 (by simp)) (by simp; omega) (Nat.le_trans hst5.bw k56.size) ?_
  intro q1 qn q3 w7 hr7 hk7 hn7
  have hk57 : Kept [] w5 w7 := Kept.more k56 hk7 (fun k hm => .inr (hn6' k (by simpa using hm)))
  have hn7' : ∀ k, (Value.slice q1 qn q3).ownBlock = some k → w5.heap.size ≤ k := fun k e => (hn7.out k e).elim (hn6' k) (fun h => Nat.le_trans k56.size h)
  have hH1 := (⟨(World.cell?_of_block (hk57.block yb hst5.y.lt (by simp))).trans cy5, (World.cell?_of_block (hk57.block nk hNet5.lt (by simp))).trans cn2⟩ : (w7.cell? ⟨yb, 0, none⟩ = some (.slice (some ⟨g, off, none⟩) a.Y.length a.w3) ∧ w7.cell? ⟨nk, 2, none⟩ = some (.int .i64 (N : Int))))
  refine hKK.out _ _ hH1 (fun _ => ?_)
  replace hH := hH1
  clear hKK KK hH1
  try simp only [Act.put, List.setIfInBounds_toArray, List.set_cons_zero, List.set_cons_succ]
  refine wpAnyH_take (i := 9) (oi := ⟨some 17, _, _, _, _, _⟩) (v := (.slice q1 qn q3)) rfl (by kernel_rfl) (by kernel_rfl) (by kernel_rfl) (fun _ _ _ h => h) (Or.inl ⟨by rfl, fun W hSw => by go_simp⟩) hH ?_
  try simp only [Act.put, List.setIfInBounds_toArray, List.set_cons_zero, List.set_cons_succ]
  refine wpAnyH_done (by kernel_rfl) ?_ _
  go_upto_region 38 with (refine Wire.wpList_store_cell rfl 26 _ _ rfl yb 0 33 _ (.slice q1 qn q3) rfl rfl (hst5.y.kept hk57 (by simp)) (by simp) Outbox.Try.sizeBB rfl ?_; intro w8 hb8 hk8; simp only [List.setIfInBounds_toArray, List.set_cons_zero] at hb8; have cn08 : w8.cell? ⟨nk, 0, none⟩ = some (.int .i64 2) := (World.cell?_of_block (hk8.block nk (Nat.lt_of_lt_of_le hNet5.lt hk57.size) hnyb)).trans ((World.cell?_of_block (hk57.block nk hNet5.lt (by simp))).trans cn0))
  have hst8 := hst5.less_a hr7 hk57 hn7' (fun y hy => (List.mem_append.1 hy).elim List.mem_of_mem_take List.mem_of_mem_drop) hb8 hk8
  have hwire : Wire.ByteRow 0 w8.heap.size w8 (.slice x.sa x.len x.cap) x.bs := ((hfx5.step hk57 (K' := flat (feet w.heap.size yb a b)) (by simp) (fun k hm => .inl hm)).step hk8 (K' := []) (fun k hm => by rw [List.mem_singleton] at hm; rw [hm]; exact mem_flat (i := 9) (by decide) (by simp [feet])) (by simp)).wire
  obtain ⟨z, hst⟩ : ∃ z : Sv, St w w.heap.size w.heap.size yb z b A B (((a.Y.take N) ++ (a.Y.drop (N + 1))).map Bv.bs) wb w8 := ⟨_, hst8⟩
  clear hst8 hr7 hr6 hk57 hk56 hk7 hk6 hn7' hn6' hn7 hn6 hb8 hk8 hl1 hl2 hrun1 hrun2' hE kDE kd kE kd6 k56 ho1 ho2 c1 c2 hst5 cy5 cn0 cn2 hrow5 hH
  have hmyT : (B.s.taken x.bs).my = B.s.my := (taken_is B.s x.bs).1
  have hwnT : (B.s.taken x.bs).ob.w = B.s.ob.w := taken_w B.s x.bs
  have q := take_any w8 hst.hb.ss (.slice x.sa x.len x.cap) x.bs 0 _ hwire (Nat.le_refl _) hxl (by omega) ob2 hst.bw
  rw [hNw, hHs] at q
  have hSD : Hid (B.take x.bs = Sd.mk (B.s.taken x.bs) [] ([] ++ [B.s.gotB x.bs])) := by
    show _ = _
    unfold Sd.take Sd.turn Ss.gotB
    rw [hHs, hNw]
    rfl
  have hB0 := hf.both.take hmem
  rw [hSD.out] at hB0
  have hTll : (B.s.takeL x.bs).length ≤ 1001 := takeL_len _ (by have := hf.win; omega)
  generalize B.s.takeL x.bs = TL at *
  generalize B.s.gotB x.bs = GB at *
  have hT' : ∃ TK, B.s.taken x.bs = TK := ⟨_, rfl⟩
  obtain ⟨TK, hTK⟩ := hT'
  rw [hTK] at q hmyT hwnT hB0
  clear hTK hSD hNw hHs
  have hyo : b.Y.length ≤ 400 := by
    have := congrArg List.length hst.hb.wayL
    rw [List.length_map] at this
    omega
  obtain ⟨c0, c1, c2, c3, c4, c5, c6, c7⟩ := hst.eight
  go_wp2_with (first
    | (go_at_call 10; refine q.mono ?_; rintro e w10 ⟨v10, P10, F10, sb, lb, cb, rfl, hF10, hT10, hA10⟩; obtain ⟨sl10, cl10, rfl⟩ := hT10.row.form; have hst10 := hst.call_b hA10 hmyT)
    | (refine wpList_store_blk rfl 41 _ _ rfl w10.heap.size 41 _ [.bool true, .bool true, .slice sb lb cb] rfl rfl (blk_new w10 41 #[.bool false, .bool false, .slice none 0 0]) rfl Try.sizeGot (by simp [Value.oneCell']) ?_; intro w11 hb11 hk11 hz11; have kG : Kept [] w10 w11 := (kept_alloc [] w10 (.cells #[.bool false, .bool false, .slice none 0 0] 41)).young hk11 (Nat.le_refl _); have hst11 := hst10.kept0 kG; have g0 : w11.cell? ⟨w10.heap.size, 0, none⟩ = some (.bool true) := (hb11.cell 0).trans rfl; have g1 : w11.cell? ⟨w10.heap.size, 1, none⟩ = some (.bool true) := (hb11.cell 1).trans rfl)
    | (refine Wire.wpList_store_cell rfl 26 _ _ rfl w.heap.size 6 29 _ (.slice none 0 0) rfl rfl hst11.x (by simp) Outbox.Try.sizeBB rfl ?_; intro w12 hb12 hk12; simp only [List.setIfInBounds_toArray, List.set_cons_zero, List.set_cons_succ] at hb12)
    | (refine Wire.wpList_store_cell rfl 26 _ _ rfl w.heap.size 7 29 _ (.slice none 0 0) rfl rfl hb12 (by simp) Outbox.Try.sizeBB rfl ?_; intro w13 hb13 hk13; simp only [List.setIfInBounds_toArray, List.set_cons_zero, List.set_cons_succ] at hb13; have kX := hk12.trans hk13; have hst13 := hst11.fresh_b hb13 kX; have hb13g := hb11.kept kX (fun e => hst11.alien hb11 notGot 8 (by rw [List.mem_singleton] at e; rw [e]; simp [feet])); have g1' : w13.cell? ⟨w10.heap.size, 1, none⟩ = some (.bool true) := (hb13g.cell 1).trans rfl; obtain ⟨y0, y1⟩ := hst13.two))
  have hTX := ((hT10.kept0 kG).keptT kX (hst11.noByt 8) (NoRow.cons (noRow_nil _) hst11.x (by decide)))
  have hFb0 := hF10 (flat (feet w.heap.size yb z { b with F := F10, s1 := none, s3 := 0, S := [], g1 := none, g3 := 0, G := [] })) (fun k hm => by
    obtain ⟨i, h10, hmi⟩ := flat_mem hm
    by_cases e : i = 4
    · subst e
      exact .inl hmi
    · right
      have hmi2 : k ∈ feet w.heap.size yb z b i := by
        unfold feet at hmi ⊢
        split at hmi <;> first | exact hmi | exact absurd rfl e | exact absurd hmi (by simp [Sv.foot, Sv.sent, Sv.got, Value.ownBlock])
      exact (hst.pool.lt i k hmi2).2)
  have hFb := ((hFb0.step kG (K' := (flat (feet w.heap.size yb z { b with F := F10, s1 := none, s3 := 0, S := [], g1 := none, g3 := 0, G := [] }))) (by simp) (fun k hm => .inl hm)).step kX (K' := (flat (feet w.heap.size yb z { b with F := F10, s1 := none, s3 := 0, S := [], g1 := none, g3 := 0, G := [] }))) (fun k hm => by rw [List.mem_singleton] at hm; rw [hm]; exact mem_flat (i := 8) (by decide) (by simp [feet])) (fun k hm => .inl hm))
  have kdX := kept_drew [] w13
  have hstd := hst13.kept0 kdX
  have hGd := hb13g.kept kdX (by simp)
  have hFbd := hFb.step kdX (K' := (flat (feet w.heap.size yb z { b with F := F10, s1 := none, s3 := 0, S := [], g1 := none, g3 := 0, G := [] }))) (by simp) (fun k hm => .inl hm)
  have hTXd := hTX.kept0 kdX
  clear hFb hFb0
  have hgl : ([] : List Bv).length ≤ 1000 := by simp
  have hnx : w10.heap.size ∉ [w.heap.size] := fun e => by
    rw [List.mem_singleton] at e
    exact hstd.alien hGd notGot 8 (by rw [e]; simp [feet])
  have d3d : w13.drew.cell? ⟨w10.heap.size, 2, none⟩ = some (.slice sb lb cb) := (hGd.cell 2).trans rfl
  have csent : w13.drew.cell? ⟨w.heap.size, 7, none⟩ = some (.slice none 0 0) := (hstd.x.cell 7).trans rfl
  refine wp_region_held_drew (S := fun W => W.cell? ⟨w10.heap.size, 2, none⟩ = some (.slice sb lb cb)) (by kernel_rfl) d3d (fun hP => ?_)
  have hH := hP
  clear hP
  refine wpAnyH_take (i := 0) (oi := ⟨some 194, _, _, _, _, _⟩) (v := (.int .i64 1)) rfl (by kernel_rfl) (by kernel_rfl) (by kernel_rfl) (fun _ _ _ h => h) (Or.inl ⟨by rfl, fun W hSw => by go_simp⟩) hH ?_
  try simp only [Act.put, List.setIfInBounds_toArray, List.set_cons_zero, List.set_cons_succ]
  refine wpAnyH_take (i := 1) (oi := ⟨some 195, _, _, _, _, _⟩) (v := (.int .i64 1)) rfl (by kernel_rfl) (by kernel_rfl) (by kernel_rfl) (fun _ _ _ h => h) (Or.inl ⟨by rfl, fun W hSw => by go_simp⟩) hH ?_
  try simp only [Act.put, List.setIfInBounds_toArray, List.set_cons_zero, List.set_cons_succ]
  refine wpAnyH_take (i := 2) (oi := ⟨some 196, _, _, _, _, _⟩) (v := (.pointer (some ⟨w.heap.size, 4, none⟩))) rfl (by kernel_rfl) (by kernel_rfl) (by kernel_rfl) (fun _ _ _ h => h) (Or.inl ⟨by rfl, fun W hSw => by go_simp⟩) hH ?_
  try simp only [Act.put, List.setIfInBounds_toArray, List.set_cons_zero, List.set_cons_succ]
  refine wpAnyH_take (i := 3) (oi := ⟨some 197, _, _, _, _, _⟩) (v := (.pointer (some ⟨w.heap.size, 7, none⟩))) rfl (by kernel_rfl) (by kernel_rfl) (by kernel_rfl) (fun _ _ _ h => h) (Or.inl ⟨by rfl, fun W hSw => by go_simp⟩) hH ?_
  try simp only [Act.put, List.setIfInBounds_toArray, List.set_cons_zero, List.set_cons_succ]
  refine wpAnyH_take (i := 5) (oi := ⟨some 199, _, _, _, _, _⟩) (v := (.pointer (some ⟨w10.heap.size, 2, none⟩))) rfl (by kernel_rfl) (by kernel_rfl) (by kernel_rfl) (fun _ _ _ h => h) (Or.inl ⟨by rfl, fun W hSw => by go_simp⟩) hH ?_
  try simp only [Act.put, List.setIfInBounds_toArray, List.set_cons_zero, List.set_cons_succ]
  refine wpAnyH_take (i := 6) (oi := ⟨some 200, _, _, _, _, _⟩) (v := (.slice sb lb cb)) rfl (by kernel_rfl) (by kernel_rfl) (by kernel_rfl) (fun _ _ _ h => h) (Or.inl ⟨by rfl, fun W hSw => by go_simp⟩) hH ?_
  try simp only [Act.put, List.setIfInBounds_toArray, List.set_cons_zero, List.set_cons_succ]
  refine wpAnyH_ready (rs := [4, 7]) (by kernel_rfl) (by simp) ?_
  refine AllReadyH.cons (o := ⟨some 198, _, _, _, _, _⟩) rfl (fun KK hKK => ?_) (AllReadyH.cons (o := ⟨some 201, _, _, _, _, _⟩) rfl (fun KK hKK => ?_) AllReadyH.nil)
  · go_simp
    refine hKK.out _ _ d3d (fun _ => ?_)
    clear hKK KK
    try simp only [Act.put, List.setIfInBounds_toArray, List.set_cons_zero, List.set_cons_succ]
    refine wpAnyH_ready (rs := [7]) (by kernel_rfl) (by simp) ?_
    refine AllReadyH.cons (o := ⟨some 201, _, _, _, _, _⟩) rfl (fun KK hKK => ?_) AllReadyH.nil
    go_simp
    have hH1 := ((hGd.kept (kept_alloc [] w13.drew (.cells #[.slice sb lb cb] 34)) (by simp)).cell 2).trans rfl
    refine hKK.out _ _ hH1 (fun _ => ?_)
    replace hH := hH1
    clear hKK KK hH1
    try simp only [Act.put, List.setIfInBounds_toArray, List.set_cons_zero, List.set_cons_succ]
    refine wpAnyH_ready (rs := [8]) (by kernel_rfl) (by simp) ?_
    refine AllReadyH.cons (o := ⟨some 202, _, _, _, _, _⟩) rfl (fun KK hKK => ?_) AllReadyH.nil
    refine step_append_any rfl (.tmp 198) (.tmp 201) rfl w.heap.size (.slice none 0 0) (.slice (some ⟨w13.drew.heap.size, 0, none⟩) 1 1) [] [⟨sb, lb, cb, GB⟩] (by simp [Act.eval]) (by simp [Act.eval]) (hstd.hb.got.kept0 (kept_alloc [] w13.drew (.cells #[.slice sb lb cb] 34))) (lies_one _ _ (by simp) (cell_one_new _ _ _ 0 _ rfl)) (Nat.le_trans (Nat.add_le_add_right hgl 1) (by decide)) (Nat.le_trans hstd.bw (kept_alloc [] w13.drew (.cells #[.slice sb lb cb] 34)).size) ?_
    intro p1 pn p3 w14 hr14 hk14 hn14
    have hnr : w10.heap.size ∉ (Value.slice none 0 0).ownBlock.toList := fun e => hstd.alien hGd notGot 6 e
    have hG14 := (hGd.kept (kept_alloc [] w13.drew (.cells #[.slice sb lb cb] 34)) (by simp)).kept hk14 hnr
    have hH1 := (hG14.cell 2).trans rfl
    refine hKK.out _ _ hH1 (fun _ => ?_)
    replace hH := hH1
    clear hKK KK hH1
    try simp only [Act.put, List.setIfInBounds_toArray, List.set_cons_zero, List.set_cons_succ]
    refine wpAnyH_take (i := 9) (oi := ⟨some 203, _, _, _, _, _⟩) (v := (.pointer (some ⟨w.heap.size, 4, none⟩))) rfl (by kernel_rfl) (by kernel_rfl) (by kernel_rfl) (fun _ _ _ h => h) (Or.inl ⟨by rfl, fun W hSw => by go_simp⟩) hH ?_
    try simp only [Act.put, List.setIfInBounds_toArray, List.set_cons_zero, List.set_cons_succ]
    refine wpAnyH_take (i := 10) (oi := ⟨some 204, _, _, _, _, _⟩) (v := (.pointer (some ⟨w.heap.size, 7, none⟩))) rfl (by kernel_rfl) (by kernel_rfl) (by kernel_rfl) (fun _ _ _ h => h) (Or.inl ⟨by rfl, fun W hSw => by go_simp⟩) hH ?_
    try simp only [Act.put, List.setIfInBounds_toArray, List.set_cons_zero, List.set_cons_succ]
    refine wpAnyH_ready (rs := [11]) (by kernel_rfl) (by simp) ?_
    refine AllReadyH.cons (o := ⟨none, _, _, _, _, _⟩) rfl (fun KK hKK => ?_) AllReadyH.nil
    have hxo : w.heap.size ∉ (Value.slice none 0 0).ownBlock.toList := fun e => by have := hstd.pool.one 8 6 w.heap.size (by simp [feet]) e; omega
    have hx14 := ((hstd.x.kept (kept_alloc [] w13.drew (.cells #[.slice sb lb cb] 34)) (by simp)).kept hk14 hxo)
    refine step_store_cell rfl 26 (.tmp 204) (.tmp 202) rfl w.heap.size 7 29 _ (.slice p1 pn p3) (by simp [Act.eval]) (by simp [Act.eval]) hx14 (by simp) Outbox.Try.sizeBB rfl ?_
    intro w15 hb15 hk15
    simp only [List.setIfInBounds_toArray, List.set_cons_zero, List.set_cons_succ] at hb15
    have hH1 := ((hG14.kept hk15 hnx).cell 2).trans rfl
    refine hKK.out _ _ hH1 (fun _ => ?_)
    replace hH := hH1
    clear hKK KK hH1
    try simp only [Act.put]
    refine wpAnyH_done (by kernel_rfl) ?_ _
    have kAL := kept_alloc [] w13.drew (.cells #[.slice sb lb cb] 34)
    have hst15 := hstd.got_b (M := [⟨sb, lb, cb, GB⟩]) hr14 ((kAL.mono (by simp)).trans hk14) (fun k e => (hn14.out k e).imp id (fun h => Nat.le_trans kAL.size h)) (fun y hy => by rw [List.mem_singleton] at hy; rw [hy]; exact hFbd) hb15 hk15
    have hoB := hstd.hb.got.noByt
    replace hTX : Told w8.heap.size w15 (.slice sl10 P10.length cl10) P10 TL := by
      have t1 := hTXd.kept0 kAL
      have t2 : Told w8.heap.size w14 (.slice sl10 P10.length cl10) P10 TL := t1.kept hk14 (fun k hm => by
        have := (hst.pool.lt 6 k (by simp [Value.ownBlock] at hm)).2
        omega) (fun k hm c hc => by
        obtain ⟨cur, hcur⟩ := (hstd.hb.got.kept0 kAL).blk k (Option.mem_toList.1 hm)
        exact blk_ne hc hcur (by decide) rfl)
      exact t2.keptT hk15 (NoByt.cons (Outbox.noByt_nil _) hx14 (by decide)) (NoRow.cons (noRow_nil _) hx14 (by decide))
    obtain ⟨y0, y1⟩ := hst15.two
    go_wp2_with (first
      | (at_builtin; refine wpList_append_any rfl _ _ rfl w.heap.size (.slice b.w1 b.Y.length b.w3) (.slice sl10 P10.length cl10) b.Y P10 rfl rfl hst15.hb.way hTX.row.lies (by have := hTX.len; omega) hst15.bw ?_; intro u1 un u3 w17 hr17 hk17 hn17)
      | (refine Wire.wpList_store_cell rfl 26 _ _ rfl yb 1 33 _ (.slice u1 un u3) rfl rfl (hst15.y.kept hk17 (fun e => by have := hst15.pool.one 9 7 yb (by simp [feet]) e; omega)) (by simp) Outbox.Try.sizeBB rfl ?_; intro w18 hb18 hk18; simp only [List.setIfInBounds_toArray, List.set_cons_zero, List.set_cons_succ] at hb18))
    have hst18 := hst15.way_b hr17 hk17 hn17.out (fun y hy => far_byt (hTX.mem y hy) hst15.noFlat) hb18 hk18
    rw [hTX.bs] at hst18
    have hB1 := hB0.fewer (wa' := ((a.Y.take N) ++ (a.Y.drop (N + 1))).map Bv.bs) (sub_rest hst3.ha.wayL N)
    refine ⟨⟨rfl, rfl, by rw [hL1.out]; rfl, by rw [hL2.out]; rfl, by rw [hL3.out]; rfl⟩, _, _, _, _, _, _, hst18, hB1, ?_, ?_, ?_, ?_⟩
    · have := hf.my; exact ⟨Nat.le_succ_of_le this.1, Nat.le_trans (Nat.le_of_eq hmyT) (Nat.le_succ_of_le this.2)⟩
    · have := hf.sent; exact ⟨Nat.le_succ_of_le this.1, Nat.zero_le _⟩
    · exact ⟨hf.win.1, hwnT.trans hf.win.2⟩
    · have := hf.got; exact ⟨Nat.le_succ_of_le this.1, by simp⟩
  · go_simp
    refine hKK.out _ _ (((hGd.kept (kept_alloc [] w13.drew (.cells #[.slice sb lb cb] 34)) (by simp)).cell 2).trans rfl) (fun _ => ?_)
    clear hKK KK
    try simp only [Act.put, List.setIfInBounds_toArray, List.set_cons_zero, List.set_cons_succ]
    refine wpAnyH_ready (rs := [4]) (by kernel_rfl) (by simp) ?_
    refine AllReadyH.cons (o := ⟨some 198, _, _, _, _, _⟩) rfl (fun KK hKK => ?_) AllReadyH.nil
    have csent3 : w13.cell? ⟨w.heap.size, 7, none⟩ = some (.slice none 0 0) := csent
    have hxlt : w.heap.size < w13.heap.size := hstd.x.lt
    have hxlt' : w.heap.size < w13.drew.heap.size := hstd.x.lt
    have hxne : ¬ (w.heap.size = w13.heap.size) := by omega
    go_simp
    refine hKK.out _ _ (((hGd.kept (kept_alloc [] w13.drew (.cells #[.slice sb lb cb] 34)) (by simp)).cell 2).trans rfl) (fun _ => ?_)
    clear hKK KK csent3 hxlt hxlt' hxne
    try simp only [Act.put, List.setIfInBounds_toArray, List.set_cons_zero, List.set_cons_succ]
    refine wpAnyH_ready (rs := [8]) (by kernel_rfl) (by simp) ?_
    refine AllReadyH.cons (o := ⟨some 202, _, _, _, _, _⟩) rfl (fun KK hKK => ?_) AllReadyH.nil
    refine step_append_any rfl (.tmp 198) (.tmp 201) rfl w.heap.size (.slice none 0 0) (.slice (some ⟨w13.drew.heap.size, 0, none⟩) 1 1) [] [⟨sb, lb, cb, GB⟩] (by simp [Act.eval]) (by simp [Act.eval]) (hstd.hb.got.kept0 (kept_alloc [] w13.drew (.cells #[.slice sb lb cb] 34))) (lies_one _ _ (by simp) (cell_one_new _ _ _ 0 _ rfl)) (Nat.le_trans (Nat.add_le_add_right hgl 1) (by decide)) (Nat.le_trans hstd.bw (kept_alloc [] w13.drew (.cells #[.slice sb lb cb] 34)).size) ?_
    intro p1 pn p3 w14 hr14 hk14 hn14
    have hnr : w10.heap.size ∉ (Value.slice none 0 0).ownBlock.toList := fun e => hstd.alien hGd notGot 6 e
    have hG14 := (hGd.kept (kept_alloc [] w13.drew (.cells #[.slice sb lb cb] 34)) (by simp)).kept hk14 hnr
    have hH1 := (hG14.cell 2).trans rfl
    refine hKK.out _ _ hH1 (fun _ => ?_)
    replace hH := hH1
    clear hKK KK hH1
    try simp only [Act.put, List.setIfInBounds_toArray, List.set_cons_zero, List.set_cons_succ]
    refine wpAnyH_take (i := 9) (oi := ⟨some 203, _, _, _, _, _⟩) (v := (.pointer (some ⟨w.heap.size, 4, none⟩))) rfl (by kernel_rfl) (by kernel_rfl) (by kernel_rfl) (fun _ _ _ h => h) (Or.inl ⟨by rfl, fun W hSw => by go_simp⟩) hH ?_
    try simp only [Act.put, List.setIfInBounds_toArray, List.set_cons_zero, List.set_cons_succ]
    refine wpAnyH_take (i := 10) (oi := ⟨some 204, _, _, _, _, _⟩) (v := (.pointer (some ⟨w.heap.size, 7, none⟩))) rfl (by kernel_rfl) (by kernel_rfl) (by kernel_rfl) (fun _ _ _ h => h) (Or.inl ⟨by rfl, fun W hSw => by go_simp⟩) hH ?_
    try simp only [Act.put, List.setIfInBounds_toArray, List.set_cons_zero, List.set_cons_succ]
    refine wpAnyH_ready (rs := [11]) (by kernel_rfl) (by simp) ?_
    refine AllReadyH.cons (o := ⟨none, _, _, _, _, _⟩) rfl (fun KK hKK => ?_) AllReadyH.nil
    have hxo : w.heap.size ∉ (Value.slice none 0 0).ownBlock.toList := fun e => by have := hstd.pool.one 8 6 w.heap.size (by simp [feet]) e; omega
    have hx14 := ((hstd.x.kept (kept_alloc [] w13.drew (.cells #[.slice sb lb cb] 34)) (by simp)).kept hk14 hxo)
    refine step_store_cell rfl 26 (.tmp 204) (.tmp 202) rfl w.heap.size 7 29 _ (.slice p1 pn p3) (by simp [Act.eval]) (by simp [Act.eval]) hx14 (by simp) Outbox.Try.sizeBB rfl ?_
    intro w15 hb15 hk15
    simp only [List.setIfInBounds_toArray, List.set_cons_zero, List.set_cons_succ] at hb15
    have hH1 := ((hG14.kept hk15 hnx).cell 2).trans rfl
    refine hKK.out _ _ hH1 (fun _ => ?_)
    replace hH := hH1
    clear hKK KK hH1
    try simp only [Act.put]
    refine wpAnyH_done (by kernel_rfl) ?_ _
    have kAL := kept_alloc [] w13.drew (.cells #[.slice sb lb cb] 34)
    have hst15 := hstd.got_b (M := [⟨sb, lb, cb, GB⟩]) hr14 ((kAL.mono (by simp)).trans hk14) (fun k e => (hn14.out k e).imp id (fun h => Nat.le_trans kAL.size h)) (fun y hy => by rw [List.mem_singleton] at hy; rw [hy]; exact hFbd) hb15 hk15
    have hoB := hstd.hb.got.noByt
    replace hTX : Told w8.heap.size w15 (.slice sl10 P10.length cl10) P10 TL := by
      have t1 := hTXd.kept0 kAL
      have t2 : Told w8.heap.size w14 (.slice sl10 P10.length cl10) P10 TL := t1.kept hk14 (fun k hm => by
        have := (hst.pool.lt 6 k (by simp [Value.ownBlock] at hm)).2
        omega) (fun k hm c hc => by
        obtain ⟨cur, hcur⟩ := (hstd.hb.got.kept0 kAL).blk k (Option.mem_toList.1 hm)
        exact blk_ne hc hcur (by decide) rfl)
      exact t2.keptT hk15 (NoByt.cons (Outbox.noByt_nil _) hx14 (by decide)) (NoRow.cons (noRow_nil _) hx14 (by decide))
    obtain ⟨y0, y1⟩ := hst15.two
    go_wp2_with (first
      | (at_builtin; refine wpList_append_any rfl _ _ rfl w.heap.size (.slice b.w1 b.Y.length b.w3) (.slice sl10 P10.length cl10) b.Y P10 rfl rfl hst15.hb.way hTX.row.lies (by have := hTX.len; omega) hst15.bw ?_; intro u1 un u3 w17 hr17 hk17 hn17)
      | (refine Wire.wpList_store_cell rfl 26 _ _ rfl yb 1 33 _ (.slice u1 un u3) rfl rfl (hst15.y.kept hk17 (fun e => by have := hst15.pool.one 9 7 yb (by simp [feet]) e; omega)) (by simp) Outbox.Try.sizeBB rfl ?_; intro w18 hb18 hk18; simp only [List.setIfInBounds_toArray, List.set_cons_zero, List.set_cons_succ] at hb18))
    have hst18 := hst15.way_b hr17 hk17 hn17.out (fun y hy => far_byt (hTX.mem y hy) hst15.noFlat) hb18 hk18
    rw [hTX.bs] at hst18
    have hB1 := hB0.fewer (wa' := ((a.Y.take N) ++ (a.Y.drop (N + 1))).map Bv.bs) (sub_rest hst3.ha.wayL N)
    refine ⟨⟨rfl, rfl, by rw [hL1.out]; rfl, by rw [hL2.out]; rfl, by rw [hL3.out]; rfl⟩, _, _, _, _, _, _, hst18, hB1, ?_, ?_, ?_, ?_⟩
    · have := hf.my; exact ⟨Nat.le_succ_of_le this.1, Nat.le_trans (Nat.le_of_eq hmyT) (Nat.le_succ_of_le this.2)⟩
    · have := hf.sent; exact ⟨Nat.le_succ_of_le this.1, Nat.zero_le _⟩
    · exact ⟨hf.win.1, hwnT.trans hf.win.2⟩
    · have := hf.got; exact ⟨Nat.le_succ_of_le this.1, by simp⟩
end Go.Proofs.Ytnbkbakbjllmcaa.Session
