/-
  SessionOrder: a packet is lost.
-/
import Derived.Test.YtnbkbakbjllmcaaSsP
import Derived.Deep.CutRange
import Derived.Deep.CutBlock
namespace Go.Proofs.Ytnbkbakbjllmcaa.Session
open Go.RowKit
open Outbox (Ob nums OutAt Bv Byt NoByt RowAt NRow)
open Wire (Ps Pv bytesL parseM parseE)
set_option linter.unusedVariables false

variable {m j len : Nat} {w w3 : World} {yb nk : Nat} {a b : Sv} {A B : Sd} {wa wb : List (List Nat)} {t : Nt} {L1 L2 L3 : List Value} {sl1 sl50 v2 v3 v4 v6 v7 v8 v10 v14 v15 v16 v17 v18 v19 v20 v21 v22 v23 v24 v25 v26 v27 v28 v29 v30 v31 v32 v33 v34 v35 v36 v37 v38 v39 v40 v41 v42 v43 v44 v45 v46 v47 v48 v49 v51 v52 v53 v54 v55 v56 v57 v58 v59 v60 v61 v62 v63 v64 v65 v67 v68 v69 v70 v71 v72 v73 v74 v75 v76 v77 v78 v79 v80 v81 v82 v83 v84 v85 v86 v87 v88 v89 v90 v91 v92 v93 v94 v95 v96 v97 v98 v99 v100 v101 v102 v103 v104 v105 v106 v107 v108 v109 v110 v111 v112 v113 v114 v115 v116 v117 v118 v119 v120 v121 v122 v123 v124 v125 v126 v127 v128 v129 v130 v131 v132 v133 v134 v135 v136 v137 v138 v139 v140 v141 v142 v143 v144 v145 v146 v147 v148 v149 v150 v151 v152 v153 v154 v155 v156 v157 v158 v159 v160 v161 v162 v163 v164 v165 v166 v167 v168 v169 v170 v171 v172 v173 v174 v175 v176 v177 v178 v179 v180 v181 v182 v183 v184 v185 v186 v187 v188 v189 v190 v191 v192 v193 v194 v195 v196 v197 v198 v199 v200 v201 v202 v203 v204 v205 v206 v207 v208 v209 v210 v211 v212 v213 v214 v215 v216 v217 v218 v219 v220 v221 v222 v223 v224 v225 v226 v227 v228 v229 v230 v231 v232 v233 v234 v235 v236 v237 v238 v239 v240 v241 v242 v243 v244 v245 v246 v247 v248 v249 v250 v251 v252 v253 v254 v255 v256 v257 v258 v259 v260 v261 v262 v263 v264 v265 v266 v267 v268 v269 v270 v271 v272 v273 v274 v275 v276 v277 v278 v279 v280 v281 v282 v283 v284 v285 v286 : Value}
set_option maxRecDepth 100000 in
set_option maxHeartbeats 8000000 in
/-- A packet is lost. -/
theorem sw0_lost (h1 : 1 ≤ m) (h2 : m ≤ 64) (hl : len ≤ 120) (hjl : j + 1 ≤ len) (hst3 : St w w.heap.size w.heap.size yb a b A B wa wb w3) (hf : Far2 m j A B wa wb) (hwa : wa.length ≤ 400) (hwb : wb.length ≤ 400) (hfx : Far (flat (feet w.heap.size yb a b)) w3 t.x) (hNet : Blk w3 nk 36 #[.int .i64 t.k, .int .i64 t.who, .int .i64 t.at', .slice t.x.sa t.x.len t.x.cap]) (hxx : Hid (t.x.len = t.x.bs.length)) (h300 : ¬ (300 < t.x.len)) {N : Nat} {x : Bv} (hk : t.k = 4) (hat : t.at' = (N : Int)) (hx : a.Y[N]? = some x) {c : Code} (hc : Try.f3.body.bind (findB 4) = some c) (hL1 : Hid (L1 = [.int .i64 (m : Int), sl1, v2, v3, v4, .pointer (some ⟨w.heap.size, 0, none⟩), v6, v7, v8, .pointer (some ⟨yb, 0, none⟩), v10, .pointer (some ⟨nk, 0, none⟩), .int .i64 0, .int .i64 1])) (hL2 : Hid (L2 = [v22, v23, v24, v25, v26, v27, v28, v29, v30, v31, v32, v33, v34, v35, v36, v37, v38, v39, v40, v41, v42, v43, v44, v45, v46, v47, v48, v49, sl50])) (hL3 : Hid (L3 = [v286])) :
    Code.wp Try.prog c (SwPost L1 L2 L3 w m j yb) ⟨#[.int .i64 (m : Int), sl1, v2, v3, v4, .pointer (some ⟨w.heap.size, 0, none⟩), v6, v7, v8, .pointer (some ⟨yb, 0, none⟩), v10, .pointer (some ⟨nk, 0, none⟩), .int .i64 0, .int .i64 1, v14, v15, v16, v17, v18, v19, v20, v21, v22, v23, v24, v25, v26, v27, v28, v29, v30, v31, v32, v33, v34, v35, v36, v37, v38, v39, v40, v41, v42, v43, v44, v45, v46, v47, v48, v49, sl50, v51, v52, v53, v54, v55, v56, v57, v58, v59, v60, v61, v62, v63, v64, v65, .int .i64 4, v67, v68, v69, v70, v71, v72, v73, v74, v75, v76, v77, v78, v79, v80, v81, v82, v83, v84, v85, v86, v87, v88, v89, v90, v91, v92, v93, v94, v95, v96, v97, v98, v99, v100, v101, v102, v103, v104, v105, v106, v107, v108, v109, v110, v111, v112, v113, v114, v115, v116, v117, v118, v119, v120, v121, v122, v123, v124, v125, v126, v127, v128, v129, v130, v131, v132, v133, v134, v135, v136, v137, v138, v139, v140, v141, v142, v143, v144, v145, v146, v147, v148, v149, v150, v151, v152, v153, v154, v155, v156, v157, v158, v159, v160, v161, v162, v163, v164, v165, v166, v167, v168, v169, v170, v171, v172, v173, v174, v175, v176, v177, v178, v179, v180, v181, v182, v183, v184, v185, v186, v187, v188, v189, v190, v191, v192, v193, v194, v195, v196, v197, v198, v199, v200, v201, v202, v203, v204, v205, v206, v207, v208, v209, v210, v211, v212, v213, v214, v215, v216, v217, v218, v219, v220, v221, v222, v223, v224, v225, v226, v227, v228, v229, v230, v231, v232, v233, v234, v235, v236, v237, v238, v239, v240, v241, v242, v243, v244, v245, v246, v247, v248, v249, v250, v251, v252, v253, v254, v255, v256, v257, v258, v259, v260, v261, v262, v263, v264, v265, v266, v267, v268, v269, v270, v271, v272, v273, v274, v275, v276, v277, v278, v279, v280, v281, v282, v283, v284, v285, v286], []⟩ w3 := by
  have d0 : w3.cell? ⟨nk, 0, none⟩ = some (.int .i64 t.k) := (hNet.cell 0).trans rfl
  have d1 : w3.cell? ⟨nk, 1, none⟩ = some (.int .i64 t.who) := (hNet.cell 1).trans rfl
  have d2 : w3.cell? ⟨nk, 2, none⟩ = some (.int .i64 t.at') := (hNet.cell 2).trans rfl
  have d3 : w3.cell? ⟨nk, 3, none⟩ = some (.slice t.x.sa t.x.len t.x.cap) := (hNet.cell 3).trans rfl
  obtain ⟨⟨oa1, oa2⟩, ob1, ob2⟩ := hf.ob (by omega)
  conv at hc => lhs; whnf
  injection hc with hc
  subst hc
  rw [hk] at d0
  clear hk
  rw [hat] at d2
  have hNl : N < a.Y.length := (List.getElem?_eq_some_iff.1 hx).1
  have i1 : ¬ ((N : Int) < 0) := by omega
  have i2 : ¬ ((a.Y.length : Int) ≤ (N : Int)) := by omega
  have i3 : (N : Int) < (a.Y.length : Int) := by omega
  have hyl : a.Y.length ≤ 400 := by
    have := congrArg List.length hst3.ha.wayL
    rw [List.length_map] at this
    omega
  have hyI : (a.Y.length : Int) ≤ 400 := by omega
  obtain ⟨g, off, ew, ce⟩ := hst3.ha.way.lies.at N x hx
  have cy : w3.cell? ⟨yb, 0, none⟩ = some (.slice (some ⟨g, off, none⟩) a.Y.length a.w3) := by rw [← ew]; exact hst3.two.1
  have hrow0 : Lies w3 (.slice (some ⟨g, off, none⟩) a.Y.length a.w3) a.Y := by rw [← ew]; exact hst3.ha.way.lies
  have c : ∀ n, (w3.drewN n).cell? ⟨yb, 0, none⟩ = some (.slice (some ⟨g, off, none⟩) a.Y.length a.w3) := fun n => cy
  have u : ∀ n, (w3.drewN n).cell? ⟨nk, 2, none⟩ = some (.int .i64 (N : Int)) := fun n => d2
  go_wp2_with fail
  go_quiet (fail)
  have kq_w4 := kept_drewN [] w3 nq
  obtain ⟨w4, hq_w4⟩ : ∃ w4, w3.drewN nq = w4 := ⟨_, rfl⟩
  rw [hq_w4] at kq_w4 ⊢
  clear hq_w4 nq
  clear c u
  have c : ∀ n, (w4.drewN n).cell? ⟨yb, 0, none⟩ = some (.slice (some ⟨g, off, none⟩) a.Y.length a.w3) := fun n => (World.cell?_of_block (kq_w4.block yb hst3.y.lt (by simp))).trans cy
  have u : ∀ n, (w4.drewN n).cell? ⟨nk, 2, none⟩ = some (.int .i64 (N : Int)) := fun n => (World.cell?_of_block (kq_w4.block nk hNet.lt (by simp))).trans d2
  have ce4 : ∀ n, (w4.drewN n).cell? ⟨g, off + N, none⟩ = some (.slice x.sa x.len x.cap) := fun n => (World.cell?_of_block (kq_w4.block g (hst3.ha.way.lt g (by simp [Sv.way, ew, Value.ownBlock])).2 (by simp))).trans ce
  go_wp2_with fail
  go_quiet (fail)
  have kq_w5 := kept_drewN [] w4 nq
  obtain ⟨w5, hq_w5⟩ : ∃ w5, w4.drewN nq = w5 := ⟨_, rfl⟩
  rw [hq_w5] at kq_w5 ⊢
  clear hq_w5 nq
  clear c u ce4 ce cy
  have kq := kq_w4.trans kq_w5
  have hst5 := hst3.kept0 kq
  have hNet5 := hNet.kept kq (by simp)
  have hfx5 := (hst5.ha.wayF x (List.mem_of_getElem? hx))
  have hrow5 := hrow0.kept kq (by simp)
  have cy5 : w5.cell? ⟨yb, 0, none⟩ = some (.slice (some ⟨g, off, none⟩) a.Y.length a.w3) := by rw [← ew]; exact hst5.two.1
  have cn0 : w5.cell? ⟨nk, 0, none⟩ = some (.int .i64 4) := (World.cell?_of_block (kq.block nk hNet.lt (by simp))).trans d0
  have cn2 : w5.cell? ⟨nk, 2, none⟩ = some (.int .i64 (N : Int)) := (World.cell?_of_block (kq.block nk hNet.lt (by simp))).trans d2
  have hmem : x.bs ∈ wa := by rw [← hst3.ha.wayL]; exact List.mem_map_of_mem (List.mem_of_getElem? hx)
  clear d0 d1 d2 d3 kq_w4 kq_w5 hrow0
  have hnyb : nk ∉ [yb] := fun e => hst5.alien hNet5 notNet 9 (by rw [List.mem_singleton] at e; rw [e]; simp [feet])
  go_wp2_with fail
  obtain ⟨sa1, cp1, hrun1, hl1, ho1⟩ := hrow5.take N (Nat.le_of_lt hNl)
  obtain ⟨sa2, cp2, hrun2, hl2, ho2⟩ := hrow5.drop (N + 1) hNl
  have hrun2' : ∀ w, (Instr.sliceAt 26 (.slice (some ⟨g, off, none⟩) a.Y.length a.w3) (some (.int .i64 ((N : Int) + 1))) none none).run Try.prog w = .ok (.slice sa2 (a.Y.length - (N + 1)) cp2) w := hrun2
  clear hrun2
  have kd := kept_drew [] w5
  have kE := kept_alloc [] w5.drew (.cells #[] 34)
  have kDE := kd.trans kE
  have hE : BRow w.heap.size (w5.drew.alloc (.cells #[] 34)) (.slice (some ⟨w5.drew.heap.size, 0, none⟩) 0 0) [] := World.ownsRow_made w5.drew #[] 0 (Nat.le_trans hst5.bw kd.size) (by unfold maxLen; omega) rfl
  have c1 : w5.drew.cell? ⟨yb, 0, none⟩ = some (.slice (some ⟨g, off, none⟩) a.Y.length a.w3) := cy5
  have c2 : w5.drew.cell? ⟨nk, 2, none⟩ = some (.int .i64 (N : Int)) := cn2
  refine wp_region_held_drew (S := fun W => W.cell? ⟨yb, 0, none⟩ = some (.slice (some ⟨g, off, none⟩) a.Y.length a.w3) ∧ W.cell? ⟨nk, 2, none⟩ = some (.int .i64 (N : Int))) (by kernel_rfl) ⟨c1, c2⟩ (fun hP => ?_)
  have hH := hP
  clear hP
  refine wpAnyH_take (i := 1) (oi := ⟨some 153, _, _, _, _, _⟩) (v := (.int .i64 0)) rfl (by kernel_rfl) (by kernel_rfl) (by kernel_rfl) (fun _ _ _ h => h) (Or.inl ⟨by rfl, fun W hSw => by go_simp⟩) hH ?_
  try simp only [Act.put, List.setIfInBounds_toArray, List.set_cons_zero, List.set_cons_succ]
  refine wpAnyH_take (i := 2) (oi := ⟨some 154, _, _, _, _, _⟩) (v := (.pointer (some ⟨yb, 0, none⟩))) rfl (by kernel_rfl) (by kernel_rfl) (by kernel_rfl) (fun _ _ _ h => h) (Or.inl ⟨by rfl, fun W hSw => by go_simp⟩) hH ?_
  try simp only [Act.put, List.setIfInBounds_toArray, List.set_cons_zero, List.set_cons_succ]
  refine wpAnyH_take (i := 3) (oi := ⟨some 155, _, _, _, _, _⟩) (v := (.slice (some ⟨g, off, none⟩) a.Y.length a.w3)) rfl (by kernel_rfl) (by kernel_rfl) (by kernel_rfl) (fun _ _ _ h => h) (Or.inl ⟨by rfl, fun W hSw => by obtain ⟨f1, f2⟩ := hSw; go_simp⟩) hH ?_
  try simp only [Act.put, List.setIfInBounds_toArray, List.set_cons_zero, List.set_cons_succ]
  refine wpAnyH_take (i := 4) (oi := ⟨some 156, _, _, _, _, _⟩) (v := (.pointer (some ⟨nk, 2, none⟩))) rfl (by kernel_rfl) (by kernel_rfl) (by kernel_rfl) (fun _ _ _ h => h) (Or.inl ⟨by rfl, fun W hSw => by go_simp⟩) hH ?_
  try simp only [Act.put, List.setIfInBounds_toArray, List.set_cons_zero, List.set_cons_succ]
  refine wpAnyH_take (i := 5) (oi := ⟨some 157, _, _, _, _, _⟩) (v := (.int .i64 (N : Int))) rfl (by kernel_rfl) (by kernel_rfl) (by kernel_rfl) (fun _ _ _ h => h) (Or.inl ⟨by rfl, fun W hSw => by obtain ⟨f1, f2⟩ := hSw; go_simp⟩) hH ?_
  try simp only [Act.put, List.setIfInBounds_toArray, List.set_cons_zero, List.set_cons_succ]
  refine wpAnyH_take (i := 6) (oi := ⟨some 158, _, _, _, _, _⟩) (v := (.slice sa1 N cp1)) rfl (by kernel_rfl) (by kernel_rfl) (by kernel_rfl) (fun _ _ _ h => h) (Or.inl ⟨by rfl, fun W hSw => by go_simp⟩) hH ?_
  try simp only [Act.put, List.setIfInBounds_toArray, List.set_cons_zero, List.set_cons_succ]
  refine wpAnyH_ready (rs := [0]) (by kernel_rfl) (by simp) ?_
  refine AllReadyH.cons (o := ⟨some 152, _, _, _, _, _⟩) rfl (fun KK hKK => ?_) AllReadyH.nil
  go_simp
  have hH1 := (⟨(World.cell?_of_block (kDE.block yb hst5.y.lt (by simp))).trans cy5, (World.cell?_of_block (kDE.block nk hNet5.lt (by simp))).trans cn2⟩ : ((w5.drew.alloc (.cells #[] 34)).cell? ⟨yb, 0, none⟩ = some (.slice (some ⟨g, off, none⟩) a.Y.length a.w3) ∧ (w5.drew.alloc (.cells #[] 34)).cell? ⟨nk, 2, none⟩ = some (.int .i64 (N : Int))))
  refine hKK.out _ _ hH1 (fun _ => ?_)
  replace hH := hH1
  clear hKK KK hH1
  try simp only [Act.put, List.setIfInBounds_toArray, List.set_cons_zero, List.set_cons_succ]
  refine wpAnyH_ready (rs := [7]) (by kernel_rfl) (by simp) ?_
  refine AllReadyH.cons (o := ⟨some 159, _, _, _, _, _⟩) rfl (fun KK hKK => ?_) AllReadyH.nil
  refine step_append_any rfl (.tmp 152) (.tmp 158) rfl w.heap.size (.slice (some ⟨w5.drew.heap.size, 0, none⟩) 0 0) (.slice sa1 N cp1) [] (a.Y.take N) (by simp [Act.eval]) (by simp [Act.eval]) hE (hl1.kept kDE (by simp)) (by simp; omega) (Nat.le_trans hst5.bw kDE.size) ?_
  intro r1 rn r3 w6 hr6 hk6 hn6
  have hk56 : Kept [] w5 w6 := Kept.more kDE hk6 (fun k hm => .inr (by simp [Value.ownBlock] at hm; omega))
  have hn6' : ∀ k, (Value.slice r1 rn r3).ownBlock = some k → w5.heap.size ≤ k := fun k e => (hn6.out k e).elim (fun h => by simp [Value.ownBlock] at h; omega) (fun h => Nat.le_trans kDE.size h)
  have hH1 := (⟨(World.cell?_of_block (hk56.block yb hst5.y.lt (by simp))).trans cy5, (World.cell?_of_block (hk56.block nk hNet5.lt (by simp))).trans cn2⟩ : (w6.cell? ⟨yb, 0, none⟩ = some (.slice (some ⟨g, off, none⟩) a.Y.length a.w3) ∧ w6.cell? ⟨nk, 2, none⟩ = some (.int .i64 (N : Int))))
  refine hKK.out _ _ hH1 (fun _ => ?_)
  replace hH := hH1
  clear hKK KK hH1
  try simp only [Act.put, List.setIfInBounds_toArray, List.set_cons_zero, List.set_cons_succ]
  refine wpAnyH_take (i := 8) (oi := ⟨some 17, _, _, _, _, _⟩) (v := (.slice r1 rn r3)) rfl (by kernel_rfl) (by kernel_rfl) (by kernel_rfl) (fun _ _ _ h => h) (Or.inl ⟨by rfl, fun W hSw => by go_simp⟩) hH ?_
  try simp only [Act.put, List.setIfInBounds_toArray, List.set_cons_zero, List.set_cons_succ]
  refine wpAnyH_done (by kernel_rfl) ?_ _
  go_wp2_with fail
  rw [List.nil_append] at hr6
  have kd6 := kept_drew [] w6
  have k56 := hk56.trans kd6
  have c1 : w6.drew.cell? ⟨yb, 0, none⟩ = some (.slice (some ⟨g, off, none⟩) a.Y.length a.w3) := (World.cell?_of_block (k56.block yb hst5.y.lt (by simp))).trans cy5
  have c2 : w6.drew.cell? ⟨nk, 2, none⟩ = some (.int .i64 (N : Int)) := (World.cell?_of_block (k56.block nk hNet5.lt (by simp))).trans cn2
  refine wp_region_held_drew (S := fun W => W.cell? ⟨yb, 0, none⟩ = some (.slice (some ⟨g, off, none⟩) a.Y.length a.w3) ∧ W.cell? ⟨nk, 2, none⟩ = some (.int .i64 (N : Int))) (by kernel_rfl) ⟨c1, c2⟩ (fun hP => ?_)
  have hH := hP
  clear hP
  refine wpAnyH_take (i := 0) (oi := ⟨some 160, _, _, _, _, _⟩) (v := (.slice r1 rn r3)) rfl (by kernel_rfl) (by kernel_rfl) (by kernel_rfl) (fun _ _ _ h => h) (Or.inl ⟨by rfl, fun W hSw => by go_simp⟩) hH ?_
  try simp only [Act.put, List.setIfInBounds_toArray, List.set_cons_zero, List.set_cons_succ]
  refine wpAnyH_take (i := 1) (oi := ⟨some 161, _, _, _, _, _⟩) (v := (.int .i64 0)) rfl (by kernel_rfl) (by kernel_rfl) (by kernel_rfl) (fun _ _ _ h => h) (Or.inl ⟨by rfl, fun W hSw => by go_simp⟩) hH ?_
  try simp only [Act.put, List.setIfInBounds_toArray, List.set_cons_zero, List.set_cons_succ]
  refine wpAnyH_take (i := 2) (oi := ⟨some 162, _, _, _, _, _⟩) (v := (.pointer (some ⟨yb, 0, none⟩))) rfl (by kernel_rfl) (by kernel_rfl) (by kernel_rfl) (fun _ _ _ h => h) (Or.inl ⟨by rfl, fun W hSw => by go_simp⟩) hH ?_
  try simp only [Act.put, List.setIfInBounds_toArray, List.set_cons_zero, List.set_cons_succ]
  refine wpAnyH_take (i := 3) (oi := ⟨some 163, _, _, _, _, _⟩) (v := (.slice (some ⟨g, off, none⟩) a.Y.length a.w3)) rfl (by kernel_rfl) (by kernel_rfl) (by kernel_rfl) (fun _ _ _ h => h) (Or.inl ⟨by rfl, fun W hSw => by obtain ⟨f1, f2⟩ := hSw; go_simp⟩) hH ?_
  try simp only [Act.put, List.setIfInBounds_toArray, List.set_cons_zero, List.set_cons_succ]
  refine wpAnyH_take (i := 4) (oi := ⟨some 164, _, _, _, _, _⟩) (v := (.pointer (some ⟨nk, 2, none⟩))) rfl (by kernel_rfl) (by kernel_rfl) (by kernel_rfl) (fun _ _ _ h => h) (Or.inl ⟨by rfl, fun W hSw => by go_simp⟩) hH ?_
  try simp only [Act.put, List.setIfInBounds_toArray, List.set_cons_zero, List.set_cons_succ]
  refine wpAnyH_take (i := 5) (oi := ⟨some 165, _, _, _, _, _⟩) (v := (.int .i64 (N : Int))) rfl (by kernel_rfl) (by kernel_rfl) (by kernel_rfl) (fun _ _ _ h => h) (Or.inl ⟨by rfl, fun W hSw => by obtain ⟨f1, f2⟩ := hSw; go_simp⟩) hH ?_
  try simp only [Act.put, List.setIfInBounds_toArray, List.set_cons_zero, List.set_cons_succ]
  refine wpAnyH_take (i := 6) (oi := ⟨some 166, _, _, _, _, _⟩) (v := (.int .i64 ((N : Int) + 1))) rfl (by kernel_rfl) (by kernel_rfl) (by kernel_rfl) (fun _ _ _ h => h) (Or.inl ⟨by rfl, fun W hSw => by have hwr : IntKind.i64.wrap ((N : Int) + 1) = (N : Int) + 1 := (by rw [IntKind.wrap_i64]; omega); go_simp⟩) hH ?_
  try simp only [Act.put, List.setIfInBounds_toArray, List.set_cons_zero, List.set_cons_succ]
  refine wpAnyH_take (i := 7) (oi := ⟨some 167, _, _, _, _, _⟩) (v := (.slice sa2 (a.Y.length - (N + 1)) cp2)) rfl (by kernel_rfl) (by kernel_rfl) (by kernel_rfl) (fun _ _ _ h => h) (Or.inl ⟨by rfl, fun W hSw => by go_simp⟩) hH ?_
  try simp only [Act.put, List.setIfInBounds_toArray, List.set_cons_zero, List.set_cons_succ]
  refine wpAnyH_ready (rs := [8]) (by kernel_rfl) (by simp) ?_
  refine AllReadyH.cons (o := ⟨some 168, _, _, _, _, _⟩) rfl (fun KK hKK => ?_) AllReadyH.nil
  refine step_append_any rfl (.tmp 160) (.tmp 167) rfl w.heap.size (.slice r1 rn r3) (.slice sa2 (a.Y.length - (N + 1)) cp2) (a.Y.take N) (a.Y.drop (N + 1)) (by simp [Act.eval]) (by simp [Act.eval]) (hr6.kept0 kd6) (hl2.kept k56 (by simp)) (by simp; omega) (Nat.le_trans hst5.bw k56.size) ?_
  intro q1 qn q3 w7 hr7 hk7 hn7
  have hk57 : Kept [] w5 w7 := Kept.more k56 hk7 (fun k hm => .inr (hn6' k (by simpa using hm)))
  have hn7' : ∀ k, (Value.slice q1 qn q3).ownBlock = some k → w5.heap.size ≤ k := fun k e => (hn7.out k e).elim (hn6' k) (fun h => Nat.le_trans k56.size h)
  have hH1 := (⟨(World.cell?_of_block (hk57.block yb hst5.y.lt (by simp))).trans cy5, (World.cell?_of_block (hk57.block nk hNet5.lt (by simp))).trans cn2⟩ : (w7.cell? ⟨yb, 0, none⟩ = some (.slice (some ⟨g, off, none⟩) a.Y.length a.w3) ∧ w7.cell? ⟨nk, 2, none⟩ = some (.int .i64 (N : Int))))
  refine hKK.out _ _ hH1 (fun _ => ?_)
  replace hH := hH1
  clear hKK KK hH1
  try simp only [Act.put, List.setIfInBounds_toArray, List.set_cons_zero, List.set_cons_succ]
  refine wpAnyH_take (i := 9) (oi := ⟨some 17, _, _, _, _, _⟩) (v := (.slice q1 qn q3)) rfl (by kernel_rfl) (by kernel_rfl) (by kernel_rfl) (fun _ _ _ h => h) (Or.inl ⟨by rfl, fun W hSw => by go_simp⟩) hH ?_
  try simp only [Act.put, List.setIfInBounds_toArray, List.set_cons_zero, List.set_cons_succ]
  refine wpAnyH_done (by kernel_rfl) ?_ _
  go_wp2_with (refine Wire.wpList_store_cell rfl 26 _ _ rfl yb 0 33 _ (.slice q1 qn q3) rfl rfl (hst5.y.kept hk57 (by simp)) (by simp) Outbox.Try.sizeBB rfl ?_; intro w8 hb8 hk8; simp only [List.setIfInBounds_toArray, List.set_cons_zero] at hb8; have cn08 : w8.cell? ⟨nk, 0, none⟩ = some (.int .i64 4) := (World.cell?_of_block (hk8.block nk (Nat.lt_of_lt_of_le hNet5.lt hk57.size) hnyb)).trans ((World.cell?_of_block (hk57.block nk hNet5.lt (by simp))).trans cn0))
  have hst8 := hst5.less_a hr7 hk57 hn7' (fun y hy => (List.mem_append.1 hy).elim List.mem_of_mem_take List.mem_of_mem_drop) hb8 hk8
  have hB := hf.both.fewer (wa' := ((a.Y.take N) ++ (a.Y.drop (N + 1))).map Bv.bs) (fun c hc => by
    rw [List.map_append] at hc
    rw [← hst3.ha.wayL]
    rcases List.mem_append.1 hc with hc | hc
    · rw [List.map_take] at hc
      exact List.mem_of_mem_take hc
    · rw [List.map_drop] at hc
      exact List.mem_of_mem_drop hc)
  refine ⟨rfl, ⟨rfl, rfl, by rw [hL1.out]; rfl, by rw [hL2.out]; rfl, by rw [hL3.out]; rfl⟩, _, _, _, _, _, _, hst8, ⟨hB, hf.next.my, hf.next.sent, hf.win, hf.next.got⟩, ?_, ?_⟩
  · simp; omega
  · exact hwb
set_option maxRecDepth 100000 in
set_option maxHeartbeats 8000000 in
/-- A packet is lost. -/
theorem sw1_lost (h1 : 1 ≤ m) (h2 : m ≤ 64) (hl : len ≤ 120) (hjl : j + 1 ≤ len) (hst3 : St w w.heap.size w.heap.size yb a b A B wa wb w3) (hf : Far2 m j A B wa wb) (hwa : wa.length ≤ 400) (hwb : wb.length ≤ 400) (hfx : Far (flat (feet w.heap.size yb a b)) w3 t.x) (hNet : Blk w3 nk 36 #[.int .i64 t.k, .int .i64 t.who, .int .i64 t.at', .slice t.x.sa t.x.len t.x.cap]) (hxx : Hid (t.x.len = t.x.bs.length)) (h300 : ¬ (300 < t.x.len)) {N : Nat} {x : Bv} (hk : t.k = 4) (hat : t.at' = (N : Int)) (hx : b.Y[N]? = some x) {c : Code} (hc : Try.f3.body.bind (findB 4) = some c) (hL1 : Hid (L1 = [.int .i64 (m : Int), sl1, v2, v3, v4, .pointer (some ⟨w.heap.size, 0, none⟩), v6, v7, v8, .pointer (some ⟨yb, 0, none⟩), v10, .pointer (some ⟨nk, 0, none⟩), .int .i64 1, .int .i64 0])) (hL2 : Hid (L2 = [v22, v23, v24, v25, v26, v27, v28, v29, v30, v31, v32, v33, v34, v35, v36, v37, v38, v39, v40, v41, v42, v43, v44, v45, v46, v47, v48, v49, sl50])) (hL3 : Hid (L3 = [v286])) :
    Code.wp Try.prog c (SwPost L1 L2 L3 w m j yb) ⟨#[.int .i64 (m : Int), sl1, v2, v3, v4, .pointer (some ⟨w.heap.size, 0, none⟩), v6, v7, v8, .pointer (some ⟨yb, 0, none⟩), v10, .pointer (some ⟨nk, 0, none⟩), .int .i64 1, .int .i64 0, v14, v15, v16, v17, v18, v19, v20, v21, v22, v23, v24, v25, v26, v27, v28, v29, v30, v31, v32, v33, v34, v35, v36, v37, v38, v39, v40, v41, v42, v43, v44, v45, v46, v47, v48, v49, sl50, v51, v52, v53, v54, v55, v56, v57, v58, v59, v60, v61, v62, v63, v64, v65, .int .i64 4, v67, v68, v69, v70, v71, v72, v73, v74, v75, v76, v77, v78, v79, v80, v81, v82, v83, v84, v85, v86, v87, v88, v89, v90, v91, v92, v93, v94, v95, v96, v97, v98, v99, v100, v101, v102, v103, v104, v105, v106, v107, v108, v109, v110, v111, v112, v113, v114, v115, v116, v117, v118, v119, v120, v121, v122, v123, v124, v125, v126, v127, v128, v129, v130, v131, v132, v133, v134, v135, v136, v137, v138, v139, v140, v141, v142, v143, v144, v145, v146, v147, v148, v149, v150, v151, v152, v153, v154, v155, v156, v157, v158, v159, v160, v161, v162, v163, v164, v165, v166, v167, v168, v169, v170, v171, v172, v173, v174, v175, v176, v177, v178, v179, v180, v181, v182, v183, v184, v185, v186, v187, v188, v189, v190, v191, v192, v193, v194, v195, v196, v197, v198, v199, v200, v201, v202, v203, v204, v205, v206, v207, v208, v209, v210, v211, v212, v213, v214, v215, v216, v217, v218, v219, v220, v221, v222, v223, v224, v225, v226, v227, v228, v229, v230, v231, v232, v233, v234, v235, v236, v237, v238, v239, v240, v241, v242, v243, v244, v245, v246, v247, v248, v249, v250, v251, v252, v253, v254, v255, v256, v257, v258, v259, v260, v261, v262, v263, v264, v265, v266, v267, v268, v269, v270, v271, v272, v273, v274, v275, v276, v277, v278, v279, v280, v281, v282, v283, v284, v285, v286], []⟩ w3 := by
  have d0 : w3.cell? ⟨nk, 0, none⟩ = some (.int .i64 t.k) := (hNet.cell 0).trans rfl
  have d1 : w3.cell? ⟨nk, 1, none⟩ = some (.int .i64 t.who) := (hNet.cell 1).trans rfl
  have d2 : w3.cell? ⟨nk, 2, none⟩ = some (.int .i64 t.at') := (hNet.cell 2).trans rfl
  have d3 : w3.cell? ⟨nk, 3, none⟩ = some (.slice t.x.sa t.x.len t.x.cap) := (hNet.cell 3).trans rfl
  obtain ⟨⟨oa1, oa2⟩, ob1, ob2⟩ := hf.ob (by omega)
  conv at hc => lhs; whnf
  injection hc with hc
  subst hc
  rw [hk] at d0
  clear hk
  rw [hat] at d2
  have hNl : N < b.Y.length := (List.getElem?_eq_some_iff.1 hx).1
  have i1 : ¬ ((N : Int) < 0) := by omega
  have i2 : ¬ ((b.Y.length : Int) ≤ (N : Int)) := by omega
  have i3 : (N : Int) < (b.Y.length : Int) := by omega
  have hyl : b.Y.length ≤ 400 := by
    have := congrArg List.length hst3.hb.wayL
    rw [List.length_map] at this
    omega
  have hyI : (b.Y.length : Int) ≤ 400 := by omega
  obtain ⟨g, off, ew, ce⟩ := hst3.hb.way.lies.at N x hx
  have cy : w3.cell? ⟨yb, 1, none⟩ = some (.slice (some ⟨g, off, none⟩) b.Y.length b.w3) := by rw [← ew]; exact hst3.two.2
  have hrow0 : Lies w3 (.slice (some ⟨g, off, none⟩) b.Y.length b.w3) b.Y := by rw [← ew]; exact hst3.hb.way.lies
  have c : ∀ n, (w3.drewN n).cell? ⟨yb, 1, none⟩ = some (.slice (some ⟨g, off, none⟩) b.Y.length b.w3) := fun n => cy
  have u : ∀ n, (w3.drewN n).cell? ⟨nk, 2, none⟩ = some (.int .i64 (N : Int)) := fun n => d2
  go_wp2_with fail
  go_quiet (fail)
  have kq_w4 := kept_drewN [] w3 nq
  obtain ⟨w4, hq_w4⟩ : ∃ w4, w3.drewN nq = w4 := ⟨_, rfl⟩
  rw [hq_w4] at kq_w4 ⊢
  clear hq_w4 nq
  clear c u
  have c : ∀ n, (w4.drewN n).cell? ⟨yb, 1, none⟩ = some (.slice (some ⟨g, off, none⟩) b.Y.length b.w3) := fun n => (World.cell?_of_block (kq_w4.block yb hst3.y.lt (by simp))).trans cy
  have u : ∀ n, (w4.drewN n).cell? ⟨nk, 2, none⟩ = some (.int .i64 (N : Int)) := fun n => (World.cell?_of_block (kq_w4.block nk hNet.lt (by simp))).trans d2
  have ce4 : ∀ n, (w4.drewN n).cell? ⟨g, off + N, none⟩ = some (.slice x.sa x.len x.cap) := fun n => (World.cell?_of_block (kq_w4.block g (hst3.hb.way.lt g (by simp [Sv.way, ew, Value.ownBlock])).2 (by simp))).trans ce
  go_wp2_with fail
  go_quiet (fail)
  have kq_w5 := kept_drewN [] w4 nq
  obtain ⟨w5, hq_w5⟩ : ∃ w5, w4.drewN nq = w5 := ⟨_, rfl⟩
  rw [hq_w5] at kq_w5 ⊢
  clear hq_w5 nq
  clear c u ce4 ce cy
  have kq := kq_w4.trans kq_w5
  have hst5 := hst3.kept0 kq
  have hNet5 := hNet.kept kq (by simp)
  have hfx5 := (hst5.hb.wayF x (List.mem_of_getElem? hx))
  have hrow5 := hrow0.kept kq (by simp)
  have cy5 : w5.cell? ⟨yb, 1, none⟩ = some (.slice (some ⟨g, off, none⟩) b.Y.length b.w3) := by rw [← ew]; exact hst5.two.2
  have cn0 : w5.cell? ⟨nk, 0, none⟩ = some (.int .i64 4) := (World.cell?_of_block (kq.block nk hNet.lt (by simp))).trans d0
  have cn2 : w5.cell? ⟨nk, 2, none⟩ = some (.int .i64 (N : Int)) := (World.cell?_of_block (kq.block nk hNet.lt (by simp))).trans d2
  have hmem : x.bs ∈ wb := by rw [← hst3.hb.wayL]; exact List.mem_map_of_mem (List.mem_of_getElem? hx)
  clear d0 d1 d2 d3 kq_w4 kq_w5 hrow0
  have hnyb : nk ∉ [yb] := fun e => hst5.alien hNet5 notNet 9 (by rw [List.mem_singleton] at e; rw [e]; simp [feet])
  go_wp2_with fail
  obtain ⟨sa1, cp1, hrun1, hl1, ho1⟩ := hrow5.take N (Nat.le_of_lt hNl)
  obtain ⟨sa2, cp2, hrun2, hl2, ho2⟩ := hrow5.drop (N + 1) hNl
  have hrun2' : ∀ w, (Instr.sliceAt 26 (.slice (some ⟨g, off, none⟩) b.Y.length b.w3) (some (.int .i64 ((N : Int) + 1))) none none).run Try.prog w = .ok (.slice sa2 (b.Y.length - (N + 1)) cp2) w := hrun2
  clear hrun2
  have kd := kept_drew [] w5
  have kE := kept_alloc [] w5.drew (.cells #[] 34)
  have kDE := kd.trans kE
  have hE : BRow w.heap.size (w5.drew.alloc (.cells #[] 34)) (.slice (some ⟨w5.drew.heap.size, 0, none⟩) 0 0) [] := World.ownsRow_made w5.drew #[] 0 (Nat.le_trans hst5.bw kd.size) (by unfold maxLen; omega) rfl
  have c1 : w5.drew.cell? ⟨yb, 1, none⟩ = some (.slice (some ⟨g, off, none⟩) b.Y.length b.w3) := cy5
  have c2 : w5.drew.cell? ⟨nk, 2, none⟩ = some (.int .i64 (N : Int)) := cn2
  refine wp_region_held_drew (S := fun W => W.cell? ⟨yb, 1, none⟩ = some (.slice (some ⟨g, off, none⟩) b.Y.length b.w3) ∧ W.cell? ⟨nk, 2, none⟩ = some (.int .i64 (N : Int))) (by kernel_rfl) ⟨c1, c2⟩ (fun hP => ?_)
  have hH := hP
  clear hP
  refine wpAnyH_take (i := 1) (oi := ⟨some 153, _, _, _, _, _⟩) (v := (.int .i64 1)) rfl (by kernel_rfl) (by kernel_rfl) (by kernel_rfl) (fun _ _ _ h => h) (Or.inl ⟨by rfl, fun W hSw => by go_simp⟩) hH ?_
  try simp only [Act.put, List.setIfInBounds_toArray, List.set_cons_zero, List.set_cons_succ]
  refine wpAnyH_take (i := 2) (oi := ⟨some 154, _, _, _, _, _⟩) (v := (.pointer (some ⟨yb, 1, none⟩))) rfl (by kernel_rfl) (by kernel_rfl) (by kernel_rfl) (fun _ _ _ h => h) (Or.inl ⟨by rfl, fun W hSw => by go_simp⟩) hH ?_
  try simp only [Act.put, List.setIfInBounds_toArray, List.set_cons_zero, List.set_cons_succ]
  refine wpAnyH_take (i := 3) (oi := ⟨some 155, _, _, _, _, _⟩) (v := (.slice (some ⟨g, off, none⟩) b.Y.length b.w3)) rfl (by kernel_rfl) (by kernel_rfl) (by kernel_rfl) (fun _ _ _ h => h) (Or.inl ⟨by rfl, fun W hSw => by obtain ⟨f1, f2⟩ := hSw; go_simp⟩) hH ?_
  try simp only [Act.put, List.setIfInBounds_toArray, List.set_cons_zero, List.set_cons_succ]
  refine wpAnyH_take (i := 4) (oi := ⟨some 156, _, _, _, _, _⟩) (v := (.pointer (some ⟨nk, 2, none⟩))) rfl (by kernel_rfl) (by kernel_rfl) (by kernel_rfl) (fun _ _ _ h => h) (Or.inl ⟨by rfl, fun W hSw => by go_simp⟩) hH ?_
  try simp only [Act.put, List.setIfInBounds_toArray, List.set_cons_zero, List.set_cons_succ]
  refine wpAnyH_take (i := 5) (oi := ⟨some 157, _, _, _, _, _⟩) (v := (.int .i64 (N : Int))) rfl (by kernel_rfl) (by kernel_rfl) (by kernel_rfl) (fun _ _ _ h => h) (Or.inl ⟨by rfl, fun W hSw => by obtain ⟨f1, f2⟩ := hSw; go_simp⟩) hH ?_
  try simp only [Act.put, List.setIfInBounds_toArray, List.set_cons_zero, List.set_cons_succ]
  refine wpAnyH_take (i := 6) (oi := ⟨some 158, _, _, _, _, _⟩) (v := (.slice sa1 N cp1)) rfl (by kernel_rfl) (by kernel_rfl) (by kernel_rfl) (fun _ _ _ h => h) (Or.inl ⟨by rfl, fun W hSw => by go_simp⟩) hH ?_
  try simp only [Act.put, List.setIfInBounds_toArray, List.set_cons_zero, List.set_cons_succ]
  refine wpAnyH_ready (rs := [0]) (by kernel_rfl) (by simp) ?_
  refine AllReadyH.cons (o := ⟨some 152, _, _, _, _, _⟩) rfl (fun KK hKK => ?_) AllReadyH.nil
  go_simp
  have hH1 := (⟨(World.cell?_of_block (kDE.block yb hst5.y.lt (by simp))).trans cy5, (World.cell?_of_block (kDE.block nk hNet5.lt (by simp))).trans cn2⟩ : ((w5.drew.alloc (.cells #[] 34)).cell? ⟨yb, 1, none⟩ = some (.slice (some ⟨g, off, none⟩) b.Y.length b.w3) ∧ (w5.drew.alloc (.cells #[] 34)).cell? ⟨nk, 2, none⟩ = some (.int .i64 (N : Int))))
  refine hKK.out _ _ hH1 (fun _ => ?_)
  replace hH := hH1
  clear hKK KK hH1
  try simp only [Act.put, List.setIfInBounds_toArray, List.set_cons_zero, List.set_cons_succ]
  refine wpAnyH_ready (rs := [7]) (by kernel_rfl) (by simp) ?_
  refine AllReadyH.cons (o := ⟨some 159, _, _, _, _, _⟩) rfl (fun KK hKK => ?_) AllReadyH.nil
  refine step_append_any rfl (.tmp 152) (.tmp 158) rfl w.heap.size (.slice (some ⟨w5.drew.heap.size, 0, none⟩) 0 0) (.slice sa1 N cp1) [] (b.Y.take N) (by simp [Act.eval]) (by simp [Act.eval]) hE (hl1.kept kDE (by simp)) (by simp; omega) (Nat.le_trans hst5.bw kDE.size) ?_
  intro r1 rn r3 w6 hr6 hk6 hn6
  have hk56 : Kept [] w5 w6 := Kept.more kDE hk6 (fun k hm => .inr (by simp [Value.ownBlock] at hm; omega))
  have hn6' : ∀ k, (Value.slice r1 rn r3).ownBlock = some k → w5.heap.size ≤ k := fun k e => (hn6.out k e).elim (fun h => by simp [Value.ownBlock] at h; omega) (fun h => Nat.le_trans kDE.size h)
  have hH1 := (⟨(World.cell?_of_block (hk56.block yb hst5.y.lt (by simp))).trans cy5, (World.cell?_of_block (hk56.block nk hNet5.lt (by simp))).trans cn2⟩ : (w6.cell? ⟨yb, 1, none⟩ = some (.slice (some ⟨g, off, none⟩) b.Y.length b.w3) ∧ w6.cell? ⟨nk, 2, none⟩ = some (.int .i64 (N : Int))))
  refine hKK.out _ _ hH1 (fun _ => ?_)
  replace hH := hH1
  clear hKK KK hH1
  try simp only [Act.put, List.setIfInBounds_toArray, List.set_cons_zero, List.set_cons_succ]
  refine wpAnyH_take (i := 8) (oi := ⟨some 17, _, _, _, _, _⟩) (v := (.slice r1 rn r3)) rfl (by kernel_rfl) (by kernel_rfl) (by kernel_rfl) (fun _ _ _ h => h) (Or.inl ⟨by rfl, fun W hSw => by go_simp⟩) hH ?_
  try simp only [Act.put, List.setIfInBounds_toArray, List.set_cons_zero, List.set_cons_succ]
  refine wpAnyH_done (by kernel_rfl) ?_ _
  go_wp2_with fail
  rw [List.nil_append] at hr6
  have kd6 := kept_drew [] w6
  have k56 := hk56.trans kd6
  have c1 : w6.drew.cell? ⟨yb, 1, none⟩ = some (.slice (some ⟨g, off, none⟩) b.Y.length b.w3) := (World.cell?_of_block (k56.block yb hst5.y.lt (by simp))).trans cy5
  have c2 : w6.drew.cell? ⟨nk, 2, none⟩ = some (.int .i64 (N : Int)) := (World.cell?_of_block (k56.block nk hNet5.lt (by simp))).trans cn2
  refine wp_region_held_drew (S := fun W => W.cell? ⟨yb, 1, none⟩ = some (.slice (some ⟨g, off, none⟩) b.Y.length b.w3) ∧ W.cell? ⟨nk, 2, none⟩ = some (.int .i64 (N : Int))) (by kernel_rfl) ⟨c1, c2⟩ (fun hP => ?_)
  have hH := hP
  clear hP
  refine wpAnyH_take (i := 0) (oi := ⟨some 160, _, _, _, _, _⟩) (v := (.slice r1 rn r3)) rfl (by kernel_rfl) (by kernel_rfl) (by kernel_rfl) (fun _ _ _ h => h) (Or.inl ⟨by rfl, fun W hSw => by go_simp⟩) hH ?_
  try simp only [Act.put, List.setIfInBounds_toArray, List.set_cons_zero, List.set_cons_succ]
  refine wpAnyH_take (i := 1) (oi := ⟨some 161, _, _, _, _, _⟩) (v := (.int .i64 1)) rfl (by kernel_rfl) (by kernel_rfl) (by kernel_rfl) (fun _ _ _ h => h) (Or.inl ⟨by rfl, fun W hSw => by go_simp⟩) hH ?_
  try simp only [Act.put, List.setIfInBounds_toArray, List.set_cons_zero, List.set_cons_succ]
  refine wpAnyH_take (i := 2) (oi := ⟨some 162, _, _, _, _, _⟩) (v := (.pointer (some ⟨yb, 1, none⟩))) rfl (by kernel_rfl) (by kernel_rfl) (by kernel_rfl) (fun _ _ _ h => h) (Or.inl ⟨by rfl, fun W hSw => by go_simp⟩) hH ?_
  try simp only [Act.put, List.setIfInBounds_toArray, List.set_cons_zero, List.set_cons_succ]
  refine wpAnyH_take (i := 3) (oi := ⟨some 163, _, _, _, _, _⟩) (v := (.slice (some ⟨g, off, none⟩) b.Y.length b.w3)) rfl (by kernel_rfl) (by kernel_rfl) (by kernel_rfl) (fun _ _ _ h => h) (Or.inl ⟨by rfl, fun W hSw => by obtain ⟨f1, f2⟩ := hSw; go_simp⟩) hH ?_
  try simp only [Act.put, List.setIfInBounds_toArray, List.set_cons_zero, List.set_cons_succ]
  refine wpAnyH_take (i := 4) (oi := ⟨some 164, _, _, _, _, _⟩) (v := (.pointer (some ⟨nk, 2, none⟩))) rfl (by kernel_rfl) (by kernel_rfl) (by kernel_rfl) (fun _ _ _ h => h) (Or.inl ⟨by rfl, fun W hSw => by go_simp⟩) hH ?_
  try simp only [Act.put, List.setIfInBounds_toArray, List.set_cons_zero, List.set_cons_succ]
  refine wpAnyH_take (i := 5) (oi := ⟨some 165, _, _, _, _, _⟩) (v := (.int .i64 (N : Int))) rfl (by kernel_rfl) (by kernel_rfl) (by kernel_rfl) (fun _ _ _ h => h) (Or.inl ⟨by rfl, fun W hSw => by obtain ⟨f1, f2⟩ := hSw; go_simp⟩) hH ?_
  try simp only [Act.put, List.setIfInBounds_toArray, List.set_cons_zero, List.set_cons_succ]
  refine wpAnyH_take (i := 6) (oi := ⟨some 166, _, _, _, _, _⟩) (v := (.int .i64 ((N : Int) + 1))) rfl (by kernel_rfl) (by kernel_rfl) (by kernel_rfl) (fun _ _ _ h => h) (Or.inl ⟨by rfl, fun W hSw => by have hwr : IntKind.i64.wrap ((N : Int) + 1) = (N : Int) + 1 := (by rw [IntKind.wrap_i64]; omega); go_simp⟩) hH ?_
  try simp only [Act.put, List.setIfInBounds_toArray, List.set_cons_zero, List.set_cons_succ]
  refine wpAnyH_take (i := 7) (oi := ⟨some 167, _, _, _, _, _⟩) (v := (.slice sa2 (b.Y.length - (N + 1)) cp2)) rfl (by kernel_rfl) (by kernel_rfl) (by kernel_rfl) (fun _ _ _ h => h) (Or.inl ⟨by rfl, fun W hSw => by go_simp⟩) hH ?_
  try simp only [Act.put, List.setIfInBounds_toArray, List.set_cons_zero, List.set_cons_succ]
  refine wpAnyH_ready (rs := [8]) (by kernel_rfl) (by simp) ?_
  refine AllReadyH.cons (o := ⟨some 168, _, _, _, _, _⟩) rfl (fun KK hKK => ?_) AllReadyH.nil
  refine step_append_any rfl (.tmp 160) (.tmp 167) rfl w.heap.size (.slice r1 rn r3) (.slice sa2 (b.Y.length - (N + 1)) cp2) (b.Y.take N) (b.Y.drop (N + 1)) (by simp [Act.eval]) (by simp [Act.eval]) (hr6.kept0 kd6) (hl2.kept k56 (by simp)) (by simp; omega) (Nat.le_trans hst5.bw k56.size) ?_
  intro q1 qn q3 w7 hr7 hk7 hn7
  have hk57 : Kept [] w5 w7 := Kept.more k56 hk7 (fun k hm => .inr (hn6' k (by simpa using hm)))
  have hn7' : ∀ k, (Value.slice q1 qn q3).ownBlock = some k → w5.heap.size ≤ k := fun k e => (hn7.out k e).elim (hn6' k) (fun h => Nat.le_trans k56.size h)
  have hH1 := (⟨(World.cell?_of_block (hk57.block yb hst5.y.lt (by simp))).trans cy5, (World.cell?_of_block (hk57.block nk hNet5.lt (by simp))).trans cn2⟩ : (w7.cell? ⟨yb, 1, none⟩ = some (.slice (some ⟨g, off, none⟩) b.Y.length b.w3) ∧ w7.cell? ⟨nk, 2, none⟩ = some (.int .i64 (N : Int))))
  refine hKK.out _ _ hH1 (fun _ => ?_)
  replace hH := hH1
  clear hKK KK hH1
  try simp only [Act.put, List.setIfInBounds_toArray, List.set_cons_zero, List.set_cons_succ]
  refine wpAnyH_take (i := 9) (oi := ⟨some 17, _, _, _, _, _⟩) (v := (.slice q1 qn q3)) rfl (by kernel_rfl) (by kernel_rfl) (by kernel_rfl) (fun _ _ _ h => h) (Or.inl ⟨by rfl, fun W hSw => by go_simp⟩) hH ?_
  try simp only [Act.put, List.setIfInBounds_toArray, List.set_cons_zero, List.set_cons_succ]
  refine wpAnyH_done (by kernel_rfl) ?_ _
  go_wp2_with (refine Wire.wpList_store_cell rfl 26 _ _ rfl yb 1 33 _ (.slice q1 qn q3) rfl rfl (hst5.y.kept hk57 (by simp)) (by simp) Outbox.Try.sizeBB rfl ?_; intro w8 hb8 hk8; simp only [List.setIfInBounds_toArray, List.set_cons_zero, List.set_cons_succ] at hb8; have cn08 : w8.cell? ⟨nk, 0, none⟩ = some (.int .i64 4) := (World.cell?_of_block (hk8.block nk (Nat.lt_of_lt_of_le hNet5.lt hk57.size) hnyb)).trans ((World.cell?_of_block (hk57.block nk hNet5.lt (by simp))).trans cn0))
  have hst8 := hst5.less_b hr7 hk57 hn7' (fun y hy => (List.mem_append.1 hy).elim List.mem_of_mem_take List.mem_of_mem_drop) hb8 hk8
  have hB := hf.both.swap.fewer (wa' := ((b.Y.take N) ++ (b.Y.drop (N + 1))).map Bv.bs) (fun c hc => by
    rw [List.map_append] at hc
    rw [← hst3.hb.wayL]
    rcases List.mem_append.1 hc with hc | hc
    · rw [List.map_take] at hc
      exact List.mem_of_mem_take hc
    · rw [List.map_drop] at hc
      exact List.mem_of_mem_drop hc)
  refine ⟨rfl, ⟨rfl, rfl, by rw [hL1.out]; rfl, by rw [hL2.out]; rfl, by rw [hL3.out]; rfl⟩, _, _, _, _, _, _, hst8, ⟨hB.swap, hf.next.my, hf.next.sent, hf.win, hf.next.got⟩, ?_, ?_⟩
  · exact hwa
  · simp; omega
end Go.Proofs.Ytnbkbakbjllmcaa.Session
