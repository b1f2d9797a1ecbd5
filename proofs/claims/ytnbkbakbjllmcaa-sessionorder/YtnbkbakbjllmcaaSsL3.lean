/-
  SessionOrder: one round of the play.
-/
import Derived.Test.YtnbkbakbjllmcaaSsQ9
import Derived.Test.YtnbkbakbjllmcaaSsL2
namespace Go.Proofs.Ytnbkbakbjllmcaa.Session
open Go.RowKit
open Outbox (Ob nums OutAt Bv Byt NoByt RowAt NRow)
open Wire (Ps Pv bytesL parseM parseE)
set_option linter.unusedVariables false

theorem seg_of (l : List Value) (n k : Nat) (h : n + k ≤ l.length) : (l.drop n).take k = (List.range k).map (fun i => (l.drop (n + i)).headD undef) := by
  apply List.ext_getElem
  · simp
    omega
  · intro i h1 h2
    have h1' : i < k := by simp at h2; exact h2
    simp
    rw [List.getElem?_eq_getElem (by omega)]
    rfl
set_option maxRecDepth 100000 in
/-- A frame that fits, written out. -/
theorem Fits.open {L1 L2 L3 : List Value} {a : Act} (h : Fits L1 L2 L3 a) : ∃ g : Nat → Value, a = ⟨(L1 ++ ([g 14, g 15, g 16, g 17, g 18, g 19, g 20, g 21] ++ (L2 ++ ([g 51, g 52, g 53, g 54, g 55, g 56, g 57, g 58, g 59, g 60, g 61, g 62, g 63, g 64, g 65, g 66, g 67, g 68, g 69, g 70, g 71, g 72, g 73, g 74, g 75, g 76, g 77, g 78, g 79, g 80, g 81, g 82, g 83, g 84, g 85, g 86, g 87, g 88, g 89, g 90, g 91, g 92, g 93, g 94, g 95, g 96, g 97, g 98, g 99, g 100, g 101, g 102, g 103, g 104, g 105, g 106, g 107, g 108, g 109, g 110, g 111, g 112, g 113, g 114, g 115, g 116, g 117, g 118, g 119, g 120, g 121, g 122, g 123, g 124, g 125, g 126, g 127, g 128, g 129, g 130, g 131, g 132, g 133, g 134, g 135, g 136, g 137, g 138, g 139, g 140, g 141, g 142, g 143, g 144, g 145, g 146, g 147, g 148, g 149, g 150, g 151, g 152, g 153, g 154, g 155, g 156, g 157, g 158, g 159, g 160, g 161, g 162, g 163, g 164, g 165, g 166, g 167, g 168, g 169, g 170, g 171, g 172, g 173, g 174, g 175, g 176, g 177, g 178, g 179, g 180, g 181, g 182, g 183, g 184, g 185, g 186, g 187, g 188, g 189, g 190, g 191, g 192, g 193, g 194, g 195, g 196, g 197, g 198, g 199, g 200, g 201, g 202, g 203, g 204, g 205, g 206, g 207, g 208, g 209, g 210, g 211, g 212, g 213, g 214, g 215, g 216, g 217, g 218, g 219, g 220, g 221, g 222, g 223, g 224, g 225, g 226, g 227, g 228, g 229, g 230, g 231, g 232, g 233, g 234, g 235, g 236, g 237, g 238, g 239, g 240, g 241, g 242, g 243, g 244, g 245, g 246, g 247, g 248, g 249, g 250, g 251, g 252, g 253, g 254, g 255, g 256, g 257, g 258, g 259, g 260, g 261, g 262, g 263, g 264, g 265, g 266, g 267, g 268, g 269, g 270, g 271, g 272, g 273, g 274, g 275, g 276, g 277, g 278, g 279, g 280, g 281, g 282, g 283, g 284, g 285] ++ L3)))).toArray, []⟩ := by
  obtain ⟨hd, hs, h1, h2, h3⟩ := h
  obtain ⟨tm, df⟩ := a
  simp only at hd hs h1 h2 h3
  subst hd
  refine ⟨fun n => (tm.toList.drop n).headD undef, ?_⟩
  congr 1
  rw [← Array.toArray_toList (xs := tm)]
  congr 1
  have hl : tm.toList.length = 287 := by rw [Array.length_toList]; exact hs
  generalize tm.toList = l at *
  have e1 : (l.drop 14).take 8 = _ := seg_of l 14 8 (by omega)
  have e2 : (l.drop 51).take 235 = _ := seg_of l 51 235 (by omega)
  have k1 : l = l.take 14 ++ l.drop 14 := (List.take_append_drop 14 l).symm
  have k2 : l.drop 14 = (l.drop 14).take 8 ++ l.drop 22 := by rw [← List.drop_drop (i := 8) (j := 14)]; exact (List.take_append_drop 8 _).symm
  have k3 : l.drop 22 = (l.drop 22).take 29 ++ l.drop 51 := by rw [← List.drop_drop (i := 29) (j := 22)]; exact (List.take_append_drop 29 _).symm
  have k4 : l.drop 51 = (l.drop 51).take 235 ++ l.drop 286 := by rw [← List.drop_drop (i := 235) (j := 51)]; exact (List.take_append_drop 235 _).symm
  rw [h1] at k1
  rw [h2] at k3
  rw [e1] at k2
  rw [e2, h3] at k4
  rw [k4] at k3
  rw [k3] at k2
  rw [k2] at k1
  exact k1
/-- A frame that is left with true. -/
def retFr (g : Nat → Value) : Act := ⟨#[g 0, g 1, g 2, g 3, .bool true, g 5, g 6, g 7, g 8, g 9, g 10, g 11, g 12, g 13, g 14, g 15, g 16, g 17, g 18, g 19, g 20, g 21, g 22, g 23, g 24, g 25, g 26, g 27, g 28, g 29, g 30, g 31, g 32, g 33, g 34, g 35, g 36, g 37, g 38, g 39, g 40, g 41, g 42, g 43, g 44, g 45, g 46, g 47, g 48, g 49, g 50, g 51, g 52, g 53, g 54, g 55, g 56, g 57, g 58, g 59, g 60, g 61, g 62, g 63, g 64, g 65, g 66, g 67, g 68, g 69, g 70, g 71, g 72, g 73, g 74, g 75, g 76, g 77, g 78, g 79, g 80, g 81, g 82, g 83, g 84, g 85, g 86, g 87, g 88, g 89, g 90, g 91, g 92, g 93, g 94, g 95, g 96, g 97, g 98, g 99, g 100, g 101, g 102, g 103, g 104, g 105, g 106, g 107, g 108, g 109, g 110, g 111, g 112, g 113, g 114, g 115, g 116, g 117, g 118, g 119, g 120, g 121, g 122, g 123, g 124, g 125, g 126, g 127, g 128, g 129, g 130, g 131, g 132, g 133, g 134, g 135, g 136, g 137, g 138, g 139, g 140, g 141, g 142, g 143, g 144, g 145, g 146, g 147, g 148, g 149, g 150, g 151, g 152, g 153, g 154, g 155, g 156, g 157, g 158, g 159, g 160, g 161, g 162, g 163, g 164, g 165, g 166, g 167, g 168, g 169, g 170, g 171, g 172, g 173, g 174, g 175, g 176, g 177, g 178, g 179, g 180, g 181, g 182, g 183, g 184, g 185, g 186, g 187, g 188, g 189, g 190, g 191, g 192, g 193, g 194, g 195, g 196, g 197, g 198, g 199, g 200, g 201, g 202, g 203, g 204, g 205, g 206, g 207, g 208, g 209, g 210, g 211, g 212, g 213, g 214, g 215, g 216, g 217, g 218, g 219, g 220, g 221, g 222, g 223, g 224, g 225, g 226, g 227, g 228, g 229, g 230, g 231, g 232, g 233, g 234, g 235, g 236, g 237, g 238, g 239, g 240, g 241, g 242, g 243, g 244, g 245, g 246, g 247, g 248, g 249, g 250, g 251, g 252, g 253, g 254, g 255, g 256, g 257, g 258, g 259, g 260, g 261, g 262, g 263, g 264, g 265, g 266, g 267, g 268, g 269, g 270, g 271, g 272, g 273, g 274, g 275, g 276, g 277, g 278, g 279, g 280, g 281, g 282, g 283, g 284, g 285, g 286], []⟩
/-- What a round leaves. -/
def Post3 (fr : (Nat → Value) → Act) (w : World) (m j yb : Nat) : Exit → Act → World → Prop
  | .normal, f, W => (∃ g, f = fr g) ∧ ∃ (a b : Sv) (A B : Sd) (wa wb : List (List Nat)), St w w.heap.size w.heap.size yb a b A B wa wb W ∧ Far2 m (j + 1) A B wa wb ∧ wa.length ≤ 400 ∧ wb.length ≤ 400
  | .ret, f, W => (∃ g : Nat → Value, f = retFr g) ∧ Kept [] w W
  | _, _, _ => False
theorem some_ret {f : Act} {fr : (Nat → Value) → Act} (h : f = fr (fun n => (f.tmps.toList.drop n).headD undef)) : ∃ g : Nat → Value, f = fr g := ⟨_, h⟩
set_option maxRecDepth 100000 in
set_option maxHeartbeats 16000000 in
/-- A round, of a deed of side 0. -/
theorem rnd0_play {w wr : World} {yb nb off cap m j len : Nat} {a b : Sv} {A B : Sd} {wa wb : List (List Nat)} {t : Nt} {v1 v2 v3 v4 v6 v7 v8 v10 v11 v12 v13 v14 v15 v16 v17 v18 v19 v20 v21 v22 v23 v24 v25 v26 v27 v28 v29 v30 v31 v32 v33 v34 v35 v36 v37 v38 v39 v40 v41 v42 v43 v44 v45 v46 v47 v51 v52 v53 v54 v55 v56 v57 v58 v59 v60 v61 v62 v63 v64 v65 v66 v67 v68 v69 v70 v71 v72 v73 v74 v75 v76 v77 v78 v79 v80 v81 v82 v83 v84 v85 v86 v87 v88 v89 v90 v91 v92 v93 v94 v95 v96 v97 v98 v99 v100 v101 v102 v103 v104 v105 v106 v107 v108 v109 v110 v111 v112 v113 v114 v115 v116 v117 v118 v119 v120 v121 v122 v123 v124 v125 v126 v127 v128 v129 v130 v131 v132 v133 v134 v135 v136 v137 v138 v139 v140 v141 v142 v143 v144 v145 v146 v147 v148 v149 v150 v151 v152 v153 v154 v155 v156 v157 v158 v159 v160 v161 v162 v163 v164 v165 v166 v167 v168 v169 v170 v171 v172 v173 v174 v175 v176 v177 v178 v179 v180 v181 v182 v183 v184 v185 v186 v187 v188 v189 v190 v191 v192 v193 v194 v195 v196 v197 v198 v199 v200 v201 v202 v203 v204 v205 v206 v207 v208 v209 v210 v211 v212 v213 v214 v215 v216 v217 v218 v219 v220 v221 v222 v223 v224 v225 v226 v227 v228 v229 v230 v231 v232 v233 v234 v235 v236 v237 v238 v239 v240 v241 v242 v243 v244 v245 v246 v247 v248 v249 v250 v251 v252 v253 v254 v255 v256 v257 v258 v259 v260 v261 v262 v263 v264 v265 v266 v267 v268 v269 v270 v271 v272 v273 v274 v275 v276 v277 v278 v279 v280 v281 v282 v283 v284 v285 v286 : Value} (h1 : 1 ≤ m) (h2 : m ≤ 64) (hl : len ≤ 120) (hlt : j < len) (hst : St w w.heap.size w.heap.size yb a b A B wa wb wr) (hf : Far2 m j A B wa wb) (hwa : wa.length ≤ 400) (hwb : wb.length ≤ 400) (hrow : Wire.ByteRow 0 w.heap.size wr (.slice t.x.sa t.x.len t.x.cap) t.x.bs) (hrr : (t.who.tmod 2 != 0) = false) (hlc : len ≤ cap)
    (n0 : wr.cell? ⟨nb, off + j * 4, none⟩ = some (.int .i64 t.k)) (n1 : wr.cell? ⟨nb, off + j * 4 + 1, none⟩ = some (.int .i64 t.who)) (n2 : wr.cell? ⟨nb, off + j * 4 + 2, none⟩ = some (.int .i64 t.at')) (n3 : wr.cell? ⟨nb, off + j * 4 + 3, none⟩ = some (.slice t.x.sa t.x.len t.x.cap)) {c : Code} (hc : Try.f3.body.bind (findB 3) = some c) :
    Code.wp Try.prog c (Post3 (fun g => ⟨#[.int .i64 (m : Int), v1, v2, v3, g 4, .pointer (some ⟨w.heap.size, 0, none⟩), v6, v7, v8, .pointer (some ⟨yb, 0, none⟩), v10, g 11, g 12, g 13, g 14, g 15, g 16, g 17, g 18, g 19, g 20, g 21, g 22, v23, v24, v25, v26, v27, v28, v29, v30, v31, v32, v33, v34, v35, v36, v37, v38, v39, v40, v41, v42, v43, v44, v45, v46, v47, .slice (some ⟨nb, off, none⟩) len cap, .int .i64 (len : Int), .int .i64 (j : Int), g 51, g 52, g 53, g 54, g 55, g 56, g 57, g 58, g 59, g 60, g 61, g 62, g 63, g 64, g 65, g 66, g 67, g 68, g 69, g 70, g 71, g 72, g 73, g 74, g 75, g 76, g 77, g 78, g 79, g 80, g 81, g 82, g 83, g 84, g 85, g 86, g 87, g 88, g 89, g 90, g 91, g 92, g 93, g 94, g 95, g 96, g 97, g 98, g 99, g 100, g 101, g 102, g 103, g 104, g 105, g 106, g 107, g 108, g 109, g 110, g 111, g 112, g 113, g 114, g 115, g 116, g 117, g 118, g 119, g 120, g 121, g 122, g 123, g 124, g 125, g 126, g 127, g 128, g 129, g 130, g 131, g 132, g 133, g 134, g 135, g 136, g 137, g 138, g 139, g 140, g 141, g 142, g 143, g 144, g 145, g 146, g 147, g 148, g 149, g 150, g 151, g 152, g 153, g 154, g 155, g 156, g 157, g 158, g 159, g 160, g 161, g 162, g 163, g 164, g 165, g 166, g 167, g 168, g 169, g 170, g 171, g 172, g 173, g 174, g 175, g 176, g 177, g 178, g 179, g 180, g 181, g 182, g 183, g 184, g 185, g 186, g 187, g 188, g 189, g 190, g 191, g 192, g 193, g 194, g 195, g 196, g 197, g 198, g 199, g 200, g 201, g 202, g 203, g 204, g 205, g 206, g 207, g 208, g 209, g 210, g 211, g 212, g 213, g 214, g 215, g 216, g 217, g 218, g 219, g 220, g 221, g 222, g 223, g 224, g 225, g 226, g 227, g 228, g 229, g 230, g 231, g 232, g 233, g 234, g 235, g 236, g 237, g 238, g 239, g 240, g 241, g 242, g 243, g 244, g 245, g 246, g 247, g 248, g 249, g 250, g 251, g 252, g 253, g 254, g 255, g 256, g 257, g 258, g 259, g 260, g 261, g 262, g 263, g 264, g 265, g 266, g 267, g 268, g 269, g 270, g 271, g 272, g 273, g 274, g 275, g 276, g 277, g 278, g 279, g 280, g 281, g 282, g 283, g 284, g 285, v286], []⟩) w m j yb) ⟨#[.int .i64 (m : Int), v1, v2, v3, v4, .pointer (some ⟨w.heap.size, 0, none⟩), v6, v7, v8, .pointer (some ⟨yb, 0, none⟩), v10, v11, v12, v13, v14, v15, v16, v17, v18, v19, v20, v21, v22, v23, v24, v25, v26, v27, v28, v29, v30, v31, v32, v33, v34, v35, v36, v37, v38, v39, v40, v41, v42, v43, v44, v45, v46, v47, .slice (some ⟨nb, off, none⟩) len cap, .int .i64 (len : Int), .int .i64 (j : Int), v51, v52, v53, v54, v55, v56, v57, v58, v59, v60, v61, v62, v63, v64, v65, v66, v67, v68, v69, v70, v71, v72, v73, v74, v75, v76, v77, v78, v79, v80, v81, v82, v83, v84, v85, v86, v87, v88, v89, v90, v91, v92, v93, v94, v95, v96, v97, v98, v99, v100, v101, v102, v103, v104, v105, v106, v107, v108, v109, v110, v111, v112, v113, v114, v115, v116, v117, v118, v119, v120, v121, v122, v123, v124, v125, v126, v127, v128, v129, v130, v131, v132, v133, v134, v135, v136, v137, v138, v139, v140, v141, v142, v143, v144, v145, v146, v147, v148, v149, v150, v151, v152, v153, v154, v155, v156, v157, v158, v159, v160, v161, v162, v163, v164, v165, v166, v167, v168, v169, v170, v171, v172, v173, v174, v175, v176, v177, v178, v179, v180, v181, v182, v183, v184, v185, v186, v187, v188, v189, v190, v191, v192, v193, v194, v195, v196, v197, v198, v199, v200, v201, v202, v203, v204, v205, v206, v207, v208, v209, v210, v211, v212, v213, v214, v215, v216, v217, v218, v219, v220, v221, v222, v223, v224, v225, v226, v227, v228, v229, v230, v231, v232, v233, v234, v235, v236, v237, v238, v239, v240, v241, v242, v243, v244, v245, v246, v247, v248, v249, v250, v251, v252, v253, v254, v255, v256, v257, v258, v259, v260, v261, v262, v263, v264, v265, v266, v267, v268, v269, v270, v271, v272, v273, v274, v275, v276, v277, v278, v279, v280, v281, v282, v283, v284, v285, v286], []⟩ wr := by
  conv at hc => lhs; whnf
  injection hc with hc
  subst hc
  have i4 : (j : Int) < (len : Int) := by omega
  have hxx : Hid (t.x.len = t.x.bs.length) := hrow.len
  have hk3' := kept_alloc [] wr (.cells #[.int .i64 0, .int .i64 0, .int .i64 0, .slice none 0 0] 36)
  by_cases h300 : 300 < t.x.len
  · have i5 : (300 : Int) < (t.x.len : Int) := by omega
    have hk := hst.kept
    clear hst hf hrow hxx h300
    go_wp2_with (first
      | (refine wpList_store_blk rfl 36 _ _ rfl wr.heap.size 36 _ [.int .i64 t.k, .int .i64 t.who, .int .i64 t.at', .slice t.x.sa t.x.len t.x.cap] rfl rfl (blk_new wr 36 #[.int .i64 0, .int .i64 0, .int .i64 0, .slice none 0 0]) rfl Try.sizeNet (by simp [Value.oneCell']) ?_; intro w3 hb3 hk3 hz3; have d0 : w3.cell? ⟨wr.heap.size, 0, none⟩ = some (.int .i64 t.k) := (hb3.cell 0).trans rfl; have d1 : w3.cell? ⟨wr.heap.size, 1, none⟩ = some (.int .i64 t.who) := (hb3.cell 1).trans rfl; have d3 : w3.cell? ⟨wr.heap.size, 3, none⟩ = some (.slice t.x.sa t.x.len t.x.cap) := (hb3.cell 3).trans rfl; have ql := lives_any w3)
      | (go_at_call 5; refine ql.mono ?_; rintro e w4 ⟨rfl, hk4⟩))
    exact ⟨some_ret (fr := retFr) rfl, (hk.trans (hk3'.young hk3 (Nat.le_refl _))).trans hk4⟩
  · have i5 : ¬ ((300 : Int) < (t.x.len : Int)) := by omega
    go_upto_block 4 with (first
      | (refine wpList_store_blk rfl 36 _ _ rfl wr.heap.size 36 _ [.int .i64 t.k, .int .i64 t.who, .int .i64 t.at', .slice t.x.sa t.x.len t.x.cap] rfl rfl (blk_new wr 36 #[.int .i64 0, .int .i64 0, .int .i64 0, .slice none 0 0]) rfl Try.sizeNet (by simp [Value.oneCell']) ?_; intro w3 hb3 hk3 hz3; have d0 : w3.cell? ⟨wr.heap.size, 0, none⟩ = some (.int .i64 t.k) := (hb3.cell 0).trans rfl; have d1 : w3.cell? ⟨wr.heap.size, 1, none⟩ = some (.int .i64 t.who) := (hb3.cell 1).trans rfl; have d3 : w3.cell? ⟨wr.heap.size, 3, none⟩ = some (.slice t.x.sa t.x.len t.x.cap) := (hb3.cell 3).trans rfl))
    have hst3 := hst.kept0 (hk3'.young hk3 (Nat.le_refl _))
    have hfx : Far (flat (feet w.heap.size yb a b)) w3 t.x := far_range ((hrow.kept hst.kept.size (hk3'.young hk3 (Nat.le_refl _)) (by simp))) hst3.kept.size (fun k hm => .inr (by
      obtain ⟨i, _, hmi⟩ := flat_mem hm
      exact (hst3.pool.lt i k hmi).1))
    have hNet : Blk w3 wr.heap.size 36 #[.int .i64 t.k, .int .i64 t.who, .int .i64 t.at', .slice t.x.sa t.x.len t.x.cap] := hb3
    clear hk3' hst hb3 hk3 hz3 hrow n0 n1 n2 n3 hrr d0 d1 d3
    refine wp_mono (sw0_any (len := len) h1 h2 hl hlt hst3 hf hwa hwb hfx hNet hxx h300 rfl rfl rfl rfl) ?_
    clear hst3 hf hwa hwb hfx hNet hxx h300 i5
    intro e f W hP
    cases e <;> try exact hP.elim
    · obtain ⟨hF, a', b', A', B', wa', wb', hst2, hf2⟩ := hP
      obtain ⟨g, rfl⟩ := hF.open
      clear hF
      simp only [List.cons_append, List.nil_append]
      obtain ⟨y0, y1⟩ := hst2.two
      have la : a'.Y.length = wa'.length := by rw [← hst2.ha.wayL, List.length_map]
      have lb : b'.Y.length = wb'.length := by rw [← hst2.hb.wayL, List.length_map]
      by_cases z1 : 400 < a'.Y.length
      · have z1' : (400 : Int) < (a'.Y.length : Int) := by omega
        have hk := hst2.kept
        have ql := lives_any W
        clear hst2 hf2 la lb z1
        go_wp2_with (go_at_call 5; refine ql.mono ?_; rintro e w4 ⟨rfl, hk4⟩)
        exact ⟨some_ret (fr := retFr) rfl, hk.trans hk4⟩
      · have z1' : ¬ ((400 : Int) < (a'.Y.length : Int)) := by omega
        by_cases z2 : 400 < b'.Y.length
        · have z2' : (400 : Int) < (b'.Y.length : Int) := by omega
          have hk := hst2.kept
          have ql := lives_any W
          clear hst2 hf2 la lb z1 z2
          go_wp2_with (go_at_call 5; refine ql.mono ?_; rintro e w4 ⟨rfl, hk4⟩)
          exact ⟨some_ret (fr := retFr) rfl, hk.trans hk4⟩
        · have z2' : ¬ ((400 : Int) < (b'.Y.length : Int)) := by omega
          go_upto_block 5 with fail
          refine wp_mono (sw_look hst2 hf2 (by omega) rfl) ?_
          intro e f W3 hP
          cases e <;> try exact hP.elim
          obtain ⟨⟨g', rfl⟩, n, rfl⟩ := hP
          exact ⟨some_frame rfl, _, _, _, _, _, _, hst2.kept0 (kept_drewN [] _ n), hf2, by omega, by omega⟩
    · obtain ⟨rfl, hF, a', b', A', B', wa', wb', hst2, hf2, hwa2, hwb2⟩ := hP
      obtain ⟨g, rfl⟩ := hF.open
      clear hF
      simp only [List.cons_append, List.nil_append]
      exact ⟨some_frame rfl, _, _, _, _, _, _, hst2, hf2, hwa2, hwb2⟩
set_option maxRecDepth 100000 in
set_option maxHeartbeats 16000000 in
/-- A round, of a deed of side 1. -/
theorem rnd1_play {w wr : World} {yb nb off cap m j len : Nat} {a b : Sv} {A B : Sd} {wa wb : List (List Nat)} {t : Nt} {v1 v2 v3 v4 v6 v7 v8 v10 v11 v12 v13 v14 v15 v16 v17 v18 v19 v20 v21 v22 v23 v24 v25 v26 v27 v28 v29 v30 v31 v32 v33 v34 v35 v36 v37 v38 v39 v40 v41 v42 v43 v44 v45 v46 v47 v51 v52 v53 v54 v55 v56 v57 v58 v59 v60 v61 v62 v63 v64 v65 v66 v67 v68 v69 v70 v71 v72 v73 v74 v75 v76 v77 v78 v79 v80 v81 v82 v83 v84 v85 v86 v87 v88 v89 v90 v91 v92 v93 v94 v95 v96 v97 v98 v99 v100 v101 v102 v103 v104 v105 v106 v107 v108 v109 v110 v111 v112 v113 v114 v115 v116 v117 v118 v119 v120 v121 v122 v123 v124 v125 v126 v127 v128 v129 v130 v131 v132 v133 v134 v135 v136 v137 v138 v139 v140 v141 v142 v143 v144 v145 v146 v147 v148 v149 v150 v151 v152 v153 v154 v155 v156 v157 v158 v159 v160 v161 v162 v163 v164 v165 v166 v167 v168 v169 v170 v171 v172 v173 v174 v175 v176 v177 v178 v179 v180 v181 v182 v183 v184 v185 v186 v187 v188 v189 v190 v191 v192 v193 v194 v195 v196 v197 v198 v199 v200 v201 v202 v203 v204 v205 v206 v207 v208 v209 v210 v211 v212 v213 v214 v215 v216 v217 v218 v219 v220 v221 v222 v223 v224 v225 v226 v227 v228 v229 v230 v231 v232 v233 v234 v235 v236 v237 v238 v239 v240 v241 v242 v243 v244 v245 v246 v247 v248 v249 v250 v251 v252 v253 v254 v255 v256 v257 v258 v259 v260 v261 v262 v263 v264 v265 v266 v267 v268 v269 v270 v271 v272 v273 v274 v275 v276 v277 v278 v279 v280 v281 v282 v283 v284 v285 v286 : Value} (h1 : 1 ≤ m) (h2 : m ≤ 64) (hl : len ≤ 120) (hlt : j < len) (hst : St w w.heap.size w.heap.size yb a b A B wa wb wr) (hf : Far2 m j A B wa wb) (hwa : wa.length ≤ 400) (hwb : wb.length ≤ 400) (hrow : Wire.ByteRow 0 w.heap.size wr (.slice t.x.sa t.x.len t.x.cap) t.x.bs) (hrr : (t.who.tmod 2 != 0) = true) (hlc : len ≤ cap)
    (n0 : wr.cell? ⟨nb, off + j * 4, none⟩ = some (.int .i64 t.k)) (n1 : wr.cell? ⟨nb, off + j * 4 + 1, none⟩ = some (.int .i64 t.who)) (n2 : wr.cell? ⟨nb, off + j * 4 + 2, none⟩ = some (.int .i64 t.at')) (n3 : wr.cell? ⟨nb, off + j * 4 + 3, none⟩ = some (.slice t.x.sa t.x.len t.x.cap)) {c : Code} (hc : Try.f3.body.bind (findB 3) = some c) :
    Code.wp Try.prog c (Post3 (fun g => ⟨#[.int .i64 (m : Int), v1, v2, v3, g 4, .pointer (some ⟨w.heap.size, 0, none⟩), v6, v7, v8, .pointer (some ⟨yb, 0, none⟩), v10, g 11, g 12, g 13, g 14, g 15, g 16, g 17, g 18, g 19, g 20, g 21, g 22, v23, v24, v25, v26, v27, v28, v29, v30, v31, v32, v33, v34, v35, v36, v37, v38, v39, v40, v41, v42, v43, v44, v45, v46, v47, .slice (some ⟨nb, off, none⟩) len cap, .int .i64 (len : Int), .int .i64 (j : Int), g 51, g 52, g 53, g 54, g 55, g 56, g 57, g 58, g 59, g 60, g 61, g 62, g 63, g 64, g 65, g 66, g 67, g 68, g 69, g 70, g 71, g 72, g 73, g 74, g 75, g 76, g 77, g 78, g 79, g 80, g 81, g 82, g 83, g 84, g 85, g 86, g 87, g 88, g 89, g 90, g 91, g 92, g 93, g 94, g 95, g 96, g 97, g 98, g 99, g 100, g 101, g 102, g 103, g 104, g 105, g 106, g 107, g 108, g 109, g 110, g 111, g 112, g 113, g 114, g 115, g 116, g 117, g 118, g 119, g 120, g 121, g 122, g 123, g 124, g 125, g 126, g 127, g 128, g 129, g 130, g 131, g 132, g 133, g 134, g 135, g 136, g 137, g 138, g 139, g 140, g 141, g 142, g 143, g 144, g 145, g 146, g 147, g 148, g 149, g 150, g 151, g 152, g 153, g 154, g 155, g 156, g 157, g 158, g 159, g 160, g 161, g 162, g 163, g 164, g 165, g 166, g 167, g 168, g 169, g 170, g 171, g 172, g 173, g 174, g 175, g 176, g 177, g 178, g 179, g 180, g 181, g 182, g 183, g 184, g 185, g 186, g 187, g 188, g 189, g 190, g 191, g 192, g 193, g 194, g 195, g 196, g 197, g 198, g 199, g 200, g 201, g 202, g 203, g 204, g 205, g 206, g 207, g 208, g 209, g 210, g 211, g 212, g 213, g 214, g 215, g 216, g 217, g 218, g 219, g 220, g 221, g 222, g 223, g 224, g 225, g 226, g 227, g 228, g 229, g 230, g 231, g 232, g 233, g 234, g 235, g 236, g 237, g 238, g 239, g 240, g 241, g 242, g 243, g 244, g 245, g 246, g 247, g 248, g 249, g 250, g 251, g 252, g 253, g 254, g 255, g 256, g 257, g 258, g 259, g 260, g 261, g 262, g 263, g 264, g 265, g 266, g 267, g 268, g 269, g 270, g 271, g 272, g 273, g 274, g 275, g 276, g 277, g 278, g 279, g 280, g 281, g 282, g 283, g 284, g 285, v286], []⟩) w m j yb) ⟨#[.int .i64 (m : Int), v1, v2, v3, v4, .pointer (some ⟨w.heap.size, 0, none⟩), v6, v7, v8, .pointer (some ⟨yb, 0, none⟩), v10, v11, v12, v13, v14, v15, v16, v17, v18, v19, v20, v21, v22, v23, v24, v25, v26, v27, v28, v29, v30, v31, v32, v33, v34, v35, v36, v37, v38, v39, v40, v41, v42, v43, v44, v45, v46, v47, .slice (some ⟨nb, off, none⟩) len cap, .int .i64 (len : Int), .int .i64 (j : Int), v51, v52, v53, v54, v55, v56, v57, v58, v59, v60, v61, v62, v63, v64, v65, v66, v67, v68, v69, v70, v71, v72, v73, v74, v75, v76, v77, v78, v79, v80, v81, v82, v83, v84, v85, v86, v87, v88, v89, v90, v91, v92, v93, v94, v95, v96, v97, v98, v99, v100, v101, v102, v103, v104, v105, v106, v107, v108, v109, v110, v111, v112, v113, v114, v115, v116, v117, v118, v119, v120, v121, v122, v123, v124, v125, v126, v127, v128, v129, v130, v131, v132, v133, v134, v135, v136, v137, v138, v139, v140, v141, v142, v143, v144, v145, v146, v147, v148, v149, v150, v151, v152, v153, v154, v155, v156, v157, v158, v159, v160, v161, v162, v163, v164, v165, v166, v167, v168, v169, v170, v171, v172, v173, v174, v175, v176, v177, v178, v179, v180, v181, v182, v183, v184, v185, v186, v187, v188, v189, v190, v191, v192, v193, v194, v195, v196, v197, v198, v199, v200, v201, v202, v203, v204, v205, v206, v207, v208, v209, v210, v211, v212, v213, v214, v215, v216, v217, v218, v219, v220, v221, v222, v223, v224, v225, v226, v227, v228, v229, v230, v231, v232, v233, v234, v235, v236, v237, v238, v239, v240, v241, v242, v243, v244, v245, v246, v247, v248, v249, v250, v251, v252, v253, v254, v255, v256, v257, v258, v259, v260, v261, v262, v263, v264, v265, v266, v267, v268, v269, v270, v271, v272, v273, v274, v275, v276, v277, v278, v279, v280, v281, v282, v283, v284, v285, v286], []⟩ wr := by
  conv at hc => lhs; whnf
  injection hc with hc
  subst hc
  have i4 : (j : Int) < (len : Int) := by omega
  have hxx : Hid (t.x.len = t.x.bs.length) := hrow.len
  have hk3' := kept_alloc [] wr (.cells #[.int .i64 0, .int .i64 0, .int .i64 0, .slice none 0 0] 36)
  by_cases h300 : 300 < t.x.len
  · have i5 : (300 : Int) < (t.x.len : Int) := by omega
    have hk := hst.kept
    clear hst hf hrow hxx h300
    go_wp2_with (first
      | (refine wpList_store_blk rfl 36 _ _ rfl wr.heap.size 36 _ [.int .i64 t.k, .int .i64 t.who, .int .i64 t.at', .slice t.x.sa t.x.len t.x.cap] rfl rfl (blk_new wr 36 #[.int .i64 0, .int .i64 0, .int .i64 0, .slice none 0 0]) rfl Try.sizeNet (by simp [Value.oneCell']) ?_; intro w3 hb3 hk3 hz3; have d0 : w3.cell? ⟨wr.heap.size, 0, none⟩ = some (.int .i64 t.k) := (hb3.cell 0).trans rfl; have d1 : w3.cell? ⟨wr.heap.size, 1, none⟩ = some (.int .i64 t.who) := (hb3.cell 1).trans rfl; have d3 : w3.cell? ⟨wr.heap.size, 3, none⟩ = some (.slice t.x.sa t.x.len t.x.cap) := (hb3.cell 3).trans rfl; have ql := lives_any w3)
      | (go_at_call 5; refine ql.mono ?_; rintro e w4 ⟨rfl, hk4⟩))
    exact ⟨some_ret (fr := retFr) rfl, (hk.trans (hk3'.young hk3 (Nat.le_refl _))).trans hk4⟩
  · have i5 : ¬ ((300 : Int) < (t.x.len : Int)) := by omega
    go_upto_block 4 with (first
      | (refine wpList_store_blk rfl 36 _ _ rfl wr.heap.size 36 _ [.int .i64 t.k, .int .i64 t.who, .int .i64 t.at', .slice t.x.sa t.x.len t.x.cap] rfl rfl (blk_new wr 36 #[.int .i64 0, .int .i64 0, .int .i64 0, .slice none 0 0]) rfl Try.sizeNet (by simp [Value.oneCell']) ?_; intro w3 hb3 hk3 hz3; have d0 : w3.cell? ⟨wr.heap.size, 0, none⟩ = some (.int .i64 t.k) := (hb3.cell 0).trans rfl; have d1 : w3.cell? ⟨wr.heap.size, 1, none⟩ = some (.int .i64 t.who) := (hb3.cell 1).trans rfl; have d3 : w3.cell? ⟨wr.heap.size, 3, none⟩ = some (.slice t.x.sa t.x.len t.x.cap) := (hb3.cell 3).trans rfl))
    have hst3 := hst.kept0 (hk3'.young hk3 (Nat.le_refl _))
    have hfx : Far (flat (feet w.heap.size yb a b)) w3 t.x := far_range ((hrow.kept hst.kept.size (hk3'.young hk3 (Nat.le_refl _)) (by simp))) hst3.kept.size (fun k hm => .inr (by
      obtain ⟨i, _, hmi⟩ := flat_mem hm
      exact (hst3.pool.lt i k hmi).1))
    have hNet : Blk w3 wr.heap.size 36 #[.int .i64 t.k, .int .i64 t.who, .int .i64 t.at', .slice t.x.sa t.x.len t.x.cap] := hb3
    clear hk3' hst hb3 hk3 hz3 hrow n0 n1 n2 n3 hrr d0 d1 d3
    refine wp_mono (sw1_any (len := len) h1 h2 hl hlt hst3 hf hwa hwb hfx hNet hxx h300 rfl rfl rfl rfl) ?_
    clear hst3 hf hwa hwb hfx hNet hxx h300 i5
    intro e f W hP
    cases e <;> try exact hP.elim
    · obtain ⟨hF, a', b', A', B', wa', wb', hst2, hf2⟩ := hP
      obtain ⟨g, rfl⟩ := hF.open
      clear hF
      simp only [List.cons_append, List.nil_append]
      obtain ⟨y0, y1⟩ := hst2.two
      have la : a'.Y.length = wa'.length := by rw [← hst2.ha.wayL, List.length_map]
      have lb : b'.Y.length = wb'.length := by rw [← hst2.hb.wayL, List.length_map]
      by_cases z1 : 400 < a'.Y.length
      · have z1' : (400 : Int) < (a'.Y.length : Int) := by omega
        have hk := hst2.kept
        have ql := lives_any W
        clear hst2 hf2 la lb z1
        go_wp2_with (go_at_call 5; refine ql.mono ?_; rintro e w4 ⟨rfl, hk4⟩)
        exact ⟨some_ret (fr := retFr) rfl, hk.trans hk4⟩
      · have z1' : ¬ ((400 : Int) < (a'.Y.length : Int)) := by omega
        by_cases z2 : 400 < b'.Y.length
        · have z2' : (400 : Int) < (b'.Y.length : Int) := by omega
          have hk := hst2.kept
          have ql := lives_any W
          clear hst2 hf2 la lb z1 z2
          go_wp2_with (go_at_call 5; refine ql.mono ?_; rintro e w4 ⟨rfl, hk4⟩)
          exact ⟨some_ret (fr := retFr) rfl, hk.trans hk4⟩
        · have z2' : ¬ ((400 : Int) < (b'.Y.length : Int)) := by omega
          go_upto_block 5 with fail
          refine wp_mono (sw_look hst2 hf2 (by omega) rfl) ?_
          intro e f W3 hP
          cases e <;> try exact hP.elim
          obtain ⟨⟨g', rfl⟩, n, rfl⟩ := hP
          exact ⟨some_frame rfl, _, _, _, _, _, _, hst2.kept0 (kept_drewN [] _ n), hf2, by omega, by omega⟩
    · obtain ⟨rfl, hF, a', b', A', B', wa', wb', hst2, hf2, hwa2, hwb2⟩ := hP
      obtain ⟨g, rfl⟩ := hF.open
      clear hF
      simp only [List.cons_append, List.nil_append]
      exact ⟨some_frame rfl, _, _, _, _, _, _, hst2, hf2, hwa2, hwb2⟩
end Go.Proofs.Ytnbkbakbjllmcaa.Session
