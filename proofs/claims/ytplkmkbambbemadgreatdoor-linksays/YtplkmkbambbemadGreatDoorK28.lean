import Derived.Test.YtplkmkbambbemadGreatDoorK27
import Derived.Deep.CutRange
import Derived.Deep.RegionWith
import Derived.Deep.RegionHeld3
import Derived.BigRegion
namespace Go.Proofs.YtplkmkbambbemadGreatDoor
open Go.ChangeShapes Go.WideShapes Go.ChangeAt Go.RowKit
set_option linter.unusedVariables false
set_option maxRecDepth 1000000 in
set_option maxHeartbeats 4000000 in
theorem dec_body01 (soft : List Int) (n : Nat) (a : Option Addr) (c : Nat) (w wr : World) (g g' i s : Nat) (vv vv' : Nat → Value) (qq qq' : Nat → Int) (tt tt' : Nat → Bool) (bb bb' : Nat → List Int) (K : Act → World → Prop) (Q0 : Exit → Act → World → Prop)
    (ha : Rd .i64 w a soft) (hs : ∀ k, -100000 ≤ soft.getD k 0 ∧ soft.getD k 0 ≤ 100000) (hn : soft.length = 3 * (n + 6)) (hn4 : n ≤ 400) (hcap : soft.length ≤ c) (hi : i < n + 6) (hs4 : s < 64) (hi2 : i < n) (hgg : g < g') (htt : tt s = true)
    (hT : Table wr w.heap.size g n soft (fun s => At n i s) vv qq tt bb) (hN : Table wr w.heap.size g' n soft (fun t => Sofar n i ((2 * s : Nat) + (0 : Nat)) t) vv' qq' tt' bb') (hbel : Below w.heap.size w wr)
    (c1 c2 c3 c14 c15 c16 c17 c18 c19 c20 c21 c22 c23 c24 c25 c26 c27 c28 c29 c30 c31 c32 c33 c34 c35 c36 c37 c38 c214 c215 c216 c217 c218 c219 c220 c221 c222 u10 u11 u12 u13 u39 u40 u41 u42 u43 u44 u45 u46 u47 u48 u49 u50 u51 u52 u53 u54 u55 u56 u57 u58 u59 u60 u61 u62 u63 u64 u65 u66 u67 u68 u69 u70 u71 u72 u73 u74 u75 u76 u77 u78 u79 u80 u81 u82 u83 u84 u85 u86 u87 u88 u89 u90 u91 u92 u93 u94 u95 u96 u97 u98 u99 u100 u101 u102 u103 u104 u105 u106 u107 u108 u109 u110 u111 u112 u113 u114 u115 u116 u117 u118 u119 u120 u121 u122 u123 u124 u125 u126 u127 u128 u129 u130 u131 u132 u133 u134 u135 u136 u137 u138 u139 u140 u141 u142 u143 u144 u145 u146 u147 u148 u149 u150 u151 u152 u153 u154 u155 u156 u157 u158 u159 u160 u161 u162 u163 u164 u165 u166 u167 u168 u169 u170 u171 u172 u173 u174 u175 u176 u177 u178 u179 u180 u181 u182 u183 u184 u185 u186 u187 u188 u189 u190 u191 u192 u193 u194 u195 u196 u197 u198 u199 u200 u201 u202 u203 u204 u205 u206 u207 u208 u209 u210 u211 u212 u213 : Value)
    (hK : ∀ (v10 v11 v12 v13 v39 v40 v41 v42 v43 v44 v45 v46 v47 v48 v49 v50 v51 v52 v53 v54 v55 v56 v57 v58 v59 v60 v61 v62 v63 v64 v65 v66 v67 v68 v69 v70 v71 v72 v73 v74 v75 v76 v77 v78 v79 v80 v81 v82 v83 v84 v85 v86 v87 v88 v89 v90 v91 v92 v93 v94 v95 v96 v97 v98 v99 v100 v101 v102 v103 v104 v105 v106 v107 v108 v109 v110 v111 v112 v113 v114 v115 v116 v117 v118 v119 v120 v121 v122 v123 v124 v125 v126 v127 v128 v129 v130 v131 v132 v133 v134 v135 v136 v137 v138 v139 v140 v141 v142 v143 v144 v145 v146 v147 v148 v149 v150 v151 v152 v153 v154 v155 v156 v157 v158 v159 v160 v161 v162 v163 v164 v165 v166 v167 v168 v169 v170 v171 v172 v173 v174 v175 v176 v177 v178 v179 v180 v181 v182 v183 v184 v185 v186 v187 v188 v189 v190 v191 v192 v193 v194 v195 v196 v197 v198 v199 v200 v201 v202 v203 v204 v205 v206 v207 v208 v209 v210 v211 v212 v213 : Value) (w' : World) (vv' : Nat → Value) (qq' : Nat → Int) (tt' : Nat → Bool) (bb' : Nat → List Int), Table w' w.heap.size g n soft (fun s => At n i s) vv qq tt bb → Table w' w.heap.size g' n soft (fun t => Sofar n i ((2 * s : Nat) + (0 + 1 : Nat)) t) vv' qq' tt' bb' → Below w.heap.size w w' →
      K ⟨#[.slice a soft.length c, c1, c2, c3, .int .i64 n, .slice (some ⟨g, 0, none⟩) 64 64, .int .i64 i, .slice (some ⟨g', 0, none⟩) 64 64, .int .i64 s, .int .i64 1, v10, v11, v12, v13, c14, c15, c16, c17, c18, c19, c20, c21, c22, c23, c24, c25, c26, c27, c28, c29, c30, c31, c32, c33, c34, c35, c36, c37, c38, v39, v40, v41, v42, v43, v44, v45, v46, v47, v48, v49, v50, v51, v52, v53, v54, v55, v56, v57, v58, v59, v60, v61, v62, v63, v64, v65, v66, v67, v68, v69, v70, v71, v72, v73, v74, v75, v76, v77, v78, v79, v80, v81, v82, v83, v84, v85, v86, v87, v88, v89, v90, v91, v92, v93, v94, v95, v96, v97, v98, v99, v100, v101, v102, v103, v104, v105, v106, v107, v108, v109, v110, v111, v112, v113, v114, v115, v116, v117, v118, v119, v120, v121, v122, v123, v124, v125, v126, v127, v128, v129, v130, v131, v132, v133, v134, v135, v136, v137, v138, v139, v140, v141, v142, v143, v144, v145, v146, v147, v148, v149, v150, v151, v152, v153, v154, v155, v156, v157, v158, v159, v160, v161, v162, v163, v164, v165, v166, v167, v168, v169, v170, v171, v172, v173, v174, v175, v176, v177, v178, v179, v180, v181, v182, v183, v184, v185, v186, v187, v188, v189, v190, v191, v192, v193, v194, v195, v196, v197, v198, v199, v200, v201, v202, v203, v204, v205, v206, v207, v208, v209, v210, v211, v212, v213, c214, c215, c216, c217, c218, c219, c220, c221, c222], []⟩ w') :
    Code.wp Tryz.prog (inside (inside (inside (Tryz.f88.body.getD .skip)))) (Exit.then K Q0) ⟨#[.slice a soft.length c, c1, c2, c3, .int .i64 n, .slice (some ⟨g, 0, none⟩) 64 64, .int .i64 i, .slice (some ⟨g', 0, none⟩) 64 64, .int .i64 s, .int .i64 0, u10, u11, u12, u13, c14, c15, c16, c17, c18, c19, c20, c21, c22, c23, c24, c25, c26, c27, c28, c29, c30, c31, c32, c33, c34, c35, c36, c37, c38, u39, u40, u41, u42, u43, u44, u45, u46, u47, u48, u49, u50, u51, u52, u53, u54, u55, u56, u57, u58, u59, u60, u61, u62, u63, u64, u65, u66, u67, u68, u69, u70, u71, u72, u73, u74, u75, u76, u77, u78, u79, u80, u81, u82, u83, u84, u85, u86, u87, u88, u89, u90, u91, u92, u93, u94, u95, u96, u97, u98, u99, u100, u101, u102, u103, u104, u105, u106, u107, u108, u109, u110, u111, u112, u113, u114, u115, u116, u117, u118, u119, u120, u121, u122, u123, u124, u125, u126, u127, u128, u129, u130, u131, u132, u133, u134, u135, u136, u137, u138, u139, u140, u141, u142, u143, u144, u145, u146, u147, u148, u149, u150, u151, u152, u153, u154, u155, u156, u157, u158, u159, u160, u161, u162, u163, u164, u165, u166, u167, u168, u169, u170, u171, u172, u173, u174, u175, u176, u177, u178, u179, u180, u181, u182, u183, u184, u185, u186, u187, u188, u189, u190, u191, u192, u193, u194, u195, u196, u197, u198, u199, u200, u201, u202, u203, u204, u205, u206, u207, u208, u209, u210, u211, u212, u213, c214, c215, c216, c217, c218, c219, c220, c221, c222], []⟩ wr := by
  obtain ⟨b1, o1, rfl, hc1⟩ := ha.at (i := 0) (by omega)
  have hb1 : b1 < w.heap.size := World.block_lt_of_cell? w _ (hc1 0 (by omega))
  have HC := hid hc1
  clear hc1
  conv => arg 2; whnf
  have HK := hid hK
  clear hK
  have HN := hid hn
  have hln : (soft.length : Int) ≤ 2000 := by omega
  have hd4 : decide ((n : Int) ≤ (i : Int)) = false := decide_eq_false (by omega)
  have hd5 : decide ((i : Int) < (n : Int)) = true := decide_eq_true (by omega)
  have HT0 := hid hT
  have HN0 := hid hN
  have HSS := hid hs
  have HTT := hid htt
  clear hn hT hN ha hs htt
  go_upto_region 17 with fail
  have y1 : 0 ≤ (s : Int) / 32 % 2 ∧ (s : Int) / 32 % 2 ≤ 1 := by omega
  have y2 : 0 ≤ (s : Int) / 16 % 2 ∧ (s : Int) / 16 % 2 ≤ 1 := by omega
  have y3 : 0 ≤ (s : Int) / 8 % 2 ∧ (s : Int) / 8 % 2 ≤ 1 := by omega
  have y4 : 0 ≤ (s : Int) / 4 % 2 ∧ (s : Int) / 4 % 2 ≤ 1 := by omega
  have y5 : 0 ≤ (s : Int) / 2 % 2 ∧ (s : Int) / 2 % 2 ≤ 1 := by omega
  have y6 : 0 ≤ (s : Int) % 2 ∧ (s : Int) % 2 ≤ 1 := by omega
  have HO0 := hid (show out0 s 0 = (0 + (s : Int) / 32 % 2 + (s : Int) / 16 % 2 + (s : Int) / 8 % 2 + (s : Int) % 2) % 2 from rfl)
  have HO1 := hid (show out1 s 0 = (0 + (s : Int) / 16 % 2 + (s : Int) / 8 % 2 + (s : Int) / 2 % 2 + (s : Int) % 2) % 2 from rfl)
  have HO2 := hid (show out2 s 0 = (0 + (s : Int) / 32 % 2 + (s : Int) / 16 % 2 + (s : Int) / 4 % 2 + (s : Int) % 2) % 2 from rfl)
  generalize (s : Int) / 32 % 2 = z1 at *
  generalize (s : Int) / 16 % 2 = z2 at *
  generalize (s : Int) / 8 % 2 = z3 at *
  generalize (s : Int) / 4 % 2 = z4 at *
  generalize (s : Int) / 2 % 2 = z5 at *
  generalize (s : Int) % 2 = z6 at *
  have hL : (wr.alloc (.cells #[.int .u8 0, .int .u8 z1, .int .u8 z2, .int .u8 z3, .int .u8 z4, .int .u8 z5, .int .u8 z6] 5)).heap[wr.heap.size]? = some (.cells (([0, z1, z2, z3, z4, z5, z6] : List Int).map (Value.int .u8)).toArray 5 (0, 0)) := heap_alloc_new wr _
  have HBW0 := hid (show Below wr.heap.size wr (wr.alloc (.cells #[.int .u8 0, .int .u8 z1, .int .u8 z2, .int .u8 z3, .int .u8 z4, .int .u8 z5, .int .u8 z6] 5)) from (Below.refl _ _).alloc (Nat.le_refl _) _)
  have HWQ := hid (show (wr.alloc (.cells #[.int .u8 0, .int .u8 z1, .int .u8 z2, .int .u8 z3, .int .u8 z4, .int .u8 z5, .int .u8 z6] 5)).heap.size = wr.heap.size + 1 by simp)
  generalize wr.alloc (.cells #[.int .u8 0, .int .u8 z1, .int .u8 z2, .int .u8 z3, .int .u8 z4, .int .u8 z5, .int .u8 z6] 5) = wq at *
  refine dec17 wq wr.heap.size 0 z1 z2 z3 z4 z5 z6 (by omega) y1 y2 y3 y4 y5 y6 hL _ _ _ _ _ _ _ _ _ _ _ _ _ _ _ _ _ _ _ _ _ _ _ _ _ _ _ _ _ _ _ _ _ _ _ _ _ _ _ _ _ _ _ _ _ _ _ _ _ _ _ _ _ _ _ _ _ _ _ _ _ _ _ _ _ _ _ _ _ _ _ _ _ _ _ _ _ _ _ _ _ _ _ _ _ _ _ _ _ _ _ _ _ _ _ _ _ _ _ _ _ _ _ _ _ _ _ _ _ _ _ _ _ _ _ _ _ _ _ _ _ _ _ _ _ _ _ _ _ _ _ _ _ _ _ _ _ _ _ _ _ _ _ _ _ _ _ _ _ _ _ _ _ _ _ _ _ _ _ _ _ _ _ _ _ _ _ _ _ _ _ _ _ _ _ _ _ _ _ _ _ _ _ _ _ _ _ _ _ _ _ _ _ _ _ _ _ _ _ _ _ _ _ _ _ _ _ _ _ _ _ _ _ _ _ _ _ _ _ _ _ _ _ ?_
  intro v76 v77 v78 v79 v80 v81 v82 v83 v84 v85 v86 v87 v88 v89 v90 v91 v92 v93 v94 v95 v96 v97 v98 v99 v100 v101 v102 v103 v104 v105 v106 v107 v108 v109 v110 v111 v112 v113 v114 v115 v116 v117 v118 v119 v120 v121 v122 v123 v124 v125 v126 v127 v128 v129 v130 v131 v132 v133 v134 v135 v136
  have h3 : ArrAt .u8 5 (wq.alloc (.cells #[.int .u8 ((0 + z1 + z2 + z3 + z6) % 2), .int .u8 ((0 + z2 + z3 + z5 + z6) % 2), .int .u8 ((0 + z1 + z2 + z4 + z6) % 2)] 5)).drew (wr.heap.size + 1) [out0 s 0, out1 s 0, out2 s 0] := by
    unfold ArrAt
    rw [HO0.out, HO1.out, HO2.out, ← HWQ.out]
    exact heap_alloc_new wq _
  have hbc : Below wr.heap.size wr (wq.alloc (.cells #[.int .u8 ((0 + z1 + z2 + z3 + z6) % 2), .int .u8 ((0 + z2 + z3 + z5 + z6) % 2), .int .u8 ((0 + z1 + z2 + z4 + z6) % 2)] 5)).drew := (HBW0.out.alloc HBW0.out.size _).drew
  rw [HWQ.out]
  generalize (wq.alloc (.cells #[.int .u8 ((0 + z1 + z2 + z3 + z6) % 2), .int .u8 ((0 + z2 + z3 + z5 + z6) % 2), .int .u8 ((0 + z1 + z2 + z4 + z6) % 2)] 5)).drew = wc at *
  clear hL y1 y2 y3 y4 y5 y6 HBW0 HWQ HO0 HO1 HO2
  have hTc := HT0.out.below hbc
  have hNc := HN0.out.below hbc
  obtain ⟨k0, k1, _⟩ := hTc.row.cell hs4
  rw [Nat.mul_comm 3 s] at k0 k1
  obtain ⟨av, cv, hvs, _, _, _⟩ := (hTc.own s hs4).shape
  rw [hvs] at k0
  have HVS := hid hvs
  clear hvs
  obtain ⟨q1, q2, q3⟩ := table_q HT0.out HSS.out hs4 HTT.out
  have hgn := gain_bd soft HSS.out i s 0
  have hbw := bthen hbel hbc
  have hsub := sub_rd (w := wc) (b := b1) (o := o1) (l := soft) (fun j hj => (hbw.cell (p := ⟨b1, o1 + j, none⟩) hb1).trans (HC.out j hj)) i (by rw [HN.out]; omega)
  have h3r := h3.rd0
  have HB3 := hid q3
  obtain ⟨LB, hLB⟩ : ∃ LB, LB = (bb s).length := ⟨_, rfl⟩
  rw [← hLB] at k0
  have HLB := hid hLB
  clear hLB
  have hq1 : -300000000 ≤ qq s := by omega
  have hq2 : qq s ≤ 300000000 := by omega
  have hi3 : 3 * i + 3 ≤ soft.length := by rw [HN.out]; omega
  have HT1 := hid (show (3 * (i : Int)).toNat = 3 * i by omega)
  have HT2 := hid (show (3 * (i : Int) + 3).toNat = 3 * i + 3 by omega)
  have HT3 := hid (show ¬ c = 3 * i by omega)
  have HT4 := hid (show 3 * i + 3 - 3 * i = 3 by omega)
  have z1 : (0 : Int) ≤ (s : Int) := by omega
  have z2 : (s : Int) < 64 := by omega
  have z3 : (0 : Int) ≤ 3 * (i : Int) := by omega
  have z4 : 3 * (i : Int) ≤ 3 * (i : Int) + 3 := by omega
  have z5 : 3 * (i : Int) + 3 ≤ (c : Int) := by omega
  have z6 : IntKind.i64.wrap (3 * (i : Int)) = 3 * (i : Int) := by simp [IntKind.wrap, IntKind.bits, IntKind.signed]; omega
  have z7 : IntKind.i64.wrap (3 * (i : Int) + 3) = 3 * (i : Int) + 3 := by simp [IntKind.wrap, IntKind.bits, IntKind.signed]; omega
  clear q1 q2 q3
  generalize hQ : qq s = q at *
  have HQ := hid hQ
  obtain ⟨G, hGe⟩ : ∃ G, G = gain soft i (s : Int) 0 := ⟨_, rfl⟩
  rw [← hGe] at hgn
  have HG := hid hGe
  clear hQ hGe
  have z8 : IntKind.i64.wrap (q + G) = q + G := by simp [IntKind.wrap, IntKind.bits, IntKind.signed]; omega
  have HKp := hid (show ∀ o : Obj, ((wc.alloc o).drew.cell? ⟨g, s * 3, none⟩ = some (.slice av LB cv) ∧ (wc.alloc o).drew.cell? ⟨g, s * 3 + 1, none⟩ = some (.int .i64 q) ∧ Rd .u8 (wc.alloc o).drew (some ⟨wr.heap.size + 1, 0, none⟩) [out0 s 0, out1 s 0, out2 s 0] ∧ Rd .i64 (wc.alloc o).drew (some ⟨b1, o1 + 3 * i, none⟩) [soft.getD (3 * i) 0, soft.getD (3 * i + 1) 0, soft.getD (3 * i + 2) 0]) from fun o => by
    have hx : Below wc.heap.size wc (wc.alloc o).drew := ((Below.refl _ wc).alloc (Nat.le_refl _) o).drew
    exact ⟨(hx.cell (World.block_lt_of_cell? wc _ k0)).trans k0, (hx.cell (World.block_lt_of_cell? wc _ k1)).trans k1, h3r.below hx, hsub.below hx⟩)
  have HTc := hid hTc
  have HNc := hid hNc
  have HH3 := hid h3
  have HBC := hid hbc
  have HBW := hid hbw
  have HBEL := hid hbel
  have HGG := hid hgg
  clear hTc hNc h3 hbc hbw hbel hgg hb1
  go_upto_region 18 with fail
  go_cut [12] from 39 to 213 (fun t12 wx => t12 = .pointer (some ⟨wc.heap.size, 0, none⟩) ∧ wx = (wc.alloc (.cells #[.slice av LB cv, .int .i64 (q + G), .bool true] 166)).drew)
  case first =>
    go_region_held3 (fun w' => w'.cell? ⟨g, s * 3, none⟩ = some (.slice av LB cv) ∧ w'.cell? ⟨g, s * 3 + 1, none⟩ = some (.int .i64 q) ∧ Rd .u8 w' (some ⟨wr.heap.size + 1, 0, none⟩) [out0 s 0, out1 s 0, out2 s 0] ∧ Rd .i64 w' (some ⟨b1, o1 + 3 * i, none⟩) [soft.getD (3 * i) 0, soft.getD (3 * i + 1) 0, soft.getD (3 * i + 2) 0]) (first | exact ⟨k0, k1, h3r, hsub⟩ | exact HKp.out _) (first | (go_at_call 119; rw [HT1.out, HT2.out, if_neg HT3.out, HT4.out]; refine (three_any soft i s 0 _ _ _ _ _ (by first | exact h3r | exact (HKp.out _).2.2.1) (by first | exact hsub | exact (HKp.out _).2.2.2) HSS.out).mono ?_; rintro e w' ⟨rfl, rfl⟩; rw [← HG.out]))
    all_goals (go_wp2_with fail; go_meet; exact ⟨rfl, rfl⟩)
  case rest =>
    obtain ⟨rfl, rfl⟩ := hcut
    have hGw : (wc.alloc (.cells #[.slice av LB cv, .int .i64 (q + G), .bool true] 166)).drew.heap[wc.heap.size]? = some (.cells #[.slice av LB cv, .int .i64 (q + G), .bool true] 166 (0, 0)) := heap_alloc_new wc _
    have hbd : Below wc.heap.size wc (wc.alloc (.cells #[.slice av LB cv, .int .i64 (q + G), .bool true] 166)).drew := ((Below.refl _ wc).alloc (Nat.le_refl _) _).drew
    have hszd : wc.heap.size < (wc.alloc (.cells #[.slice av LB cv, .int .i64 (q + G), .bool true] 166)).drew.heap.size := by show wc.heap.size < (wc.heap.push _).size; simp
    generalize (wc.alloc (.cells #[.slice av LB cv, .int .i64 (q + G), .bool true] 166)).drew = wd at *
    obtain ⟨gw, hgw⟩ : ∃ gw, gw = wc.heap.size := ⟨_, rfl⟩
    rw [← hgw] at hGw hszd ⊢
    have HGW := hid hgw
    have hownb : Own wd w.heap.size (.slice av LB cv) (bb s) := by have := (HTc.out.own s hs4).below hbd; rw [HVS.out, ← HLB.out] at this; exact this
    have w0 : wd.cell? ⟨gw, 0, none⟩ = some (.slice av LB cv) := by rw [cell_of_row _ _ _ _ _ _ hGw]; rfl
    have f0 : wd.frozen? ⟨gw, 0, none⟩ = false := frozen_of_row wd gw 0 _ 166 hGw
    clear hgw k0 k1 h3r hsub HKp z3 z4 z5 z6 z7 HT1 HT2 HT3 HT4
    have hnb := hid (newB_len n i 0 (bb s) HB3.out)
    have hLBm : (bb s).length ≤ 400 := by rw [HB3.out]; omega
    go_wp2_with (first | (at_builtin; refine wpList_cat (M := bb s) wd.heap.size wd (Own.nil _ _) hownb.rd rfl _ _ rfl rfl cv (by rw [← HLB.out]; rfl) (by simp; omega) (Below.refl _ _) (Nat.le_refl _) ?_; intro v1 w1 hown1 hbel1; rw [List.nil_append] at hown1) | (at_builtin; refine wpList_push wd.heap.size wd 0 hown1 rfl _ _ rfl rfl rfl (by omega) hbel1 hbel1.size ?_; intro v2 w2 hown2 hbel2; clear hown1 hbel1; obtain ⟨a2, c2, rfl, _, _, _⟩ := hown2.shape; have w02 := (hbel2.cell (p := ⟨gw, 0, none⟩) hszd).trans w0; have f02 := (hbel2.frozen (p := ⟨gw, 0, none⟩) hszd).trans f0))
    have hGe : (w2.setCell ⟨gw, 0, none⟩ (.slice a2 ((bb s).length + 1) c2)).heap[gw]? = some (.cells #[.slice a2 ((bb s).length + 1) c2, .int .i64 (q + G), .bool true] 166 (0, 0)) := heap_setCell_same w2 gw 0 _ 166 _ ((hbel2.block gw hszd).trans hGw)
    have hszB : w.heap.size ≤ wd.heap.size := by have h1 := HBW.out.size; have h2 := hbd.size; omega
    have hownE : Own (w2.setCell ⟨gw, 0, none⟩ (.slice a2 ((bb s).length + 1) c2)) w.heap.size (.slice a2 ((bb s).length + 1) c2) (newB n i 0 (bb s)) := by
      have h1 := (hown2.off (p := ⟨gw, 0, none⟩) hszd (.slice a2 ((bb s).length + 1) c2)).mono hszB
      rw [List.length_append] at h1
      unfold newB
      rw [if_pos hi2]
      exact h1
    have hbE : Below wc.heap.size wc (w2.setCell ⟨gw, 0, none⟩ (.slice a2 ((bb s).length + 1) c2)) := (hbd.trans (hbel2.mono (by have := hbd.size; omega))).setCell (p := ⟨gw, 0, none⟩) (by rw [HGW.out]; exact Nat.le_refl _) _
    clear hown2 hbel2 w02 f02 w0 f0 hGw hbd hszd hszB hownb hLBm
    generalize w2.setCell ⟨gw, 0, none⟩ (.slice a2 ((bb s).length + 1) c2) = wE at *
    generalize (bb s).length + 1 = L2 at *
    have hTe := HTc.out.below hbE
    have hNe := HNc.out.below hbE
    obtain ⟨T0, hT0⟩ : ∃ T0 : Nat, T0 = 0 * 32 + s / 2 := ⟨_, rfl⟩
    have hT64 : T0 < 64 := by omega
    rw [show ((s : Int) / 2 : Int) = (T0 : Int) by omega]
    have HT0e := hid hT0
    clear hT0
    obtain ⟨n0, n1, n2⟩ := hNe.row.cell hT64
    rw [Nat.mul_comm 3 T0] at n0 n1 n2
    obtain ⟨an, cn, hvn, _, _, _⟩ := (hNe.own T0 hT64).shape
    have hownN : Own wE w.heap.size (.slice an (bb' T0).length cn) (bb' T0) := by have := hNe.own T0 hT64; rw [hvn] at this; exact this
    rw [hvn] at n0
    have e0 : wE.cell? ⟨gw, 0, none⟩ = some (.slice a2 L2 c2) := by rw [cell_of_row _ _ _ _ _ _ hGe]; rfl
    have e1 : wE.cell? ⟨gw, 1, none⟩ = some (.int .i64 (q + G)) := by rw [cell_of_row _ _ _ _ _ _ hGe]; rfl
    obtain ⟨NB, hNB⟩ : ∃ NB, NB = newB n i 0 (bb s) := ⟨_, rfl⟩
    rw [← hNB] at hownE hnb
    have HNB := hid hNB
    have hL2 : NB.length = L2 := by
      obtain ⟨_, _, h2, _⟩ := hownE.shape
      simp only [Value.slice.injEq] at h2
      exact h2.2.1.symm
    have HL2 := hid hL2
    have HLn : tt' T0 = true → (bb' T0).length = NB.length := fun h => by rw [table_len HN0.out hT64 h, hnb.out]
    have HLN := hid HLn
    have HHTE := hid hTe
    have HHNE := hid hNe
    have HBE := hid hbE
    have HGE := hid hGe
    have y1 : (0 : Int) ≤ (T0 : Int) := by omega
    have y2 : (T0 : Int) < 64 := by omega
    clear hNB hL2 HLn hTe hNe hbE hGe hvn
    generalize hQn : qq' T0 = qn at *
    generalize hTn : tt' T0 = tn at *
    generalize hLn : (bb' T0).length = ln at *
    have HLnn := hid hLn
    have HQnn := hid hQn
    have HTnn := hid hTn
    clear hLn hQn hTn
    go_cut [209] from 39 to 213 (fun t wx => t = .bool (taken tn qn (q + G) (bb' T0) NB) ∧ ∃ m, wx = wE.drewN m)
    case first =>
      cases tn with
      | false =>
        have ht : taken false qn (q + G) (bb' T0) NB = true := by simp [taken]
        have HAT := hid ht
        clear ht
        go_quiet (fail)
        go_wp2
        go_meet
        exact ⟨by rw [HAT.out], _, rfl⟩
      | true =>
        by_cases c1 : qn < q + G
        · have ht : taken true qn (q + G) (bb' T0) NB = true := by simp [taken, c1]
          have d1 : decide (qn < q + G) = true := decide_eq_true c1
          have HAT := hid ht
          clear ht
          go_quiet (fail)
          go_wp2
          go_meet
          exact ⟨by rw [HAT.out], _, rfl⟩
        · have d1 : decide (qn < q + G) = false := decide_eq_false c1
          by_cases c2 : q + G = qn
          · have ht : taken true qn (q + G) (bb' T0) NB = ahead NB (bb' T0) := by simp [taken, c2]
            have d2 : (q + G == qn) = true := by simpa using c2
            have HAH := hid ht
            have hNl : NB.length ≤ 400 := by rw [hnb.out]; omega
            have hln2 := hid (HLN.out rfl)
            have hrN := hownE.rd
            have hrB := hownN.rd
            clear ht
            go_quiet ((go_at_call 120; refine Calls.quiet_of (rahead_quiet NB (bb' T0) _ _ _ _ _ _ _ (by exact hrN) (by exact hrB) (by unfold maxLen; omega) (by rw [HLnn.out]; exact hln2.out) HL2.out HLnn.out)))
            go_wp2
            go_meet
            exact ⟨by rw [HAH.out], _, rfl⟩
          · have ht : taken true qn (q + G) (bb' T0) NB = false := by simp [taken, c1, c2]
            have d2 : (q + G == qn) = false := by simpa using c2
            have HAT := hid ht
            clear ht
            go_quiet (fail)
            go_wp2
            go_meet
            exact ⟨by rw [HAT.out], _, rfl⟩
    case rest =>
      obtain ⟨rfl, m, rfl⟩ := hcut
      have hbm : Below wE.heap.size wE (wE.drewN m) := below_drewN (Below.refl _ _) m
      have hT2 := HHTE.out.below hbm
      have hN2 := HHNE.out.below hbm
      have hown2 := hownE.below hbm
      have hb2 := (bthen HBW.out HBE.out).trans (hbm.mono (by have h1 := HBW.out.size; have h2 := HBE.out.size; omega))
      have HQe := hid (show q + G = newQ soft i s 0 (qq s) by rw [HG.out, ← HQ.out]; rfl)
      have HGE2 : (wE.drewN m).heap[gw]? = some (.cells #[.slice a2 L2 c2, .int .i64 (q + G), .bool true] 166 (0, 0)) := HGE.out
      cases htk : taken tn qn (q + G) (bb' T0) NB with
      | false =>
        have hkp := table_keep hT2 hs4 HTT.out (x := 0) (by omega) (by omega) hN2 (by rw [← HT0e.out, HTnn.out, HQnn.out, ← HQe.out, ← HNB.out]; exact htk)
        have HT2 := hid hT2
        have HKP := hid hkp
        have HB2 := hid hb2
        clear hT2 hN2 hown2 hkp hb2 hbm n0 n1 n2 e0 e1 htk HGE2
        go_wp2
        exact HK.out _ _ _ _ _ _ _ _ _ _ _ _ _ _ _ _ _ _ _ _ _ _ _ _ _ _ _ _ _ _ _ _ _ _ _ _ _ _ _ _ _ _ _ _ _ _ _ _ _ _ _ _ _ _ _ _ _ _ _ _ _ _ _ _ _ _ _ _ _ _ _ _ _ _ _ _ _ _ _ _ _ _ _ _ _ _ _ _ _ _ _ _ _ _ _ _ _ _ _ _ _ _ _ _ _ _ _ _ _ _ _ _ _ _ _ _ _ _ _ _ _ _ _ _ _ _ _ _ _ _ _ _ _ _ _ _ _ _ _ _ _ _ _ _ _ _ _ _ _ _ _ _ _ _ _ _ _ _ _ _ _ _ _ _ _ _ _ _ _ _ _ _ _ _ _ _ _ _ _ _ _ _ _ _ HT2.out HKP.out HB2.out
      | true =>
        obtain ⟨vv2, qq2, tt2, bb2, t1, t2, t3⟩ := take_all (T0 := T0) (Q := q + G) hT2 hs4 HTT.out (x := 0) (by omega) (by omega) hN2 (Nat.ne_of_lt HGG.out) HT0e.out HQe.out (by rw [HTnn.out, HQnn.out, ← HNB.out]; exact htk) (by rw [← HNB.out]; exact hown2) hb2
        have hth : (wE.drewN m).there g' (T0 * 3) 3 := by
          intro j hj
          refine ⟨?_, hN2.row.free _⟩
          obtain ⟨p0, p1, p2⟩ := hN2.row.cell hT64
          rw [Nat.mul_comm 3 T0] at p0 p1 p2
          rcases (show j = 0 ∨ j = 1 ∨ j = 2 by omega) with rfl | rfl | rfl
          · rw [Nat.add_zero, p0]; rfl
          · rw [p1]; rfl
          · rw [p2]; rfl
        have HT1 := hid t1
        have HT2 := hid t2
        have HB2 := hid t3
        clear hT2 hN2 hown2 hb2 hbm n0 n1 n2 e0 e1 htk t1 t2 t3
        go_wp2_with (first
          | (refine wpList_load_row rfl 166 (.tmp 12) rfl gw rfl 166 #[.slice a2 L2 c2, .int .i64 (q + G), .bool true] (0, 0) _ HGE2 Tryz.underlying166 rfl Tryz.size54 ?_)
          | (refine wpList_store_mid rfl 166 (.tmp 213) (.tmp 212) rfl g' (T0 * 3) #[.slice a2 L2 c2, .int .i64 (q + G), .bool true] rfl rfl hth Tryz.size54 (by simp [Value.oneCell']) ?_))
        exact HK.out _ _ _ _ _ _ _ _ _ _ _ _ _ _ _ _ _ _ _ _ _ _ _ _ _ _ _ _ _ _ _ _ _ _ _ _ _ _ _ _ _ _ _ _ _ _ _ _ _ _ _ _ _ _ _ _ _ _ _ _ _ _ _ _ _ _ _ _ _ _ _ _ _ _ _ _ _ _ _ _ _ _ _ _ _ _ _ _ _ _ _ _ _ _ _ _ _ _ _ _ _ _ _ _ _ _ _ _ _ _ _ _ _ _ _ _ _ _ _ _ _ _ _ _ _ _ _ _ _ _ _ _ _ _ _ _ _ _ _ _ _ _ _ _ _ _ _ _ _ _ _ _ _ _ _ _ _ _ _ _ _ _ _ _ _ _ _ _ _ _ _ _ _ _ _ _ _ _ _ _ _ _ _ _ HT1.out HT2.out HB2.out
end Go.Proofs.YtplkmkbambbemadGreatDoor
