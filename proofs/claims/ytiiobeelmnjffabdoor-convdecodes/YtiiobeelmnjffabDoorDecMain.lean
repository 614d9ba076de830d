import Derived.Test.YtiiobeelmnjffabDoorDecB11
import Derived.Test.YtiiobeelmnjffabDoorDecB01
import Derived.Test.YtiiobeelmnjffabDoorDecB00
namespace Go.Proofs.YtiiobeelmnjffabDoor
open Go.ChangeShapes Go.WideShapes Go.ChangeAt Go.RowKit

set_option maxRecDepth 100000 in
set_option maxHeartbeats 4000000 in
theorem rdecode_any (soft : List Int) (n : Nat) (a : Option Addr) (c : Nat) (w : World) (ha : Rd .i64 w a soft) (hs : ∀ k, -100000 ≤ soft.getD k 0 ∧ soft.getD k 0 ≤ 100000) (hn : soft.length = 3 * (n + 6)) (hn4 : n ≤ 400) (hcap : soft.length ≤ c) :
    Calls Tryd.prog 15 #[.slice a soft.length c] w fun e w' => ∃ v, e = .returned (.tuple #[v, .int .i64 (top soft n 0 0)]) ∧ Own w' w.heap.size v (way soft n 0 0) ∧ Below w.heap.size w w' := by
  have e1 : (soft.length : Int).tdiv 3 = n + 6 := by
    rw [hn, Int.tdiv_eq_ediv_of_nonneg (by omega)]
    omega
  have e2 : (n : Int) + 6 - 6 = n := by omega
  have e3 : (soft.length : Int) ≤ 2000 := by omega
  have HN := hid hn
  clear hn
  go_enter Tryd.func15, Tryd.ntmps15
  go_wp2_with (first | (at_make; refine wpList_makeWays rfl _ _ rfl rfl rfl ?_))
  intro w1 hrow hb1 hsz
  have hc0 := (hrow.cell (s := 0) (by omega)).2.2
  have hf0 := hrow.free (3 * 0 + 2)
  have hrow' := hrow.set2 (s := 0) (by omega) true
  have hb1' := hb1.setCell (p := ⟨w.heap.size, 3 * 0 + 2, none⟩) (Nat.le_refl _) (.bool true)
  go_wp2
  generalize w1.setCell { block := w.heap.size, off := 3 * 0 + 2 } (Value.bool true) = w2 at *
  clear hc0 hf0 hrow hb1 hsz
  have hT := table_first (n := n) (soft := soft) hrow'
  go_loopw [5, 6] (fun t5 t6 wr => ∃ (i g : Nat) (vv : Nat → Value) (qq : Nat → Int) (tt : Nat → Bool) (bb : Nat → List Int), i ≤ n + 6 ∧ t6 = .int .i64 i ∧ t5 = .slice (some ⟨g, 0, none⟩) 64 64 ∧ Table wr w.heap.size g n soft (fun s => At n i s) vv qq tt bb ∧ Below w.heap.size w wr) (fun _ t6 _ => n + 6 - (intOf t6).toNat)
  case atStart => exact ⟨0, w.heap.size, _, _, _, _, by omega, rfl, rfl, hT, hb1'⟩
  case round =>
    clear hT hb1' hrow'
    obtain ⟨i, g, vv, qq, tt, bb, hi, rfl, rfl, hT, hbel⟩ := hrel
    by_cases hlt : i < n + 6
    · have hd : decide ((i : Int) < (n : Int) + 6) = true := decide_eq_true (by omega)
      go_wp2_with (first | (at_make; refine wpList_makeWays rfl _ _ rfl rfl rfl ?_))
      intro w3 hrow3 hb3 hsz3
      have hT3 : Table w3 w.heap.size g n soft (fun s => At n i s) vv qq tt bb := hT.below hb3
      have hN3 : Table w3 w.heap.size wr.heap.size n soft (fun s => Sofar n i ((2 * 0 : Nat) + (0 : Nat)) s) (fun _ => .slice none 0 0) (fun _ => 0) (fun _ => false) (fun _ => []) := table_new hrow3 hbel.size
      have hbel3 : Below w.heap.size w w3 := hbel.trans (hb3.mono hbel.size)
      have hgg : g < wr.heap.size := hT.row.lt
      obtain ⟨g', hg'⟩ : ∃ g', g' = wr.heap.size := ⟨_, rfl⟩
      rw [← hg'] at hN3 hgg hrow3 ⊢
      clear hg' hrow3 hb3 hsz3 hT hbel
      go_wp2
      go_loopw [8] (fun t8 wr => ∃ (s : Nat) (vv' : Nat → Value) (qq' : Nat → Int) (tt' : Nat → Bool) (bb' : Nat → List Int), s ≤ 64 ∧ t8 = .int .i64 s ∧ Table wr w.heap.size g n soft (fun s => At n i s) vv qq tt bb ∧ Table wr w.heap.size g' n soft (fun t => Sofar n i ((2 * s : Nat) + (0 : Nat)) t) vv' qq' tt' bb' ∧ Below w.heap.size w wr) (fun t8 _ => 64 - (intOf t8).toNat)
      case atStart => exact ⟨0, _, _, _, _, by omega, rfl, hT3, hN3, hbel3⟩
      case round =>
        clear hT3 hN3 hbel3
        obtain ⟨s, vv', qq', tt', bb', hs64, rfl, hT, hN, hbel⟩ := hrel
        by_cases hs4 : s < 64
        · have hd2 : decide ((s : Int) < 64) = true := decide_eq_true (by omega)
          obtain ⟨hcs0, hcs1, hcs2⟩ := hT.row.cell hs4
          rw [Nat.mul_comm 3 s] at hcs0 hcs1 hcs2
          cases htt : tt s with
          | false =>
            rw [htt] at hcs2
            go_wp2
            have hskip := table_skip hN ((hT.ent s hs4).1 htt)
            go_roundw
            case rel => first | exact ⟨s + 1, _, _, _, _, by omega, by go_num, hT, hskip, hbel⟩ | ((repeat apply Exists.intro); exact ⟨⟨s + 1, _, _, _, _, by omega, by go_num, hT, hskip, hbel⟩, rfl⟩)
            case measure => simp [intOf]; omega
          | true =>
            rw [htt] at hcs2
            clear hcs0 hcs1
            go_wp2
            clear hcs2
            go_loopw [9] (fun t9 wr => ∃ (x : Nat) (vv' : Nat → Value) (qq' : Nat → Int) (tt' : Nat → Bool) (bb' : Nat → List Int), x ≤ 2 ∧ t9 = .int .i64 x ∧ Table wr w.heap.size g n soft (fun s => At n i s) vv qq tt bb ∧ Table wr w.heap.size g' n soft (fun t => Sofar n i ((2 * s : Nat) + (x : Nat)) t) vv' qq' tt' bb' ∧ Below w.heap.size w wr) (fun t9 _ => 2 - (intOf t9).toNat)
            case atStart => exact ⟨0, _, _, _, _, by omega, rfl, hT, hN, hbel⟩
            case round =>
              clear hT hN hbel
              obtain ⟨x, vv', qq', tt', bb', hx2, rfl, hT, hN, hbel⟩ := hrel
              by_cases hx : x < 2
              · have hd3 : decide ((x : Int) < 2) = true := decide_eq_true (by omega)
                by_cases hidle : x = 1 ∧ n ≤ i
                · obtain ⟨rfl, hni⟩ := hidle
                  have hd4 : decide ((n : Int) ≤ (i : Int)) = true := decide_eq_true (by omega)
                  go_wp2
                  have hskip := table_idle hN (by omega) (.inr ⟨hni, rfl⟩)
                  go_roundw
                  case rel => first | exact ⟨2, _, _, _, _, by omega, by go_num, hT, hskip, hbel⟩ | ((repeat apply Exists.intro); exact ⟨⟨2, _, _, _, _, by omega, by go_num, hT, hskip, hbel⟩, rfl⟩)
                  case measure => simp [intOf]
                · rcases (show x = 0 ∨ x = 1 by omega) with rfl | rfl
                  · by_cases hi2 : i < n
                    · skip
                      refine dec_body01 soft n a c w wr g g' i s vv vv' qq qq' tt tt' bb bb' _ _ ha hs HN.out hn4 hcap hlt hs4 hi2 hgg htt hT hN hbel _ _ _ _ _ _ _ _ _ _ _ _ _ _ _ _ _ _ _ _ _ _ _ _ _ _ _ _ _ _ _ _ _ _ _ _ _ _ _ _ _ _ _ _ _ _ _ _ _ _ _ _ _ _ _ _ _ _ _ _ _ _ _ _ _ _ _ _ _ _ _ _ _ _ _ _ _ _ _ _ _ _ _ _ _ _ _ _ _ _ _ _ _ _ _ _ _ _ _ _ _ _ _ _ _ _ _ _ _ _ _ _ _ _ _ _ _ _ _ _ _ _ _ _ _ _ _ _ _ _ _ _ _ _ _ _ _ _ _ _ _ _ _ _ _ _ _ _ _ _ _ _ _ _ _ _ _ _ _ _ _ _ _ _ _ _ _ _ _ _ _ _ _ _ _ _ _ _ _ _ _ _ _ _ _ _ _ _ _ _ _ _ _ _ _ _ _ _ _ _ _ _ _ _ _ _ _ _ _ _ _ _ _ _ _ _ ?_
                      intro v10 v11 v12 v13 v39 v40 v41 v42 v43 v44 v45 v46 v47 v48 v49 v50 v51 v52 v53 v54 v55 v56 v57 v58 v59 v60 v61 v62 v63 v64 v65 v66 v67 v68 v69 v70 v71 v72 v73 v74 v75 v76 v77 v78 v79 v80 v81 v82 v83 v84 v85 v86 v87 v88 v89 v90 v91 v92 v93 v94 v95 v96 v97 v98 v99 v100 v101 v102 v103 v104 v105 v106 v107 v108 v109 v110 v111 v112 v113 v114 v115 v116 v117 v118 v119 v120 v121 v122 v123 v124 v125 v126 v127 v128 v129 v130 v131 v132 v133 v134 v135 v136 v137 v138 v139 v140 v141 v142 v143 v144 v145 v146 v147 v148 v149 v150 v151 v152 v153 v154 v155 v156 v157 v158 v159 v160 v161 v162 v163 v164 v165 v166 v167 v168 v169 v170 v171 v172 v173 v174 v175 v176 v177 v178 v179 v180 v181 v182 v183 v184 v185 v186 v187 v188 v189 v190 v191 v192 v193 v194 v195 v196 v197 v198 v199 v200 v201 v202 v203 v204 v205 v206 v207 v208 v209 v210 v211 v212 v213 w' vv2 qq2 tt2 bb2 hT2 hN2 hb2
                      refine ⟨?_, ?_⟩
                      · (repeat apply Exists.intro)
                        exact ⟨⟨0 + 1, vv2, qq2, tt2, bb2, by omega, rfl, hT2, hN2, hb2⟩, rfl⟩
                      · simp [intOf]
                    · replace hi2 : n ≤ i := by omega
                      refine dec_body00 soft n a c w wr g g' i s vv vv' qq qq' tt tt' bb bb' _ _ ha hs HN.out hn4 hcap hlt hs4 hi2 hgg htt hT hN hbel _ _ _ _ _ _ _ _ _ _ _ _ _ _ _ _ _ _ _ _ _ _ _ _ _ _ _ _ _ _ _ _ _ _ _ _ _ _ _ _ _ _ _ _ _ _ _ _ _ _ _ _ _ _ _ _ _ _ _ _ _ _ _ _ _ _ _ _ _ _ _ _ _ _ _ _ _ _ _ _ _ _ _ _ _ _ _ _ _ _ _ _ _ _ _ _ _ _ _ _ _ _ _ _ _ _ _ _ _ _ _ _ _ _ _ _ _ _ _ _ _ _ _ _ _ _ _ _ _ _ _ _ _ _ _ _ _ _ _ _ _ _ _ _ _ _ _ _ _ _ _ _ _ _ _ _ _ _ _ _ _ _ _ _ _ _ _ _ _ _ _ _ _ _ _ _ _ _ _ _ _ _ _ _ _ _ _ _ _ _ _ _ _ _ _ _ _ _ _ _ _ _ _ _ _ _ _ _ _ _ _ _ _ _ _ _ ?_
                      intro v10 v11 v12 v13 v39 v40 v41 v42 v43 v44 v45 v46 v47 v48 v49 v50 v51 v52 v53 v54 v55 v56 v57 v58 v59 v60 v61 v62 v63 v64 v65 v66 v67 v68 v69 v70 v71 v72 v73 v74 v75 v76 v77 v78 v79 v80 v81 v82 v83 v84 v85 v86 v87 v88 v89 v90 v91 v92 v93 v94 v95 v96 v97 v98 v99 v100 v101 v102 v103 v104 v105 v106 v107 v108 v109 v110 v111 v112 v113 v114 v115 v116 v117 v118 v119 v120 v121 v122 v123 v124 v125 v126 v127 v128 v129 v130 v131 v132 v133 v134 v135 v136 v137 v138 v139 v140 v141 v142 v143 v144 v145 v146 v147 v148 v149 v150 v151 v152 v153 v154 v155 v156 v157 v158 v159 v160 v161 v162 v163 v164 v165 v166 v167 v168 v169 v170 v171 v172 v173 v174 v175 v176 v177 v178 v179 v180 v181 v182 v183 v184 v185 v186 v187 v188 v189 v190 v191 v192 v193 v194 v195 v196 v197 v198 v199 v200 v201 v202 v203 v204 v205 v206 v207 v208 v209 v210 v211 v212 v213 w' vv2 qq2 tt2 bb2 hT2 hN2 hb2
                      refine ⟨?_, ?_⟩
                      · (repeat apply Exists.intro)
                        exact ⟨⟨0 + 1, vv2, qq2, tt2, bb2, by omega, rfl, hT2, hN2, hb2⟩, rfl⟩
                      · simp [intOf]
                  · have hi2 : i < n := by omega
                    refine dec_body11 soft n a c w wr g g' i s vv vv' qq qq' tt tt' bb bb' _ _ ha hs HN.out hn4 hcap hlt hs4 hi2 hgg htt hT hN hbel _ _ _ _ _ _ _ _ _ _ _ _ _ _ _ _ _ _ _ _ _ _ _ _ _ _ _ _ _ _ _ _ _ _ _ _ _ _ _ _ _ _ _ _ _ _ _ _ _ _ _ _ _ _ _ _ _ _ _ _ _ _ _ _ _ _ _ _ _ _ _ _ _ _ _ _ _ _ _ _ _ _ _ _ _ _ _ _ _ _ _ _ _ _ _ _ _ _ _ _ _ _ _ _ _ _ _ _ _ _ _ _ _ _ _ _ _ _ _ _ _ _ _ _ _ _ _ _ _ _ _ _ _ _ _ _ _ _ _ _ _ _ _ _ _ _ _ _ _ _ _ _ _ _ _ _ _ _ _ _ _ _ _ _ _ _ _ _ _ _ _ _ _ _ _ _ _ _ _ _ _ _ _ _ _ _ _ _ _ _ _ _ _ _ _ _ _ _ _ _ _ _ _ _ _ _ _ _ _ _ _ _ _ _ _ _ ?_
                    intro v10 v11 v12 v13 v39 v40 v41 v42 v43 v44 v45 v46 v47 v48 v49 v50 v51 v52 v53 v54 v55 v56 v57 v58 v59 v60 v61 v62 v63 v64 v65 v66 v67 v68 v69 v70 v71 v72 v73 v74 v75 v76 v77 v78 v79 v80 v81 v82 v83 v84 v85 v86 v87 v88 v89 v90 v91 v92 v93 v94 v95 v96 v97 v98 v99 v100 v101 v102 v103 v104 v105 v106 v107 v108 v109 v110 v111 v112 v113 v114 v115 v116 v117 v118 v119 v120 v121 v122 v123 v124 v125 v126 v127 v128 v129 v130 v131 v132 v133 v134 v135 v136 v137 v138 v139 v140 v141 v142 v143 v144 v145 v146 v147 v148 v149 v150 v151 v152 v153 v154 v155 v156 v157 v158 v159 v160 v161 v162 v163 v164 v165 v166 v167 v168 v169 v170 v171 v172 v173 v174 v175 v176 v177 v178 v179 v180 v181 v182 v183 v184 v185 v186 v187 v188 v189 v190 v191 v192 v193 v194 v195 v196 v197 v198 v199 v200 v201 v202 v203 v204 v205 v206 v207 v208 v209 v210 v211 v212 v213 w' vv2 qq2 tt2 bb2 hT2 hN2 hb2
                    refine ⟨?_, ?_⟩
                    · (repeat apply Exists.intro)
                      exact ⟨⟨1 + 1, vv2, qq2, tt2, bb2, by omega, rfl, hT2, hN2, hb2⟩, rfl⟩
                    · simp [intOf]
              · obtain rfl : x = 2 := by omega
                go_wp2
                have hskip := table_turn hN
                go_roundw
                case rel => first | exact ⟨s + 1, _, _, _, _, by omega, by go_num, hT, hskip, hbel⟩ | ((repeat apply Exists.intro); exact ⟨⟨s + 1, _, _, _, _, by omega, by go_num, hT, hskip, hbel⟩, rfl⟩)
                case measure => simp [intOf]; omega
        · obtain rfl : s = 64 := by omega
          go_wp2
          have hend := table_end hN
          go_roundw
          case rel => first | exact ⟨i + 1, g', _, _, _, _, by omega, by go_num, rfl, hend, hbel⟩ | ((repeat apply Exists.intro); exact ⟨⟨i + 1, g', _, _, _, _, by omega, by go_num, rfl, hend, hbel⟩, rfl⟩)
          case measure => simp [intOf]; omega
    · obtain rfl : i = n + 6 := by omega
      obtain ⟨hl1, hl2⟩ := table_last hT
      obtain ⟨hcs0, hcs1, hcs2⟩ := hT.row.cell (s := 0) (by omega)
      rw [hl2] at hcs1
      clear hcs2
      have HB := hid hbel
      have HL := hid hl1
      clear hT hl1 hl2 hbel
      go_wp2_with fail
      go_quiet (fail)
      go_wp2
      go_ret2
      exact ⟨_, rfl, HL.out.below (below_drewN (Below.refl _ _) _), below_drewN HB.out _⟩
end Go.Proofs.YtiiobeelmnjffabDoor
