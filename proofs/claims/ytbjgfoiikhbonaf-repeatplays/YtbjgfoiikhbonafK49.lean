import Derived.Test.YtbjgfoiikhbonafK48
set_option linter.unusedVariables false
set_option linter.unusedSimpArgs false
namespace Go.Proofs.Ytbjgfoiikhbonaf
open Go.ChangeShapes Go.WideShapes Go.ChangeAt Go.RowKit
/-- The list that says which units have a gap. -/
def GapAt (w : World) (ga : Option Addr) (d : Nat) (f : Nat → Bool) : Prop := ∀ i, i < d → ∃ gg, ga = some ⟨gg, 0, none⟩ ∧ w.cell? ⟨gg, i, none⟩ = some (.bool (f i)) ∧ w.frozen? ⟨gg, i, none⟩ = false
theorem filterMap_set {us : List UoP} {x : UoP} : ∀ {i : Nat}, i < us.length → x.mv = (us.getD i .zero).mv → (us.set i x).filterMap (·.mv.ownBlock) = us.filterMap (·.mv.ownBlock) := by
  induction us with
  | nil => intro i h; simp at h
  | cons y us ih =>
    intro i h e
    cases i with
    | zero =>
      have e : x.mv = y.mv := e
      simp [List.filterMap_cons, e]
    | succ i =>
      have := ih (i := i) (by simpa using h) e
      simp only [List.set_cons_succ, List.filterMap_cons, this]
theorem outF_set {b : Nat} {ua : Option Addr} {us : List UoP} {x : UoP} {i : Nat} (h : i < us.length) (e : x.mv = (us.getD i .zero).mv) : outF b ua (us.set i x) = outF b ua us := by
  unfold outF
  rw [filterMap_set h e]
theorem POut.finish {w W : World} {b win bg g c i : Nat} {us : List UoP} (h : POut w b win bg (some ⟨g, 0, none⟩) c us) (hk : Kept [] w W) (hi : i < us.length) : POut (W.setCell ⟨g, i * 3 + 2, none⟩ (.bool true)) b win bg (some ⟨g, 0, none⟩) c (us.set i { us.getD i .zero with dn := true }) := by
  have hne : ∀ g', (us.getD i .zero).mv.ownBlock = some g' → g' ≠ g := fun g' hg' => (h.na i hi g' hg').2 _ rfl
  refine h.upd (f := 2) (S := []) (v := .bool true) hi (by omega) (PtrPost.store hk (by simp)) (by simp) rfl ?_ (fun g' hg' => .inl hg')
  have hk2 : Kept [g] w (W.setCell ⟨g, i * 3 + 2, none⟩ (.bool true)) := (hk.wider (by simp)).setCell (by simp) _
  exact keptOwn (h.ag i hi) hk2 (fun g' hg' => by simpa using hne g' hg')
set_option linter.unusedVariables false in
set_option maxRecDepth 1000000 in
set_option maxHeartbeats 4000000 in
theorem otk7 {wx : World} {b c d cg : Nat} {ua ga : Option Addr} {us : List UoP} {m : OutM} {gs : List GapM} {Q : Ending → World → Prop} (h : POut wx b m.win m.beg ua c us) (hm : OutR (m.gM gs) us) (ho : OrdM m) (hg : ∀ g ∈ gs, m.gapOk d g = true) (hd : m.beg + d ≤ m.n) (hd64 : d < 64) (hn : m.n ≤ manyO)
    (hga : GapAt wx ga d (fun i => hasGap m.beg gs (m.beg + i))) (hgF : ∀ y, ga = some y → y.block ∉ outF b ua us)
    (hQ : ∀ w' us', POut w' b m.win (m.taken d gs).beg ua c us' → outF b ua us' = outF b ua us → OutR (m.taken d gs) us' → Kept (outF b ua us) wx w' → Q (.returned (.int .i64 0)) w') (u1 u2 u3 u4 u6 u8 u9 u10 u11 u12 u13 u14 u15 u16 u17 u18 u19 u20 u21 u22 u23 u24 u25 u26 u27 u28 u29 u30 u31 u32 u33 u34 u35 u36 u37 u38 u39 u40 u41 u42 u43 u44 u45 u46 u47 u48 u49 u50 u51 u52 u53 u54 u55 u56 u57 u58 u59 u60 u61 u62 u63 u64 u65 u66 u67 u68 u69 u70 u71 u72 u73 u74 u75 u76 u77 u78 u79 u80 u81 u82 u83 u84 u85 u86 u87 u88 u89 u90 u91 u92 u93 u94 u95 u96 u97 u98 u99 u100 u101 u102 u103 u104 u105 u106 u107 u108 u109 u110 u111 u112 u113 u114 u115 u116 u117 u118 u119 u120 u121 u122 u123 u124 u125 u126 u127 u128 u129 u130 u131 u132 u133 u134 u135 u136 u137 u138 u139 u140 u141 u142 u143 u144 u145 u146 u147 u148 u149 u150 u151 u152 u153 u154 u155 u156 u157 u158 u159 u160 u161 u162 u163 u164 u165 u166 u167 u168 u169 u170 u171 u172 u173 u174 u175 u176 u177 u178 u179 u180 u181 u182 u183 u184 u185 u186 u187 u188 u189 u190 u191 u192 u193 u194 u195 u196 u197 u198 u199 u200 u201 u202 u203 u204 u205 u206 u207 u208 u209 u210 u211 u212 u213 u214 u215 u216 u217 u218 u219 u220 u221 u222 u223 u224 u225 u226 u227 u228 u229 u230 u231 u232 u233 u234 u235 u236 u237 u238 u239 u240 u241 u242 u243 u244 u245 u246 u247 u248 u249 u250 u251 u252 u253 u254 u255 u256 u257 u258 u259 u260 u261 u262 u263 u264 u265 u266 u267 u268 u269 u270 u271 u272 u273 u274 u275 u276 u277 u278 u279 u280 u281 u282 u283 u284 u285 u286 u287 u288 u289 u290 u291 u292 u293 u294 u295 u296 u297 u298 u299 u300 u301 u302 u303 u304 u305 u306 u307 u308 u309 u310 u311 u312 u313 u314 u315 u316 u317 u318 u319 u320 u321 u322 u323 u324 u325 u326 u327 u328 u329 u330 u331 u332 u333 u334 u335 u336 u337 u338 u339 u340 u341 u342 u343 u344 u345 u346 u347 u348 u349 u350 u351 u352 u353 u354 u355 u356 u357 u358 u359 u360 u361 u362 u363 u364 u365 u366 u367 u368 u369 : Value) :
    Code.wp Try.prog (tailAt 7 (Try.f23.body.getD .skip)) (bodyPost Try.prog Try.f23 Q) ⟨#[.pointer (some ⟨b, 0, none⟩), u1, u2, u3, u4, .int .i64 (d : Int), u6, .slice ga d cg, u8, u9, u10, u11, u12, u13, u14, u15, u16, u17, u18, u19, u20, u21, u22, u23, u24, u25, u26, u27, u28, u29, u30, u31, u32, u33, u34, u35, u36, u37, u38, u39, u40, u41, u42, u43, u44, u45, u46, u47, u48, u49, u50, u51, u52, u53, u54, u55, u56, u57, u58, u59, u60, u61, u62, u63, u64, u65, u66, u67, u68, u69, u70, u71, u72, u73, u74, u75, u76, u77, u78, u79, u80, u81, u82, u83, u84, u85, u86, u87, u88, u89, u90, u91, u92, u93, u94, u95, u96, u97, u98, u99, u100, u101, u102, u103, u104, u105, u106, u107, u108, u109, u110, u111, u112, u113, u114, u115, u116, u117, u118, u119, u120, u121, u122, u123, u124, u125, u126, u127, u128, u129, u130, u131, u132, u133, u134, u135, u136, u137, u138, u139, u140, u141, u142, u143, u144, u145, u146, u147, u148, u149, u150, u151, u152, u153, u154, u155, u156, u157, u158, u159, u160, u161, u162, u163, u164, u165, u166, u167, u168, u169, u170, u171, u172, u173, u174, u175, u176, u177, u178, u179, u180, u181, u182, u183, u184, u185, u186, u187, u188, u189, u190, u191, u192, u193, u194, u195, u196, u197, u198, u199, u200, u201, u202, u203, u204, u205, u206, u207, u208, u209, u210, u211, u212, u213, u214, u215, u216, u217, u218, u219, u220, u221, u222, u223, u224, u225, u226, u227, u228, u229, u230, u231, u232, u233, u234, u235, u236, u237, u238, u239, u240, u241, u242, u243, u244, u245, u246, u247, u248, u249, u250, u251, u252, u253, u254, u255, u256, u257, u258, u259, u260, u261, u262, u263, u264, u265, u266, u267, u268, u269, u270, u271, u272, u273, u274, u275, u276, u277, u278, u279, u280, u281, u282, u283, u284, u285, u286, u287, u288, u289, u290, u291, u292, u293, u294, u295, u296, u297, u298, u299, u300, u301, u302, u303, u304, u305, u306, u307, u308, u309, u310, u311, u312, u313, u314, u315, u316, u317, u318, u319, u320, u321, u322, u323, u324, u325, u326, u327, u328, u329, u330, u331, u332, u333, u334, u335, u336, u337, u338, u339, u340, u341, u342, u343, u344, u345, u346, u347, u348, u349, u350, u351, u352, u353, u354, u355, u356, u357, u358, u359, u360, u361, u362, u363, u364, u365, u366, u367, u368, u369], []⟩ wx := by
  conv => arg 2; whnf
  have hlen : us.length = m.n := hm.len
  have hn' : m.n ≤ 2000000000000 := hn
  have H := hid h
  have HM := hid hm
  have HO := hid ho
  have HG := hid hg
  have HQ := hid hQ
  have HGA := hid hga
  have HGF := hid hgF
  have HN0 := hid hn
  have HD0 := hid hd
  obtain ⟨N, hN⟩ : ∃ N, N = m.n := ⟨_, rfl⟩
  obtain ⟨G, hG⟩ : ∃ G, G = m.beg := ⟨_, rfl⟩
  rw [← hN] at hn' hd
  rw [← hG] at hd
  have HN := hid hN
  have HGG := hid hG
  clear h hm ho hg hQ hN hG hlen hn hga hgF
  go_upto_block 8 with fail
  go_cut [] from 6 (fun wy => ∃ us', Hid (POut wy b m.win m.beg ua c us' ∧ outF b ua us' = outF b ua us ∧ OutR (m.dM gs d) us' ∧ Kept (outF b ua us) wx wy))
  case first =>
    go_wp2_with fail
    go_loopw [16] (fun vi wr => ∃ (i : Nat) (us' : List UoP), i ≤ d ∧ vi = .int .i64 (i : Int) ∧ Hid (POut wr b m.win m.beg ua c us' ∧ outF b ua us' = outF b ua us ∧ OutR (m.dM gs i) us' ∧ Kept (outF b ua us) wx wr)) (fun vi _ => d - (intOf vi).toNat)
    case atStart => exact ⟨0, us, Nat.zero_le _, rfl, hid ⟨H.out, rfl, HM.out.done0, Kept.refl _ _⟩⟩
    case round =>
      obtain ⟨i, us', hi1, rfl, HS⟩ := hrel
      obtain ⟨wo, ewo⟩ : ∃ wo, wo = wr := ⟨_, rfl⟩
      subst ewo
      have hlen' : us'.length = N := by rw [HN.out]; exact HS.out.2.2.1.len
      obtain ⟨-, d1, d2⟩ := HS.out.1.head
      rw [hlen'] at d2
      rw [← HGG.out] at d1
      by_cases hid3 : i < d
      · obtain ⟨gg, ega, y1, -⟩ := HGA.out i hid3
        subst ega
        have y2 : wo.cell? ⟨gg, i, none⟩ = some (.bool (hasGap m.beg gs (G + i))) := by
          rw [HGG.out]
          exact keptCellQ HS.out.2.2.2 y1 (show gg ∉ _ from HGF.out ⟨gg, 0, none⟩ rfl)
        clear y1
        have hGi : G + i < N := by omega
        cases hh : hasGap m.beg gs (G + i) with
        | true =>
          rw [hh] at y2
          rw [HGG.out] at hh
          have HH := hid hh
          clear hh
          go_wp2_with fail
          exact ⟨⟨i + 1, us', by omega, by go_num, hid ⟨HS.out.1, HS.out.2.1, HS.out.2.2.1.doneSkip HH.out, HS.out.2.2.2⟩⟩, by simp [intOf]; omega⟩
        | false =>
          rw [hh] at y2
          have HH := hid hh
          clear hh
          have hil : G + i < us'.length := by rw [hlen']; omega
          obtain ⟨ug, eua, hub, hun⟩ := HS.out.1.un (i := G + i) hil
          subst eua
          have hu := HS.out.2.2.1.un (G + i) hil
          have p1 := hun.c1
          have p2 := hun.c2
          obtain ⟨ad, cm, emv, hx, hlc, hcm⟩ := hun.ag.shape
          have hml := hu.ml
          have hlo := hu.lo
          have hhi := hu.hi
          obtain ⟨gm, rfl⟩ := hx (by intro e9; have h3 := congrArg List.length e9; rw [hml] at h3; have h3 : (us'.getD (G + i) .zero).text.size = 0 := h3; omega)
          have hOw := hun.ag
          rw [emv] at hOw p1
          have hob : (us'.getD (G + i) .zero).mv.ownBlock = some gm := by rw [emv]; rfl
          have hna := HS.out.1.na (G + i) hil gm hob
          have hgu : gm ≠ ug := hna.2 _ rfl
          have hgb : gm ≠ b := hna.1
          have HMK := hid hu.mks
          rw [hml] at p1
          have hdn := hu.dn
          obtain ⟨DN, eDN⟩ : ∃ DN, DN = (us'.getD (G + i) .zero).dn := ⟨_, rfl⟩
          rw [← eDN] at p2
          obtain ⟨L, hL⟩ : ∃ L, L = (us'.getD (G + i) .zero).text.size := ⟨_, rfl⟩
          rw [← hL] at p1 hlo hhi
          have hfr := hun.fr ((G + i) * 3 + 2)
          have HML := hid hml
          have HL := hid hL
          have HOW := hid hOw
          have HOB := hid hob
          have HEMV := hid emv
          have HL' := hid hlen'
          have HIL := hid hil
          clear hL hml hun hu hx hlc hcm emv hOw hob hna hlen' hil hdn eDN
          go_upto_region 35 with fail
          go_quiet (fail)
          go_upto_region 37 with fail
          have HP2 := hid (HS.out.1.finish ((Kept.refl [] wo).drewN nq) HIL.out)
          have hk2 : Kept [ug] wo ((wo.drewN nq).setCell ⟨ug, (G + i) * 3 + 2, none⟩ (.bool true)) := ((Kept.refl _ wo).drewN nq).setCell (by simp) _
          have HK2 := hid hk2
          have hx2 : (us'.set (G + i) { us'.getD (G + i) .zero with dn := true }).getD (G + i) .zero = { us'.getD (G + i) .zero with dn := true } := getD_setOS HIL.out
          have hil2 : G + i < (us'.set (G + i) { us'.getD (G + i) .zero with dn := true }).length := by rw [List.length_set]; exact HIL.out
          obtain ⟨ug2, eug, -, hun2⟩ := HP2.out.un (i := G + i) hil2
          cases eug
          have q1 := hun2.c1
          have hO2 := hun2.ag
          rw [hx2] at q1 hO2
          have q1 : ((wo.drewN nq).setCell ⟨ug, (G + i) * 3 + 2, none⟩ (.bool true)).cell? ⟨ug, (G + i) * 3 + 1, none⟩ = some (us'.getD (G + i) .zero).mv := q1
          have hO2 : Own ((wo.drewN nq).setCell ⟨ug, (G + i) * 3 + 2, none⟩ (.bool true)) 0 (us'.getD (G + i) .zero).mv (us'.getD (G + i) .zero).ms := hO2
          rw [HEMV.out, HML.out, ← HL.out] at q1
          have hob2 : ((us'.set (G + i) { us'.getD (G + i) .zero with dn := true }).getD (G + i) .zero).mv.ownBlock = some gm := by rw [hx2]; exact HOB.out
          have HX2 := hid hx2
          have HIL2 := hid hil2
          have HO2 := hid hO2
          have HOB2 := hid hob2
          have HD3 : Hid (OutR (m.dM gs (i + 1)) ((us'.set (G + i) { us'.getD (G + i) .zero with dn := true }).set (G + i) (((us'.set (G + i) { us'.getD (G + i) .zero with dn := true }).getD (G + i) .zero).put (swapL ((us'.set (G + i) { us'.getD (G + i) .zero with dn := true }).getD (G + i) .zero).ms 97 115 (fun _ => true))))) := HS.out.2.2.1.doneStep (by rw [HGG.out]) HIL.out HH.out
          have HF2 : Hid (outF b (some ⟨ug, 0, none⟩) (us'.set (G + i) { us'.getD (G + i) .zero with dn := true }) = outF b (some ⟨ug, 0, none⟩) us') := outF_set HIL.out rfl
          generalize us'.set (G + i) { us'.getD (G + i) .zero with dn := true } = us2 at *
          generalize (wo.drewN nq).setCell ⟨ug, (G + i) * 3 + 2, none⟩ (.bool true) = wd at *
          clear hk2 hx2 hil2 hun2 hO2 hob2 y2 d1 d2 p1 p2 hfr
          go_wp2_with fail
          go_loopw [18] (fun vt wr => ∃ t : Nat, t ≤ L ∧ vt = .int .i64 (t : Int) ∧ Hid (Own wr 0 (.slice (some ⟨gm, 0, none⟩) L cm) (swapL (us'.getD (G + i) .zero).ms 97 115 (rngB 0 t)) ∧ Kept [gm] wd wr)) (fun vt _ => L - (intOf vt).toNat)
          case atStart =>
            refine ⟨0, Nat.zero_le _, rfl, hid ⟨?_, Kept.refl _ _⟩⟩
            rw [swapL_none]
            have h3 := HO2.out
            rw [HEMV.out, HML.out, ← HL.out] at h3
            exact h3
          case round =>
            obtain ⟨t, htL, rfl, HT⟩ := hrel
            have r1 := keptCellQ HT.out.2 q1 (by simpa using fun e => hgu e.symm)
            by_cases htl : t < L
            · have x5 : decide ((t : Int) < (L : Int)) = true := decide_eq_true (by omega)
              have hmt : t < (us'.getD (G + i) .zero).ms.length := by rw [HML.out, ← HL.out]; exact htl
              have mt := HT.out.1.cell (i := t) (by rw [swapL_len]; exact hmt)
              rw [swapL_here hmt] at mt
              have fz := HT.out.1.free t
              have HMT := hid hmt
              clear hmt
              by_cases hy : (us'.getD (G + i) .zero).ms.getD t 0 = 97
              · have x6 : ((us'.getD (G + i) .zero).ms.getD t 0 == 97) = true := by rw [hy]; rfl
                have HY := hid hy
                clear hy
                generalize (us'.getD (G + i) .zero).ms.getD t 0 = Y2 at mt x6
                go_wp2_with fail
                refine ⟨⟨t + 1, by omega, by go_num, hid ⟨?_, HT.out.2.setCell (by simp) _⟩⟩, by simp [intOf]; omega⟩
                rw [← swapL_hit (Nat.zero_le _) HMT.out HY.out]
                exact HT.out.1.set t 115
              · have x6 : ((us'.getD (G + i) .zero).ms.getD t 0 == 97) = false := by rw [beq_eq_false_iff_ne]; exact hy
                have HY := hid hy
                clear hy
                generalize (us'.getD (G + i) .zero).ms.getD t 0 = Y2 at mt x6
                go_wp2_with fail
                refine ⟨⟨t + 1, by omega, by go_num, hid ⟨?_, HT.out.2⟩⟩, by simp [intOf]; omega⟩
                rw [← swapL_miss HY.out]
                exact HT.out.1
            · have x5 : decide ((t : Int) < (L : Int)) = false := decide_eq_false (by omega)
              have HTE : Hid (t = L) := by exact (show t = L by omega)
              go_wp2_with fail
              have e1 : swapL (us'.getD (G + i) .zero).ms 97 115 (rngB 0 t) = swapL (us'.getD (G + i) .zero).ms 97 115 (fun _ => true) := swapL_congr fun j hj => decide_eq_true ⟨Nat.zero_le _, by rw [HTE.out, HL.out, ← HML.out]; exact hj⟩
              have h4 := HT.out.1
              have emv2 : (us2.getD (G + i) .zero).mv = (us'.getD (G + i) .zero).mv := by rw [HX2.out]
              have ems2 : (us2.getD (G + i) .zero).ms = (us'.getD (G + i) .zero).ms := by rw [HX2.out]
              rw [e1, HL.out, ← HML.out, ← HEMV.out, ← emv2, ← ems2] at h4
              obtain ⟨h5, h6⟩ := HP2.out.marks HIL2.out HOB2.out HT.out.2 h4
              refine ⟨⟨i + 1, _, by omega, by go_num, hid ⟨h5, (h6.trans HF2.out).trans HS.out.2.1, HD3.out, (HS.out.2.2.2.trans (HK2.out.wider fun x hx => ?_)).trans (HT.out.2.wider fun x hx => ?_)⟩⟩, by simp [intOf]; omega⟩
              · rw [List.mem_singleton] at hx
                subst hx
                exact outF_u (y := ⟨x, 0, none⟩) rfl
              · rw [List.mem_singleton] at hx
                subst hx
                rw [← HS.out.2.1]
                exact outF_a HIL.out HOB.out
      · have HID : Hid (i = d) := by exact (show i = d by omega)
        go_wp2_with fail
        go_meet
        have h3 := HS.out.2.2.1
        rw [HID.out] at h3
        exact ⟨us', hid ⟨HS.out.1, HS.out.2.1, h3, HS.out.2.2.2⟩⟩
  case rest =>
    obtain ⟨us', HS⟩ := hcut
    exact ‹∀ a w, Code.wp _ _ _ a w → _› _ _ (otk8 HS.out.1 HS.out.2.2.1 HO.out HG.out HD0.out hd64 HN0.out (fun w' us'' hp he hr hk => HQ.out w' us'' hp (he.trans HS.out.2.1) hr (HS.out.2.2.2.trans (by rw [HS.out.2.1] at hk; exact hk))) _ _ _ _ _ _ _ _ _ _ _ _ _ _ _ _ _ _ _ _ _ _ _ _ _ _ _ _ _ _ _ _ _ _ _ _ _ _ _ _ _ _ _ _ _ _ _ _ _ _ _ _ _ _ _ _ _ _ _ _ _ _ _ _ _ _ _ _ _ _ _ _ _ _ _ _ _ _ _ _ _ _ _ _ _ _ _ _ _ _ _ _ _ _ _ _ _ _ _ _ _ _ _ _ _ _ _ _ _ _ _ _ _ _ _ _ _ _ _ _ _ _ _ _ _ _ _ _ _ _ _ _ _ _ _ _ _ _ _ _ _ _ _ _ _ _ _ _ _ _ _ _ _ _ _ _ _ _ _ _ _ _ _ _ _ _ _ _ _ _ _ _ _ _ _ _ _ _ _ _ _ _ _ _ _ _ _ _ _ _ _ _ _ _ _ _ _ _ _ _ _ _ _ _ _ _ _ _ _ _ _ _ _ _ _ _ _ _ _ _ _ _ _ _ _ _ _ _ _ _ _ _ _ _ _ _ _ _ _ _ _ _ _ _ _ _ _ _ _ _ _ _ _ _ _ _ _ _ _ _ _ _ _ _ _ _ _ _ _ _ _ _ _ _ _ _ _ _ _ _ _ _ _ _ _ _ _ _ _ _ _ _ _ _ _ _ _ _ _ _ _ _ _ _ _ _ _ _ _ _ _ _ _ _ _ _ _ _ _ _ _ _ _ _ _ _ _ _ _ _ _ _ _ _ _ _ _ _ _ _ _ _ _ _ _ _ _ _ _ _ _ _ _ _ _ _ _ _ _ _ _ _ _ _ _ _ _ _)
end Go.Proofs.Ytbjgfoiikhbonaf
