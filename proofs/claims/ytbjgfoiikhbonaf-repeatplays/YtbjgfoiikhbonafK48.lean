import Derived.Deep.CutBlock
import Derived.Test.YtbjgfoiikhbonafK45
set_option linter.unusedVariables false
set_option linter.unusedSimpArgs false
namespace Go.Proofs.Ytbjgfoiikhbonaf
open Go.ChangeShapes Go.WideShapes Go.ChangeAt Go.RowKit
def rngB (f t : Nat) : Nat → Bool := fun j => decide (f ≤ j ∧ j < t)
theorem swapL_congr {ms : List Int} {a z : Int} {p q : Nat → Bool} (h : ∀ j, j < ms.length → p j = q j) : swapL ms a z p = swapL ms a z q := by
  refine getD_ext (by rw [swapL_len, swapL_len]) fun j hj => ?_
  rw [swapL_len] at hj
  rw [swapL_at hj, swapL_at hj, h j hj]
theorem swapL_none (ms : List Int) (a z : Int) (f : Nat) : swapL ms a z (rngB f f) = ms := by
  refine getD_ext (swapL_len _ _ _ _) fun j hj => ?_
  rw [swapL_len] at hj
  rw [swapL_at hj, if_neg (fun h => by have h1 := of_decide_eq_true h.1; omega)]
theorem swapL_here {ms : List Int} {a z : Int} {f t : Nat} (ht : t < ms.length) : (swapL ms a z (rngB f t)).getD t 0 = ms.getD t 0 := by
  rw [swapL_at ht, if_neg (fun h => by have h1 := of_decide_eq_true h.1; omega)]
theorem swapL_hit {ms : List Int} {a z : Int} {f t : Nat} (hf : f ≤ t) (ht : t < ms.length) (h : ms.getD t 0 = a) : (swapL ms a z (rngB f t)).set t z = swapL ms a z (rngB f (t + 1)) := by
  refine getD_ext (by rw [List.length_set, swapL_len, swapL_len]) fun j hj => ?_
  rw [List.length_set, swapL_len] at hj
  rw [swapL_at hj]
  by_cases e : j = t
  · subst e
    rw [if_pos ⟨decide_eq_true ⟨hf, by omega⟩, h⟩, List.getD_eq_getElem?_getD, List.getElem?_set_self (by rw [swapL_len]; exact ht)]
    rfl
  · rw [List.getD_eq_getElem?_getD, List.getElem?_set_ne (fun h => e h.symm), ← List.getD_eq_getElem?_getD, swapL_at hj]
    have e1 : rngB f t j = rngB f (t + 1) j := decide_eq_decide.2 (by omega)
    rw [e1]
theorem swapL_miss {ms : List Int} {a z : Int} {f t : Nat} (h : ms.getD t 0 ≠ a) : swapL ms a z (rngB f t) = swapL ms a z (rngB f (t + 1)) := by
  refine getD_ext (by rw [swapL_len, swapL_len]) fun j hj => ?_
  rw [swapL_len] at hj
  rw [swapL_at hj, swapL_at hj]
  by_cases e : j = t
  · subst e
    rw [if_neg (fun h2 => h h2.2), if_neg (fun h2 => h h2.2)]
  · have e1 : rngB f t j = rngB f (t + 1) j := decide_eq_decide.2 (by omega)
    rw [e1]
set_option linter.unusedVariables false in
set_option maxRecDepth 1000000 in
set_option maxHeartbeats 4000000 in
theorem otk8 {wx : World} {b c d : Nat} {ua : Option Addr} {us : List UoP} {m : OutM} {gs : List GapM} {Q : Ending → World → Prop} (h : POut wx b m.win m.beg ua c us) (hm : OutR (m.dM gs d) us) (ho : OrdM m) (hg : ∀ g ∈ gs, m.gapOk d g = true) (hd : m.beg + d ≤ m.n) (hd64 : d < 64) (hn : m.n ≤ manyO)
    (hQ : ∀ w' us', POut w' b m.win (m.taken d gs).beg ua c us' → outF b ua us' = outF b ua us → OutR (m.taken d gs) us' → Kept (outF b ua us) wx w' → Q (.returned (.int .i64 0)) w') (u1 u2 u3 u4 u6 u7 u8 u9 u10 u11 u12 u13 u14 u15 u16 u17 u18 u19 u20 u21 u22 u23 u24 u25 u26 u27 u28 u29 u30 u31 u32 u33 u34 u35 u36 u37 u38 u39 u40 u41 u42 u43 u44 u45 u46 u47 u48 u49 u50 u51 u52 u53 u54 u55 u56 u57 u58 u59 u60 u61 u62 u63 u64 u65 u66 u67 u68 u69 u70 u71 u72 u73 u74 u75 u76 u77 u78 u79 u80 u81 u82 u83 u84 u85 u86 u87 u88 u89 u90 u91 u92 u93 u94 u95 u96 u97 u98 u99 u100 u101 u102 u103 u104 u105 u106 u107 u108 u109 u110 u111 u112 u113 u114 u115 u116 u117 u118 u119 u120 u121 u122 u123 u124 u125 u126 u127 u128 u129 u130 u131 u132 u133 u134 u135 u136 u137 u138 u139 u140 u141 u142 u143 u144 u145 u146 u147 u148 u149 u150 u151 u152 u153 u154 u155 u156 u157 u158 u159 u160 u161 u162 u163 u164 u165 u166 u167 u168 u169 u170 u171 u172 u173 u174 u175 u176 u177 u178 u179 u180 u181 u182 u183 u184 u185 u186 u187 u188 u189 u190 u191 u192 u193 u194 u195 u196 u197 u198 u199 u200 u201 u202 u203 u204 u205 u206 u207 u208 u209 u210 u211 u212 u213 u214 u215 u216 u217 u218 u219 u220 u221 u222 u223 u224 u225 u226 u227 u228 u229 u230 u231 u232 u233 u234 u235 u236 u237 u238 u239 u240 u241 u242 u243 u244 u245 u246 u247 u248 u249 u250 u251 u252 u253 u254 u255 u256 u257 u258 u259 u260 u261 u262 u263 u264 u265 u266 u267 u268 u269 u270 u271 u272 u273 u274 u275 u276 u277 u278 u279 u280 u281 u282 u283 u284 u285 u286 u287 u288 u289 u290 u291 u292 u293 u294 u295 u296 u297 u298 u299 u300 u301 u302 u303 u304 u305 u306 u307 u308 u309 u310 u311 u312 u313 u314 u315 u316 u317 u318 u319 u320 u321 u322 u323 u324 u325 u326 u327 u328 u329 u330 u331 u332 u333 u334 u335 u336 u337 u338 u339 u340 u341 u342 u343 u344 u345 u346 u347 u348 u349 u350 u351 u352 u353 u354 u355 u356 u357 u358 u359 u360 u361 u362 u363 u364 u365 u366 u367 u368 u369 : Value) :
    Code.wp Try.prog (tailAt 8 (Try.f23.body.getD .skip)) (bodyPost Try.prog Try.f23 Q) ⟨#[.pointer (some ⟨b, 0, none⟩), u1, u2, u3, u4, .int .i64 (d : Int), u6, u7, u8, u9, u10, u11, u12, u13, u14, u15, u16, u17, u18, u19, u20, u21, u22, u23, u24, u25, u26, u27, u28, u29, u30, u31, u32, u33, u34, u35, u36, u37, u38, u39, u40, u41, u42, u43, u44, u45, u46, u47, u48, u49, u50, u51, u52, u53, u54, u55, u56, u57, u58, u59, u60, u61, u62, u63, u64, u65, u66, u67, u68, u69, u70, u71, u72, u73, u74, u75, u76, u77, u78, u79, u80, u81, u82, u83, u84, u85, u86, u87, u88, u89, u90, u91, u92, u93, u94, u95, u96, u97, u98, u99, u100, u101, u102, u103, u104, u105, u106, u107, u108, u109, u110, u111, u112, u113, u114, u115, u116, u117, u118, u119, u120, u121, u122, u123, u124, u125, u126, u127, u128, u129, u130, u131, u132, u133, u134, u135, u136, u137, u138, u139, u140, u141, u142, u143, u144, u145, u146, u147, u148, u149, u150, u151, u152, u153, u154, u155, u156, u157, u158, u159, u160, u161, u162, u163, u164, u165, u166, u167, u168, u169, u170, u171, u172, u173, u174, u175, u176, u177, u178, u179, u180, u181, u182, u183, u184, u185, u186, u187, u188, u189, u190, u191, u192, u193, u194, u195, u196, u197, u198, u199, u200, u201, u202, u203, u204, u205, u206, u207, u208, u209, u210, u211, u212, u213, u214, u215, u216, u217, u218, u219, u220, u221, u222, u223, u224, u225, u226, u227, u228, u229, u230, u231, u232, u233, u234, u235, u236, u237, u238, u239, u240, u241, u242, u243, u244, u245, u246, u247, u248, u249, u250, u251, u252, u253, u254, u255, u256, u257, u258, u259, u260, u261, u262, u263, u264, u265, u266, u267, u268, u269, u270, u271, u272, u273, u274, u275, u276, u277, u278, u279, u280, u281, u282, u283, u284, u285, u286, u287, u288, u289, u290, u291, u292, u293, u294, u295, u296, u297, u298, u299, u300, u301, u302, u303, u304, u305, u306, u307, u308, u309, u310, u311, u312, u313, u314, u315, u316, u317, u318, u319, u320, u321, u322, u323, u324, u325, u326, u327, u328, u329, u330, u331, u332, u333, u334, u335, u336, u337, u338, u339, u340, u341, u342, u343, u344, u345, u346, u347, u348, u349, u350, u351, u352, u353, u354, u355, u356, u357, u358, u359, u360, u361, u362, u363, u364, u365, u366, u367, u368, u369], []⟩ wx := by
  conv => arg 2; whnf
  have hlen : us.length = m.n := hm.len
  obtain ⟨-, c1, c2⟩ := h.head
  rw [hlen] at c2
  have hn' : m.n ≤ 2000000000000 := hn
  have H := hid h
  have HM := hid hm
  have HO := hid ho
  have HG := hid hg
  have HQ := hid hQ
  obtain ⟨N, hN⟩ : ∃ N, N = m.n := ⟨_, rfl⟩
  obtain ⟨G, hG⟩ : ∃ G, G = m.beg := ⟨_, rfl⟩
  rw [← hN] at c2 hn' hd
  rw [← hG] at c1 hd
  have HN := hid hN
  have HGG := hid hG
  clear h hm ho hg hQ hN hG hlen hn
  go_upto_block 12 with fail
  go_cut [] from 6 (fun wy => ∃ us', Hid (POut wy b m.win m.beg ua c us' ∧ outF b ua us' = outF b ua us ∧ OutR (m.taken d gs) us' ∧ Kept (outF b ua us) wx wy))
  case first =>
    go_wp2_with fail
    go_loopw [19] (fun vi wr => ∃ (i : Nat) (us' : List UoP), G + d ≤ i ∧ i ≤ N ∧ vi = .int .i64 (i : Int) ∧ Hid (POut wr b m.win m.beg ua c us' ∧ outF b ua us' = outF b ua us ∧ OutR (m.bM gs d i) us' ∧ Kept (outF b ua us) wx wr)) (fun vi _ => N - (intOf vi).toNat)
    case atStart => exact ⟨G + d, us, Nat.le_refl _, hd, by go_num, hid ⟨H.out, rfl, by rw [HGG.out]; exact HM.out.back0, Kept.refl _ _⟩⟩
    case round =>
      obtain ⟨i, us', hi1, hi2, rfl, HS⟩ := hrel
      obtain ⟨wo, ewo⟩ : ∃ wo, wo = wr := ⟨_, rfl⟩
      subst ewo
      have hlen' : us'.length = N := by rw [HN.out]; exact HS.out.2.2.1.len
      obtain ⟨-, d1, d2⟩ := HS.out.1.head
      rw [hlen'] at d2
      rw [← HGG.out] at d1
      have HEX : Hid ((N ≤ i ∨ m.mark i 0 = 0) → OutR (m.taken d gs) us') := fun hc => HS.out.2.2.1.takenAll HO.out HG.out (by rw [← HGG.out]; exact hi1) (by rw [← HN.out]; exact hc) (by rw [← HGG.out, ← HN.out]; exact hd)
      by_cases hiN : i < N
      · have x1 : decide ((i : Int) < (N : Int)) = true := decide_eq_true (by omega)
        have hil : i < us'.length := by rw [hlen']; omega
        obtain ⟨ug, eua, hub, hun⟩ := HS.out.1.un (i := i) hil
        subst eua
        have hu := HS.out.2.2.1.un (i) hil
        have p1 := hun.c1
        have p2 := hun.c2
        obtain ⟨ad, cm, emv, hx, hlc, hcm⟩ := hun.ag.shape
        have hml := hu.ml
        have hlo := hu.lo
        have hhi := hu.hi
        obtain ⟨gm, rfl⟩ := hx (by intro e9; have h3 := congrArg List.length e9; rw [hml] at h3; have h3 : (us'.getD (i) .zero).text.size = 0 := h3; omega)
        have hOw := hun.ag
        rw [emv] at hOw p1
        have hob : (us'.getD (i) .zero).mv.ownBlock = some gm := by rw [emv]; rfl
        have hna := HS.out.1.na (i) hil gm hob
        have hgu : gm ≠ ug := hna.2 _ rfl
        have hgb : gm ≠ b := hna.1
        have HMK := hid hu.mks
        rw [hml] at p1
        have hdn : (us'.getD i .zero).dn = m.done i := hu.dn.trans (dM_far HG.out (by rw [← HGG.out]; exact hi1)).2
        rw [hdn] at p2
        have p3 := hOw.cell (i := 0) (by omega)
        obtain ⟨hk1, hk2⟩ := hu.mks 0 hlo
        rw [bM_self HG.out (by rw [← HGG.out]; exact hi1)] at hk1 hk2
        rw [hk1] at p3
        have hk3 : (mkc (m.mark i 0) != 110) = !decide (m.mark i 0 = 0) := by
          by_cases e : m.mark i 0 = 0
          · rw [e]; rfl
          · rw [decide_eq_false e, Bool.not_false, bne_iff_ne]
            intro e2
            exact e (mkc_inj hk2 (by omega) e2)
        obtain ⟨L, hL⟩ : ∃ L, L = (us'.getD i .zero).text.size := ⟨_, rfl⟩
        rw [← hL] at p1 hlo hhi
        have HML := hid hml
        have HL := hid hL
        have HOW := hid hOw
        have HOB := hid hob
        have HEMV := hid emv
        have HL' := hid hlen'
        have HIL := hid hil
        clear hL hml hun hu hx hlc hcm emv hOw hob hna hlen' hil hdn hk1
        by_cases e : m.mark i 0 = 0
        · rw [decide_eq_true e, Bool.not_true] at hk3
          have HE := hid e
          clear e
          generalize mkc (m.mark i 0) = Y at *
          go_wp2_with fail
          go_meet
          exact ⟨us', hid ⟨HS.out.1, HS.out.2.1, HEX.out (.inr HE.out), HS.out.2.2.2⟩⟩
        · rw [decide_eq_false e, Bool.not_false] at hk3
          clear e
          generalize mkc (m.mark i 0) = Y at *
          cases hdo : m.done i with
          | true =>
            rw [hdo] at p2
            have HDO := hid hdo
            clear hdo
            have x5 : decide ((0 : Int) < (L : Int)) = true := decide_eq_true (by omega)
            go_wp2_with fail
            go_loopw [20] (fun vt wr => vt = .int .i64 0 ∧ wr = wo) (fun _ _ => 0)
            case atStart => exact ⟨rfl, rfl⟩
            case round =>
              obtain ⟨rfl, rfl⟩ := hrel
              go_wp2_with fail
              refine ⟨⟨i + 1, us', by omega, by omega, by go_num, hid ⟨HS.out.1, HS.out.2.1, HS.out.2.2.1.backSkip HDO.out, HS.out.2.2.2⟩⟩, by simp [intOf]; omega⟩
          | false =>
            rw [hdo] at p2
            have HDO := hid hdo
            clear hdo
            go_wp2_with fail
            clear p3 hk3
            go_loopw [20] (fun vt wr => ∃ t : Nat, t ≤ L ∧ vt = .int .i64 (t : Int) ∧ Hid (Own wr 0 (.slice (some ⟨gm, 0, none⟩) L cm) (swapL (us'.getD i .zero).ms 115 97 (rngB 0 t)) ∧ Kept [gm] wo wr)) (fun vt _ => L - (intOf vt).toNat)
            case atStart =>
              refine ⟨0, Nat.zero_le _, rfl, hid ⟨?_, Kept.refl _ _⟩⟩
              rw [swapL_none]
              have h3 := HOW.out
              rw [HML.out, ← HL.out] at h3
              exact h3
            case round =>
              obtain ⟨t, htL, rfl, HT⟩ := hrel
              have q2 := keptCellQ HT.out.2 d2 (by simpa using fun e => hgb e.symm)
              have r1 := keptCellQ HT.out.2 p1 (by simpa using fun e => hgu e.symm)
              have r2 := keptCellQ HT.out.2 p2 (by simpa using fun e => hgu e.symm)
              by_cases htl : t < L
              · have x5 : decide ((t : Int) < (L : Int)) = true := decide_eq_true (by omega)
                have hmt : t < (us'.getD i .zero).ms.length := by rw [HML.out, ← HL.out]; exact htl
                have mt := HT.out.1.cell (i := t) (by rw [swapL_len]; exact hmt)
                rw [swapL_here hmt] at mt
                have fz := HT.out.1.free t
                have HMT := hid hmt
                clear hmt
                by_cases hy : (us'.getD i .zero).ms.getD t 0 = 115
                · have x6 : ((us'.getD i .zero).ms.getD t 0 == 115) = true := by rw [hy]; rfl
                  have HY := hid hy
                  clear hy
                  generalize (us'.getD i .zero).ms.getD t 0 = Y2 at mt x6
                  go_wp2_with fail
                  refine ⟨⟨t + 1, by omega, by go_num, hid ⟨?_, HT.out.2.setCell (by simp) _⟩⟩, by simp [intOf]; omega⟩
                  rw [← swapL_hit (Nat.zero_le _) HMT.out HY.out]
                  exact HT.out.1.set t 97
                · have x6 : ((us'.getD i .zero).ms.getD t 0 == 115) = false := by rw [beq_eq_false_iff_ne]; exact hy
                  have HY := hid hy
                  clear hy
                  generalize (us'.getD i .zero).ms.getD t 0 = Y2 at mt x6
                  go_wp2_with fail
                  refine ⟨⟨t + 1, by omega, by go_num, hid ⟨?_, HT.out.2⟩⟩, by simp [intOf]; omega⟩
                  rw [← swapL_miss HY.out]
                  exact HT.out.1
              · have x5 : decide ((t : Int) < (L : Int)) = false := decide_eq_false (by omega)
                have HTE : Hid (t = L) := by exact (show t = L by omega)
                go_wp2_with fail
                have e1 : swapL (us'.getD i .zero).ms 115 97 (rngB 0 t) = swapL (us'.getD i .zero).ms 115 97 (fun _ => true) := swapL_congr fun j hj => decide_eq_true ⟨Nat.zero_le _, by rw [HTE.out, HL.out, ← HML.out]; exact hj⟩
                have h4 := HT.out.1
                rw [e1, HL.out, ← HML.out, ← HEMV.out] at h4
                obtain ⟨h5, h6⟩ := HS.out.1.marks HIL.out HOB.out HT.out.2 h4
                refine ⟨⟨i + 1, _, by omega, by omega, by go_num, hid ⟨h5, h6.trans HS.out.2.1, HS.out.2.2.1.backStep HG.out (by rw [← HGG.out]; exact hi1) HIL.out HDO.out, HS.out.2.2.2.trans (HT.out.2.wider fun x hx => ?_)⟩⟩, by simp [intOf]; omega⟩
                rw [List.mem_singleton] at hx
                subst hx
                rw [← HS.out.2.1]
                exact outF_a HIL.out HOB.out
      · have x1 : decide ((i : Int) < (N : Int)) = false := decide_eq_false (by omega)
        go_wp2_with fail
        go_meet
        exact ⟨us', hid ⟨HS.out.1, HS.out.2.1, HEX.out (.inl (by omega)), HS.out.2.2.2⟩⟩
  case rest =>
    obtain ⟨us', HS⟩ := hcut
    have hlen' : us'.length = N := by rw [HN.out]; exact HS.out.2.2.1.len
    exact ‹∀ a w, Code.wp _ _ _ a w → _› _ _ (otk9 (fun u => m.done2 d gs u) HS.out.1 hlen' (by rw [← HGG.out]; omega) hn' (fun i hi => (HS.out.2.2.1.un i (by rw [hlen']; exact hi)).dn) (fun w' hp hk => HQ.out w' us' (by rw [HN.out] at hp; exact hp) HS.out.2.1 HS.out.2.2.1 (HS.out.2.2.2.trans (hk.wider (fun x hx => by rw [List.mem_singleton] at hx; subst hx; exact outF_b _ _ _)))) _ _ _ _ _ _ _ _ _ _ _ _ _ _ _ _ _ _ _ _ _ _ _ _ _ _ _ _ _ _ _ _ _ _ _ _ _ _ _ _ _ _ _ _ _ _ _ _ _ _ _ _ _ _ _ _ _ _ _ _ _ _ _ _ _ _ _ _ _ _ _ _ _ _ _ _ _ _ _ _ _ _ _ _ _ _ _ _ _ _ _ _ _ _ _ _ _ _ _ _ _ _ _ _ _ _ _ _ _ _ _ _ _ _ _ _ _ _ _ _ _ _ _ _ _ _ _ _ _ _ _ _ _ _ _ _ _ _ _ _ _ _ _ _ _ _ _ _ _ _ _ _ _ _ _ _ _ _ _ _ _ _ _ _ _ _ _ _ _ _ _ _ _ _ _ _ _ _ _ _ _ _ _ _ _ _ _ _ _ _ _ _ _ _ _ _ _ _ _ _ _ _ _ _ _ _ _ _ _ _ _ _ _ _ _ _ _ _ _ _ _ _ _ _ _ _ _ _ _ _ _ _ _ _ _ _ _ _ _ _ _ _ _ _ _ _ _ _ _ _ _ _ _ _ _ _ _ _ _ _ _ _ _ _ _ _ _ _ _ _ _ _ _ _ _ _ _ _ _ _ _ _ _ _ _ _ _ _ _ _ _ _ _ _ _ _ _ _ _ _ _ _ _ _ _ _ _ _ _ _ _ _ _ _ _ _ _ _ _ _ _ _ _ _ _ _ _ _ _ _ _ _ _ _ _ _ _ _ _ _ _ _ _ _ _ _ _ _ _ _ _ _ _ _ _ _ _ _ _ _ _ _ _ _ _ _ _ _ _)
end Go.Proofs.Ytbjgfoiikhbonaf
