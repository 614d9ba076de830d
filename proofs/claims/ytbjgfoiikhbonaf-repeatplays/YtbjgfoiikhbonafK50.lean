import Derived.Test.YtbjgfoiikhbonafK49
set_option linter.unusedVariables false
set_option linter.unusedSimpArgs false
namespace Go.Proofs.Ytbjgfoiikhbonaf
open Go.ChangeShapes Go.WideShapes Go.ChangeAt Go.RowKit
theorem gap_of (m : OutM) (g : GapM) (i : Nat) : g.of m.beg (m.beg + i) = decide (aheadN g.num m.beg = i) := by
  unfold GapM.of
  by_cases e : aheadN g.num m.beg = i
  · rw [decide_eq_true e, beq_iff_eq]; omega
  · rw [decide_eq_false e, beq_eq_false_iff_ne]; omega
theorem takeGp {l : List GapM} {k : Nat} (h : k < l.length) : l.take (k + 1) = l.take k ++ [l.getD k .zero] := by
  rw [List.take_add_one, List.getD_eq_getElem?_getD, List.getElem?_eq_getElem h]
  rfl
theorem getD_memG {l : List GapM} {k : Nat} (h : k < l.length) : l.getD k .zero ∈ l := by
  rw [List.getD_eq_getElem?_getD, List.getElem?_eq_getElem h]
  exact List.getElem_mem h
theorem GapAt.kept {w w' : World} {ga : Option Addr} {d : Nat} {f : Nat → Bool} {S : List Nat} (h : GapAt w ga d f) (hk : Kept S w w') (hn : ∀ y, ga = some y → y.block ∉ S) : GapAt w' ga d f := fun i hi => by
  obtain ⟨gg, e, h1, h2⟩ := h i hi
  have hb := hk.block gg (World.block_lt_of_cell? w _ h1) (hn _ e)
  exact ⟨gg, e, (World.cell?_of_block hb).trans h1, (World.frozen?_of_block hb).trans h2⟩
theorem GapAt.put {w : World} {gg d e : Nat} {f f' : Nat → Bool} (h : GapAt w (some ⟨gg, 0, none⟩) d f) (hf : ∀ i, f' i = (f i || decide (e = i))) : GapAt (w.setCell ⟨gg, e, none⟩ (.bool true)) (some ⟨gg, 0, none⟩) d f' := fun i hi => by
  obtain ⟨g2, eq, h1, h2⟩ := h i hi
  cases eq
  refine ⟨gg, rfl, ?_, ?_⟩
  · rw [hf]
    by_cases c : e = i
    · subst c
      rw [decide_eq_true rfl, Bool.or_true]
      exact World.cell?_setCell_same _ _ _ h1
    · rw [decide_eq_false c, Bool.or_false]
      rw [World.cell?_setCell_other _ _ _ _ (fun e => c (Addr.mk.inj e).2.1)]
      exact h1
  · rw [World.frozen?_setCell]
    exact h2
set_option linter.unusedVariables false in
set_option maxRecDepth 1000000 in
set_option maxHeartbeats 4000000 in
theorem otk6 {wx : World} {b c d cg bx n cc : Nat} {ua ga a : Option Addr} {us : List UoP} {m : OutM} {gs : List GapM} {Q : Ending → World → Prop} (h : POut wx b m.win m.beg ua c us) (hm : OutR m us) (ho : OrdM m) (hg : ∀ g ∈ gs, m.gapOk d g = true) (hd : m.beg + d ≤ m.n) (hd64 : d < 64) (hn : m.n ≤ manyO)
    (hbx : wx.cell? ⟨bx, 1, none⟩ = some (.slice a n cc)) (hgp : Gps wx a gs) (hgn : gs.length = n) (hnl : n ≤ maxLen) (hbF : bx ∉ outF b ua us) (haF : gs ≠ [] → NotIn (outF b ua us) a)
    (hga : GapAt wx ga d (fun _ => false)) (hgF : ∀ y, ga = some y → y.block ∉ outF b ua us) (hgx : ∀ y, ga = some y → y.block ≠ bx) (hgy : gs ≠ [] → ∀ y z, ga = some y → a = some z → z.block ≠ y.block)
    (hQ : ∀ w' us', POut w' b m.win (m.taken d gs).beg ua c us' → outF b ua us' = outF b ua us → OutR (m.taken d gs) us' → Kept ((ga.map (·.block)).toList ++ outF b ua us) wx w' → Q (.returned (.int .i64 0)) w') (u1 u2 u4 u6 u8 u9 u10 u11 u12 u13 u14 u15 u16 u17 u18 u19 u20 u21 u22 u23 u24 u25 u26 u27 u28 u29 u30 u31 u32 u33 u34 u35 u36 u37 u38 u39 u40 u41 u42 u43 u44 u45 u46 u47 u48 u49 u50 u51 u52 u53 u54 u55 u56 u57 u58 u59 u60 u61 u62 u63 u64 u65 u66 u67 u68 u69 u70 u71 u72 u73 u74 u75 u76 u77 u78 u79 u80 u81 u82 u83 u84 u85 u86 u87 u88 u89 u90 u91 u92 u93 u94 u95 u96 u97 u98 u99 u100 u101 u102 u103 u104 u105 u106 u107 u108 u109 u110 u111 u112 u113 u114 u115 u116 u117 u118 u119 u120 u121 u122 u123 u124 u125 u126 u127 u128 u129 u130 u131 u132 u133 u134 u135 u136 u137 u138 u139 u140 u141 u142 u143 u144 u145 u146 u147 u148 u149 u150 u151 u152 u153 u154 u155 u156 u157 u158 u159 u160 u161 u162 u163 u164 u165 u166 u167 u168 u169 u170 u171 u172 u173 u174 u175 u176 u177 u178 u179 u180 u181 u182 u183 u184 u185 u186 u187 u188 u189 u190 u191 u192 u193 u194 u195 u196 u197 u198 u199 u200 u201 u202 u203 u204 u205 u206 u207 u208 u209 u210 u211 u212 u213 u214 u215 u216 u217 u218 u219 u220 u221 u222 u223 u224 u225 u226 u227 u228 u229 u230 u231 u232 u233 u234 u235 u236 u237 u238 u239 u240 u241 u242 u243 u244 u245 u246 u247 u248 u249 u250 u251 u252 u253 u254 u255 u256 u257 u258 u259 u260 u261 u262 u263 u264 u265 u266 u267 u268 u269 u270 u271 u272 u273 u274 u275 u276 u277 u278 u279 u280 u281 u282 u283 u284 u285 u286 u287 u288 u289 u290 u291 u292 u293 u294 u295 u296 u297 u298 u299 u300 u301 u302 u303 u304 u305 u306 u307 u308 u309 u310 u311 u312 u313 u314 u315 u316 u317 u318 u319 u320 u321 u322 u323 u324 u325 u326 u327 u328 u329 u330 u331 u332 u333 u334 u335 u336 u337 u338 u339 u340 u341 u342 u343 u344 u345 u346 u347 u348 u349 u350 u351 u352 u353 u354 u355 u356 u357 u358 u359 u360 u361 u362 u363 u364 u365 u366 u367 u368 u369 : Value) :
    Code.wp Try.prog (tailAt 6 (Try.f23.body.getD .skip)) (bodyPost Try.prog Try.f23 Q) ⟨#[.pointer (some ⟨b, 0, none⟩), u1, u2, .pointer (some ⟨bx, 0, none⟩), u4, .int .i64 (d : Int), u6, .slice ga d cg, u8, u9, u10, u11, u12, u13, u14, u15, u16, u17, u18, u19, u20, u21, u22, u23, u24, u25, u26, u27, u28, u29, u30, u31, u32, u33, u34, u35, u36, u37, u38, u39, u40, u41, u42, u43, u44, u45, u46, u47, u48, u49, u50, u51, u52, u53, u54, u55, u56, u57, u58, u59, u60, u61, u62, u63, u64, u65, u66, u67, u68, u69, u70, u71, u72, u73, u74, u75, u76, u77, u78, u79, u80, u81, u82, u83, u84, u85, u86, u87, u88, u89, u90, u91, u92, u93, u94, u95, u96, u97, u98, u99, u100, u101, u102, u103, u104, u105, u106, u107, u108, u109, u110, u111, u112, u113, u114, u115, u116, u117, u118, u119, u120, u121, u122, u123, u124, u125, u126, u127, u128, u129, u130, u131, u132, u133, u134, u135, u136, u137, u138, u139, u140, u141, u142, u143, u144, u145, u146, u147, u148, u149, u150, u151, u152, u153, u154, u155, u156, u157, u158, u159, u160, u161, u162, u163, u164, u165, u166, u167, u168, u169, u170, u171, u172, u173, u174, u175, u176, u177, u178, u179, u180, u181, u182, u183, u184, u185, u186, u187, u188, u189, u190, u191, u192, u193, u194, u195, u196, u197, u198, u199, u200, u201, u202, u203, u204, u205, u206, u207, u208, u209, u210, u211, u212, u213, u214, u215, u216, u217, u218, u219, u220, u221, u222, u223, u224, u225, u226, u227, u228, u229, u230, u231, u232, u233, u234, u235, u236, u237, u238, u239, u240, u241, u242, u243, u244, u245, u246, u247, u248, u249, u250, u251, u252, u253, u254, u255, u256, u257, u258, u259, u260, u261, u262, u263, u264, u265, u266, u267, u268, u269, u270, u271, u272, u273, u274, u275, u276, u277, u278, u279, u280, u281, u282, u283, u284, u285, u286, u287, u288, u289, u290, u291, u292, u293, u294, u295, u296, u297, u298, u299, u300, u301, u302, u303, u304, u305, u306, u307, u308, u309, u310, u311, u312, u313, u314, u315, u316, u317, u318, u319, u320, u321, u322, u323, u324, u325, u326, u327, u328, u329, u330, u331, u332, u333, u334, u335, u336, u337, u338, u339, u340, u341, u342, u343, u344, u345, u346, u347, u348, u349, u350, u351, u352, u353, u354, u355, u356, u357, u358, u359, u360, u361, u362, u363, u364, u365, u366, u367, u368, u369], []⟩ wx := by
  conv => arg 2; whnf
  have hn' : m.n ≤ 2000000000000 := hn
  have hnl2 : n ≤ 9223372036854775807 := hnl
  have H := hid h
  have HM := hid hm
  have HO := hid ho
  have HG := hid hg
  have HQ := hid hQ
  have HGA := hid hga
  have HGF := hid hgF
  have HGX := hid hgx
  have HGY := hid hgy
  have HBF := hid hbF
  have HAF := hid haF
  have HN0 := hid hn
  have HD0 := hid hd
  have HGP := hid hgp
  have HGN := hid hgn
  have HBX := hid hbx
  have HSG : Hid (∀ x, x ∈ (ga.map (·.block)).toList → ∃ y, ga = some y ∧ y.block = x) := fun x hx => by
    cases ga with
    | none => simp at hx
    | some y => exact ⟨y, rfl, by have h1 : x = y.block := by simpa using hx
                                  exact h1.symm⟩
  have HNO : Hid (∀ x, x ∉ outF b ua us → (∀ y, ga = some y → y.block ≠ x) → x ∉ (ga.map (·.block)).toList ++ outF b ua us) := fun x h1 h2 hx => by
    rcases List.mem_append.1 hx with hx | hx
    · obtain ⟨y, e, rfl⟩ := HSG.out x hx
      exact h2 y e rfl
    · exact h1 hx
  obtain ⟨N, hN⟩ : ∃ N, N = m.n := ⟨_, rfl⟩
  obtain ⟨G, hG⟩ : ∃ G, G = m.beg := ⟨_, rfl⟩
  rw [← hN] at hn' hd
  rw [← hG] at hd
  have HN := hid hN
  have HGG := hid hG
  clear h hm ho hg hQ hN hG hn hga hgF hgx hgy hbF haF hgp hgn hnl hbx
  go_upto_block 4 with fail
  go_cut [] from 8 (fun wy => ∃ us', Hid (POut wy b m.win m.beg ua c us' ∧ outF b ua us' = outF b ua us ∧ OutR (m.gM gs) us' ∧ Kept ((ga.map (·.block)).toList ++ outF b ua us) wx wy ∧ GapAt wy ga d (fun i => hasGap m.beg gs (m.beg + i))))
  case first =>
    go_wp2_with fail
    go_loopw [11] (fun vk wr => ∃ (k : Nat) (us' : List UoP), k ≤ n ∧ vk = .int .i64 (k : Int) ∧ Hid (POut wr b m.win m.beg ua c us' ∧ outF b ua us' = outF b ua us ∧ OutR (m.gM (gs.take k)) us' ∧ Kept ((ga.map (·.block)).toList ++ outF b ua us) wx wr ∧ GapAt wr ga d (fun i => hasGap m.beg (gs.take k) (m.beg + i)))) (fun vk _ => n - (intOf vk).toNat)
    case atStart => exact ⟨0, us, Nat.zero_le _, rfl, hid ⟨H.out, rfl, HM.out.gap0, Kept.refl _ _, fun i hi => by have := HGA.out i hi; simpa [hasGap] using this⟩⟩
    case round =>
      obtain ⟨k, us', hk, rfl, HS⟩ := hrel
      obtain ⟨wk, ewk⟩ : ∃ wk, wk = wr := ⟨_, rfl⟩
      subst ewk
      have hlen' : us'.length = N := by rw [HN.out]; exact HS.out.2.2.1.len
      have y1 := keptCellQ HS.out.2.2.2.1 HBX.out (HNO.out bx HBF.out HGX.out)
      by_cases hkn : k < n
      · have hkl : k < gs.length := by rw [HGN.out]; exact hkn
        obtain ⟨gb, go, ea, hC⟩ := HGP.out (by intro e; rw [e] at hkl; simp at hkl)
        subst ea
        obtain ⟨e0, e1, e2⟩ := hC k hkl
        have hgbn : gb ∉ (ga.map (·.block)).toList ++ outF b ua us := HNO.out gb (HAF.out (by intro e9; rw [e9] at hkl; simp at hkl) ⟨gb, go, none⟩ rfl) (fun y hy e => HGY.out (by intro e9; rw [e9] at hkl; simp at hkl) y ⟨gb, go, none⟩ hy rfl e.symm)
        have f0 := keptCellQ HS.out.2.2.2.1 e0 hgbn
        have f1 := keptCellQ HS.out.2.2.2.1 e1 hgbn
        have f2 := keptCellQ HS.out.2.2.2.1 e2 hgbn
        clear hC e0 e1 e2 hgbn
        have hgo := HG.out _ (getD_memG hkl)
        have HTK := hid (takeGp hkl)
        obtain ⟨g, hgg⟩ : ∃ g, g = gs.getD k .zero := ⟨_, rfl⟩
        rw [← hgg] at f0 f1 f2 hgo HTK
        have HHG := hid hgg
        clear hgg hkl
        unfold OutM.gapOk at hgo
        simp only [Bool.and_eq_true, decide_eq_true_eq] at hgo
        obtain ⟨⟨w1, w2⟩, w3, w4, w5, w6, w7⟩ := hgo
        obtain ⟨e, he⟩ : ∃ e, e = aheadN g.num m.beg := ⟨_, rfl⟩
        rw [← he] at w3 w5 w6
        have hGe : G + e < N := by omega
        have hah : ∀ wz, Calls Try.prog 44 #[.int .i64 g.num, .int .i64 (G : Int)] wz fun e' w2 => e' = .returned (.int .i64 (e : Int)) ∧ w2 = wz := fun wz => by
          rw [he, ← HGG.out]
          exact rahead_any g.num G wz w1 w2 (by unfold manyU; omega)
        have HEE := hid he
        clear he
        obtain ⟨gg, ega, y2, y3⟩ := HS.out.2.2.2.2 e w3
        subst ega
        have y2 : wk.cell? ⟨gg, e, none⟩ = some (.bool (hasGap m.beg (gs.take k) (m.beg + e))) := y2
        obtain ⟨BB, eBB⟩ : ∃ BB, BB = hasGap m.beg (gs.take k) (m.beg + e) := ⟨_, rfl⟩
        rw [← eBB] at y2
        clear eBB
        have hggF : gg ∉ outF b ua us := HGF.out ⟨gg, 0, none⟩ rfl
        have hggb : gg ≠ b := fun e => hggF (by rw [e]; exact outF_b _ _ _)
        obtain ⟨-, d1, d2⟩ := HS.out.1.head
        rw [hlen'] at d2
        rw [← HGG.out] at d1
        have hil : G + e < us'.length := by rw [hlen']; omega
        obtain ⟨ug, eua, hub, hun⟩ := HS.out.1.un (i := G + e) hil
        subst eua
        have hu := HS.out.2.2.1.un (G + e) hil
        have p1 := hun.c1
        have p2 := hun.c2
        obtain ⟨ad, cm, emv, hx, hlc, hcm⟩ := hun.ag.shape
        have hml := hu.ml
        have hlo := hu.lo
        have hhi := hu.hi
        obtain ⟨gm, rfl⟩ := hx (by intro e9; have h3 := congrArg List.length e9; rw [hml] at h3; have h3 : (us'.getD (G + e) .zero).text.size = 0 := h3; omega)
        have hOw := hun.ag
        rw [emv] at hOw p1
        have hob : (us'.getD (G + e) .zero).mv.ownBlock = some gm := by rw [emv]; rfl
        have hna := HS.out.1.na (G + e) hil gm hob
        have hgu : gm ≠ ug := hna.2 _ rfl
        have hgb : gm ≠ b := hna.1
        have HMK := hid hu.mks
        rw [hml] at p1
        have hggm : gg ≠ gm := fun e => hggF (by rw [← HS.out.2.1, e]; exact outF_a hil hob)
        have hggu : gg ≠ ug := fun e => hggF (by rw [e]; exact outF_u (y := ⟨ug, 0, none⟩) rfl)
        have hgml : gm < wk.heap.size := HS.out.1.lt gm (outF_a hil hob)
        have hdn : (us'.getD (G + e) .zero).dn = m.done (G + e) := hu.dn
        have p0 := hun.c0
        rw [hdn] at p2
        have hsz : (us'.getD (G + e) .zero).text.size = m.sz (m.beg + e) := by rw [← HGG.out]; exact hu.sz.symm
        obtain ⟨T, hT⟩ : ∃ T, T = (us'.getD (G + e) .zero).text := ⟨_, rfl⟩
        obtain ⟨L, hL⟩ : ∃ L, L = (us'.getD (G + e) .zero).text.size := ⟨_, rfl⟩
        rw [← hsz, ← hL] at w5 w6
        rw [← hL] at p1 hlo hhi
        rw [← hT] at p0
        have HML := hid hml
        have HL := hid hL
        have HOW := hid hOw
        have HOB := hid hob
        have HEMV := hid emv
        have HL' := hid hlen'
        have HIL := hid hil
        have HHGE : Hid (∀ i, hasGap m.beg (gs.take (k + 1)) (m.beg + i) = (hasGap m.beg (gs.take k) (m.beg + i) || decide (e = i))) := fun i => by
          rw [HTK.out, hasGap_snoc, gap_of, ← HEE.out]
        clear hL hml hun hu hx hlc hcm emv hOw hob hna hlen' hil hdn hsz hT HMK
        obtain ⟨num, frm, til⟩ := g
        dsimp only at f0 f1 f2 w1 w2 w4 w5 w6 w7 hah
        obtain ⟨fr, hfr⟩ : ∃ fr : Nat, (fr : Int) = frm := ⟨frm.toNat, by omega⟩
        subst hfr
        have hkA : Kept [] wk (wk.alloc (.cells #[.int .i64 num, .int .i64 (fr : Int), .int .i64 til] 130)) := (Kept.refl _ wk).alloc _
        have hAG := at_alloc wk 130 [.int .i64 num, .int .i64 (fr : Int), .int .i64 til]
        have HKA := hid hkA
        have HGS1 := hid (HS.out.2.2.2.2.kept hkA (by simp))
        have c1 := keptCellQ hkA d1 (by simp)
        have c2 := keptCellQ hkA d2 (by simp)
        have q0 := keptCellQ hkA p0 (by simp)
        have q1 := keptCellQ hkA p1 (by simp)
        have q2 := keptCellQ hkA p2 (by simp)
        have z2 := keptCellQ hkA y2 (by simp)
        have z3 : (wk.alloc (.cells #[.int .i64 num, .int .i64 (fr : Int), .int .i64 til] 130)).frozen? ⟨gg, e, none⟩ = false := (World.frozen?_of_block (hkA.block gg (World.block_lt_of_cell? wk _ y2) (by simp))).trans y3
        go_upto_region 23 with fail
        generalize (wk.alloc (.cells #[.int .i64 num, .int .i64 (fr : Int), .int .i64 til] 130)) = wG at *
        have g0 : wG.cell? ⟨wk.heap.size, 0, none⟩ = some (.int .i64 num) := hAG.cell 0
        have g1 : wG.cell? ⟨wk.heap.size, 1, none⟩ = some (.int .i64 (fr : Int)) := hAG.cell 1
        have g2 : wG.cell? ⟨wk.heap.size, 2, none⟩ = some (.int .i64 til) := hAG.cell 2
        have hggl : gg < wk.heap.size := World.block_lt_of_cell? wk _ y2
        obtain ⟨bg, ebg⟩ : ∃ bg, bg = wk.heap.size := ⟨_, rfl⟩
        rw [← ebg] at g0 g1 g2 hggl hgml
        rw [← ebg]
        clear ebg hAG f0 f1 f2 y1 y2 y3 d1 d2 p0 p1 p2 hkA
        go_quiet (first | (go_at_call 44; exact Calls.quiet_of_same (hah _)))
        go_upto_region 25 with fail
        have hkS : Kept [gg] wG ((wG.drewN nq).setCell ⟨gg, e, none⟩ (.bool true)) := ((Kept.refl _ wG).drewN nq).setCell (by simp) _
        have HKS := hid hkS
        have HGS2 : Hid (GapAt ((wG.drewN nq).setCell ⟨gg, e, none⟩ (.bool true)) (some ⟨gg, 0, none⟩) d (fun i => hasGap m.beg (gs.take (k + 1)) (m.beg + i))) := (HGS1.out.kept (S := []) ((Kept.refl _ wG).drewN nq) (by simp)).put HHGE.out
        have c1' := keptCellQ hkS c1 (by simpa using fun e => hggb e.symm)
        have c2' := keptCellQ hkS c2 (by simpa using fun e => hggb e.symm)
        have q0' := keptCellQ hkS q0 (by simpa using fun e => hggu e.symm)
        have q1' := keptCellQ hkS q1 (by simpa using fun e => hggu e.symm)
        have q2' := keptCellQ hkS q2 (by simpa using fun e => hggu e.symm)
        have g1' := keptCellQ hkS g1 (by simp; omega)
        have g2' := keptCellQ hkS g2 (by simp; omega)
        have HSZ : Hid (bg < ((wG.drewN nq).setCell ⟨gg, e, none⟩ (.bool true)).heap.size) := World.block_lt_of_cell? _ _ g1'
        generalize (wG.drewN nq).setCell ⟨gg, e, none⟩ (.bool true) = wS at *
        clear hkS c1 c2 q0 q1 q2 g0 g1 g2 z2 z3 hah
        obtain ⟨DN, eDN⟩ : ∃ DN, DN = m.done (G + e) := ⟨_, rfl⟩
        rw [← eDN] at q2'
        have HDN := hid eDN
        clear eDN
        go_cut [14] from 151 to 219 (fun v wy => ∃ bu, v = .pointer (some ⟨bu, 0, none⟩) ∧ wy.cell? ⟨bu, 1, none⟩ = some (.slice (some ⟨gm, 0, none⟩) L cm) ∧ wy.cell? ⟨bu, 2, none⟩ = some (.bool DN) ∧ Hid (Kept [] wS wy ∧ wS.heap.size ≤ bu))
        case first =>
          have HSA : Hid (∀ n, (wS.drewN n).cell? ⟨b, 1, none⟩ = some (.int .i64 (G : Int)) ∧ (wS.drewN n).cell? ⟨b, 2, none⟩ = some (.slice (some ⟨ug, 0, none⟩) N c) ∧ (wS.drewN n).cell? ⟨ug, (G + e) * 3, none⟩ = some (.string T) ∧ (wS.drewN n).cell? ⟨ug, (G + e) * 3 + 1, none⟩ = some (.slice (some ⟨gm, 0, none⟩) L cm) ∧ (wS.drewN n).cell? ⟨ug, (G + e) * 3 + 2, none⟩ = some (.bool DN)) := fun n => ⟨c1', c2', q0', q1', q2'⟩
          have HSB : Hid (∀ o : Obj, (wS.alloc o).cell? ⟨b, 1, none⟩ = some (.int .i64 (G : Int)) ∧ (wS.alloc o).cell? ⟨b, 2, none⟩ = some (.slice (some ⟨ug, 0, none⟩) N c) ∧ (wS.alloc o).cell? ⟨ug, (G + e) * 3, none⟩ = some (.string T) ∧ (wS.alloc o).cell? ⟨ug, (G + e) * 3 + 1, none⟩ = some (.slice (some ⟨gm, 0, none⟩) L cm) ∧ (wS.alloc o).cell? ⟨ug, (G + e) * 3 + 2, none⟩ = some (.bool DN)) := fun o => by
            have hko : Kept [] wS (wS.alloc o) := (Kept.refl _ wS).alloc o
            exact ⟨keptCellQ hko c1' (by simp), keptCellQ hko c2' (by simp), keptCellQ hko q0' (by simp), keptCellQ hko q1' (by simp), keptCellQ hko q2' (by simp)⟩
          have hwr : IntKind.i64.wrap ((G : Int) + (e : Int)) = (G : Int) + (e : Int) := by simp [IntKind.wrap, IntKind.bits, IntKind.signed]; omega
          have hw0 : (0 : Int) ≤ (G : Int) + (e : Int) := by omega
          have hw1 : (G : Int) + (e : Int) < (N : Int) := by omega
          have hw2 : ((G : Int) + (e : Int)).toNat = G + e := by omega
          go_region_held3 (fun w' => w'.cell? ⟨b, 1, none⟩ = some (.int .i64 (G : Int)) ∧ w'.cell? ⟨b, 2, none⟩ = some (.slice (some ⟨ug, 0, none⟩) N c) ∧ w'.cell? ⟨ug, (G + e) * 3, none⟩ = some (.string T) ∧ w'.cell? ⟨ug, (G + e) * 3 + 1, none⟩ = some (.slice (some ⟨gm, 0, none⟩) L cm) ∧ w'.cell? ⟨ug, (G + e) * 3 + 2, none⟩ = some (.bool DN)) (first | with_reducible exact HSA.out 0 | with_reducible exact HSA.out 1 | with_reducible exact HSA.out _ | with_reducible exact HSB.out _ | exact HSA.out 0 | exact HSA.out 1 | exact HSB.out _) (fail)
          all_goals
            go_wp2
            go_meet
            have hAU := at_alloc wS 110 [.string T, .slice (some ⟨gm, 0, none⟩) L cm, .bool DN]
            exact ⟨wS.heap.size, rfl, hAU.cell 1, hAU.cell 2, hid ⟨((Kept.refl _ wS).alloc _).drew, Nat.le_refl _⟩⟩
        case rest =>
          obtain ⟨bu, rfl, u1, u2, HKU⟩ := hcut
          have v1 := keptCellQ HKU.out.1 g1' (by simp)
          have v2 := keptCellQ HKU.out.1 g2' (by simp)
          have hbu : bg < bu := Nat.lt_of_lt_of_le HSZ.out HKU.out.2
          have HKC : Hid (Kept [gg] wk wc) := ((HKA.out.wider (by simp)).trans HKS.out).trans (HKU.out.1.wider (by simp))
          have HPC := hid (HS.out.1.kept HKC.out (fun x hx => by rw [List.mem_singleton]; rintro rfl; rw [HS.out.2.1] at hx; exact hggF hx))
          have HGC := hid (HGS2.out.kept HKU.out.1 (by simp))
          have HOC : Hid (Own wc 0 (.slice (some ⟨gm, 0, none⟩) L cm) (us'.getD (G + e) .zero).ms) := by
            have h3 := HPC.out.ag (G + e) HIL.out
            rw [HEMV.out, HML.out, ← HL.out] at h3
            exact h3
          clear c1' c2' q0' q1' q2' g1' g2'
          cases DN with
          | true =>
            have x5 : decide ((fr : Int) < (L : Int)) = true := decide_eq_true (by omega)
            have hfl : fr < L := by omega
            have HDO : Hid (m.done (m.beg + e) = true) := by rw [← HGG.out]; exact HDN.out.symm
            by_cases ht0 : til < 0
            all_goals
              go_wp2_with fail
              go_loopw [15] (fun vt wr => vt = .int .i64 (fr : Int) ∧ wr = wc) (fun _ _ => 0)
              case atStart => exact ⟨rfl, rfl⟩
              case round =>
                obtain ⟨rfl, ew⟩ := hrel
                obtain rfl := ew.symm
                go_wp2_with fail
                refine ⟨⟨k + 1, us', by omega, by go_num, hid ⟨HPC.out, HS.out.2.1, ?_, HS.out.2.2.2.1.trans (HKC.out.wider (by simp)), HGC.out⟩⟩, by simp [intOf]; omega⟩
                rw [HTK.out]
                exact HS.out.2.2.1.gapDone (by rw [← HEE.out]; exact HDO.out)
          | false =>
            have HDO : Hid (m.done (G + e) = false) := by exact HDN.out.symm
            go_wp2_with fail
            go_loopw [15] (fun vt wr => ∃ t : Nat, fr ≤ t ∧ t ≤ L ∧ (til < 0 ∨ (t : Int) ≤ til) ∧ vt = .int .i64 (t : Int) ∧ Hid (Own wr 0 (.slice (some ⟨gm, 0, none⟩) L cm) (swapL (us'.getD (G + e) .zero).ms 115 97 (rngB fr t)) ∧ Kept [gm] wc wr)) (fun vt _ => L - (intOf vt).toNat)
            case atStart => exact ⟨fr, Nat.le_refl _, by omega, by omega, rfl, hid ⟨by rw [swapL_none]; exact HOC.out, Kept.refl _ _⟩⟩
            case round =>
              obtain ⟨t, hft, htL, hti, rfl, HT⟩ := hrel
              have r1 := keptCellQ HT.out.2 u1 (by simp; omega)
              have r2 := keptCellQ HT.out.2 u2 (by simp; omega)
              have r3 := keptCellQ HT.out.2 v2 (by simp; omega)
              have HEND : Hid ((L ≤ t ∨ (¬ til < 0 ∧ til ≤ (t : Int))) → OutR (m.gM (gs.take (k + 1))) (us'.set (G + e) ((us'.getD (G + e) .zero).put (swapL (us'.getD (G + e) .zero).ms 115 97 (rngB fr t)))) ∧ POut wr b m.win m.beg (some ⟨ug, 0, none⟩) c (us'.set (G + e) ((us'.getD (G + e) .zero).put (swapL (us'.getD (G + e) .zero).ms 115 97 (rngB fr t)))) ∧ outF b (some ⟨ug, 0, none⟩) (us'.set (G + e) ((us'.getD (G + e) .zero).put (swapL (us'.getD (G + e) .zero).ms 115 97 (rngB fr t)))) = outF b (some ⟨ug, 0, none⟩) us') := fun hc => by
                have e1 : swapL (us'.getD (G + e) .zero).ms 115 97 (rngB fr t) = swapL (us'.getD (G + e) .zero).ms 115 97 (fun j => (⟨num, (fr : Int), til⟩ : GapM).at j) := swapL_congr fun j hj => by
                  rw [HML.out, ← HL.out] at hj
                  unfold rngB GapM.at
                  refine decide_eq_decide.2 ?_
                  show fr ≤ j ∧ j < t ↔ (fr : Int) ≤ j ∧ (til < 0 ∨ (j : Int) < til)
                  omega
                have h4 := HT.out.1
                rw [HL.out, ← HML.out, ← HEMV.out] at h4
                obtain ⟨h5, h6⟩ := HPC.out.marks HIL.out HOB.out HT.out.2 h4
                refine ⟨?_, h5, h6⟩
                rw [e1, HTK.out]
                exact HS.out.2.2.1.gap (by rw [← HEE.out, HGG.out]) HIL.out HDO.out
              have HKE : Hid (Kept (((some (⟨gg, 0, none⟩ : Addr)).map (·.block)).toList ++ outF b (some ⟨ug, 0, none⟩) us) wx wr) := (HS.out.2.2.2.1.trans (HKC.out.wider (by simp))).trans (HT.out.2.wider (fun x hx => by
                rw [List.mem_singleton] at hx
                subst hx
                refine List.mem_append_right _ ?_
                rw [← HS.out.2.1]
                exact outF_a HIL.out HOB.out))
              have HGE : Hid (GapAt wr (some ⟨gg, 0, none⟩) d (fun i => hasGap m.beg (gs.take (k + 1)) (m.beg + i))) := HGC.out.kept HT.out.2 (fun y hy => by cases hy; simpa using hggm)
              by_cases htl : t < L
              · by_cases hc2 : til < 0 ∨ (t : Int) < til
                · have hmt : t < (us'.getD (G + e) .zero).ms.length := by rw [HML.out, ← HL.out]; exact htl
                  have mt := HT.out.1.cell (i := t) (by rw [swapL_len]; exact hmt)
                  rw [swapL_here hmt] at mt
                  have fz := HT.out.1.free t
                  have HMT := hid hmt
                  clear hmt HEND
                  by_cases hy : (us'.getD (G + e) .zero).ms.getD t 0 = 115
                  · have x6 : ((us'.getD (G + e) .zero).ms.getD t 0 == 115) = true := by rw [hy]; rfl
                    have HY := hid hy
                    clear hy
                    generalize (us'.getD (G + e) .zero).ms.getD t 0 = Y2 at mt x6
                    have HC2 := hid hc2
                    clear hti
                    by_cases ht0 : til < 0
                    · clear hc2
                      go_wp2_with fail
                      refine ⟨⟨t + 1, by omega, by omega, by omega, by go_num, hid ⟨?_, HT.out.2.setCell (by simp) _⟩⟩, by simp [intOf]; omega⟩
                      rw [← swapL_hit hft HMT.out HY.out]
                      exact HT.out.1.set t 97
                    · have hc3 : (t : Int) < til := by omega
                      clear hc2
                      go_wp2_with fail
                      refine ⟨⟨t + 1, by omega, by omega, by omega, by go_num, hid ⟨?_, HT.out.2.setCell (by simp) _⟩⟩, by simp [intOf]; omega⟩
                      rw [← swapL_hit hft HMT.out HY.out]
                      exact HT.out.1.set t 97
                  · have x6 : ((us'.getD (G + e) .zero).ms.getD t 0 == 115) = false := by rw [beq_eq_false_iff_ne]; exact hy
                    have HY := hid hy
                    clear hy
                    generalize (us'.getD (G + e) .zero).ms.getD t 0 = Y2 at mt x6
                    clear hti
                    by_cases ht0 : til < 0
                    · clear hc2
                      go_wp2_with fail
                      refine ⟨⟨t + 1, by omega, by omega, by omega, by go_num, hid ⟨?_, HT.out.2⟩⟩, by simp [intOf]; omega⟩
                      rw [← swapL_miss HY.out]
                      exact HT.out.1
                    · have hc3 : (t : Int) < til := by omega
                      clear hc2
                      go_wp2_with fail
                      refine ⟨⟨t + 1, by omega, by omega, by omega, by go_num, hid ⟨?_, HT.out.2⟩⟩, by simp [intOf]; omega⟩
                      rw [← swapL_miss HY.out]
                      exact HT.out.1
                · have ht0 : ¬ til < 0 := by omega
                  have ht1 : ¬ (t : Int) < til := by omega
                  have HX9 := hid (HEND.out (.inr ⟨ht0, by omega⟩))
                  clear hc2 HEND hti
                  go_wp2_with fail
                  exact ⟨⟨k + 1, _, by omega, by go_num, hid ⟨HX9.out.2.1, HX9.out.2.2.trans HS.out.2.1, HX9.out.1, HKE.out, HGE.out⟩⟩, by simp [intOf]; omega⟩
              · have HX9 := hid (HEND.out (.inl (by omega)))
                clear HEND hti
                go_wp2_with fail
                exact ⟨⟨k + 1, _, by omega, by go_num, hid ⟨HX9.out.2.1, HX9.out.2.2.trans HS.out.2.1, HX9.out.1, HKE.out, HGE.out⟩⟩, by simp [intOf]; omega⟩
      · have HKN : Hid (gs.take k = gs) := by exact List.take_of_length_le (by rw [HGN.out]; omega)
        go_wp2_with fail
        go_meet
        have h3 := HS.out
        rw [HKN.out] at h3
        exact ⟨us', hid h3⟩
  case rest =>
    obtain ⟨us', HS⟩ := hcut
    exact ‹∀ a w, Code.wp _ _ _ a w → _› _ _ (otk7 HS.out.1 HS.out.2.2.1 HO.out HG.out HD0.out hd64 HN0.out HS.out.2.2.2.2 (fun y hy => by rw [HS.out.2.1]; exact HGF.out y hy) (fun w' us'' hp he hr hk => HQ.out w' us'' hp (he.trans HS.out.2.1) hr (HS.out.2.2.2.1.trans (hk.wider (fun x hx => by rw [HS.out.2.1] at hx; exact List.mem_append_right _ hx)))) _ _ _ _ _ _ _ _ _ _ _ _ _ _ _ _ _ _ _ _ _ _ _ _ _ _ _ _ _ _ _ _ _ _ _ _ _ _ _ _ _ _ _ _ _ _ _ _ _ _ _ _ _ _ _ _ _ _ _ _ _ _ _ _ _ _ _ _ _ _ _ _ _ _ _ _ _ _ _ _ _ _ _ _ _ _ _ _ _ _ _ _ _ _ _ _ _ _ _ _ _ _ _ _ _ _ _ _ _ _ _ _ _ _ _ _ _ _ _ _ _ _ _ _ _ _ _ _ _ _ _ _ _ _ _ _ _ _ _ _ _ _ _ _ _ _ _ _ _ _ _ _ _ _ _ _ _ _ _ _ _ _ _ _ _ _ _ _ _ _ _ _ _ _ _ _ _ _ _ _ _ _ _ _ _ _ _ _ _ _ _ _ _ _ _ _ _ _ _ _ _ _ _ _ _ _ _ _ _ _ _ _ _ _ _ _ _ _ _ _ _ _ _ _ _ _ _ _ _ _ _ _ _ _ _ _ _ _ _ _ _ _ _ _ _ _ _ _ _ _ _ _ _ _ _ _ _ _ _ _ _ _ _ _ _ _ _ _ _ _ _ _ _ _ _ _ _ _ _ _ _ _ _ _ _ _ _ _ _ _ _ _ _ _ _ _ _ _ _ _ _ _ _ _ _ _ _ _ _ _ _ _ _ _ _ _ _ _ _ _ _ _ _ _ _ _ _ _ _ _ _ _ _ _ _ _ _ _ _ _ _ _ _ _ _ _ _ _ _ _ _ _ _ _ _ _ _ _ _ _ _ _ _ _ _ _ _)
end Go.Proofs.Ytbjgfoiikhbonaf
