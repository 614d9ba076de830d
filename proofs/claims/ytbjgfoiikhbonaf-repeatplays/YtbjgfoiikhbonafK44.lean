import Derived.Test.YtbjgfoiikhbonafK43
set_option linter.unusedVariables false
set_option linter.unusedSimpArgs false
namespace Go.Proofs.Ytbjgfoiikhbonaf
open Go.ChangeShapes Go.WideShapes Go.ChangeAt Go.RowKit
theorem Try.infoBo : (Try.prog.info? 4).map (fun i => (i.zero, i.size, i.bytes)) = some (some (.bool false), 1, 1) := by kernel_rfl
set_option maxRecDepth 100000 in
set_option maxHeartbeats 4000000 in
theorem otake_gap {w : World} {b n c cc : Nat} {a ua : Option Addr} {us : List UoP} {m : OutM} {nx : Int} (h : POut w b m.win m.beg ua cc us) (hm : OutR m us) (hn : m.n ≤ manyO) {gs : List GapM} (hg : Gps w a gs) (hgn : gs.length = n) (hnl : n ≤ maxLen) (h1 : 0 ≤ nx) (h2 : nx ≤ 63) (hs : m.spoken (aheadN nx m.beg) = true) (hgo : gs.all (m.gapOk (aheadN nx m.beg)) = false) :
    Calls Try.prog 23 #[.pointer (some ⟨b, 0, none⟩), .agg #[.int .i64 nx, .slice a n c]] w fun e w' => e = .returned (.int .i64 3) ∧ Below w.heap.size w w' := by
  have hb : Below w.heap.size w (w.alloc (.cells #[.int .i64 nx, .slice a n c] 73)) := (Below.refl _ w).alloc (Nat.le_refl _) _
  have hA := at_alloc w 73 [.int .i64 nx, .slice a n c]
  have y0 := hA.cell 0
  have hlen := hm.len
  have hbn := hm.bn
  have hP := h.kept (Kept.of_below (S := []) hb) (by simp)
  obtain ⟨-, c1, c2⟩ := hP.head
  rw [hlen] at c2
  have hn' : m.n ≤ 2000000000000 := hn
  have hah := fun wz => rahead_any nx m.beg wz h1 h2 (by unfold manyU; omega)
  have hd : aheadN nx m.beg < 64 := by unfold aheadN; omega
  have HG0 := hid (hg.kept (Kept.of_below (S := []) hb) (fun x _ => by simp))
  have HGN := hid hgn
  have HGO := hid hgo
  clear hgo
  have y1 : (w.alloc (.cells #[.int .i64 nx, .slice a n c] 73)).cell? ⟨w.heap.size, 1, none⟩ = some (.slice a n c) := hA.cell 1
  have hnl2 : n ≤ 9223372036854775807 := hnl
  have HSZ : Hid ((w.alloc (.cells #[.int .i64 nx, .slice a n c] 73)).heap.size = w.heap.size + 1) := by exact World.size_alloc _ _
  have HP := hid hP
  have HM := hid hm
  have HB := hid hb
  have HSP0 : Hid (∀ j, j < aheadN nx m.beg → m.beg + j < m.n ∧ m.mark (m.beg + j) 0 ≠ 0) := fun j hj => by
    unfold OutM.spoken at hs
    rw [List.all_eq_true] at hs
    have h4 := hs j (List.mem_range.2 hj)
    simp only [Bool.and_eq_true, decide_eq_true_eq, bne_iff_ne] at h4
    exact h4
  have HL := hid hlen
  obtain ⟨N, hN⟩ : ∃ N, N = m.n := ⟨_, rfl⟩
  obtain ⟨G, hG⟩ : ∃ G, G = m.beg := ⟨_, rfl⟩
  obtain ⟨d, hd0⟩ : ∃ d, d = aheadN nx m.beg := ⟨_, rfl⟩
  rw [← hN] at c2 hn' hbn
  rw [← hG] at c1 hbn
  rw [← hd0] at hd
  have hah2 : ∀ wz, Calls Try.prog 44 #[.int .i64 nx, .int .i64 (G : Int)] wz fun e w2 => e = .returned (.int .i64 (d : Int)) ∧ w2 = wz := fun wz => by
    rw [hG, hd0]
    exact (hah wz).mono (by rintro e w2 ⟨rfl, rfl⟩; exact ⟨rfl, rfl⟩)
  have HSP : Hid (∀ j, j < d → m.beg + j < m.n ∧ m.mark (m.beg + j) 0 ≠ 0) := fun j hj => HSP0.out j (by rw [← hd0]; exact hj)
  have HN := hid hN
  have HG := hid hG
  have HD := hid hd0
  clear HSP0 hg hgn hnl hb hA h hm hn hs hlen hP hah hN hG hd0
  go_enter Try.func23, Try.ntmps23
  go_upto_region 3 with fail
  generalize (w.alloc (.cells #[.int .i64 nx, .slice a n c] 73)) = wA at *
  go_quiet (first | (go_at_call 44; exact Calls.quiet_of_same (hah2 _)))
  go_wp2_with fail
  go_loopw [6] (fun vi wr => ∃ i : Nat, i ≤ d ∧ vi = .int .i64 i ∧ Hid (∀ j, j < i → m.beg + j < m.n ∧ m.mark (m.beg + j) 0 ≠ 0) ∧ ∃ q, wr = wA.drewN q) (fun vi _ => d - (intOf vi).toNat)
  case atStart => exact ⟨0, Nat.zero_le _, rfl, hid (fun j hj => absurd hj (by omega)), _, rfl⟩
  case round =>
    obtain ⟨i, hi, rfl, HJ, q, rfl⟩ := hrel
    by_cases hid2 : i < d
    · by_cases hGN : N ≤ G + i
      · have x1 : decide ((N : Int) ≤ (G : Int) + (i : Int)) = true := decide_eq_true (by omega)
        exfalso
        have h4 := HSP.out i hid2
        rw [← HG.out, ← HN.out] at h4
        omega
      · have x1 : decide ((N : Int) ≤ (G : Int) + (i : Int)) = false := decide_eq_false (by omega)
        have hil : G + i < us.length := by rw [HL.out, ← HN.out]; omega
        obtain ⟨ug, eua, hub, hun⟩ := HP.out.un (i := G + i) hil
        subst eua
        have hu := HM.out.un (G + i) hil
        have p1 := hun.c1
        obtain ⟨ad, cm, emv, hx, hlc, hcm⟩ := hun.ag.shape
        have hml := hu.ml
        have hlo := hu.lo
        obtain ⟨gm, rfl⟩ := hx (by intro e; have h3 := congrArg List.length e; rw [hml] at h3; have h3 : (us.getD (G + i) .zero).text.size = 0 := h3; omega)
        have hOw := hun.ag
        rw [emv] at hOw p1
        have p2 := hOw.cell (i := 0) (by omega)
        obtain ⟨hk1, hk2⟩ := hu.mks 0 hlo
        rw [hk1] at p2
        have hk3 : (mkc (m.mark (G + i) 0) == 110) = decide (m.mark (G + i) 0 = 0) := by
          by_cases e : m.mark (G + i) 0 = 0
          · rw [e]; rfl
          · rw [decide_eq_false e, beq_eq_false_iff_ne]
            intro e2
            exact e (mkc_inj hk2 (by omega) e2)
        rw [hml] at p1
        have hlp : 0 < (us.getD (G + i) .zero).text.size := hlo
        generalize (us.getD (G + i) .zero).text.size = L at *
        have HK3 : Hid (m.mark (G + i) 0 = m.mark (G + i) 0) := rfl
        by_cases e : m.mark (G + i) 0 = 0
        · rw [decide_eq_true e] at hk3
          have HE := hid e
          clear e hun hu emv hx hml hOw hk1 HK3
          generalize mkc (m.mark (G + i) 0) = Y at *
          exfalso
          have h4 := (HSP.out i hid2).2
          rw [← HG.out] at h4
          exact h4 HE.out
        · rw [decide_eq_false e] at hk3
          have HE := hid e
          clear e hun hu emv hx hml hOw hk1 HK3
          generalize hY : mkc (m.mark (G + i) 0) = Y at p2 hk3
          clear hY
          go_upto_region 7 with fail
          go_quiet (fail)
          go_wp2_with fail
          refine ⟨⟨i + 1, by omega, by go_num, hid (fun j hj => ?_), _, rfl⟩, by simp [intOf]; omega⟩
          by_cases ej : j = i
          · subst ej
            rw [← HG.out, ← HN.out]
            exact ⟨by omega, HE.out⟩
          · exact HJ.out j (by omega)
    · have HID : Hid (i = d) := by exact (show i = d by omega)
      obtain ⟨i0, hi0, hz0, hz1, hz2⟩ := info_parts Try.infoBo
      go_wp2_with (at_make; refine wpList_make_full _ rfl _ _ 134 rfl (wA.drewN q).heap.size 4 i0 (.bool false) 1 Try.underlying134 hi0 hz0 hz1 .i64 .i64 _ _ d rfl rfl rfl rfl (by rw [hz2]; omega) (by unfold maxLen; omega) (Nat.le_refl _) ?_; intro w2 ho2 hg2)
      have hk2 : Kept [] wA w2 := ((Kept.refl [] wA).drewN q).trans (Kept.grownR hg2)
      have HK2 := hid hk2
      have HO2 := hid ho2
      clear ho2 hg2 hk2 y0
      have y1' := keptCellQ HK2.out y1 (by simp)
      go_loopw [8] (fun vk wr => ∃ k : Nat, k ≤ n ∧ vk = .int .i64 k ∧ Hid (∀ j, j < k → m.gapOk d (gs.getD j .zero) = true) ∧ Hid (Kept [] w2 wr)) (fun vk _ => n - (intOf vk).toNat)
      case atStart => exact ⟨0, by omega, rfl, hid (fun j hj => absurd hj (by omega)), Kept.refl _ _⟩
      case round =>
        obtain ⟨k, hk, rfl, HJG, HKR⟩ := hrel
        obtain ⟨wk, ewk⟩ : ∃ wk, wk = wr := ⟨_, rfl⟩
        subst ewk
        have y2 := keptCellQ HKR.out y1' (by simp)
        by_cases hkn : k < n
        · obtain ⟨gb, go, rfl, hC⟩ := HG0.out (by intro e; have h3 := HGN.out; rw [e] at h3; have h3 : 0 = n := h3; omega)
          obtain ⟨e0, e1, e2⟩ := hC k (by rw [HGN.out]; exact hkn)
          have hkk := HK2.out.trans HKR.out
          have f0 := keptCellQ hkk e0 (by simp)
          have f1 := keptCellQ hkk e1 (by simp)
          have f2 := keptCellQ hkk e2 (by simp)
          clear hC e0 e1 e2
          obtain ⟨g, hgg⟩ : ∃ g, g = gs.getD k .zero := ⟨_, rfl⟩
          rw [← hgg] at f0 f1 f2
          have HGG := hid hgg
          clear hgg
          obtain ⟨num, frm, til⟩ := g
          dsimp only at f0 f1 f2
          have hkA : Kept [] wk (wk.alloc (.cells #[.int .i64 num, .int .i64 frm, .int .i64 til] 130)) := (Kept.refl _ wk).alloc _
          have hAG := at_alloc wk 130 [.int .i64 num, .int .i64 frm, .int .i64 til]
          have HKG := hid (HKR.out.trans hkA)
          have d1 := keptCellQ (hkk.trans hkA) c1 (by simp)
          have d2 := keptCellQ (hkk.trans hkA) c2 (by simp)
          have HPG := hid (HP.out.kept (hkk.trans hkA) (by simp))
          have HBG := hid (HB.out.trans (Kept.below (hkk.trans hkA) HB.out.size (by simp)))
          clear hkk hkA
          go_upto_region 14 with fail
          generalize (wk.alloc (.cells #[.int .i64 num, .int .i64 frm, .int .i64 til] 130)) = wG at *
          have g0 : wG.cell? ⟨wk.heap.size, 0, none⟩ = some (.int .i64 num) := hAG.cell 0
          have g1 : wG.cell? ⟨wk.heap.size, 1, none⟩ = some (.int .i64 frm) := hAG.cell 1
          have g2 : wG.cell? ⟨wk.heap.size, 2, none⟩ = some (.int .i64 til) := hAG.cell 2
          obtain ⟨bg, ebg⟩ : ∃ bg, bg = wk.heap.size := ⟨_, rfl⟩
          rw [← ebg] at g0 g1 g2
          rw [← ebg]
          clear ebg hAG f0 f1 f2 y2
          obtain ⟨B1, hB1⟩ : ∃ B1, B1 = decide (num < 0 ∨ 63 < num ∨ d ≤ aheadN num G) := ⟨_, rfl⟩
          obtain ⟨e, he⟩ : ∃ e, e = aheadN num G := ⟨_, rfl⟩
          rw [← he] at hB1
          have hahn : 0 ≤ num → num ≤ 63 → ∀ wz, Calls Try.prog 44 #[.int .i64 num, .int .i64 (G : Int)] wz fun e' w2 => e' = .returned (.int .i64 (e : Int)) ∧ w2 = wz := fun h3 h4 wz => by
            rw [he]
            exact rahead_any num G wz h3 h4 (by unfold manyU; omega)
          have HEE := hid he
          clear he
          go_cut [103] from 73 to 150 (fun t wx => t = .bool B1 ∧ ∃ q, wx = wG.drewN q)
          case first =>
            by_cases t1 : num < 0
            · have v1 : decide (num < 0) = true := decide_eq_true t1
              have e2 : B1 = true := by rw [hB1]; simp [t1]
              subst e2
              clear hB1 hahn
              go_quiet (fail)
              go_wp2
              go_meet
              exact ⟨rfl, _, rfl⟩
            · have v1 : decide (num < 0) = false := decide_eq_false t1
              by_cases t2 : 63 < num
              · have v2 : decide (63 < num) = true := decide_eq_true t2
                have e2 : B1 = true := by rw [hB1]; simp [t2]
                subst e2
                clear hB1 hahn
                go_quiet (fail)
                go_wp2
                go_meet
                exact ⟨rfl, _, rfl⟩
              · have v2 : decide (63 < num) = false := decide_eq_false t2
                have hah3 := hahn (by omega) (by omega)
                have v3 : decide (d ≤ e) = B1 := by
                  rw [hB1]
                  simp [t1, t2]
                clear hB1 hahn
                go_quiet (first | (go_at_call 44; exact Calls.quiet_of_same (hah3 _)))
                go_wp2
                go_meet
                exact ⟨by first | rfl | rw [v3], _, rfl⟩
          case rest =>
            obtain ⟨rfl, q3, rfl⟩ := hcut
            have HBQ := hid (belowN HBG.out q3)
            cases B1 with
            | true =>
              clear hB1 hahn
              go_wp2_with fail
              go_ret
              exact ⟨rfl, HBQ.out⟩
            | false =>
              have h3 := of_decide_eq_false hB1.symm
              have w1 : 0 ≤ num := by omega
              have w2' : num ≤ 63 := by omega
              have w3 : e < d := by omega
              have hah3 := hahn w1 w2'
              clear hB1 h3 hahn
              have hsp := HSP.out e w3
              rw [← HG.out, ← HN.out] at hsp
              have hil : G + e < us.length := by rw [HL.out, ← HN.out]; exact hsp.1
              have hGe := hsp.1
              obtain ⟨ug, eua, hub, hun⟩ := HPG.out.un (i := G + e) hil
              subst eua
              have p0 := hun.c0
              have hu := HM.out.un (G + e) hil
              have hhi := hu.hi
              have HUS := hid hu.sz
              obtain ⟨T, hT⟩ : ∃ T, T = (us.getD (G + e) .zero).text := ⟨_, rfl⟩
              rw [← hT] at p0 hhi
              have HT := hid hT
              clear hun hu hT hub hsp hil
              go_upto_region 16 with fail
              obtain ⟨wQ, ewQ⟩ : ∃ wQ, wQ = wG.drewN q3 := ⟨_, rfl⟩
              have n0 : wQ.cell? ⟨bg, 0, none⟩ = some (.int .i64 num) := by rw [ewQ]; exact g0
              have n1 : wQ.cell? ⟨bg, 1, none⟩ = some (.int .i64 frm) := by rw [ewQ]; exact g1
              have n2 : wQ.cell? ⟨bg, 2, none⟩ = some (.int .i64 til) := by rw [ewQ]; exact g2
              have n3 : wQ.cell? ⟨b, 1, none⟩ = some (.int .i64 (G : Int)) := by rw [ewQ]; exact d1
              have n4 : wQ.cell? ⟨b, 2, none⟩ = some (.slice (some ⟨ug, 0, none⟩) N cc) := by rw [ewQ]; exact d2
              have n5 : wQ.cell? ⟨ug, (G + e) * 3, none⟩ = some (.string T) := by rw [ewQ]; exact p0
              have HBQ2 : Hid (Below w.heap.size w wQ) := by rw [ewQ]; exact HBQ.out
              have HKQ : Hid (Kept [] w2 wQ) := by rw [ewQ]; exact HKG.out.drewN q3
              rw [← ewQ]
              clear ewQ g0 g1 g2 d1 d2 p0 HBQ HKG HPG HBG
              go_quiet (first | (go_at_call 44; exact Calls.quiet_of_same (hah3 _)))
              go_upto_region 17 with fail
              obtain ⟨B2, hB2⟩ : ∃ B2, B2 = decide (frm < 0 ∨ (T.size : Int) ≤ frm ∨ (T.size : Int) < til ∨ (0 ≤ til ∧ til ≤ frm)) := ⟨_, rfl⟩
              go_cut [150] from 73 to 150 (fun t wx => t = .bool B2 ∧ wx = wQ.drewN nq)
              case first =>
                by_cases t1 : frm < 0
                · skip
                  have v1 : decide (frm < 0) = true := decide_eq_true t1
                  have e2 : B2 = true := by rw [hB2]; first | exact decide_eq_true (by omega) | exact decide_eq_false (by omega)
                  subst e2
                  clear hB2
                  go_wp2_with fail
                  go_meet
                  exact ⟨rfl, rfl⟩
                · have v1 : decide (frm < 0) = false := decide_eq_false t1
                  by_cases t2 : (T.size : Int) ≤ frm
                  · skip
                    have v2 : decide ((T.size : Int) ≤ frm) = true := decide_eq_true t2
                    have e2 : B2 = true := by rw [hB2]; first | exact decide_eq_true (by omega) | exact decide_eq_false (by omega)
                    subst e2
                    clear hB2
                    go_wp2_with fail
                    go_meet
                    exact ⟨rfl, rfl⟩
                  · have v2 : decide ((T.size : Int) ≤ frm) = false := decide_eq_false t2
                    by_cases t3 : (T.size : Int) < til
                    · skip
                      have v3 : decide ((T.size : Int) < til) = true := decide_eq_true t3
                      have e2 : B2 = true := by rw [hB2]; first | exact decide_eq_true (by omega) | exact decide_eq_false (by omega)
                      subst e2
                      clear hB2
                      go_wp2_with fail
                      go_meet
                      exact ⟨rfl, rfl⟩
                    · have v3 : decide ((T.size : Int) < til) = false := decide_eq_false t3
                      by_cases t4 : 0 ≤ til
                      · have v4 : decide (0 ≤ til) = true := decide_eq_true t4
                        by_cases t5 : til ≤ frm
                        · skip
                          have v5 : decide (til ≤ frm) = true := decide_eq_true t5
                          have e2 : B2 = true := by rw [hB2]; first | exact decide_eq_true (by omega) | exact decide_eq_false (by omega)
                          subst e2
                          clear hB2
                          go_wp2_with fail
                          go_meet
                          exact ⟨rfl, rfl⟩
                        · skip
                          have v5 : decide (til ≤ frm) = false := decide_eq_false t5
                          have e2 : B2 = false := by rw [hB2]; first | exact decide_eq_true (by omega) | exact decide_eq_false (by omega)
                          subst e2
                          clear hB2
                          go_wp2_with fail
                          go_meet
                          exact ⟨rfl, rfl⟩
                      · skip
                        have v4 : decide (0 ≤ til) = false := decide_eq_false t4
                        have e2 : B2 = false := by rw [hB2]; first | exact decide_eq_true (by omega) | exact decide_eq_false (by omega)
                        subst e2
                        clear hB2
                        go_wp2_with fail
                        go_meet
                        exact ⟨rfl, rfl⟩
              case rest =>
                obtain ⟨rfl, rfl⟩ := hcut
                cases B2 with
                | true =>
                  clear hB2
                  go_wp2_with fail
                  go_ret
                  exact ⟨rfl, belowN HBQ2.out _⟩
                | false =>
                  have h3 := of_decide_eq_false hB2.symm
                  have HF3 : Hid (0 ≤ frm ∧ frm < (T.size : Int) ∧ til ≤ (T.size : Int) ∧ (til < 0 ∨ frm < til)) := by exact (show 0 ≤ frm ∧ frm < (T.size : Int) ∧ til ≤ (T.size : Int) ∧ (til < 0 ∨ frm < til) by omega)
                  clear hB2 h3
                  go_wp2_with fail
                  refine ⟨⟨k + 1, by omega, by go_num, hid (fun j hj => ?_), hid (HKQ.out.drewN _)⟩, by simp [intOf]; omega⟩
                  by_cases ej : j = k
                  · subst ej
                    rw [← HGG.out]
                    unfold OutM.gapOk
                    simp only [Bool.and_eq_true, decide_eq_true_eq]
                    rw [← HG.out, ← HEE.out, HUS.out, ← HT.out]
                    exact ⟨⟨w1, w2'⟩, w3, HF3.out⟩
                  · exact HJG.out j (by omega)
        · exfalso
          have h3 : gs.all (m.gapOk (aheadN nx m.beg)) = true := by
            rw [List.all_eq_true]
            intro g hg
            obtain ⟨j, hj, rfl⟩ := List.mem_iff_getElem.1 hg
            have h4 := HJG.out j (by rw [HGN.out] at hj; omega)
            rw [HD.out, List.getD_eq_getElem?_getD, List.getElem?_eq_getElem hj] at h4
            exact h4
          rw [HGO.out] at h3
          cases h3
end Go.Proofs.Ytbjgfoiikhbonaf
