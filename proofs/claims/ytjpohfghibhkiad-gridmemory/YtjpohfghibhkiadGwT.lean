import Derived.Test.YtjpohfghibhkiadGwH
import Derived.Test.YtjpohfghibhkiadGwG
namespace Go.Proofs.Ytjpohfghibhkiad
open Go.ChangeShapes Go.WideShapes Go.ChangeAt Go.RowKit

/-! THE PROGRAM'S Take. -/

def fillTo (L : List (Int × Int)) (i : Nat) : List (Int × Int) := (List.range L.length).map fun j => if j < i then L.getD j (0, 0) else (0, 0)
theorem fillTo_length (L : List (Int × Int)) (i : Nat) : (fillTo L i).length = L.length := by simp [fillTo]
theorem fillTo_zero (L : List (Int × Int)) : fillTo L 0 = List.replicate L.length (0, 0) := by
  refine List.ext_getElem (by simp [fillTo]) fun j h1 h2 => ?_
  simp [fillTo]
theorem fillTo_full (L : List (Int × Int)) : fillTo L L.length = L := by
  refine List.ext_getElem (by simp [fillTo]) fun j h1 h2 => ?_
  simp [fillTo, h2]
theorem fillTo_set (L : List (Int × Int)) (i : Nat) : (fillTo L i).set i (L.getD i (0, 0)) = fillTo L (i + 1) := by
  refine List.ext_getElem (by simp [fillTo]) fun j h1 h2 => ?_
  rw [List.getElem_set]
  simp only [fillTo, List.getElem_map, List.getElem_range]
  by_cases e : i = j
  · subst e
    rw [if_pos rfl, if_pos (by omega)]
  · rw [if_neg e]
    by_cases hj : j < i
    · rw [if_pos hj, if_pos (by omega)]
    · rw [if_neg hj, if_neg (by omega)]

set_option maxRecDepth 100000 in
set_option maxHeartbeats 4000000 in
theorem take_own (B who : Int) (ss : List Sh) (n c : Nat) (a : Option Addr) (rs : List (List (Int × Int))) (ar : Option Addr) (nr cr : Nat) (w : World) (hS : Shs w a ss) (hn : ss.length = n) (hz : n ≤ 9223372036854775807) (hF : ∀ i, i < n → (shAt ss i).fr ≤ 9223372036854775807) (hR : RowsP w ar rs) (hnr : rs.length = nr) (hzr : nr ≤ 9223372036854775807) (hrz : ∀ i, i < nr → (rowAt rs i).length ≤ 9223372036854775807) :
    Calls Try.prog 10 #[.agg #[.int .i64 B, .slice a n c], .slice ar nr cr, .int .i64 who] w fun e w' => ∃ v E, e = .returned (.tuple #[v, .int .i64 E]) ∧ Below w.heap.size w w' ∧ (gridErrM B ss ≠ 0 → E = gridErrM B ss ∧ v = .slice none 0 0) ∧ (gridErrM B ss = 0 → (rowsOk (gN B) rs = false → E = 3 ∧ v = .slice none 0 0) ∧ (rowsOk (gN B) rs = true → E = 0 ∧ ∃ g, w.heap.size ≤ g ∧ v = .slice (some ⟨g, 0, none⟩) (placesOfM (gN B) ss who).length (placesOfM (gN B) ss who).length ∧ PArr w' g (takeM (gN B) ss rs who))) := by
  have hOW := fun (wz : World) (hbz : Below w.heap.size w wz) => ownersOf_any B ss n c a wz (hS.below hbz) hn hz hF
  have hAR := fun (N : Nat) (wz : World) (hbz : Below w.heap.size w wz) => areRows_any N rs ar nr cr wz (hR.below hbz) hnr hzr hrz
  have HAR := hid hAR
  have HNR := hid hnr
  have HGD := hid (@griderr_good B ss)
  have hmix : Try.prog.follows .mixedOrders = true := by kernel_rfl
  obtain ⟨G, eG⟩ : ∃ G, G = gridErrM B ss := ⟨_, rfl⟩
  simp only [← eG] at hOW HGD
  rw [← eG]
  clear eG hn hF hz hS hAR hnr hrz
  have q0 : (w.alloc (.cells #[.int .i64 B, .slice a n c] 24)).cell? ⟨w.heap.size, 0, none⟩ = some (.int .i64 B) := by rw [cell_of_row _ _ _ _ _ _ (heap_alloc_new w _)]; rfl
  go_enter Try.func10, Try.ntmps10
  go_wp2_with fail
  have hb1 : Below w.heap.size w (w.alloc (.cells #[.int .i64 B, .slice a n c] 24)) := (Below.refl _ w).alloc (Nat.le_refl _) _
  refine (hOW _ hb1).mono ?_
  rintro e w1 ⟨f, rfl, hw1, hTF⟩
  have hsz : (tabV f).size = 168 := by simp [tabV, tabF]
  have hf := hb1.trans (hw1.mono hb1.size)
  have hb2 : Below w.heap.size w (w1.alloc (.cells Try.zeroCells61 61)) := hf.alloc hf.size _
  have hl2 : w.heap.size ≤ w1.heap.size := hf.size
  have hO2 : (w1.alloc (.cells Try.zeroCells61 61)).heap[w1.heap.size]? = some (.cells Try.zeroCells61 61 (0, 0)) := heap_alloc_new w1 _
  have q1 := (hw1.cell (World.block_lt_of_cell? _ _ q0)).trans q0
  have q2 : ((w1.alloc (.cells Try.zeroCells61 61)).setRow w1.heap.size (tabV f)).cell? ⟨w.heap.size, 0, none⟩ = some (.int .i64 B) := by
    have hlt := World.block_lt_of_cell? _ _ q1
    have hb := below_setRow ((Below.refl w1.heap.size w1).alloc (Nat.le_refl _) (.cells Try.zeroCells61 61)) (Nat.le_refl _) (tabV f)
    exact (hb.cell hlt).trans q1
  have HTF := hid hTF
  clear hOW hw1 hb1 hTF q0 q1
  by_cases hG : G = 0
  · have d1 : (G != 0) = false := by simpa using hG
    have HG := hid hG
    obtain ⟨hB12, -, hok⟩ := HGD.out hG
    have hTF := HTF.out hG
    have hpl := fun (wz : World) (hA : ArrAt .i64 61 wz w1.heap.size (tabF (ownF ss ss.length))) => placesOf_any B who ss w1.heap.size wz hA hB12 hok
    have HPL := hid hpl
    have hgN : B * 12 = ((gN B : Nat) : Int) := by unfold gN; omega
    have hwr : wrap64 (B * 12) = ((gN B : Nat) : Int) := by unfold wrap64; omega
    have hN144 : gN B ≤ 144 := by unfold gN; omega
    have HNB := hid (show gN B = 12 * B.toNat from rfl)
    clear hpl hok hG
    go_wp2_with (refine wpList_store_row rfl 61 (.tmp 8) (.tmp 17) rfl w1.heap.size 61 _ _ rfl rfl hO2 (by kernel_rfl) (by kernel_rfl) (by kernel_rfl) ?_)
    have hA : ArrAt .i64 61 ((w1.alloc (.cells Try.zeroCells61 61)).setRow w1.heap.size (tabV f)) w1.heap.size (tabF (ownF ss ss.length)) := by
      rw [← hTF]
      exact setRow_heap _ _ _ _ _ _ hO2
    have hb3 := below_setRow hb2 hl2 (tabV f)
    generalize (w1.alloc (.cells Try.zeroCells61 61)).setRow w1.heap.size (tabV f) = w3 at *
    generalize w1.heap.size = gO at *
    refine (HAR.out _ w3 hb3).mono ?_
    rintro e w4 ⟨rfl, hb4⟩
    have hb5 := hb3.trans (hb4.mono hb3.size)
    have hA4 := hA.below hb4 hA.lt
    have hR4 := hR.below hb5
    clear hb4 hA hO2 hTF HTF HAR hb2 q2 hf
    cases hro : rowsOk (gN B) rs with
    | false =>
      have HRO := hid hro
      clear hro
      go_wp2_with fail
      go_ret2
      exact ⟨_, _, rfl, hb5, fun h => absurd HG.out h, fun _ => ⟨fun _ => ⟨rfl, rfl⟩, fun h => by rw [HRO.out] at h; cases h⟩⟩
    | true =>
      obtain ⟨h14, hrow⟩ := rowsTo_row hro
      have HRO := hid hro
      clear hro
      go_wp2_with fail
      refine (HPL.out _ hA4).mono ?_
      rintro e w5 ⟨vq, rfl, hOq, hb6⟩
      have hb7 := hb5.trans (hb6.mono hb5.size)
      have hR5 := hR4.below hb6
      obtain ⟨aq, cq, rfl, -, -⟩ := hOq.shape
      rw [← HNB.out] at hOq
      rw [← HNB.out]
      clear HPL hb6 hA4 hR4 hb5
      have HIN := hid (fun i (hi : i < (placesOfM (gN B) ss who).length) => places_in (getD_memG (0, 0) hi))
      have HTK := hid (fun i (hi : i < (placesOfM (gN B) ss who).length) => (show (takeM (gN B) ss rs who).getD i (0, 0) = (rowAt rs ((placesOfM (gN B) ss who).getD i (0, 0)).2.toNat).getD ((placesOfM (gN B) ss who).getD i (0, 0)).1.toNat (0, 0) by simp [takeM, List.getD, hi]))
      have htl : (takeM (gN B) ss rs who).length = (placesOfM (gN B) ss who).length := by simp [takeM]
      have hpb : (placesOfM (gN B) ss who).length ≤ 2016 := by
        have := placesTo_length (gN B) ss who 14
        have h2 : 14 * gN B ≤ 14 * 144 := Nat.mul_le_mul_left _ hN144
        unfold placesOfM
        omega
      have HPO := hid (fun (v : Value) (g : Nat) (w' : World) (hb : Below w.heap.size w w') (h1 : w.heap.size ≤ g) (hv : v = .slice (some ⟨g, 0, none⟩) (placesOfM (gN B) ss who).length (placesOfM (gN B) ss who).length) (hP : PArr w' g (takeM (gN B) ss rs who)) => (⟨v, 0, rfl, hb, fun h => absurd HG.out h, fun _ => ⟨fun h => absurd (HRO.out.symm.trans h) (by decide), fun _ => ⟨rfl, g, h1, hv, hP⟩⟩⟩ : ∃ v' E, Ending.returned (.tuple #[v, .int .i64 0]) = .returned (.tuple #[v', .int .i64 E]) ∧ Below w.heap.size w w' ∧ (G ≠ 0 → E = G ∧ v' = .slice none 0 0) ∧ (G = 0 → (rowsOk (gN B) rs = false → E = 3 ∧ v' = .slice none 0 0) ∧ (rowsOk (gN B) rs = true → E = 0 ∧ ∃ g, w.heap.size ≤ g ∧ v' = .slice (some ⟨g, 0, none⟩) (placesOfM (gN B) ss who).length (placesOfM (gN B) ss who).length ∧ PArr w' g (takeM (gN B) ss rs who)))))
      obtain ⟨PL, ePL⟩ : ∃ PL, PL = placesOfM (gN B) ss who := ⟨_, rfl⟩
      have HEP := hid ePL
      rw [← ePL] at hOq HIN HTK htl hpb
      rw [← ePL]
      obtain ⟨TK, eTK⟩ : ∃ TK, TK = takeM (gN B) ss rs who := ⟨_, rfl⟩
      have HET := hid eTK
      rw [← eTK] at HTK htl
      clear ePL eTK
      obtain ⟨m, em⟩ : ∃ m, m = PL.length := ⟨_, rfl⟩
      have HM := hid em
      rw [← em] at hOq htl hpb
      rw [← em]
      have HTL := hid htl
      have H14 := hid h14
      have HROW := hid hrow
      have hnr14 : nr = 14 := by rw [← HNR.out]; exact h14
      subst hnr14
      clear em htl h14 hrow
      obtain ⟨N, eN⟩ : ∃ N, N = gN B := ⟨_, rfl⟩
      rw [← eN] at hN144 hgN hwr HROW HNB
      rw [← eN]
      have HIN' : Hid (∀ i, i < m → ∃ tone t : Nat, PL.getD i (0, 0) = ((tone : Int), (t : Int)) ∧ tone < N ∧ t < 14) := by
        unfold Hid
        intro i hi
        rw [HM.out] at hi
        rw [eN]
        exact HIN.out i hi
      clear eN HIN
      go_wp2_with (first | (at_make; refine wpList_makePts m rfl _ _ rfl _ _ rfl rfl rfl rfl (by omega) ?_; intro w6 hP6 hb6))
      obtain ⟨gP, egP⟩ : ∃ gP, gP = w5.heap.size := ⟨_, rfl⟩
      rw [← egP] at hP6
      rw [← egP]
      have HGP := hid egP
      clear egP
      have hfz : fillTo TK 0 = List.replicate m (0, 0) := by rw [fillTo_zero, HTL.out]
      rw [← hfz] at hP6
      clear hfz
      go_loopw [35] (fun q wr => ∃ i : Nat, i ≤ m ∧ q = .int .i64 i ∧ PArr wr gP (fillTo TK i) ∧ Below w5.heap.size w5 wr) (fun q _ => m - (intOf q).toNat)
      case atStart => exact ⟨0, Nat.zero_le _, rfl, hP6, hb6⟩
      case round =>
        clear hP6 hb6
        obtain ⟨i, hi, rfl, hP, hbz⟩ := hrel
        by_cases hlt : i < m
        · have HLT := hid hlt
          have hiP : i < PL.length := by rw [← HM.out]; exact hlt
          obtain ⟨tone, t, ep, htone, ht14⟩ := HIN'.out i hlt
          have htr : t < rs.length := by rw [H14.out]; exact ht14
          obtain ⟨gq, rfl, hq1, hq2⟩ := (hOq.below hbz).cells hiP
          rw [ep] at hq1 hq2
          have gq1 : wr.cell? ⟨gq, i * 2, none⟩ = some (.int .i64 tone) := hq1
          have gq2 : wr.cell? ⟨gq, i * 2 + 1, none⟩ = some (.int .i64 t) := hq2
          have htk := HTK.out i hiP
          rw [ep] at htk
          simp only [Int.toNat_natCast] at htk
          obtain ⟨gr, or, rfl, hcr⟩ := (hR5.below hbz).at htr
          obtain ⟨ra, rc, gr1, hpr⟩ := hcr t htr
          have hrl : (rowAt rs t).length = N := HROW.out t htr
          obtain ⟨gw, ow, rfl, hcw⟩ := hpr.at (i := tone) (by rw [hrl]; exact htone)
          have gw1 := hcw tone (by rw [hrl]; exact htone)
          rw [hrl] at gr1
          have HFS := hid (fillTo_set TK i)
          rw [htk] at HFS
          generalize (rowAt rs t).getD tone (0, 0) = x at *
          clear hq1 hq2 hcr hcw hpr hiP htr ep hrl htk
          have hal := (Below.refl wr.heap.size wr).alloc (Nat.le_refl _) (.cells #[.int .i64 tone, .int .i64 t] 39)
          have p0 : (wr.alloc (.cells #[.int .i64 tone, .int .i64 t] 39)).cell? ⟨wr.heap.size, 0, none⟩ = some (.int .i64 tone) := by rw [cell_of_row _ _ _ _ _ _ (heap_alloc_new wr _)]; rfl
          have p1 : (wr.alloc (.cells #[.int .i64 tone, .int .i64 t] 39)).cell? ⟨wr.heap.size, 1, none⟩ = some (.int .i64 t) := by rw [cell_of_row _ _ _ _ _ _ (heap_alloc_new wr _)]; rfl
          have s1 := (hal.cell (World.block_lt_of_cell? wr _ gr1)).trans gr1
          have s2 := (hal.cell (World.block_lt_of_cell? wr _ gw1.1)).trans gw1.1
          have s3 := (hal.cell (World.block_lt_of_cell? wr _ gw1.2)).trans gw1.2
          have hPl := hP.below hal hP.lt
          have hbl := hbz.trans (hal.mono hbz.size)
          go_upto_region 11 with fail
          clear hal gr1 gw1 hP hbz gq1 gq2
          generalize wr.alloc (.cells #[.int .i64 tone, .int .i64 t] 39) = wl at *
          generalize wr.heap.size = gp at *
          have hcw : ∀ (wc : World), Below wl.heap.size wl wc → ∀ q v, wl.cell? q = some v → wc.cell? q = some v := fun wc hbc q v h => (hbc.cell (World.block_lt_of_cell? wl _ h)).trans h
          refine wp_mono (region_last (Q := fun e a' w' => e = .normal ∧ a' = { tmps := (_ : List Value).toArray, defers := [] } ∧ ∃ wc, Below wl.heap.size wl wc ∧ w' = wc.setCells gP (i * 2) [.int .i64 x.1, .int .i64 x.2]) 12 40 (.slice (some ⟨gP, 0, none⟩) m m) [(41, .int .i64 i), (42, .slice (some ⟨gr, or, none⟩) 14 cr), (43, .pointer (some ⟨gp, 0 + 1, none⟩)), (44, .int .i64 t), (45, .pointer (some ⟨gr, or + t, none⟩)), (46, .slice (some ⟨gw, ow, none⟩) N rc), (47, .pointer (some ⟨gp, 0, none⟩)), (48, .int .i64 tone), (49, .pointer (some ⟨gw, ow + tone * 2, none⟩)), (50, .agg #[.int .i64 x.1, .int .i64 x.2]), (51, .pointer (some ⟨gP, i * 2, none⟩))]
            [[11], [12], [1], [13], [43], [42, 44], [45], [13], [47], [46, 48], [49], [40, 41]] [11, 11, 5, 4, 5, 6, 9, 8, 9, 10, 12, 12] wl hmix rfl rfl (show ([40, 41, 42, 43, 44, 45, 46, 47, 48, 49, 50, 51] : List Nat).Nodup by decide) (by kernel_rfl) (by kernel_rfl) (by kernel_rfl) (by kernel_rfl) (by kernel_rfl) (fun i' hi' ac wc hbc hr Q K hK => by
            have h12 : i' = 0 ∨ i' = 1 ∨ i' = 2 ∨ i' = 3 ∨ i' = 4 ∨ i' = 5 ∨ i' = 6 ∨ i' = 7 ∨ i' = 8 ∨ i' = 9 ∨ i' = 10 ∨ i' = 11 := by omega
            rcases h12 with rfl | rfl | rfl | rfl | rfl | rfl | rfl | rfl | rfl | rfl | rfl | rfl
            · exact op_value rfl rfl (run_moveQ wc rfl (hr 11 (by decide))) (hK wc (grownG wc))
            · exact op_value rfl rfl (run_moveQ wc rfl (hr 12 (by decide))) (hK wc (grownG wc))
            · exact op_value rfl rfl (run_moveQ wc rfl (hr 1 (by decide))) (hK wc (grownG wc))
            · exact op_value rfl rfl (run_fldPl1 wc rfl (hr 13 (by decide))) (hK wc (grownG wc))
            · exact op_value rfl rfl (run_loadI wc rfl (hr 43 (by decide)) (hcw wc hbc _ _ p1)) (hK wc (grownG wc))
            · exact op_value rfl rfl (run_idxRw wc rfl (hr 42 (by decide)) (hr 44 (by decide)) ht14) (hK wc (grownG wc))
            · exact op_value rfl rfl (run_loadRw wc rfl (hr 45 (by decide)) (hcw wc hbc _ _ s1)) (hK wc (grownG wc))
            · exact op_value rfl rfl (run_fldPl0 wc rfl (hr 13 (by decide))) (hK wc (grownG wc))
            · exact op_value rfl rfl (run_loadI wc rfl (hr 47 (by decide)) (hcw wc hbc _ _ p0)) (hK wc (grownG wc))
            · exact op_value rfl rfl (run_idxPt wc rfl (hr 46 (by decide)) (hr 48 (by decide)) htone) (hK wc (grownG wc))
            · exact op_value rfl rfl (run_loadPt wc rfl (hr 49 (by decide)) ⟨hcw wc hbc _ _ s2, hcw wc hbc _ _ s3⟩) (hK wc (grownG wc))
            · exact op_value rfl rfl (run_idxPt0 wc rfl (hr 40 (by decide)) (hr 41 (by decide)) hlt) (hK wc (grownG wc)))
            (fun wc hbc => by
              have hPc := hPl.below hbc hPl.lt
              exact op_skip rfl rfl (run_storeQ (p := x) wc rfl (eval_setAll 51 (show ([40, 41, 42, 43, 44, 45, 46, 47, 48, 49, 50, 51] : List Nat).Nodup by decide) (by kernel_rfl)) (eval_setAll 50 (show ([40, 41, 42, 43, 44, 45, 46, 47, 48, 49, 50, 51] : List Nat).Nodup by decide) (by kernel_rfl)) hPc (by rw [fillTo_length, HTL.out]; exact hlt)) ⟨rfl, rfl, wc, hbc, rfl⟩)) ?_
          rintro e a' w' ⟨rfl, rfl, wc, hbc, rfl⟩
          have hP' := (hPl.below hbc hPl.lt).set (i := i) (by rw [fillTo_length, HTL.out]; exact hlt) x
          rw [HFS.out] at hP'
          have hb' : Below w5.heap.size w5 (wc.setCells gP (i * 2) [.int .i64 x.1, .int .i64 x.2]) := (hbl.trans (hbc.mono hbl.size)).trans (below_setCells2 wc (by rw [HGP.out]; exact Nat.le_refl _) _ _ _)
          generalize wc.setCells gP (i * 2) [.int .i64 x.1, .int .i64 x.2] = wn at *
          clear hcw hbc hPl hbl p0 p1 s1 s2 s3
          dsimp only [setAll, List.set, List.append_nil, List.cons_append, List.nil_append]
          go_wp2_with fail
          go_roundw
          case rel => exact ⟨i + 1, by have := HLT.out; omega, by go_num, hP', hb'⟩
          case measure => have := HLT.out; simp [intOf]; omega
        · obtain rfl : i = m := by omega
          have hfin := hb7.trans (hbz.mono hb7.size)
          have hft : fillTo TK i = TK := by rw [← HTL.out]; exact fillTo_full TK
          rw [hft] at hP
          clear hft
          go_wp2_with fail
          go_ret2
          exact HPO.out _ gP wr hfin (by rw [HGP.out]; exact hb7.size) (by rw [← HEP.out, ← HM.out]; rfl) (by rw [← HET.out]; exact hP)
  · have d1 : (G != 0) = true := by simpa using hG
    have HG := hid hG
    clear hG
    go_wp2_with (refine wpList_store_row rfl 61 (.tmp 8) (.tmp 17) rfl w1.heap.size 61 _ _ rfl rfl hO2 (by kernel_rfl) (by kernel_rfl) (by kernel_rfl) ?_)
    go_ret2
    exact ⟨_, _, rfl, below_setRow hb2 hl2 _, fun _ => ⟨rfl, rfl⟩, fun h => absurd h HG.out⟩
end Go.Proofs.Ytjpohfghibhkiad
