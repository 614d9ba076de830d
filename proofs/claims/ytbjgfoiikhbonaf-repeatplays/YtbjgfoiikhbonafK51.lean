import Derived.Test.YtbjgfoiikhbonafK50
set_option linter.unusedVariables false
set_option linter.unusedSimpArgs false
namespace Go.Proofs.Ytbjgfoiikhbonaf
open Go.ChangeShapes Go.WideShapes Go.ChangeAt Go.RowKit
theorem gapAt_made {w : World} {B g d : Nat} (h : w.ownsRow B 4 1 (.slice (some ⟨g, 0, none⟩) d d) d (madeCells (Value.bool false).cells (d * 1)).toList) : GapAt w (some ⟨g, 0, none⟩) d (fun _ => false) := fun i hi => by
  have e : (madeCells (Value.bool false).cells (d * 1)).toList = List.replicate d (.bool false) := by rw [Nat.mul_one]; exact toList_madeCells_one _ _
  rw [e] at h
  obtain ⟨cur, hA, -, -, -, -, hct, -⟩ := row_at h
  refine ⟨g, rfl, ?_, hA.free i⟩
  rw [hA.cell, ← List.getElem?_take_of_lt (j := d * 1) (by omega), hct, List.getElem?_replicate, if_pos hi]
set_option maxRecDepth 100000 in
set_option maxHeartbeats 4000000 in
theorem otake_ok {w : World} {b n c cc : Nat} {a ua : Option Addr} {us : List UoP} {m : OutM} {nx : Int} (h : POut w b m.win m.beg ua cc us) (hm : OutR m us) (ho : OrdM m) (hn : m.n ≤ manyO) {gs : List GapM} (hg : Gps w a gs) (haF : gs ≠ [] → NotIn (outF b ua us) a) (hgn : gs.length = n) (hnl : n ≤ maxLen) (h1 : 0 ≤ nx) (h2 : nx ≤ 63) (hs : m.spoken (aheadN nx m.beg) = true) (hgo : gs.all (m.gapOk (aheadN nx m.beg)) = true) :
    Calls Try.prog 23 #[.pointer (some ⟨b, 0, none⟩), .agg #[.int .i64 nx, .slice a n c]] w fun e w' => e = .returned (.int .i64 0) ∧ ∃ us', POut w' b m.win (m.taken (aheadN nx m.beg) gs).beg ua cc us' ∧ outF b ua us' = outF b ua us ∧ OutR (m.taken (aheadN nx m.beg) gs) us' ∧ Kept (outF b ua us) w w' := by
  generalize hQ : (fun (e : Ending) (w' : World) => e = .returned (.int .i64 0) ∧ ∃ us', POut w' b m.win (m.taken (aheadN nx m.beg) gs).beg ua cc us' ∧ outF b ua us' = outF b ua us ∧ OutR (m.taken (aheadN nx m.beg) gs) us' ∧ Kept (outF b ua us) w w') = Q
  have HQ0 := hid hQ
  clear hQ
  have HNO := hid hn
  have HOO := hid ho
  have HAF := hid haF
  have HNL := hid hnl
  have HHP := hid h
  clear ho haF
  have hb : Below w.heap.size w (w.alloc (.cells #[.int .i64 nx, .slice a n c] 73)) := (Below.refl _ w).alloc (Nat.le_refl _) _
  have hA := at_alloc w 73 [.int .i64 nx, .slice a n c]
  have y0 := hA.cell 0
  have hlen := hm.len
  have hbn := hm.bn
  have hP := h.kept (Kept.of_below (S := []) hb) (by simp)
  obtain ⟨-, c1, c2⟩ := hP.head
  rw [hlen] at c2
  have hn' : m.n ≤ 2000000000000 := hn
  have hah := fun wz => rahead_any nx m.beg wz h1 h2 (by unfold manyU; omega)
  have hd : aheadN nx m.beg < 64 := by unfold aheadN; omega
  have HG0 := hid (hg.kept (Kept.of_below (S := []) hb) (fun x _ => by simp))
  have HGN := hid hgn
  have HGO := hid hgo
  clear hgo
  have y1 : (w.alloc (.cells #[.int .i64 nx, .slice a n c] 73)).cell? ⟨w.heap.size, 1, none⟩ = some (.slice a n c) := hA.cell 1
  have hnl2 : n ≤ 9223372036854775807 := hnl
  have HSZ : Hid ((w.alloc (.cells #[.int .i64 nx, .slice a n c] 73)).heap.size = w.heap.size + 1) := by exact World.size_alloc _ _
  have HP := hid hP
  have HM := hid hm
  have HB := hid hb
  have HSP0 : Hid (∀ j, j < aheadN nx m.beg → m.beg + j < m.n ∧ m.mark (m.beg + j) 0 ≠ 0) := fun j hj => by
    unfold OutM.spoken at hs
    rw [List.all_eq_true] at hs
    have h4 := hs j (List.mem_range.2 hj)
    simp only [Bool.and_eq_true, decide_eq_true_eq, bne_iff_ne] at h4
    exact h4
  have HL := hid hlen
  obtain ⟨N, hN⟩ : ∃ N, N = m.n := ⟨_, rfl⟩
  obtain ⟨G, hG⟩ : ∃ G, G = m.beg := ⟨_, rfl⟩
  obtain ⟨d, hd0⟩ : ∃ d, d = aheadN nx m.beg := ⟨_, rfl⟩
  rw [← hN] at c2 hn' hbn
  rw [← hG] at c1 hbn
  rw [← hd0] at hd
  have hah2 : ∀ wz, Calls Try.prog 44 #[.int .i64 nx, .int .i64 (G : Int)] wz fun e w2 => e = .returned (.int .i64 (d : Int)) ∧ w2 = wz := fun wz => by
    rw [hG, hd0]
    exact (hah wz).mono (by rintro e w2 ⟨rfl, rfl⟩; exact ⟨rfl, rfl⟩)
  have HSP : Hid (∀ j, j < d → m.beg + j < m.n ∧ m.mark (m.beg + j) 0 ≠ 0) := fun j hj => HSP0.out j (by rw [← hd0]; exact hj)
  have HN := hid hN
  have HG := hid hG
  have HD := hid hd0
  clear HSP0 hg hgn hnl hb hA h hm hn hs hlen hP hah hN hG hd0
  go_enter Try.func23, Try.ntmps23
  go_upto_region 3 with fail
  generalize (w.alloc (.cells #[.int .i64 nx, .slice a n c] 73)) = wA at *
  go_quiet (first | (go_at_call 44; exact Calls.quiet_of_same (hah2 _)))
  go_wp2_with fail
  go_loopw [6] (fun vi wr => ∃ i : Nat, i ≤ d ∧ vi = .int .i64 i ∧ Hid (∀ j, j < i → m.beg + j < m.n ∧ m.mark (m.beg + j) 0 ≠ 0) ∧ ∃ q, wr = wA.drewN q) (fun vi _ => d - (intOf vi).toNat)
  case atStart => exact ⟨0, Nat.zero_le _, rfl, hid (fun j hj => absurd hj (by omega)), _, rfl⟩
  case round =>
    obtain ⟨i, hi, rfl, HJ, q, rfl⟩ := hrel
    by_cases hid2 : i < d
    · by_cases hGN : N ≤ G + i
      · have x1 : decide ((N : Int) ≤ (G : Int) + (i : Int)) = true := decide_eq_true (by omega)
        exfalso
        have h4 := HSP.out i hid2
        rw [← HG.out, ← HN.out] at h4
        omega
      · have x1 : decide ((N : Int) ≤ (G : Int) + (i : Int)) = false := decide_eq_false (by omega)
        have hil : G + i < us.length := by rw [HL.out, ← HN.out]; omega
        obtain ⟨ug, eua, hub, hun⟩ := HP.out.un (i := G + i) hil
        subst eua
        have hu := HM.out.un (G + i) hil
        have p1 := hun.c1
        obtain ⟨ad, cm, emv, hx, hlc, hcm⟩ := hun.ag.shape
        have hml := hu.ml
        have hlo := hu.lo
        obtain ⟨gm, rfl⟩ := hx (by intro e; have h3 := congrArg List.length e; rw [hml] at h3; have h3 : (us.getD (G + i) .zero).text.size = 0 := h3; omega)
        have hOw := hun.ag
        rw [emv] at hOw p1
        have p2 := hOw.cell (i := 0) (by omega)
        obtain ⟨hk1, hk2⟩ := hu.mks 0 hlo
        rw [hk1] at p2
        have hk3 : (mkc (m.mark (G + i) 0) == 110) = decide (m.mark (G + i) 0 = 0) := by
          by_cases e : m.mark (G + i) 0 = 0
          · rw [e]; rfl
          · rw [decide_eq_false e, beq_eq_false_iff_ne]
            intro e2
            exact e (mkc_inj hk2 (by omega) e2)
        rw [hml] at p1
        have hlp : 0 < (us.getD (G + i) .zero).text.size := hlo
        generalize (us.getD (G + i) .zero).text.size = L at *
        have HK3 : Hid (m.mark (G + i) 0 = m.mark (G + i) 0) := rfl
        by_cases e : m.mark (G + i) 0 = 0
        · rw [decide_eq_true e] at hk3
          have HE := hid e
          clear e hun hu emv hx hml hOw hk1 HK3
          generalize mkc (m.mark (G + i) 0) = Y at *
          exfalso
          have h4 := (HSP.out i hid2).2
          rw [← HG.out] at h4
          exact h4 HE.out
        · rw [decide_eq_false e] at hk3
          have HE := hid e
          clear e hun hu emv hx hml hOw hk1 HK3
          generalize hY : mkc (m.mark (G + i) 0) = Y at p2 hk3
          clear hY
          go_upto_region 7 with fail
          go_quiet (fail)
          go_wp2_with fail
          refine ⟨⟨i + 1, by omega, by go_num, hid (fun j hj => ?_), _, rfl⟩, by simp [intOf]; omega⟩
          by_cases ej : j = i
          · subst ej
            rw [← HG.out, ← HN.out]
            exact ⟨by omega, HE.out⟩
          · exact HJ.out j (by omega)
    · have HID : Hid (i = d) := by exact (show i = d by omega)
      have hdN : G + d ≤ N := by
        by_cases hd0 : d = 0
        · omega
        · have h4 := (HSP.out (d - 1) (by omega)).1
          rw [← HG.out, ← HN.out] at h4
          omega
      obtain ⟨i0, hi0, hz0, hz1, hz2⟩ := info_parts Try.infoBo
      go_upto_block 2 with (at_make; refine wpList_make_full _ rfl _ _ 134 rfl (wA.drewN q).heap.size 4 i0 (.bool false) 1 Try.underlying134 hi0 hz0 hz1 .i64 .i64 _ _ d rfl rfl rfl rfl (by rw [hz2]; omega) (by unfold maxLen; omega) (Nat.le_refl _) ?_; intro w2 ho2 hg2)
      have hk2 : Kept [] wA w2 := ((Kept.refl [] wA).drewN q).trans (Kept.grownR hg2)
      have HK2 := hid hk2
      have HO2 := hid ho2
      clear ho2 hg2 hk2 y0
      have y1' := keptCellQ HK2.out y1 (by simp)
      have HY1 := hid y1'
      have HGA : Hid (GapAt w2 (some ⟨wA.heap.size, 0, none⟩) d (fun _ => false)) := gapAt_made HO2.out
      have HGQ : Hid (w.heap.size < wA.heap.size) := by
        have h3 := HSZ.out
        exact (show w.heap.size < wA.heap.size by omega)
      go_cut [] from 8 (fun wy => Hid (Kept [] w2 wy))
      case first =>
        go_wp2_with fail
        go_loopw [8] (fun vk wr => ∃ k : Nat, k ≤ n ∧ vk = .int .i64 k ∧ Hid (Kept [] w2 wr)) (fun vk _ => n - (intOf vk).toNat)
        case atStart => exact ⟨0, by omega, rfl, Kept.refl _ _⟩
        case round =>
          obtain ⟨k, hk, rfl, HKR⟩ := hrel
          obtain ⟨wk, ewk⟩ : ∃ wk, wk = wr := ⟨_, rfl⟩
          subst ewk
          have y2 := keptCellQ HKR.out y1' (by simp)
          by_cases hkn : k < n
          · obtain ⟨gb, go, rfl, hC⟩ := HG0.out (by intro e; have h3 := HGN.out; rw [e] at h3; have h3 : 0 = n := h3; omega)
            obtain ⟨e0, e1, e2⟩ := hC k (by rw [HGN.out]; exact hkn)
            have hkk := HK2.out.trans HKR.out
            have f0 := keptCellQ hkk e0 (by simp)
            have f1 := keptCellQ hkk e1 (by simp)
            have f2 := keptCellQ hkk e2 (by simp)
            clear hC e0 e1 e2
            have hok : m.gapOk d (gs.getD k .zero) = true := by
              have h3 := HGO.out
              rw [List.all_eq_true] at h3
              rw [HD.out]
              exact h3 _ (getD_memG (by rw [HGN.out]; exact hkn))
            obtain ⟨g, hgg⟩ : ∃ g, g = gs.getD k .zero := ⟨_, rfl⟩
            rw [← hgg] at f0 f1 f2 hok
            clear hgg
            unfold OutM.gapOk at hok
            simp only [Bool.and_eq_true, decide_eq_true_eq] at hok
            obtain ⟨⟨w1, w2'⟩, w3, w4, w5, w6, w7⟩ := hok
            obtain ⟨num, frm, til⟩ := g
            dsimp only at f0 f1 f2 w1 w2' w3 w4 w5 w6 w7
            obtain ⟨e, he⟩ : ∃ e, e = aheadN num m.beg := ⟨_, rfl⟩
            rw [← he] at w3 w5 w6
            have hah3 : ∀ wz, Calls Try.prog 44 #[.int .i64 num, .int .i64 (G : Int)] wz fun e' w2 => e' = .returned (.int .i64 (e : Int)) ∧ w2 = wz := fun wz => by
              rw [he, HG.out]
              exact rahead_any num m.beg wz w1 w2' (by rw [← HG.out]; unfold manyU; omega)
            clear he
            have hkA : Kept [] wk (wk.alloc (.cells #[.int .i64 num, .int .i64 frm, .int .i64 til] 130)) := (Kept.refl _ wk).alloc _
            have hAG := at_alloc wk 130 [.int .i64 num, .int .i64 frm, .int .i64 til]
            have HKG := hid (HKR.out.trans hkA)
            have d1 := keptCellQ (hkk.trans hkA) c1 (by simp)
            have d2 := keptCellQ (hkk.trans hkA) c2 (by simp)
            have HPG := hid (HP.out.kept (hkk.trans hkA) (by simp))
            clear hkk hkA
            go_upto_region 14 with fail
            generalize (wk.alloc (.cells #[.int .i64 num, .int .i64 frm, .int .i64 til] 130)) = wG at *
            have g0 : wG.cell? ⟨wk.heap.size, 0, none⟩ = some (.int .i64 num) := hAG.cell 0
            have g1 : wG.cell? ⟨wk.heap.size, 1, none⟩ = some (.int .i64 frm) := hAG.cell 1
            have g2 : wG.cell? ⟨wk.heap.size, 2, none⟩ = some (.int .i64 til) := hAG.cell 2
            obtain ⟨bg, ebg⟩ : ∃ bg, bg = wk.heap.size := ⟨_, rfl⟩
            rw [← ebg] at g0 g1 g2
            rw [← ebg]
            clear ebg hAG f0 f1 f2 y2
            have v1 : decide (num < 0) = false := decide_eq_false (by omega)
            have v2 : decide (63 < num) = false := decide_eq_false (by omega)
            have v3 : decide (d ≤ e) = false := decide_eq_false (by omega)
            have v3' : decide ((d : Int) ≤ (e : Int)) = false := decide_eq_false (by omega)
            go_quiet (first | (go_at_call 44; exact Calls.quiet_of_same (hah3 _)))
            have hsp := HSP.out e w3
            rw [← HG.out, ← HN.out] at hsp
            have hil : G + e < us.length := by rw [HL.out, ← HN.out]; exact hsp.1
            have hGe := hsp.1
            obtain ⟨ug, eua, hub, hun⟩ := HPG.out.un (i := G + e) hil
            subst eua
            have p0 := hun.c0
            have hu := HM.out.un (G + e) hil
            have hhi := hu.hi
            have hus : m.sz (m.beg + e) = (us.getD (G + e) .zero).text.size := by rw [← HG.out]; exact hu.sz
            rw [hus] at w5 w6
            obtain ⟨T, hT⟩ : ∃ T, T = (us.getD (G + e) .zero).text := ⟨_, rfl⟩
            rw [← hT] at p0 hhi w5 w6
            clear hun hu hT hub hsp hil hus
            go_upto_region 16 with fail
            obtain ⟨wQ, ewQ⟩ : ∃ wQ, wQ = wG.drewN nq := ⟨_, rfl⟩
            have n0 : wQ.cell? ⟨bg, 0, none⟩ = some (.int .i64 num) := by rw [ewQ]; exact g0
            have n1 : wQ.cell? ⟨bg, 1, none⟩ = some (.int .i64 frm) := by rw [ewQ]; exact g1
            have n2 : wQ.cell? ⟨bg, 2, none⟩ = some (.int .i64 til) := by rw [ewQ]; exact g2
            have n3 : wQ.cell? ⟨b, 1, none⟩ = some (.int .i64 (G : Int)) := by rw [ewQ]; exact d1
            have n4 : wQ.cell? ⟨b, 2, none⟩ = some (.slice (some ⟨ug, 0, none⟩) N cc) := by rw [ewQ]; exact d2
            have n5 : wQ.cell? ⟨ug, (G + e) * 3, none⟩ = some (.string T) := by rw [ewQ]; exact p0
            have HKQ : Hid (Kept [] w2 wQ) := by rw [ewQ]; exact HKG.out.drewN nq
            rw [← ewQ]
            clear ewQ g0 g1 g2 d1 d2 p0 HKG HPG v1 v2 v3 v3'
            go_quiet (first | (go_at_call 44; exact Calls.quiet_of_same (hah3 _)))
            have t1 : ¬ frm < 0 := by omega
            have t2 : ¬ (T.size : Int) ≤ frm := by omega
            have t3 : ¬ (T.size : Int) < til := by omega
            by_cases t4 : 0 ≤ til
            · have t5 : ¬ til ≤ frm := by omega
              clear w7
              go_wp2_with fail
              exact ⟨⟨k + 1, by omega, by go_num, hid (HKQ.out.drewN _)⟩, by simp [intOf]; omega⟩
            · clear w7
              go_wp2_with fail
              exact ⟨⟨k + 1, by omega, by go_num, hid (HKQ.out.drewN _)⟩, by simp [intOf]; omega⟩
          · go_wp2_with fail
            go_meet
            exact HKR
      case rest =>
        have HKY : Hid (Kept [] w2 wc) := hcut
        have hk3 : Kept [] wA wc := HK2.out.trans HKY.out
        have hkw : Kept [] w wc := (Kept.of_below HB.out).trans hk3
        have hF : ∀ x ∈ outF b ua us, x < w.heap.size := HHP.out.lt
        refine ‹∀ a w, Code.wp _ _ _ a w → _› _ _ (otk6 (gs := gs) (a := a) (m := m) (HP.out.kept hk3 (by simp)) HM.out HOO.out (fun g hg => by have h3 := HGO.out; rw [List.all_eq_true] at h3; rw [HD.out]; exact h3 g hg) (by rw [← HG.out, ← HN.out]; exact hdN) hd HNO.out (keptCellQ HKY.out HY1.out (by simp)) (HG0.out.kept hk3 (fun x _ => by simp)) HGN.out HNL.out (fun hx => by have := hF _ hx; omega) HAF.out (HGA.out.kept HKY.out (by simp)) (fun y hy hx => by cases hy; have h3 : wA.heap.size < w.heap.size := hF _ hx; have := HGQ.out; omega) (fun y hy => by cases hy; have := HGQ.out; show wA.heap.size ≠ w.heap.size; omega) (fun hne y z hy hz => ?_) (fun w' us' hp he hr hk => ?_) _ _ _ _ _ _ _ _ _ _ _ _ _ _ _ _ _ _ _ _ _ _ _ _ _ _ _ _ _ _ _ _ _ _ _ _ _ _ _ _ _ _ _ _ _ _ _ _ _ _ _ _ _ _ _ _ _ _ _ _ _ _ _ _ _ _ _ _ _ _ _ _ _ _ _ _ _ _ _ _ _ _ _ _ _ _ _ _ _ _ _ _ _ _ _ _ _ _ _ _ _ _ _ _ _ _ _ _ _ _ _ _ _ _ _ _ _ _ _ _ _ _ _ _ _ _ _ _ _ _ _ _ _ _ _ _ _ _ _ _ _ _ _ _ _ _ _ _ _ _ _ _ _ _ _ _ _ _ _ _ _ _ _ _ _ _ _ _ _ _ _ _ _ _ _ _ _ _ _ _ _ _ _ _ _ _ _ _ _ _ _ _ _ _ _ _ _ _ _ _ _ _ _ _ _ _ _ _ _ _ _ _ _ _ _ _ _ _ _ _ _ _ _ _ _ _ _ _ _ _ _ _ _ _ _ _ _ _ _ _ _ _ _ _ _ _ _ _ _ _ _ _ _ _ _ _ _ _ _ _ _ _ _ _ _ _ _ _ _ _ _ _ _ _ _ _ _ _ _ _ _ _ _ _ _ _ _ _ _ _ _ _ _ _ _ _ _ _ _ _ _ _ _ _ _ _ _ _ _ _ _ _ _ _ _ _ _ _ _ _ _ _ _ _ _ _ _ _ _ _ _ _ _ _ _ _ _ _ _ _ _ _ _ _ _ _ _ _ _ _ _ _ _ _ _ _ _ _ _ _ _ _ _ _ _ _)
        · obtain ⟨gb, go, ea, hC⟩ := HG0.out hne
          have h0 : 0 < gs.length := List.length_pos_iff.2 hne
          have h3 := World.block_lt_of_cell? wA _ (hC 0 h0).1
          cases hy
          rw [ea] at hz
          cases hz
          show gb ≠ wA.heap.size
          have h3 : gb < wA.heap.size := h3
          omega
        · rw [← HQ0.out]
          rw [HD.out] at hp hr
          refine ⟨rfl, us', hp, he, hr, ?_⟩
          refine keptChain (hkw.wider (by simp)) hk (fun x hx => ?_)
          rcases List.mem_append.1 hx with hx | hx
          · have : x = wA.heap.size := by simpa using hx
            have := HGQ.out
            exact .inr (by omega)
          · exact .inl hx
end Go.Proofs.Ytbjgfoiikhbonaf
namespace Go.Proofs.Ytbjgfoiikhbonaf
open Go.ChangeShapes Go.WideShapes Go.ChangeAt Go.RowKit
def RSndO (w : World) (p : Addr) (F : List Nat) (m : OutM) : Prop := RSnd w p F m ∧ OrdM m
theorem rsnd_take {w : World} {p : Addr} {F : List Nat} {m : OutM} (r : ReportM) (a : Option Addr) (n c : Nat) (h : RSndO w p F m) (hn : m.n ≤ manyO) (hg : Gps w a r.miss) (ha : r.miss ≠ [] → NotIn F a) (hgn : r.miss.length = n) (hnl : n ≤ maxLen) : Calls Try.prog 23 #[.pointer (some p), .agg #[.int .i64 r.next, .slice a n c]] w fun e w' => e = .returned (.int .i64 (m.take r).err) ∧ Kept F w w' ∧ ∃ F', RSndO w' p F' (m.take r).m ∧ Grown w.heap.size F F' := by
  have h0 := h
  obtain ⟨⟨b, ua, cc, us, rfl, rfl, h1, h2⟩, h3⟩ := h
  have hfl : ∀ w', m.take r = ⟨m, 3⟩ → Below w.heap.size w w' → Ending.returned (.int .i64 3) = .returned (.int .i64 (m.take r).err) ∧ Kept (outF b ua us) w w' ∧ ∃ F', RSndO w' ⟨b, 0, none⟩ F' (m.take r).m ∧ Grown w.heap.size (outF b ua us) F' := fun w' e hb => by
    rw [e]
    exact ⟨rfl, Kept.of_below hb, _, ⟨rsnd_kept h0.1 (Kept.of_below (S := []) hb) (by simp), h3⟩, fun y hy => .inl hy⟩
  have hord := h3.take r
  by_cases c1 : r.next < 0 ∨ 63 < r.next
  · refine (otake_num c1).mono ?_
    rintro e w' ⟨rfl, hb⟩
    exact hfl w' (by unfold OutM.take; rw [if_pos c1]) hb
  · have b1 : 0 ≤ r.next := by omega
    have b2 : r.next ≤ 63 := by omega
    cases hs : m.spoken (aheadN r.next m.beg) with
    | false =>
      refine (otake_un h1 h2 hn b1 b2 hs).mono ?_
      rintro e w' ⟨rfl, hb⟩
      exact hfl w' (by unfold OutM.take; rw [if_neg c1, if_pos hs]) hb
    | true =>
      cases hgo : r.miss.all (m.gapOk (aheadN r.next m.beg)) with
      | false =>
        refine (otake_gap h1 h2 hn hg hgn hnl b1 b2 hs hgo).mono ?_
        rintro e w' ⟨rfl, hb⟩
        exact hfl w' (by unfold OutM.take; rw [if_neg c1, hs, if_neg (by simp), if_pos hgo]) hb
      | true =>
        have et : m.take r = ⟨m.taken (aheadN r.next m.beg) r.miss, 0⟩ := by
          unfold OutM.take
          rw [if_neg c1, hs, if_neg (by simp), hgo, if_neg (by simp)]
        rw [et] at hord ⊢
        refine (otake_ok h1 h2 h3 hn hg ha hgn hnl b1 b2 hs hgo).mono ?_
        rintro e w' ⟨rfl, us', g1, g2, g3, g4⟩
        exact ⟨rfl, g4, _, ⟨⟨b, ua, cc, us', rfl, rfl, g1, g3⟩, hord⟩, fun y hy => .inl (by rw [← g2]; exact hy)⟩
end Go.Proofs.Ytbjgfoiikhbonaf
