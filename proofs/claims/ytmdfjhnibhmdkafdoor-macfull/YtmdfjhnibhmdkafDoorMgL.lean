import Derived.Test.YtmdfjhnibhmdkafDoorMgK
namespace Go.Proofs.YtmdfjhnibhmdkafDoor
open Go.ChangeShapes Go.WideShapes Go.ChangeAt Go.RowKit

/-! THE LAW MacFull. -/

theorem list_same {a b : List Int} (hl : a.length = b.length) (h : ∀ i, i < a.length → a.getD i 0 = b.getD i 0) : a = b := by
  refine List.ext_getElem hl fun i h1 h2 => ?_
  have := h i h1
  simpa [List.getD, h1, h2] using this

set_option maxRecDepth 100000 in
set_option maxHeartbeats 8000000 in
theorem macfull_any (l : List ChM) (bl : List Int) (bytes ticks : Int) (its : List ItemM) (size : Int) (al ab ai : Option Addr) (nl cl nb cb ni ci : Nat) (w : World) (hC : Chs w al l) (hnl : l.length = nl) (hml : nl ≤ maxLen) (hR : Rd .i64 w ab bl) (hnb : bl.length = nb) (hmb : nb ≤ maxLen) (hI : Itms w ai its) (hni : its.length = ni) (hmi : ni ≤ maxLen) (hroom : ni ≤ 6000000000000) :
    Calls Tryd.prog 3 #[.slice al nl cl, .slice ab nb cb, .int .i64 bytes, .int .i64 ticks, .slice ai ni ci, .int .i64 size] w fun e w' => e = .returned (.bool true) ∧ Below w.heap.size w w' := by
  have HC := hid hC
  have HNL := hid hnl
  have HR := hid hR
  have HNB := hid hnb
  have hj1 := fun (wz : World) (h : Itms wz ai its) => join_any its size ai ni ci wz h hni hmi hroom
  have hjo := joinM_ok (l := its) (size := size)
  have hjb := joinM_bad (l := its) (size := size)
  have hsj := split_join (l := its) (size := size)
  obtain ⟨J, eJ⟩ : ∃ J, J = joinM its size := ⟨_, rfl⟩
  rw [← eJ] at hj1 hjo hjb hsj
  obtain ⟨jt, je⟩ := J
  dsimp only at hj1 hjo hjb hsj
  obtain ⟨n3, l3, e3, hs3, hn3, hf3⟩ := says_of jt
  have hp3 := fun wz => says_calls hs3 (split_any jt wz)
  have HII := hid hI
  have hmi' : ni ≤ 9223372036854775807 := by unfold maxLen at hmi; omega
  have hml' : nl ≤ 9223372036854775807 := by unfold maxLen at hml; omega
  have hmb' : nb ≤ 9223372036854775807 := by unfold maxLen at hmb; omega
  by_cases he : je = 0
  · have h4 := hsj he
    have hl3 : l3 = its ∧ n3 = ni ∧ e3 = 0 := by
      rcases hs3 with ⟨h5, _⟩ | ⟨h5, h6, h7⟩
      · rw [h4] at h5; cases h5
      · rw [h4] at h5
        injection h5 with h5
        exact ⟨h5.symm, by rw [h6, ← h5, hni], h7⟩
    obtain ⟨rfl, rfl, rfl⟩ := hl3
    obtain ⟨k1, k2, k3, k4, k5⟩ := hjo he
    have hsz : (jt.size : Int) = size := by
      simp only [JoinM.mk.injEq] at k5
      rw [k5.1, strOfNums_size, padB_length (by omega)]
      omega
    subst he
    have HNI := hid hni
    clear hjo hjb hsj hs3 hn3 h4 k3 k4 k5 eJ hroom hC hR hnl hnb hni hI
    subst hsz
    go_enter Tryd.func3, Tryd.ntmps3
    go_wp2_with (first
      | (go_at_call 5; refine (hj1 _ HII.out).mono ?_; rintro e w1 ⟨rfl, hb1⟩)
      | (go_at_call 6; refine (hp3 _).mono ?_; rintro e w2 ⟨a2, c2, rfl, hi2, hb2⟩))
    have hbB := hb1.trans (hb2.mono hb1.size)
    have HI2 := hid hi2
    clear hb1 hb2 hj1 hp3 hi2
    go_loopw [17] (fun q wr => ∃ k : Nat, k ≤ n3 ∧ q = .int .i64 k ∧ Below w2.heap.size w2 wr) (fun q _ => n3 - (intOf q).toNat)
    case atStart => exact ⟨0, by omega, rfl, Below.refl _ w2⟩
    case round =>
      obtain ⟨k, hk, rfl, hw⟩ := hrel
      by_cases hlt : k < n3
      · have hkl : k < l3.length := by rw [HNI.out]; exact hlt
        obtain ⟨b1, o1, rfl, hC1⟩ := HI2.out.at hkl
        obtain ⟨p0, p1⟩ := hC1 k hkl
        obtain ⟨b2, o2, rfl, hD⟩ := HII.out.at hkl
        obtain ⟨q0, q1⟩ := hD k hkl
        generalize l3.getD k .zero = I at *
        have p0 := cellB hw p0
        have p1 := cellB hw p1
        have q0 := cellB hw (cellB hbB q0)
        have q1 := cellB hw (cellB hbB q1)
        clear hC1 hD hkl
        go_upto_region 9 with fail
        go_region
        go_wp2_with fail
        go_roundw
        case rel => exact ⟨k + 1, by omega, by go_num, hw.drew⟩
        case measure => simp [intOf]; omega
      · have e : k = n3 := by omega
        subst e
        have hbW := hbB.trans (hw.mono hbB.size)
        clear hw hbB hlt HI2
        have HBW := hid hbW
        have hCW := HC.out.below hbW
        have hRW := HR.out.below hbW
        have HRW := hid hRW
        have hnw := new_any l al nl cl wr hCW HNL.out hml
        by_cases hO : OkAll l
        · have hnw1 : Calls Tryd.prog 7 #[.slice al nl cl] wr fun e w' => ∃ v, e = .returned (.tuple #[.pointer (some ⟨wr.heap.size, 0, none⟩), .int .i64 0]) ∧ PSh w' wr.heap.size wr.heap.size v (l.map shOf) ∧ Below wr.heap.size wr w' := hnw.mono fun e w' h => by
            rcases h with ⟨h1 | h1, h2⟩
            · exact absurd hO h1.1
            · obtain ⟨_, v, h3, h4⟩ := h1
              exact ⟨v, h3, h4, h2⟩
          have HO := hid hO
          have h32 : nl ≤ 32 := by
            have := ok_few (k := l.length) hO (Nat.le_refl _)
            rw [HNL.out] at this
            exact this
          clear hnw hO hCW hRW
          go_wp2_with (go_at_call 7; refine hnw1.mono ?_; rintro e w3 ⟨v, rfl, hP3, hb3⟩)
          clear hnw1
          generalize wr = wS at *
          go_loopw [19] (fun q wr => ∃ (k : Nat) (L : List ShM), k ≤ 100 ∧ q = .int .i64 k ∧ PSh wr wS.heap.size wS.heap.size v L ∧ Hid (Sames l L ∧ Lvl L) ∧ Below wS.heap.size wS wr) (fun q _ => 100 - (intOf q).toNat)
          case atStart => exact ⟨0, _, by omega, rfl, hP3, ⟨Sames.new l, Lvl.new l⟩, hb3⟩
          case round =>
            clear hP3 hb3
            obtain ⟨k, L, hk, rfl, hP, HL, hb⟩ := hrel
            have hLl : L.length = nl := by rw [HL.out.1.1, HNL.out]
            by_cases hc : (k : Int) < ticks ∧ k < 100
            · have x1 : decide ((k : Int) < ticks) = true := decide_eq_true hc.1
              have x2 : k < 100 := hc.2
              have htk := tick_any L wS.heap.size wS.heap.size v wr hP (by omega) (HL.out.2.fits HL.out.1 HO.out)
              clear hc hP
              go_wp2_with (go_at_call 8; refine htk.mono ?_; rintro e w4 ⟨rfl, hP4, hb4⟩)
              go_roundw
              case rel => exact ⟨k + 1, L.map tickS, by omega, by go_num, hP4, ⟨HL.out.1.tick, HL.out.2.tick HL.out.1 HO.out⟩, hb.trans hb4⟩
              case measure => simp [intOf]; omega
            · have HPL := hid hP
              have HBL := hid hb
              have HLN : Hid (L.length = nl) := hLl
              have hcx : (decide ((k : Int) < ticks) = false) ∨ (decide ((k : Int) < ticks) = true ∧ 100 ≤ k) := by
                by_cases h1 : (k : Int) < ticks
                · exact .inr ⟨decide_eq_true h1, by omega⟩
                · exact .inl (decide_eq_false h1)
              clear hP hb hLl hc
              rcases hcx with x1 | ⟨x1, x2⟩
              · go_wp2_with fail
                go_loopw [20, 21] (fun s q wq => ∃ (k : Nat) (z : Int), k ≤ nl ∧ q = .int .i64 k ∧ s = .int .i64 z ∧ (-100000000 ≤ z ∧ z ≤ 100000000) ∧ Hid (z = lvSum L k ∧ z ≤ 100000 * k ∧ 0 ≤ z) ∧ PSh wq wS.heap.size wS.heap.size v L ∧ Below wS.heap.size wS wq) (fun _ q _ => nl - (intOf q).toNat)
                case atStart => exact ⟨0, 0, by omega, rfl, rfl, ⟨by omega, by omega⟩, ⟨rfl, by omega, by omega⟩, HPL.out, HBL.out⟩
                case round =>
                  obtain ⟨j, z, hj, rfl, rfl, ⟨hz1, hz2⟩, HZ, hP, hb⟩ := hrel
                  by_cases hjl : j < nl
                  · have hjl' : j < l.length := by rw [HNL.out]; exact hjl
                    obtain ⟨b, o, rfl, q0, -, -, -⟩ := HC.out.at hjl'
                    have q0 := cellB hb (cellB HBW.out q0)
                    have hlv := level_any L (l.getD j .zero).id wS.heap.size wS.heap.size v wr hP (by rw [HLN.out]; omega)
                    rw [HL.out.1.level HO.out hjl'] at hlv
                    have hv := HL.out.2 j (by rw [HLN.out]; exact hjl)
                    have hsx := lvSum_succ (L := L) (k := j) (by rw [HLN.out]; exact hjl)
                    generalize (l.getD j .zero).id = id at *
                    obtain ⟨y, ey⟩ : ∃ y, y = (L.getD j .zero).lv := ⟨_, rfl⟩
                    rw [← ey] at hlv hv hsx
                    have HSX := hid hsx
                    have HP := hid hP
                    clear hP hsx hjl' ey
                    go_wp2_with (go_at_call 9; refine hlv.mono ?_; rintro e w4 ⟨rfl, hb4⟩)
                    go_roundw
                    case rel => exact ⟨j + 1, z + y, by omega, by go_num, by go_num, ⟨by have := HZ.out; omega, by have := HZ.out; omega⟩, ⟨by rw [HSX.out, ← HZ.out.1], by have := HZ.out; omega, by have := HZ.out; omega⟩, HP.out.below hb4, hb.trans (hb4.mono hb.size)⟩
                    case measure => simp [intOf]; omega
                  · have e : j = nl := by omega
                    subst e
                    clear hjl HPL HBL
                    obtain ⟨hz3, hz4, hz5⟩ := HZ.out
                    have HZS := hid hz3
                    clear HZ hz3
                    by_cases hG : grantOk L.length bl bytes
                    · obtain ⟨out, eo⟩ : ∃ out, out = (grantM (lvs L) bl bytes (ordT L)).out := ⟨_, rfl⟩
                      have hgr := grant_good L bl bytes wS.heap.size wS.heap.size nb cb ab v wS wr hP (by rw [HLN.out]; omega) (HL.out.1.apart HO.out) (HL.out.2.fits HL.out.1 HO.out) rfl HRW.out hb HNB.out hmb hG
                      have hfl := grant_full (lvs L) bl bytes (ordT L) (of_decide_eq_true hG.2.1).1 (fun i hi => (of_decide_eq_true (hG.2.2 i hi)).1) (fun i hi => by rw [hG.1]; exact ordT_lt hi) (fun i hi => ordT_mem (by rw [← hG.1]; exact hi))
                      have hou : out.length = nb := by rw [eo, hfl.1.len, HNB.out]
                      have hnbj : nb = j := by rw [← HNB.out, hG.1, HLN.out]
                      have HEA : Hid (∀ i, i < nb → (0 ≤ out.getD i 0 ∧ out.getD i 0 ≤ bl.getD i 0) ∧ bl.getD i 0 ≤ 1000000) := fun i hi => by
                        have hib : i < bl.length := by rw [HNB.out]; exact hi
                        rw [eo]
                        exact ⟨hfl.1.each i hib, (of_decide_eq_true (hG.2.2 i hib)).2⟩
                      have HTO : Hid (sumI out ≤ bytes ∧ (sumI out = bytes ∨ ∀ i, i < nb → out.getD i 0 = bl.getD i 0)) := by
                        have h1 := hfl.1.sum
                        have h2 := hfl.1.some
                        rw [← eo] at h1
                        refine ⟨by omega, ?_⟩
                        rcases hfl.2 with h | h
                        · left; omega
                        · right
                          intro i hi
                          rw [eo]
                          exact h i (by rw [HNB.out]; exact hi)
                      rw [← eo] at hgr
                      have HOU := hid hou
                      have HSA := hid (HL.out.1.all out)
                      have HLS := hid (lvSum_all L out)
                      clear eo hfl hP hG hou
                      subst hnbj
                      go_wp2_with (go_at_call 10; refine hgr.mono ?_; rintro e w5 ⟨gg, rfl, hA5, hP5, hb5, hgg5⟩)
                      clear hgr
                      go_loopw [25, 26, 27] (fun s1 s2 q wq => ∃ (k : Nat) (y1 y2 : Int), k ≤ nb ∧ q = .int .i64 k ∧ s1 = .int .i64 y1 ∧ s2 = .int .i64 y2 ∧ ((0 ≤ y1 ∧ y1 ≤ 100000000) ∧ 0 ≤ y2 ∧ y2 ≤ 100000000) ∧ Hid (y1 = sumI (out.take k) ∧ y1 ≤ 1000000 * k ∧ y2 = sumI (bl.take k) - sumI (out.take k) ∧ y2 ≤ 1000000 * k) ∧ ArrAt .i64 3 wq gg out ∧ PSh wq wS.heap.size wS.heap.size v (lvAll L out) ∧ Below wS.heap.size wS wq) (fun _ _ q _ => nb - (intOf q).toNat)
                      case atStart => exact ⟨0, 0, 0, by omega, rfl, rfl, rfl, ⟨⟨by omega, by omega⟩, by omega, by omega⟩, ⟨rfl, by omega, rfl, by omega⟩, hA5, hP5, hb5⟩
                      case round =>
                        clear hA5 hP5 hb5 hb
                        obtain ⟨i, y1, y2, hi, rfl, rfl, rfl, ⟨⟨b1, b2⟩, b3, b4⟩, HY, hA, hP, hb⟩ := hrel
                        by_cases hlt : i < nb
                        · have hio : i < out.length := by rw [HOU.out]; exact hlt
                          have hib : i < bl.length := by rw [HNB.out]; exact hlt
                          have o0 := hA.cell hio
                          obtain ⟨b, o, rfl, hRC⟩ := HRW.out.at hib
                          have q0 := cellB hb (hRC i hib)
                          have hea := HEA.out i hlt
                          have hs1 := sumI_take hio
                          have hs2 := sumI_take hib
                          obtain ⟨u, eu⟩ : ∃ u, u = out.getD i 0 := ⟨_, rfl⟩
                          obtain ⟨z, ez⟩ : ∃ z, z = bl.getD i 0 := ⟨_, rfl⟩
                          rw [← eu] at o0 hea hs1
                          rw [← ez] at q0 hea hs2
                          have HS1 := hid hs1
                          have HS2 := hid hs2
                          obtain ⟨⟨u0, u1⟩, z1⟩ := hea
                          have x1 : decide (u < 0) = false := decide_eq_false (by omega)
                          have x2 : decide (z < u) = false := decide_eq_false (by omega)
                          have HA := hid hA
                          have HP := hid hP
                          have HB := hid hb
                          clear hs1 hs2 eu ez hRC hio hib hA hP hb
                          go_upto_region 33 with fail
                          go_region
                          go_upto_region 36 with fail
                          go_region
                          go_wp2_with fail
                          go_roundw
                          case rel => exact ⟨i + 1, y1 + u, y2 + (z - u), by omega, by go_num, by go_num, by go_num, ⟨⟨by omega, by have := HY.out; omega⟩, by omega, by have := HY.out; omega⟩, ⟨by rw [HS1.out, ← HY.out.1], by have := HY.out; omega, by rw [HS1.out, HS2.out]; have := HY.out.2.2.1; omega, by have := HY.out; omega⟩, HA.out, ⟨HP.out.box, HP.out.own, HP.out.ne, HP.out.le⟩, HB.out.drew.drew⟩
                          case measure => simp [intOf]; omega
                        · have e : i = nb := by omega
                          subst e
                          have HPA := hid hP
                          have HBA := hid hb
                          clear hP hb hlt hA
                          go_wp2_with fail
                          go_loopw [28, 29] (fun s q wq => ∃ (k : Nat) (y : Int), k ≤ i ∧ q = .int .i64 k ∧ s = .int .i64 y ∧ (-200000000 ≤ y ∧ y ≤ 200000000) ∧ Hid (y = lvSum (lvAll L out) k ∧ y ≤ 100000 * k ∧ -1000000 * k ≤ y) ∧ PSh wq wS.heap.size wS.heap.size v (lvAll L out) ∧ Below wS.heap.size wS wq) (fun _ q _ => i - (intOf q).toNat)
                          case atStart => exact ⟨0, 0, by omega, rfl, rfl, ⟨by omega, by omega⟩, ⟨rfl, by omega, by omega⟩, HPA.out, HBA.out⟩
                          case round =>
                            obtain ⟨m, y, hm, rfl, rfl, ⟨hy1, hy2⟩, HYY, hP, hb⟩ := hrel
                            by_cases hml2 : m < i
                            · have hml' : m < l.length := by rw [HNL.out]; exact hml2
                              obtain ⟨b, o, rfl, q0, -, -, -⟩ := HC.out.at hml'
                              have q0 := cellB hb (cellB HBW.out q0)
                              have hll : (lvAll L out).length = i := by rw [HSA.out.1, HNL.out]
                              have hlv := level_any (lvAll L out) (l.getD m .zero).id wS.heap.size wS.heap.size v wr hP (by rw [hll]; omega)
                              rw [HSA.out.level HO.out hml'] at hlv
                              have hv := HL.out.2 m (by rw [HLN.out]; exact hml2)
                              have hea := HEA.out m hml2
                              have hsx := lvSum_succ (L := lvAll L out) (k := m) (by rw [hll]; exact hml2)
                              have hya := lvAll_at out (i := m) (L := L) (by rw [HLN.out]; exact hml2)
                              generalize (l.getD m .zero).id = id at *
                              obtain ⟨yy, ey⟩ : ∃ yy, yy = ((lvAll L out).getD m .zero).lv := ⟨_, rfl⟩
                              rw [← ey] at hlv hsx hya
                              have hv1 : -1000000 ≤ yy := by omega
                              have hv2 : yy ≤ 100000 := by omega
                              have HSX := hid hsx
                              have HP := hid hP
                              clear hP hsx hml' ey hya hea hv hll
                              go_wp2_with (go_at_call 9; refine hlv.mono ?_; rintro e w6 ⟨rfl, hb6⟩)
                              go_roundw
                              case rel => exact ⟨m + 1, y + yy, by omega, by go_num, by go_num, ⟨by have := HYY.out; omega, by have := HYY.out; omega⟩, ⟨by rw [HSX.out, ← HYY.out.1], by have := HYY.out; omega, by have := HYY.out; omega⟩, HP.out.below hb6, hb.trans (hb6.mono hb.size)⟩
                              case measure => simp [intOf]; omega
                            · have e : m = i := by omega
                              subst e
                              have hto : out.take m = out := List.take_of_length_le (by rw [HOU.out]; exact Nat.le_refl _)
                              have htb : bl.take m = bl := List.take_of_length_le (by rw [HNB.out]; exact Nat.le_refl _)
                              obtain ⟨t1, -, t2, -⟩ := HY.out
                              obtain ⟨t3, -, -⟩ := HYY.out
                              have t4 := HLS.out m (by rw [HLN.out]; exact Nat.le_refl _) (by rw [HOU.out]; exact Nat.le_refl _)
                              rw [hto] at t1 t2 t4
                              rw [htb] at t2
                              have t5 := HTO.out
                              have t6 := HZS.out
                              have g1 : decide (y1 ≤ bytes) = true := decide_eq_true (by omega)
                              have g3 : (z - y == y1) = true := by rw [beq_iff_eq]; omega
                              by_cases gq : y1 = bytes
                              · have g2 : (y1 == bytes) = true := by rw [beq_iff_eq]; exact gq
                                clear hto htb t1 t2 t3 t4 t5 t6 gq HY HYY
                                go_wp2_with fail
                                go_ret
                                exact ⟨rfl, HBW.out.trans (hb.mono HBW.out.size)⟩
                              · have g2 : (y1 == bytes) = false := beq_false_of_ne gq
                                have hsame : sumI bl = sumI out := by
                                  rcases t5.2 with h | h
                                  · exact absurd (t1.trans h) gq
                                  · exact congrArg sumI (list_same (by rw [HNB.out, HOU.out]) (fun i hi => (h i (by rw [← HNB.out]; exact hi)).symm))
                                have g4 : y2 = 0 := by omega
                                clear hto htb t1 t2 t3 t4 t5 t6 gq HY HYY hsame
                                subst g4
                                go_wp2_with fail
                                go_ret
                                exact ⟨rfl, HBW.out.trans (hb.mono HBW.out.size)⟩
                    · have hgr := grant_bad L bl bytes wS.heap.size wS.heap.size nb cb ab v wr hP (by rw [HLN.out]; omega) (HRW.out.below hb) HNB.out hmb hG
                      clear hG hP
                      go_wp2_with (go_at_call 10; refine hgr.mono ?_; rintro e w5 ⟨rfl, rfl⟩)
                      go_ret
                      exact ⟨rfl, HBW.out.trans (hb.mono HBW.out.size)⟩
              · go_wp2_with fail
                go_loopw [20, 21] (fun s q wq => ∃ (k : Nat) (z : Int), k ≤ nl ∧ q = .int .i64 k ∧ s = .int .i64 z ∧ (-100000000 ≤ z ∧ z ≤ 100000000) ∧ Hid (z = lvSum L k ∧ z ≤ 100000 * k ∧ 0 ≤ z) ∧ PSh wq wS.heap.size wS.heap.size v L ∧ Below wS.heap.size wS wq) (fun _ q _ => nl - (intOf q).toNat)
                case atStart => exact ⟨0, 0, by omega, rfl, rfl, ⟨by omega, by omega⟩, ⟨rfl, by omega, by omega⟩, HPL.out, HBL.out⟩
                case round =>
                  obtain ⟨j, z, hj, rfl, rfl, ⟨hz1, hz2⟩, HZ, hP, hb⟩ := hrel
                  by_cases hjl : j < nl
                  · have hjl' : j < l.length := by rw [HNL.out]; exact hjl
                    obtain ⟨b, o, rfl, q0, -, -, -⟩ := HC.out.at hjl'
                    have q0 := cellB hb (cellB HBW.out q0)
                    have hlv := level_any L (l.getD j .zero).id wS.heap.size wS.heap.size v wr hP (by rw [HLN.out]; omega)
                    rw [HL.out.1.level HO.out hjl'] at hlv
                    have hv := HL.out.2 j (by rw [HLN.out]; exact hjl)
                    have hsx := lvSum_succ (L := L) (k := j) (by rw [HLN.out]; exact hjl)
                    generalize (l.getD j .zero).id = id at *
                    obtain ⟨y, ey⟩ : ∃ y, y = (L.getD j .zero).lv := ⟨_, rfl⟩
                    rw [← ey] at hlv hv hsx
                    have HSX := hid hsx
                    have HP := hid hP
                    clear hP hsx hjl' ey
                    go_wp2_with (go_at_call 9; refine hlv.mono ?_; rintro e w4 ⟨rfl, hb4⟩)
                    go_roundw
                    case rel => exact ⟨j + 1, z + y, by omega, by go_num, by go_num, ⟨by have := HZ.out; omega, by have := HZ.out; omega⟩, ⟨by rw [HSX.out, ← HZ.out.1], by have := HZ.out; omega, by have := HZ.out; omega⟩, HP.out.below hb4, hb.trans (hb4.mono hb.size)⟩
                    case measure => simp [intOf]; omega
                  · have e : j = nl := by omega
                    subst e
                    clear hjl HPL HBL
                    obtain ⟨hz3, hz4, hz5⟩ := HZ.out
                    have HZS := hid hz3
                    clear HZ hz3
                    by_cases hG : grantOk L.length bl bytes
                    · obtain ⟨out, eo⟩ : ∃ out, out = (grantM (lvs L) bl bytes (ordT L)).out := ⟨_, rfl⟩
                      have hgr := grant_good L bl bytes wS.heap.size wS.heap.size nb cb ab v wS wr hP (by rw [HLN.out]; omega) (HL.out.1.apart HO.out) (HL.out.2.fits HL.out.1 HO.out) rfl HRW.out hb HNB.out hmb hG
                      have hfl := grant_full (lvs L) bl bytes (ordT L) (of_decide_eq_true hG.2.1).1 (fun i hi => (of_decide_eq_true (hG.2.2 i hi)).1) (fun i hi => by rw [hG.1]; exact ordT_lt hi) (fun i hi => ordT_mem (by rw [← hG.1]; exact hi))
                      have hou : out.length = nb := by rw [eo, hfl.1.len, HNB.out]
                      have hnbj : nb = j := by rw [← HNB.out, hG.1, HLN.out]
                      have HEA : Hid (∀ i, i < nb → (0 ≤ out.getD i 0 ∧ out.getD i 0 ≤ bl.getD i 0) ∧ bl.getD i 0 ≤ 1000000) := fun i hi => by
                        have hib : i < bl.length := by rw [HNB.out]; exact hi
                        rw [eo]
                        exact ⟨hfl.1.each i hib, (of_decide_eq_true (hG.2.2 i hib)).2⟩
                      have HTO : Hid (sumI out ≤ bytes ∧ (sumI out = bytes ∨ ∀ i, i < nb → out.getD i 0 = bl.getD i 0)) := by
                        have h1 := hfl.1.sum
                        have h2 := hfl.1.some
                        rw [← eo] at h1
                        refine ⟨by omega, ?_⟩
                        rcases hfl.2 with h | h
                        · left; omega
                        · right
                          intro i hi
                          rw [eo]
                          exact h i (by rw [HNB.out]; exact hi)
                      rw [← eo] at hgr
                      have HOU := hid hou
                      have HSA := hid (HL.out.1.all out)
                      have HLS := hid (lvSum_all L out)
                      clear eo hfl hP hG hou
                      subst hnbj
                      go_wp2_with (go_at_call 10; refine hgr.mono ?_; rintro e w5 ⟨gg, rfl, hA5, hP5, hb5, hgg5⟩)
                      clear hgr
                      go_loopw [25, 26, 27] (fun s1 s2 q wq => ∃ (k : Nat) (y1 y2 : Int), k ≤ nb ∧ q = .int .i64 k ∧ s1 = .int .i64 y1 ∧ s2 = .int .i64 y2 ∧ ((0 ≤ y1 ∧ y1 ≤ 100000000) ∧ 0 ≤ y2 ∧ y2 ≤ 100000000) ∧ Hid (y1 = sumI (out.take k) ∧ y1 ≤ 1000000 * k ∧ y2 = sumI (bl.take k) - sumI (out.take k) ∧ y2 ≤ 1000000 * k) ∧ ArrAt .i64 3 wq gg out ∧ PSh wq wS.heap.size wS.heap.size v (lvAll L out) ∧ Below wS.heap.size wS wq) (fun _ _ q _ => nb - (intOf q).toNat)
                      case atStart => exact ⟨0, 0, 0, by omega, rfl, rfl, rfl, ⟨⟨by omega, by omega⟩, by omega, by omega⟩, ⟨rfl, by omega, rfl, by omega⟩, hA5, hP5, hb5⟩
                      case round =>
                        clear hA5 hP5 hb5 hb
                        obtain ⟨i, y1, y2, hi, rfl, rfl, rfl, ⟨⟨b1, b2⟩, b3, b4⟩, HY, hA, hP, hb⟩ := hrel
                        by_cases hlt : i < nb
                        · have hio : i < out.length := by rw [HOU.out]; exact hlt
                          have hib : i < bl.length := by rw [HNB.out]; exact hlt
                          have o0 := hA.cell hio
                          obtain ⟨b, o, rfl, hRC⟩ := HRW.out.at hib
                          have q0 := cellB hb (hRC i hib)
                          have hea := HEA.out i hlt
                          have hs1 := sumI_take hio
                          have hs2 := sumI_take hib
                          obtain ⟨u, eu⟩ : ∃ u, u = out.getD i 0 := ⟨_, rfl⟩
                          obtain ⟨z, ez⟩ : ∃ z, z = bl.getD i 0 := ⟨_, rfl⟩
                          rw [← eu] at o0 hea hs1
                          rw [← ez] at q0 hea hs2
                          have HS1 := hid hs1
                          have HS2 := hid hs2
                          obtain ⟨⟨u0, u1⟩, z1⟩ := hea
                          have x1 : decide (u < 0) = false := decide_eq_false (by omega)
                          have x2 : decide (z < u) = false := decide_eq_false (by omega)
                          have HA := hid hA
                          have HP := hid hP
                          have HB := hid hb
                          clear hs1 hs2 eu ez hRC hio hib hA hP hb
                          go_upto_region 33 with fail
                          go_region
                          go_upto_region 36 with fail
                          go_region
                          go_wp2_with fail
                          go_roundw
                          case rel => exact ⟨i + 1, y1 + u, y2 + (z - u), by omega, by go_num, by go_num, by go_num, ⟨⟨by omega, by have := HY.out; omega⟩, by omega, by have := HY.out; omega⟩, ⟨by rw [HS1.out, ← HY.out.1], by have := HY.out; omega, by rw [HS1.out, HS2.out]; have := HY.out.2.2.1; omega, by have := HY.out; omega⟩, HA.out, ⟨HP.out.box, HP.out.own, HP.out.ne, HP.out.le⟩, HB.out.drew.drew⟩
                          case measure => simp [intOf]; omega
                        · have e : i = nb := by omega
                          subst e
                          have HPA := hid hP
                          have HBA := hid hb
                          clear hP hb hlt hA
                          go_wp2_with fail
                          go_loopw [28, 29] (fun s q wq => ∃ (k : Nat) (y : Int), k ≤ i ∧ q = .int .i64 k ∧ s = .int .i64 y ∧ (-200000000 ≤ y ∧ y ≤ 200000000) ∧ Hid (y = lvSum (lvAll L out) k ∧ y ≤ 100000 * k ∧ -1000000 * k ≤ y) ∧ PSh wq wS.heap.size wS.heap.size v (lvAll L out) ∧ Below wS.heap.size wS wq) (fun _ q _ => i - (intOf q).toNat)
                          case atStart => exact ⟨0, 0, by omega, rfl, rfl, ⟨by omega, by omega⟩, ⟨rfl, by omega, by omega⟩, HPA.out, HBA.out⟩
                          case round =>
                            obtain ⟨m, y, hm, rfl, rfl, ⟨hy1, hy2⟩, HYY, hP, hb⟩ := hrel
                            by_cases hml2 : m < i
                            · have hml' : m < l.length := by rw [HNL.out]; exact hml2
                              obtain ⟨b, o, rfl, q0, -, -, -⟩ := HC.out.at hml'
                              have q0 := cellB hb (cellB HBW.out q0)
                              have hll : (lvAll L out).length = i := by rw [HSA.out.1, HNL.out]
                              have hlv := level_any (lvAll L out) (l.getD m .zero).id wS.heap.size wS.heap.size v wr hP (by rw [hll]; omega)
                              rw [HSA.out.level HO.out hml'] at hlv
                              have hv := HL.out.2 m (by rw [HLN.out]; exact hml2)
                              have hea := HEA.out m hml2
                              have hsx := lvSum_succ (L := lvAll L out) (k := m) (by rw [hll]; exact hml2)
                              have hya := lvAll_at out (i := m) (L := L) (by rw [HLN.out]; exact hml2)
                              generalize (l.getD m .zero).id = id at *
                              obtain ⟨yy, ey⟩ : ∃ yy, yy = ((lvAll L out).getD m .zero).lv := ⟨_, rfl⟩
                              rw [← ey] at hlv hsx hya
                              have hv1 : -1000000 ≤ yy := by omega
                              have hv2 : yy ≤ 100000 := by omega
                              have HSX := hid hsx
                              have HP := hid hP
                              clear hP hsx hml' ey hya hea hv hll
                              go_wp2_with (go_at_call 9; refine hlv.mono ?_; rintro e w6 ⟨rfl, hb6⟩)
                              go_roundw
                              case rel => exact ⟨m + 1, y + yy, by omega, by go_num, by go_num, ⟨by have := HYY.out; omega, by have := HYY.out; omega⟩, ⟨by rw [HSX.out, ← HYY.out.1], by have := HYY.out; omega, by have := HYY.out; omega⟩, HP.out.below hb6, hb.trans (hb6.mono hb.size)⟩
                              case measure => simp [intOf]; omega
                            · have e : m = i := by omega
                              subst e
                              have hto : out.take m = out := List.take_of_length_le (by rw [HOU.out]; exact Nat.le_refl _)
                              have htb : bl.take m = bl := List.take_of_length_le (by rw [HNB.out]; exact Nat.le_refl _)
                              obtain ⟨t1, -, t2, -⟩ := HY.out
                              obtain ⟨t3, -, -⟩ := HYY.out
                              have t4 := HLS.out m (by rw [HLN.out]; exact Nat.le_refl _) (by rw [HOU.out]; exact Nat.le_refl _)
                              rw [hto] at t1 t2 t4
                              rw [htb] at t2
                              have t5 := HTO.out
                              have t6 := HZS.out
                              have g1 : decide (y1 ≤ bytes) = true := decide_eq_true (by omega)
                              have g3 : (z - y == y1) = true := by rw [beq_iff_eq]; omega
                              by_cases gq : y1 = bytes
                              · have g2 : (y1 == bytes) = true := by rw [beq_iff_eq]; exact gq
                                clear hto htb t1 t2 t3 t4 t5 t6 gq HY HYY
                                go_wp2_with fail
                                go_ret
                                exact ⟨rfl, HBW.out.trans (hb.mono HBW.out.size)⟩
                              · have g2 : (y1 == bytes) = false := beq_false_of_ne gq
                                have hsame : sumI bl = sumI out := by
                                  rcases t5.2 with h | h
                                  · exact absurd (t1.trans h) gq
                                  · exact congrArg sumI (list_same (by rw [HNB.out, HOU.out]) (fun i hi => (h i (by rw [← HNB.out]; exact hi)).symm))
                                have g4 : y2 = 0 := by omega
                                clear hto htb t1 t2 t3 t4 t5 t6 gq HY HYY hsame
                                subst g4
                                go_wp2_with fail
                                go_ret
                                exact ⟨rfl, HBW.out.trans (hb.mono HBW.out.size)⟩
                    · have hgr := grant_bad L bl bytes wS.heap.size wS.heap.size nb cb ab v wr hP (by rw [HLN.out]; omega) (HRW.out.below hb) HNB.out hmb hG
                      clear hG hP
                      go_wp2_with (go_at_call 10; refine hgr.mono ?_; rintro e w5 ⟨rfl, rfl⟩)
                      go_ret
                      exact ⟨rfl, HBW.out.trans (hb.mono HBW.out.size)⟩
        · have hnw1 : Calls Tryd.prog 7 #[.slice al nl cl] wr fun e w' => e = .returned (.tuple #[.pointer none, .int .i64 1]) ∧ Below wr.heap.size wr w' := hnw.mono fun e w' h => by
            rcases h with ⟨h1 | h1, h2⟩
            · exact ⟨h1.2, h2⟩
            · exact absurd h1.1 hO
          clear hnw hO hCW hRW
          go_wp2_with (go_at_call 7; refine hnw1.mono ?_; rintro e w3 ⟨rfl, hb3⟩)
          go_ret
          exact ⟨rfl, HBW.out.trans (hb3.mono HBW.out.size)⟩
  · have xe : (je == 0) = false := beq_false_of_ne he
    have hjt := hjb he
    subst hjt
    clear hjo hjb hsj hs3 hn3 eJ hroom hC hR hnl hnb hni hI he
    go_enter Tryd.func3, Tryd.ntmps3
    go_upto_region 13 with (first
      | (go_at_call 5; refine (hj1 _ HII.out).mono ?_; rintro e w1 ⟨rfl, hb1⟩)
      | (go_at_call 6; refine (hp3 _).mono ?_; rintro e w2 ⟨a2, c2, rfl, hi2, hb2⟩))
    have hbW := hb1.trans (hb2.mono hb1.size)
    clear hb1 hb2 hj1 hp3 hi2
    have HBW := hid hbW
    have hCW := HC.out.below hbW
    have hRW := HR.out.below hbW
    have HRW := hid hRW
    have hnw := new_any l al nl cl w2 hCW HNL.out hml
    by_cases hO : OkAll l
    · have hnw1 : Calls Tryd.prog 7 #[.slice al nl cl] w2 fun e w' => ∃ v, e = .returned (.tuple #[.pointer (some ⟨w2.heap.size, 0, none⟩), .int .i64 0]) ∧ PSh w' w2.heap.size w2.heap.size v (l.map shOf) ∧ Below w2.heap.size w2 w' := hnw.mono fun e w' h => by
        rcases h with ⟨h1 | h1, h2⟩
        · exact absurd hO h1.1
        · obtain ⟨_, v, h3, h4⟩ := h1
          exact ⟨v, h3, h4, h2⟩
      have HO := hid hO
      have h32 : nl ≤ 32 := by
        have := ok_few (k := l.length) hO (Nat.le_refl _)
        rw [HNL.out] at this
        exact this
      clear hnw hO hCW hRW
      go_wp2_with (go_at_call 7; refine hnw1.mono ?_; rintro e w3 ⟨v, rfl, hP3, hb3⟩)
      clear hnw1
      generalize w2 = wS at *
      go_loopw [19] (fun q wr => ∃ (k : Nat) (L : List ShM), k ≤ 100 ∧ q = .int .i64 k ∧ PSh wr wS.heap.size wS.heap.size v L ∧ Hid (Sames l L ∧ Lvl L) ∧ Below wS.heap.size wS wr) (fun q _ => 100 - (intOf q).toNat)
      case atStart => exact ⟨0, _, by omega, rfl, hP3, ⟨Sames.new l, Lvl.new l⟩, hb3⟩
      case round =>
        clear hP3 hb3
        obtain ⟨k, L, hk, rfl, hP, HL, hb⟩ := hrel
        have hLl : L.length = nl := by rw [HL.out.1.1, HNL.out]
        by_cases hc : (k : Int) < ticks ∧ k < 100
        · have x1 : decide ((k : Int) < ticks) = true := decide_eq_true hc.1
          have x2 : k < 100 := hc.2
          have htk := tick_any L wS.heap.size wS.heap.size v wr hP (by omega) (HL.out.2.fits HL.out.1 HO.out)
          clear hc hP
          go_wp2_with (go_at_call 8; refine htk.mono ?_; rintro e w4 ⟨rfl, hP4, hb4⟩)
          go_roundw
          case rel => exact ⟨k + 1, L.map tickS, by omega, by go_num, hP4, ⟨HL.out.1.tick, HL.out.2.tick HL.out.1 HO.out⟩, hb.trans hb4⟩
          case measure => simp [intOf]; omega
        · have HPL := hid hP
          have HBL := hid hb
          have HLN : Hid (L.length = nl) := hLl
          have hcx : (decide ((k : Int) < ticks) = false) ∨ (decide ((k : Int) < ticks) = true ∧ 100 ≤ k) := by
            by_cases h1 : (k : Int) < ticks
            · exact .inr ⟨decide_eq_true h1, by omega⟩
            · exact .inl (decide_eq_false h1)
          clear hP hb hLl hc
          rcases hcx with x1 | ⟨x1, x2⟩
          · go_wp2_with fail
            go_loopw [20, 21] (fun s q wq => ∃ (k : Nat) (z : Int), k ≤ nl ∧ q = .int .i64 k ∧ s = .int .i64 z ∧ (-100000000 ≤ z ∧ z ≤ 100000000) ∧ Hid (z = lvSum L k ∧ z ≤ 100000 * k ∧ 0 ≤ z) ∧ PSh wq wS.heap.size wS.heap.size v L ∧ Below wS.heap.size wS wq) (fun _ q _ => nl - (intOf q).toNat)
            case atStart => exact ⟨0, 0, by omega, rfl, rfl, ⟨by omega, by omega⟩, ⟨rfl, by omega, by omega⟩, HPL.out, HBL.out⟩
            case round =>
              obtain ⟨j, z, hj, rfl, rfl, ⟨hz1, hz2⟩, HZ, hP, hb⟩ := hrel
              by_cases hjl : j < nl
              · have hjl' : j < l.length := by rw [HNL.out]; exact hjl
                obtain ⟨b, o, rfl, q0, -, -, -⟩ := HC.out.at hjl'
                have q0 := cellB hb (cellB HBW.out q0)
                have hlv := level_any L (l.getD j .zero).id wS.heap.size wS.heap.size v wr hP (by rw [HLN.out]; omega)
                rw [HL.out.1.level HO.out hjl'] at hlv
                have hv := HL.out.2 j (by rw [HLN.out]; exact hjl)
                have hsx := lvSum_succ (L := L) (k := j) (by rw [HLN.out]; exact hjl)
                generalize (l.getD j .zero).id = id at *
                obtain ⟨y, ey⟩ : ∃ y, y = (L.getD j .zero).lv := ⟨_, rfl⟩
                rw [← ey] at hlv hv hsx
                have HSX := hid hsx
                have HP := hid hP
                clear hP hsx hjl' ey
                go_wp2_with (go_at_call 9; refine hlv.mono ?_; rintro e w4 ⟨rfl, hb4⟩)
                go_roundw
                case rel => exact ⟨j + 1, z + y, by omega, by go_num, by go_num, ⟨by have := HZ.out; omega, by have := HZ.out; omega⟩, ⟨by rw [HSX.out, ← HZ.out.1], by have := HZ.out; omega, by have := HZ.out; omega⟩, HP.out.below hb4, hb.trans (hb4.mono hb.size)⟩
                case measure => simp [intOf]; omega
              · have e : j = nl := by omega
                subst e
                clear hjl HPL HBL
                obtain ⟨hz3, hz4, hz5⟩ := HZ.out
                have HZS := hid hz3
                clear HZ hz3
                by_cases hG : grantOk L.length bl bytes
                · obtain ⟨out, eo⟩ : ∃ out, out = (grantM (lvs L) bl bytes (ordT L)).out := ⟨_, rfl⟩
                  have hgr := grant_good L bl bytes wS.heap.size wS.heap.size nb cb ab v wS wr hP (by rw [HLN.out]; omega) (HL.out.1.apart HO.out) (HL.out.2.fits HL.out.1 HO.out) rfl HRW.out hb HNB.out hmb hG
                  have hfl := grant_full (lvs L) bl bytes (ordT L) (of_decide_eq_true hG.2.1).1 (fun i hi => (of_decide_eq_true (hG.2.2 i hi)).1) (fun i hi => by rw [hG.1]; exact ordT_lt hi) (fun i hi => ordT_mem (by rw [← hG.1]; exact hi))
                  have hou : out.length = nb := by rw [eo, hfl.1.len, HNB.out]
                  have hnbj : nb = j := by rw [← HNB.out, hG.1, HLN.out]
                  have HEA : Hid (∀ i, i < nb → (0 ≤ out.getD i 0 ∧ out.getD i 0 ≤ bl.getD i 0) ∧ bl.getD i 0 ≤ 1000000) := fun i hi => by
                    have hib : i < bl.length := by rw [HNB.out]; exact hi
                    rw [eo]
                    exact ⟨hfl.1.each i hib, (of_decide_eq_true (hG.2.2 i hib)).2⟩
                  have HTO : Hid (sumI out ≤ bytes ∧ (sumI out = bytes ∨ ∀ i, i < nb → out.getD i 0 = bl.getD i 0)) := by
                    have h1 := hfl.1.sum
                    have h2 := hfl.1.some
                    rw [← eo] at h1
                    refine ⟨by omega, ?_⟩
                    rcases hfl.2 with h | h
                    · left; omega
                    · right
                      intro i hi
                      rw [eo]
                      exact h i (by rw [HNB.out]; exact hi)
                  rw [← eo] at hgr
                  have HOU := hid hou
                  have HSA := hid (HL.out.1.all out)
                  have HLS := hid (lvSum_all L out)
                  clear eo hfl hP hG hou
                  subst hnbj
                  go_wp2_with (go_at_call 10; refine hgr.mono ?_; rintro e w5 ⟨gg, rfl, hA5, hP5, hb5, hgg5⟩)
                  clear hgr
                  go_loopw [25, 26, 27] (fun s1 s2 q wq => ∃ (k : Nat) (y1 y2 : Int), k ≤ nb ∧ q = .int .i64 k ∧ s1 = .int .i64 y1 ∧ s2 = .int .i64 y2 ∧ ((0 ≤ y1 ∧ y1 ≤ 100000000) ∧ 0 ≤ y2 ∧ y2 ≤ 100000000) ∧ Hid (y1 = sumI (out.take k) ∧ y1 ≤ 1000000 * k ∧ y2 = sumI (bl.take k) - sumI (out.take k) ∧ y2 ≤ 1000000 * k) ∧ ArrAt .i64 3 wq gg out ∧ PSh wq wS.heap.size wS.heap.size v (lvAll L out) ∧ Below wS.heap.size wS wq) (fun _ _ q _ => nb - (intOf q).toNat)
                  case atStart => exact ⟨0, 0, 0, by omega, rfl, rfl, rfl, ⟨⟨by omega, by omega⟩, by omega, by omega⟩, ⟨rfl, by omega, rfl, by omega⟩, hA5, hP5, hb5⟩
                  case round =>
                    clear hA5 hP5 hb5 hb
                    obtain ⟨i, y1, y2, hi, rfl, rfl, rfl, ⟨⟨b1, b2⟩, b3, b4⟩, HY, hA, hP, hb⟩ := hrel
                    by_cases hlt : i < nb
                    · have hio : i < out.length := by rw [HOU.out]; exact hlt
                      have hib : i < bl.length := by rw [HNB.out]; exact hlt
                      have o0 := hA.cell hio
                      obtain ⟨b, o, rfl, hRC⟩ := HRW.out.at hib
                      have q0 := cellB hb (hRC i hib)
                      have hea := HEA.out i hlt
                      have hs1 := sumI_take hio
                      have hs2 := sumI_take hib
                      obtain ⟨u, eu⟩ : ∃ u, u = out.getD i 0 := ⟨_, rfl⟩
                      obtain ⟨z, ez⟩ : ∃ z, z = bl.getD i 0 := ⟨_, rfl⟩
                      rw [← eu] at o0 hea hs1
                      rw [← ez] at q0 hea hs2
                      have HS1 := hid hs1
                      have HS2 := hid hs2
                      obtain ⟨⟨u0, u1⟩, z1⟩ := hea
                      have x1 : decide (u < 0) = false := decide_eq_false (by omega)
                      have x2 : decide (z < u) = false := decide_eq_false (by omega)
                      have HA := hid hA
                      have HP := hid hP
                      have HB := hid hb
                      clear hs1 hs2 eu ez hRC hio hib hA hP hb
                      go_upto_region 33 with fail
                      go_region
                      go_upto_region 36 with fail
                      go_region
                      go_wp2_with fail
                      go_roundw
                      case rel => exact ⟨i + 1, y1 + u, y2 + (z - u), by omega, by go_num, by go_num, by go_num, ⟨⟨by omega, by have := HY.out; omega⟩, by omega, by have := HY.out; omega⟩, ⟨by rw [HS1.out, ← HY.out.1], by have := HY.out; omega, by rw [HS1.out, HS2.out]; have := HY.out.2.2.1; omega, by have := HY.out; omega⟩, HA.out, ⟨HP.out.box, HP.out.own, HP.out.ne, HP.out.le⟩, HB.out.drew.drew⟩
                      case measure => simp [intOf]; omega
                    · have e : i = nb := by omega
                      subst e
                      have HPA := hid hP
                      have HBA := hid hb
                      clear hP hb hlt hA
                      go_wp2_with fail
                      go_loopw [28, 29] (fun s q wq => ∃ (k : Nat) (y : Int), k ≤ i ∧ q = .int .i64 k ∧ s = .int .i64 y ∧ (-200000000 ≤ y ∧ y ≤ 200000000) ∧ Hid (y = lvSum (lvAll L out) k ∧ y ≤ 100000 * k ∧ -1000000 * k ≤ y) ∧ PSh wq wS.heap.size wS.heap.size v (lvAll L out) ∧ Below wS.heap.size wS wq) (fun _ q _ => i - (intOf q).toNat)
                      case atStart => exact ⟨0, 0, by omega, rfl, rfl, ⟨by omega, by omega⟩, ⟨rfl, by omega, by omega⟩, HPA.out, HBA.out⟩
                      case round =>
                        obtain ⟨m, y, hm, rfl, rfl, ⟨hy1, hy2⟩, HYY, hP, hb⟩ := hrel
                        by_cases hml2 : m < i
                        · have hml' : m < l.length := by rw [HNL.out]; exact hml2
                          obtain ⟨b, o, rfl, q0, -, -, -⟩ := HC.out.at hml'
                          have q0 := cellB hb (cellB HBW.out q0)
                          have hll : (lvAll L out).length = i := by rw [HSA.out.1, HNL.out]
                          have hlv := level_any (lvAll L out) (l.getD m .zero).id wS.heap.size wS.heap.size v wr hP (by rw [hll]; omega)
                          rw [HSA.out.level HO.out hml'] at hlv
                          have hv := HL.out.2 m (by rw [HLN.out]; exact hml2)
                          have hea := HEA.out m hml2
                          have hsx := lvSum_succ (L := lvAll L out) (k := m) (by rw [hll]; exact hml2)
                          have hya := lvAll_at out (i := m) (L := L) (by rw [HLN.out]; exact hml2)
                          generalize (l.getD m .zero).id = id at *
                          obtain ⟨yy, ey⟩ : ∃ yy, yy = ((lvAll L out).getD m .zero).lv := ⟨_, rfl⟩
                          rw [← ey] at hlv hsx hya
                          have hv1 : -1000000 ≤ yy := by omega
                          have hv2 : yy ≤ 100000 := by omega
                          have HSX := hid hsx
                          have HP := hid hP
                          clear hP hsx hml' ey hya hea hv hll
                          go_wp2_with (go_at_call 9; refine hlv.mono ?_; rintro e w6 ⟨rfl, hb6⟩)
                          go_roundw
                          case rel => exact ⟨m + 1, y + yy, by omega, by go_num, by go_num, ⟨by have := HYY.out; omega, by have := HYY.out; omega⟩, ⟨by rw [HSX.out, ← HYY.out.1], by have := HYY.out; omega, by have := HYY.out; omega⟩, HP.out.below hb6, hb.trans (hb6.mono hb.size)⟩
                          case measure => simp [intOf]; omega
                        · have e : m = i := by omega
                          subst e
                          have hto : out.take m = out := List.take_of_length_le (by rw [HOU.out]; exact Nat.le_refl _)
                          have htb : bl.take m = bl := List.take_of_length_le (by rw [HNB.out]; exact Nat.le_refl _)
                          obtain ⟨t1, -, t2, -⟩ := HY.out
                          obtain ⟨t3, -, -⟩ := HYY.out
                          have t4 := HLS.out m (by rw [HLN.out]; exact Nat.le_refl _) (by rw [HOU.out]; exact Nat.le_refl _)
                          rw [hto] at t1 t2 t4
                          rw [htb] at t2
                          have t5 := HTO.out
                          have t6 := HZS.out
                          have g1 : decide (y1 ≤ bytes) = true := decide_eq_true (by omega)
                          have g3 : (z - y == y1) = true := by rw [beq_iff_eq]; omega
                          by_cases gq : y1 = bytes
                          · have g2 : (y1 == bytes) = true := by rw [beq_iff_eq]; exact gq
                            clear hto htb t1 t2 t3 t4 t5 t6 gq HY HYY
                            go_wp2_with fail
                            go_ret
                            exact ⟨rfl, HBW.out.trans (hb.mono HBW.out.size)⟩
                          · have g2 : (y1 == bytes) = false := beq_false_of_ne gq
                            have hsame : sumI bl = sumI out := by
                              rcases t5.2 with h | h
                              · exact absurd (t1.trans h) gq
                              · exact congrArg sumI (list_same (by rw [HNB.out, HOU.out]) (fun i hi => (h i (by rw [← HNB.out]; exact hi)).symm))
                            have g4 : y2 = 0 := by omega
                            clear hto htb t1 t2 t3 t4 t5 t6 gq HY HYY hsame
                            subst g4
                            go_wp2_with fail
                            go_ret
                            exact ⟨rfl, HBW.out.trans (hb.mono HBW.out.size)⟩
                · have hgr := grant_bad L bl bytes wS.heap.size wS.heap.size nb cb ab v wr hP (by rw [HLN.out]; omega) (HRW.out.below hb) HNB.out hmb hG
                  clear hG hP
                  go_wp2_with (go_at_call 10; refine hgr.mono ?_; rintro e w5 ⟨rfl, rfl⟩)
                  go_ret
                  exact ⟨rfl, HBW.out.trans (hb.mono HBW.out.size)⟩
          · go_wp2_with fail
            go_loopw [20, 21] (fun s q wq => ∃ (k : Nat) (z : Int), k ≤ nl ∧ q = .int .i64 k ∧ s = .int .i64 z ∧ (-100000000 ≤ z ∧ z ≤ 100000000) ∧ Hid (z = lvSum L k ∧ z ≤ 100000 * k ∧ 0 ≤ z) ∧ PSh wq wS.heap.size wS.heap.size v L ∧ Below wS.heap.size wS wq) (fun _ q _ => nl - (intOf q).toNat)
            case atStart => exact ⟨0, 0, by omega, rfl, rfl, ⟨by omega, by omega⟩, ⟨rfl, by omega, by omega⟩, HPL.out, HBL.out⟩
            case round =>
              obtain ⟨j, z, hj, rfl, rfl, ⟨hz1, hz2⟩, HZ, hP, hb⟩ := hrel
              by_cases hjl : j < nl
              · have hjl' : j < l.length := by rw [HNL.out]; exact hjl
                obtain ⟨b, o, rfl, q0, -, -, -⟩ := HC.out.at hjl'
                have q0 := cellB hb (cellB HBW.out q0)
                have hlv := level_any L (l.getD j .zero).id wS.heap.size wS.heap.size v wr hP (by rw [HLN.out]; omega)
                rw [HL.out.1.level HO.out hjl'] at hlv
                have hv := HL.out.2 j (by rw [HLN.out]; exact hjl)
                have hsx := lvSum_succ (L := L) (k := j) (by rw [HLN.out]; exact hjl)
                generalize (l.getD j .zero).id = id at *
                obtain ⟨y, ey⟩ : ∃ y, y = (L.getD j .zero).lv := ⟨_, rfl⟩
                rw [← ey] at hlv hv hsx
                have HSX := hid hsx
                have HP := hid hP
                clear hP hsx hjl' ey
                go_wp2_with (go_at_call 9; refine hlv.mono ?_; rintro e w4 ⟨rfl, hb4⟩)
                go_roundw
                case rel => exact ⟨j + 1, z + y, by omega, by go_num, by go_num, ⟨by have := HZ.out; omega, by have := HZ.out; omega⟩, ⟨by rw [HSX.out, ← HZ.out.1], by have := HZ.out; omega, by have := HZ.out; omega⟩, HP.out.below hb4, hb.trans (hb4.mono hb.size)⟩
                case measure => simp [intOf]; omega
              · have e : j = nl := by omega
                subst e
                clear hjl HPL HBL
                obtain ⟨hz3, hz4, hz5⟩ := HZ.out
                have HZS := hid hz3
                clear HZ hz3
                by_cases hG : grantOk L.length bl bytes
                · obtain ⟨out, eo⟩ : ∃ out, out = (grantM (lvs L) bl bytes (ordT L)).out := ⟨_, rfl⟩
                  have hgr := grant_good L bl bytes wS.heap.size wS.heap.size nb cb ab v wS wr hP (by rw [HLN.out]; omega) (HL.out.1.apart HO.out) (HL.out.2.fits HL.out.1 HO.out) rfl HRW.out hb HNB.out hmb hG
                  have hfl := grant_full (lvs L) bl bytes (ordT L) (of_decide_eq_true hG.2.1).1 (fun i hi => (of_decide_eq_true (hG.2.2 i hi)).1) (fun i hi => by rw [hG.1]; exact ordT_lt hi) (fun i hi => ordT_mem (by rw [← hG.1]; exact hi))
                  have hou : out.length = nb := by rw [eo, hfl.1.len, HNB.out]
                  have hnbj : nb = j := by rw [← HNB.out, hG.1, HLN.out]
                  have HEA : Hid (∀ i, i < nb → (0 ≤ out.getD i 0 ∧ out.getD i 0 ≤ bl.getD i 0) ∧ bl.getD i 0 ≤ 1000000) := fun i hi => by
                    have hib : i < bl.length := by rw [HNB.out]; exact hi
                    rw [eo]
                    exact ⟨hfl.1.each i hib, (of_decide_eq_true (hG.2.2 i hib)).2⟩
                  have HTO : Hid (sumI out ≤ bytes ∧ (sumI out = bytes ∨ ∀ i, i < nb → out.getD i 0 = bl.getD i 0)) := by
                    have h1 := hfl.1.sum
                    have h2 := hfl.1.some
                    rw [← eo] at h1
                    refine ⟨by omega, ?_⟩
                    rcases hfl.2 with h | h
                    · left; omega
                    · right
                      intro i hi
                      rw [eo]
                      exact h i (by rw [HNB.out]; exact hi)
                  rw [← eo] at hgr
                  have HOU := hid hou
                  have HSA := hid (HL.out.1.all out)
                  have HLS := hid (lvSum_all L out)
                  clear eo hfl hP hG hou
                  subst hnbj
                  go_wp2_with (go_at_call 10; refine hgr.mono ?_; rintro e w5 ⟨gg, rfl, hA5, hP5, hb5, hgg5⟩)
                  clear hgr
                  go_loopw [25, 26, 27] (fun s1 s2 q wq => ∃ (k : Nat) (y1 y2 : Int), k ≤ nb ∧ q = .int .i64 k ∧ s1 = .int .i64 y1 ∧ s2 = .int .i64 y2 ∧ ((0 ≤ y1 ∧ y1 ≤ 100000000) ∧ 0 ≤ y2 ∧ y2 ≤ 100000000) ∧ Hid (y1 = sumI (out.take k) ∧ y1 ≤ 1000000 * k ∧ y2 = sumI (bl.take k) - sumI (out.take k) ∧ y2 ≤ 1000000 * k) ∧ ArrAt .i64 3 wq gg out ∧ PSh wq wS.heap.size wS.heap.size v (lvAll L out) ∧ Below wS.heap.size wS wq) (fun _ _ q _ => nb - (intOf q).toNat)
                  case atStart => exact ⟨0, 0, 0, by omega, rfl, rfl, rfl, ⟨⟨by omega, by omega⟩, by omega, by omega⟩, ⟨rfl, by omega, rfl, by omega⟩, hA5, hP5, hb5⟩
                  case round =>
                    clear hA5 hP5 hb5 hb
                    obtain ⟨i, y1, y2, hi, rfl, rfl, rfl, ⟨⟨b1, b2⟩, b3, b4⟩, HY, hA, hP, hb⟩ := hrel
                    by_cases hlt : i < nb
                    · have hio : i < out.length := by rw [HOU.out]; exact hlt
                      have hib : i < bl.length := by rw [HNB.out]; exact hlt
                      have o0 := hA.cell hio
                      obtain ⟨b, o, rfl, hRC⟩ := HRW.out.at hib
                      have q0 := cellB hb (hRC i hib)
                      have hea := HEA.out i hlt
                      have hs1 := sumI_take hio
                      have hs2 := sumI_take hib
                      obtain ⟨u, eu⟩ : ∃ u, u = out.getD i 0 := ⟨_, rfl⟩
                      obtain ⟨z, ez⟩ : ∃ z, z = bl.getD i 0 := ⟨_, rfl⟩
                      rw [← eu] at o0 hea hs1
                      rw [← ez] at q0 hea hs2
                      have HS1 := hid hs1
                      have HS2 := hid hs2
                      obtain ⟨⟨u0, u1⟩, z1⟩ := hea
                      have x1 : decide (u < 0) = false := decide_eq_false (by omega)
                      have x2 : decide (z < u) = false := decide_eq_false (by omega)
                      have HA := hid hA
                      have HP := hid hP
                      have HB := hid hb
                      clear hs1 hs2 eu ez hRC hio hib hA hP hb
                      go_upto_region 33 with fail
                      go_region
                      go_upto_region 36 with fail
                      go_region
                      go_wp2_with fail
                      go_roundw
                      case rel => exact ⟨i + 1, y1 + u, y2 + (z - u), by omega, by go_num, by go_num, by go_num, ⟨⟨by omega, by have := HY.out; omega⟩, by omega, by have := HY.out; omega⟩, ⟨by rw [HS1.out, ← HY.out.1], by have := HY.out; omega, by rw [HS1.out, HS2.out]; have := HY.out.2.2.1; omega, by have := HY.out; omega⟩, HA.out, ⟨HP.out.box, HP.out.own, HP.out.ne, HP.out.le⟩, HB.out.drew.drew⟩
                      case measure => simp [intOf]; omega
                    · have e : i = nb := by omega
                      subst e
                      have HPA := hid hP
                      have HBA := hid hb
                      clear hP hb hlt hA
                      go_wp2_with fail
                      go_loopw [28, 29] (fun s q wq => ∃ (k : Nat) (y : Int), k ≤ i ∧ q = .int .i64 k ∧ s = .int .i64 y ∧ (-200000000 ≤ y ∧ y ≤ 200000000) ∧ Hid (y = lvSum (lvAll L out) k ∧ y ≤ 100000 * k ∧ -1000000 * k ≤ y) ∧ PSh wq wS.heap.size wS.heap.size v (lvAll L out) ∧ Below wS.heap.size wS wq) (fun _ q _ => i - (intOf q).toNat)
                      case atStart => exact ⟨0, 0, by omega, rfl, rfl, ⟨by omega, by omega⟩, ⟨rfl, by omega, by omega⟩, HPA.out, HBA.out⟩
                      case round =>
                        obtain ⟨m, y, hm, rfl, rfl, ⟨hy1, hy2⟩, HYY, hP, hb⟩ := hrel
                        by_cases hml2 : m < i
                        · have hml' : m < l.length := by rw [HNL.out]; exact hml2
                          obtain ⟨b, o, rfl, q0, -, -, -⟩ := HC.out.at hml'
                          have q0 := cellB hb (cellB HBW.out q0)
                          have hll : (lvAll L out).length = i := by rw [HSA.out.1, HNL.out]
                          have hlv := level_any (lvAll L out) (l.getD m .zero).id wS.heap.size wS.heap.size v wr hP (by rw [hll]; omega)
                          rw [HSA.out.level HO.out hml'] at hlv
                          have hv := HL.out.2 m (by rw [HLN.out]; exact hml2)
                          have hea := HEA.out m hml2
                          have hsx := lvSum_succ (L := lvAll L out) (k := m) (by rw [hll]; exact hml2)
                          have hya := lvAll_at out (i := m) (L := L) (by rw [HLN.out]; exact hml2)
                          generalize (l.getD m .zero).id = id at *
                          obtain ⟨yy, ey⟩ : ∃ yy, yy = ((lvAll L out).getD m .zero).lv := ⟨_, rfl⟩
                          rw [← ey] at hlv hsx hya
                          have hv1 : -1000000 ≤ yy := by omega
                          have hv2 : yy ≤ 100000 := by omega
                          have HSX := hid hsx
                          have HP := hid hP
                          clear hP hsx hml' ey hya hea hv hll
                          go_wp2_with (go_at_call 9; refine hlv.mono ?_; rintro e w6 ⟨rfl, hb6⟩)
                          go_roundw
                          case rel => exact ⟨m + 1, y + yy, by omega, by go_num, by go_num, ⟨by have := HYY.out; omega, by have := HYY.out; omega⟩, ⟨by rw [HSX.out, ← HYY.out.1], by have := HYY.out; omega, by have := HYY.out; omega⟩, HP.out.below hb6, hb.trans (hb6.mono hb.size)⟩
                          case measure => simp [intOf]; omega
                        · have e : m = i := by omega
                          subst e
                          have hto : out.take m = out := List.take_of_length_le (by rw [HOU.out]; exact Nat.le_refl _)
                          have htb : bl.take m = bl := List.take_of_length_le (by rw [HNB.out]; exact Nat.le_refl _)
                          obtain ⟨t1, -, t2, -⟩ := HY.out
                          obtain ⟨t3, -, -⟩ := HYY.out
                          have t4 := HLS.out m (by rw [HLN.out]; exact Nat.le_refl _) (by rw [HOU.out]; exact Nat.le_refl _)
                          rw [hto] at t1 t2 t4
                          rw [htb] at t2
                          have t5 := HTO.out
                          have t6 := HZS.out
                          have g1 : decide (y1 ≤ bytes) = true := decide_eq_true (by omega)
                          have g3 : (z - y == y1) = true := by rw [beq_iff_eq]; omega
                          by_cases gq : y1 = bytes
                          · have g2 : (y1 == bytes) = true := by rw [beq_iff_eq]; exact gq
                            clear hto htb t1 t2 t3 t4 t5 t6 gq HY HYY
                            go_wp2_with fail
                            go_ret
                            exact ⟨rfl, HBW.out.trans (hb.mono HBW.out.size)⟩
                          · have g2 : (y1 == bytes) = false := beq_false_of_ne gq
                            have hsame : sumI bl = sumI out := by
                              rcases t5.2 with h | h
                              · exact absurd (t1.trans h) gq
                              · exact congrArg sumI (list_same (by rw [HNB.out, HOU.out]) (fun i hi => (h i (by rw [← HNB.out]; exact hi)).symm))
                            have g4 : y2 = 0 := by omega
                            clear hto htb t1 t2 t3 t4 t5 t6 gq HY HYY hsame
                            subst g4
                            go_wp2_with fail
                            go_ret
                            exact ⟨rfl, HBW.out.trans (hb.mono HBW.out.size)⟩
                · have hgr := grant_bad L bl bytes wS.heap.size wS.heap.size nb cb ab v wr hP (by rw [HLN.out]; omega) (HRW.out.below hb) HNB.out hmb hG
                  clear hG hP
                  go_wp2_with (go_at_call 10; refine hgr.mono ?_; rintro e w5 ⟨rfl, rfl⟩)
                  go_ret
                  exact ⟨rfl, HBW.out.trans (hb.mono HBW.out.size)⟩
    · have hnw1 : Calls Tryd.prog 7 #[.slice al nl cl] w2 fun e w' => e = .returned (.tuple #[.pointer none, .int .i64 1]) ∧ Below w2.heap.size w2 w' := hnw.mono fun e w' h => by
        rcases h with ⟨h1 | h1, h2⟩
        · exact ⟨h1.2, h2⟩
        · exact absurd h1.1 hO
      clear hnw hO hCW hRW
      go_wp2_with (go_at_call 7; refine hnw1.mono ?_; rintro e w3 ⟨rfl, hb3⟩)
      go_ret
      exact ⟨rfl, HBW.out.trans (hb3.mono HBW.out.size)⟩
end Go.Proofs.YtmdfjhnibhmdkafDoor
