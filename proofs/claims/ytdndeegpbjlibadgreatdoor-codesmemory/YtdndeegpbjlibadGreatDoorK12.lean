import Derived.Test.YtdndeegpbjlibadGreatDoorK11
import Derived.Test.YtdndeegpbjlibadGreatDoorK02
namespace Go.Proofs.YtdndeegpbjlibadGreatDoor
open Go.ChangeShapes Go.WideShapes Go.ChangeAt Go.RowKit

theorem Taps.lt {w : World} (h : Taps w) : 0 < w.heap.size := by
  obtain ⟨T, fr, e⟩ := h
  rcases Nat.lt_or_ge 0 w.heap.size with h | h
  · exact h
  · rw [Array.getElem?_eq_none h] at e; cases e
theorem Taps.below {w w' : World} (h : Taps w) (hb : Below w.heap.size w w') : Taps w' := by
  have hlt := h.lt
  obtain ⟨T, fr, h⟩ := h
  exact ⟨T, fr, (hb.block _ hlt).trans h⟩

/-- The window moves on. -/
theorem win_move {zs : List Int} (hb : Bits zs) (i V b : Nat) (hV : (2 * (V : Int)) % 128 = preI zs i) (hbit : bitI zs i = (b : Int)) :
    ∃ U : Nat, IntKind.u64.wrap ((V : Int) * 2) = (U : Int) ∧ U < 18446744073709551616 ∧ bits .or .u64 (U : Int) (b : Int) = ((U + b : Nat) : Int) ∧ U + b < 18446744073709551616 ∧ ((U + b : Nat) : Int) % 128 = preI zs i + bitI zs i := by
  have hb01 := bitI_bd hb (i : Int)
  have hp := preI_bd hb i
  refine ⟨V * 2 % 18446744073709551616, ?_, by omega, ?_, by omega, ?_⟩
  · rw [IntKind.wrap_u64]
    omega
  · rw [u64_or_nat _ _ (by omega) (by omega), nat_join 1 _ _ (by omega) (by omega)]
  · rw [hbit]
    omega

theorem low_bit (x : Nat) (h : x < 8) : ∃ y : Nat, bits .and .u64 (x : Int) 1 = (y : Int) ∧ (x : Int) % 2 = (y : Int) ∧ y ≤ 1 := by
  refine ⟨x % 2, ?_, by omega, by omega⟩
  have := u64_and_nat x 1 (by omega) (by omega)
  rw [show ((1 : Nat) : Int) = 1 from rfl] at this
  rw [this, nat_mask1]

set_option maxHeartbeats 2000000 in
theorem encode_any (zs : List Int) (a : Option Addr) (c : Nat) (w : World) (ha : Rd .u8 w a zs) (hz : zs.length ≤ maxLen) (hy : Bytes zs) (hT : Taps w) :
    Calls Tryz.prog 11 #[.slice a zs.length c] w fun e w' => ∃ v, e = .returned (.tuple #[v, .int .i64 (encErr zs)]) ∧ Own w' w.heap.size v (encL zs) ∧ Below w.heap.size w w' := by
  by_cases h0 : errOf zs = 0
  · by_cases h1 : 400 < zs.length
    · have he : encErr zs = 2 := by unfold encErr; rw [if_pos h0, if_pos h1]
      have hL : encL zs = [] := by unfold encL; rw [he]; rfl
      rw [he, hL]
      have H0 := hid h0
      clear he hL h0
      unfold maxLen at hz
      go_enter Tryz.func11, Tryz.ntmps11
      go_wp2_with (go_at_call 28; refine (check_any zs a c _ ha (by unfold maxLen; omega)).mono ?_; rintro e w' ⟨rfl, rfl⟩; rw [H0.out])
      go_ret2
      exact ⟨_, rfl, Own.nil _ _, Below.refl _ _⟩
    · have he : encErr zs = 0 := by unfold encErr; rw [if_pos h0, if_neg h1]
      have hL : encL zs = codedTo zs (zs.length + 6) := by unfold encL; rw [he]; rfl
      rw [he, hL]
      have hbits : Bits zs := fun k => ⟨(hy.at k).1, (err_zero h0).1 k⟩
      have hb := hid hbits
      have H0 := hid h0
      have h1' : zs.length ≤ 400 := by omega
      clear he hL h0 h1 hbits hz
      have HL := hid (codedTo_length zs (zs.length + 6))
      go_enter Tryz.func11, Tryz.ntmps11
      go_wp2_with (first | (go_at_call 28; refine (check_any zs a c _ ha (by unfold maxLen; omega)).mono ?_; rintro e w' ⟨rfl, rfl⟩; rw [H0.out]) | (at_make; refine wpList_makeBytes w.heap.size w (3 * (zs.length + 6)) rfl _ _ rfl _ _ rfl rfl ?_ ?_ (by omega) (Below.refl _ _) (Nat.le_refl _) ?_))
      · omega
      · omega
      intro w1 hown hbel hsz1
      have e1 : List.replicate (3 * (zs.length + 6)) (0 : Int) = fillE (codedTo zs (zs.length + 6)) (3 * 0) := by rw [Nat.mul_zero, fillE_zero, HL.out]
      rw [e1] at hown
      obtain ⟨g, HG⟩ : ∃ g, g = w.heap.size := ⟨_, rfl⟩
      have hown0 : Own w1 w.heap.size (.slice (some ⟨g, 0, none⟩) (3 * (zs.length + 6)) (3 * (zs.length + 6))) (fillE (codedTo zs (zs.length + 6)) (3 * 0)) := by rw [HG]; exact hown
      clear hown
      have hown := hown0
      clear hown0
      have hBg := hid (show w.heap.size ≤ g by omega)
      rw [← HG]
      clear HG e1
      obtain ⟨N, hN⟩ : ∃ N, N = 3 * (zs.length + 6) := ⟨_, rfl⟩
      rw [← hN] at hown
      rw [← hN]
      have HN := hid hN
      have hN2 : N ≤ 1218 := by omega
      clear hN
      go_wp2
      go_loopw [6, 26] (fun v q wr => ∃ i V : Nat, i ≤ zs.length + 6 ∧ q = .int .i64 i ∧ v = .int .u64 V ∧ V < 18446744073709551616 ∧ Hid (2 * (V : Int) % 128 = preI zs i) ∧ Own wr w.heap.size (.slice (some ⟨g, 0, none⟩) N N) (fillE (codedTo zs (zs.length + 6)) (3 * i)) ∧ Below w.heap.size w wr) (fun _ q _ => zs.length + 6 - (intOf q).toNat)
      case atStart => exact ⟨0, 0, by omega, rfl, rfl, by omega, by rw [preI_zero]; rfl, hown, hbel⟩
      case round =>
        clear hown hbel
        obtain ⟨i, V, hi, rfl, rfl, lV0, HP, hown, hbel⟩ := hrel
        by_cases hlt : i < zs.length + 6
        · have hN3 : 3 * i + 2 < N := by rw [HN.out]; omega
          by_cases hin : i < zs.length
          · skip
            obtain ⟨b1, o1, rfl, hc1⟩ := (ha.below hbel).at hin
            have g1 := hc1 i hin
            clear hc1
            have hb01 := bitI_bd hb.out (i : Int)
            obtain ⟨b, hbb⟩ := Int.eq_ofNat_of_zero_le hb01.1
            have hgd : zs.getD i 0 = (b : Int) := by rw [← hbb]; unfold bitI; rw [if_neg (by omega), Int.toNat_natCast]
            rw [hgd] at g1
            obtain ⟨U, hU, lU, hor, lV, HV0⟩ := win_move hb.out i V b HP.out hbb
            have HV := hid HV0
            have hb1 : b ≤ 1 := by omega
            clear HV0 hgd hb01
            generalize hV' : U + b = V' at *
            have HV' := hid hV'
            clear hV'
            have hTr := hT.below hbel
            obtain ⟨wv, hwv⟩ : ∃ wv : Nat, wordI (V' : Int) = (wv : Int) := Int.eq_ofNat_of_zero_le (wordI_bd _).1
            have hw8 := (wordI_bd (V' : Int)).2
            rw [hwv] at hw8
            have HT2 := hid (show trip zs i = [(wv : Int) / 4 % 2, (wv : Int) / 2 % 2, (wv : Int) / 1 % 2] by rw [trip_word hb.out i _ HV.out, hwv]; simp)
            have HP' := hid (win_next hb.out i _ HV.out)
            have HWV := hid hwv
            clear hwv
            go_wp2_with (go_at_call 30; refine (word_any V' lV _ hTr).mono ?_; rintro e w' ⟨rfl, rfl⟩; rw [HWV.out])
            go_loopw [44] (fun q wr => ∃ j : Nat, j ≤ 3 ∧ q = .int .i64 j ∧ Own wr w.heap.size (.slice (some ⟨g, 0, none⟩) N N) (fillE (codedTo zs (zs.length + 6)) (3 * i + j)) ∧ Below w.heap.size w wr) (fun q _ => 3 - (intOf q).toNat)
            case atStart => exact ⟨0, by omega, rfl, hown, hbel⟩
            case round =>
              obtain ⟨j, hj, rfl, hownI, hbI⟩ := hrel
              clear hown hbel
              rcases (show j = 0 ∨ j = 1 ∨ j = 2 ∨ j = 3 by omega) with rfl | rfl | rfl | rfl
              · obtain ⟨y, hy1, hy2, hy3⟩ := low_bit (wv / 4) (by omega)
                have hyv : bits .and .u64 ((wv : Int) / 4) 1 = (y : Int) := by rw [← hy1]; rfl
                replace hownI : Own wr w.heap.size (.slice (some ⟨g, 0, none⟩) N N) (fillE (codedTo zs (zs.length + 6)) (3 * i)) := hownI
                have hcell := hownI.cell (i := 3 * i) (by rw [fillE_length _ _ (by rw [HL.out]; omega), HL.out]; omega)
                have hfr := hownI.free (3 * i)
                have hset := hownI.set (3 * i) (y : Int)
                rw [fillE_set _ (3 * i) (by rw [HL.out]; omega) _ (by rw [codedTo_trip0 zs _ i (by omega), HT2.out]; show (y : Int) = (wv : Int) / 4 % 2; omega)] at hset
                have hbI' := hbI.setCell (p := ⟨g, 3 * i, none⟩) hBg.out (.int .u8 (y : Int))
                clear hownI hbI hy1 hy2
                go_wp2
                go_roundw
                case rel => exact ⟨0 + 1, by omega, by go_num, hset, hbI'⟩
                case measure => simp [intOf]
              · obtain ⟨y, hy1, hy2, hy3⟩ := low_bit (wv / 2) (by omega)
                have hyv : bits .and .u64 ((wv : Int) / 2) 1 = (y : Int) := by rw [← hy1]; rfl
                have hcell := hownI.cell (i := 3 * i + 1) (by rw [fillE_length _ _ (by rw [HL.out]; omega), HL.out]; omega)
                have hfr := hownI.free (3 * i + 1)
                have hset := hownI.set (3 * i + 1) (y : Int)
                rw [fillE_set _ (3 * i + 1) (by rw [HL.out]; omega) _ (by rw [codedTo_trip zs _ i (by omega) 1 (by omega), HT2.out]; show (y : Int) = (wv : Int) / 2 % 2; omega)] at hset
                have hbI' := hbI.setCell (p := ⟨g, 3 * i + 1, none⟩) hBg.out (.int .u8 (y : Int))
                clear hownI hbI hy1 hy2
                go_wp2
                go_roundw
                case rel => exact ⟨1 + 1, by omega, by go_num, hset, hbI'⟩
                case measure => simp [intOf]
              · obtain ⟨y, hy1, hy2, hy3⟩ := low_bit (wv / 1) (by omega)
                have hyv : bits .and .u64 (wv : Int) 1 = (y : Int) := by rw [← hy1, Nat.div_one]
                have hcell := hownI.cell (i := 3 * i + 2) (by rw [fillE_length _ _ (by rw [HL.out]; omega), HL.out]; omega)
                have hfr := hownI.free (3 * i + 2)
                have hset := hownI.set (3 * i + 2) (y : Int)
                rw [fillE_set _ (3 * i + 2) (by rw [HL.out]; omega) _ (by rw [codedTo_trip zs _ i (by omega) 2 (by omega), HT2.out]; show (y : Int) = (wv : Int) / 1 % 2; omega)] at hset
                have hbI' := hbI.setCell (p := ⟨g, 3 * i + 2, none⟩) hBg.out (.int .u8 (y : Int))
                clear hownI hbI hy1 hy2
                go_wp2
                go_roundw
                case rel => exact ⟨2 + 1, by omega, by go_num, hset, hbI'⟩
                case measure => simp [intOf]
              · go_wp2
                go_roundw
                case rel => exact ⟨i + 1, V', by omega, by go_num, rfl, lV, HP', hownI, hbI⟩
                case measure => simp [intOf]; omega
          · skip
            have hbb : bitI zs (i : Int) = ((0 : Nat) : Int) := by unfold bitI; rw [if_neg (by omega), Int.toNat_natCast]; simp [List.getD, Nat.le_of_not_lt hin]
            obtain ⟨U, hU, lU, _, lV, HV0⟩ := win_move hb.out i V 0 HP.out hbb
            rw [Nat.add_zero] at lV HV0
            have HV := hid HV0
            clear HV0
            obtain ⟨V', rfl⟩ : ∃ V', V' = U := ⟨_, rfl⟩
            have hTr := hT.below hbel
            obtain ⟨wv, hwv⟩ : ∃ wv : Nat, wordI (V' : Int) = (wv : Int) := Int.eq_ofNat_of_zero_le (wordI_bd _).1
            have hw8 := (wordI_bd (V' : Int)).2
            rw [hwv] at hw8
            have HT2 := hid (show trip zs i = [(wv : Int) / 4 % 2, (wv : Int) / 2 % 2, (wv : Int) / 1 % 2] by rw [trip_word hb.out i _ HV.out, hwv]; simp)
            have HP' := hid (win_next hb.out i _ HV.out)
            have HWV := hid hwv
            clear hwv
            go_wp2_with (go_at_call 30; refine (word_any V' lV _ hTr).mono ?_; rintro e w' ⟨rfl, rfl⟩; rw [HWV.out])
            go_loopw [44] (fun q wr => ∃ j : Nat, j ≤ 3 ∧ q = .int .i64 j ∧ Own wr w.heap.size (.slice (some ⟨g, 0, none⟩) N N) (fillE (codedTo zs (zs.length + 6)) (3 * i + j)) ∧ Below w.heap.size w wr) (fun q _ => 3 - (intOf q).toNat)
            case atStart => exact ⟨0, by omega, rfl, hown, hbel⟩
            case round =>
              obtain ⟨j, hj, rfl, hownI, hbI⟩ := hrel
              clear hown hbel
              rcases (show j = 0 ∨ j = 1 ∨ j = 2 ∨ j = 3 by omega) with rfl | rfl | rfl | rfl
              · obtain ⟨y, hy1, hy2, hy3⟩ := low_bit (wv / 4) (by omega)
                have hyv : bits .and .u64 ((wv : Int) / 4) 1 = (y : Int) := by rw [← hy1]; rfl
                replace hownI : Own wr w.heap.size (.slice (some ⟨g, 0, none⟩) N N) (fillE (codedTo zs (zs.length + 6)) (3 * i)) := hownI
                have hcell := hownI.cell (i := 3 * i) (by rw [fillE_length _ _ (by rw [HL.out]; omega), HL.out]; omega)
                have hfr := hownI.free (3 * i)
                have hset := hownI.set (3 * i) (y : Int)
                rw [fillE_set _ (3 * i) (by rw [HL.out]; omega) _ (by rw [codedTo_trip0 zs _ i (by omega), HT2.out]; show (y : Int) = (wv : Int) / 4 % 2; omega)] at hset
                have hbI' := hbI.setCell (p := ⟨g, 3 * i, none⟩) hBg.out (.int .u8 (y : Int))
                clear hownI hbI hy1 hy2
                go_wp2
                go_roundw
                case rel => exact ⟨0 + 1, by omega, by go_num, hset, hbI'⟩
                case measure => simp [intOf]
              · obtain ⟨y, hy1, hy2, hy3⟩ := low_bit (wv / 2) (by omega)
                have hyv : bits .and .u64 ((wv : Int) / 2) 1 = (y : Int) := by rw [← hy1]; rfl
                have hcell := hownI.cell (i := 3 * i + 1) (by rw [fillE_length _ _ (by rw [HL.out]; omega), HL.out]; omega)
                have hfr := hownI.free (3 * i + 1)
                have hset := hownI.set (3 * i + 1) (y : Int)
                rw [fillE_set _ (3 * i + 1) (by rw [HL.out]; omega) _ (by rw [codedTo_trip zs _ i (by omega) 1 (by omega), HT2.out]; show (y : Int) = (wv : Int) / 2 % 2; omega)] at hset
                have hbI' := hbI.setCell (p := ⟨g, 3 * i + 1, none⟩) hBg.out (.int .u8 (y : Int))
                clear hownI hbI hy1 hy2
                go_wp2
                go_roundw
                case rel => exact ⟨1 + 1, by omega, by go_num, hset, hbI'⟩
                case measure => simp [intOf]
              · obtain ⟨y, hy1, hy2, hy3⟩ := low_bit (wv / 1) (by omega)
                have hyv : bits .and .u64 (wv : Int) 1 = (y : Int) := by rw [← hy1, Nat.div_one]
                have hcell := hownI.cell (i := 3 * i + 2) (by rw [fillE_length _ _ (by rw [HL.out]; omega), HL.out]; omega)
                have hfr := hownI.free (3 * i + 2)
                have hset := hownI.set (3 * i + 2) (y : Int)
                rw [fillE_set _ (3 * i + 2) (by rw [HL.out]; omega) _ (by rw [codedTo_trip zs _ i (by omega) 2 (by omega), HT2.out]; show (y : Int) = (wv : Int) / 1 % 2; omega)] at hset
                have hbI' := hbI.setCell (p := ⟨g, 3 * i + 2, none⟩) hBg.out (.int .u8 (y : Int))
                clear hownI hbI hy1 hy2
                go_wp2
                go_roundw
                case rel => exact ⟨2 + 1, by omega, by go_num, hset, hbI'⟩
                case measure => simp [intOf]
              · go_wp2
                go_roundw
                case rel => exact ⟨i + 1, V', by omega, by go_num, rfl, lV, HP', hownI, hbI⟩
                case measure => simp [intOf]; omega
        · obtain rfl : i = zs.length + 6 := by omega
          go_wp2
          go_ret2
          refine ⟨_, rfl, ?_, hbel⟩
          rw [show 3 * (zs.length + 6) = (codedTo zs (zs.length + 6)).length from HL.out.symm, fillE_all] at hown
          exact hown
  · have he : encErr zs = errOf zs := by unfold encErr; rw [if_neg h0]
    have hL : encL zs = [] := by unfold encL; rw [he, if_neg h0]
    rw [he, hL]
    have hne : (errOf zs != 0) = true := by simpa using h0
    have herr := err_cases zs
    have H0 := hid h0
    clear he hL h0
    generalize HE : errOf zs = q at *
    go_enter Tryz.func11, Tryz.ntmps11
    go_wp2_with (go_at_call 28; refine (check_any zs a c _ ha hz).mono ?_; rintro e w' ⟨rfl, rfl⟩; rw [HE])
    go_ret2
    exact ⟨_, rfl, Own.nil _ _, Below.refl _ _⟩
end Go.Proofs.YtdndeegpbjlibadGreatDoor
