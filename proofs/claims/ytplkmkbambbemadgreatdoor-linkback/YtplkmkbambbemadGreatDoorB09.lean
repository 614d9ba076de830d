import Derived.Test.YtplkmkbambbemadGreatDoorB08
import Derived.Test.YtplkmkbambbemadGreatDoorB01
namespace Go.Proofs.YtplkmkbambbemadGreatDoor
open Go.ChangeShapes Go.WideShapes Go.ChangeAt Go.RowKit
theorem Taps.lt {w : World} (h : Taps w) : 0 < w.heap.size := by
  obtain ⟨T, fr, e⟩ := h
  rcases Nat.lt_or_ge 0 w.heap.size with h | h
  · exact h
  · rw [Array.getElem?_eq_none h] at e; cases e
theorem Taps.below {w w' : World} (h : Taps w) (hb : Below w.heap.size w w') : Taps w' := by
  have hlt := h.lt
  obtain ⟨T, fr, h⟩ := h
  exact ⟨T, fr, (hb.block _ hlt).trans h⟩
/-- The window moves on. -/
theorem win_move {zs : List Int} (hb : Bits zs) (i V b : Nat) (hV : (2 * (V : Int)) % 128 = preI zs i) (hbit : bitI zs i = (b : Int)) :
    ∃ U : Nat, IntKind.u64.wrap ((V : Int) * 2) = (U : Int) ∧ U < 18446744073709551616 ∧ bits .or .u64 (U : Int) (b : Int) = ((U + b : Nat) : Int) ∧ U + b < 18446744073709551616 ∧ ((U + b : Nat) : Int) % 128 = preI zs i + bitI zs i := by
  have hb01 := bitI_bd hb (i : Int)
  have hp := preI_bd hb i
  refine ⟨V * 2 % 18446744073709551616, ?_, by omega, ?_, by omega, ?_⟩
  · rw [IntKind.wrap_u64]
    omega
  · rw [u64_or_nat _ _ (by omega) (by omega), nat_join 1 _ _ (by omega) (by omega)]
  · rw [hbit]
    omega
theorem low_bit (x : Nat) (h : x < 8) : ∃ y : Nat, bits .and .u64 (x : Int) 1 = (y : Int) ∧ (x : Int) % 2 = (y : Int) ∧ y ≤ 1 := by
  refine ⟨x % 2, ?_, by omega, by omega⟩
  have := u64_and_nat x 1 (by omega) (by omega)
  rw [show ((1 : Nat) : Int) = 1 from rfl] at this
  rw [this, nat_mask1]
set_option maxHeartbeats 2000000 in
theorem encode_any (zs : List Int) (a : Option Addr) (c : Nat) (w : World) (ha : Rd .u8 w a zs) (hz : zs.length ≤ maxLen) (hy : Bytes zs) (hT : Taps w) :
    Calls Tryz.prog 13 #[.slice a zs.length c] w fun e w' => ∃ v, e = .returned (.tuple #[v, .int .i64 (encErr zs)]) ∧ Own w' w.heap.size v (encL zs) ∧ Below w.heap.size w w' := by
  by_cases h0 : errOf zs = 0
  · by_cases h1 : 400 < zs.length
    · have he : encErr zs = 2 := by unfold encErr; rw [if_pos h0, if_pos h1]
      have hL : encL zs = [] := by unfold encL; rw [he]; rfl
      rw [he, hL]
      have H0 := hid h0
      clear he hL h0
      unfold maxLen at hz
      go_enter Tryz.func13, Tryz.ntmps13
      go_wp2_with (go_at_call 42; refine (check_any zs a c _ ha (by unfold maxLen; omega)).mono ?_; rintro e w' ⟨rfl, rfl⟩; rw [H0.out])
      go_ret2
      exact ⟨_, rfl, Own.nil _ _, Below.refl _ _⟩
    · have he : encErr zs = 0 := by unfold encErr; rw [if_pos h0, if_neg h1]
      have hL : encL zs = codedTo zs (zs.length + 6) := by unfold encL; rw [he]; rfl
      rw [he, hL]
      have hbits : Bits zs := fun k => ⟨(hy.at k).1, (err_zero h0).1 k⟩
      have hb := hid hbits
      have H0 := hid h0
      have h1' : zs.length ≤ 400 := by omega
      clear he hL h0 h1 hbits hz
      have HL := hid (codedTo_length zs (zs.length + 6))
      go_enter Tryz.func13, Tryz.ntmps13
      go_wp2_with (first | (go_at_call 42; refine (check_any zs a c _ ha (by unfold maxLen; omega)).mono ?_; rintro e w' ⟨rfl, rfl⟩; rw [H0.out]) | (at_make; refine wpList_makeBytes w.heap.size w (3 * (zs.length + 6)) rfl _ _ rfl _ _ rfl rfl ?_ ?_ (by omega) (Below.refl _ _) (Nat.le_refl _) ?_))
      · omega
      · omega
      intro w1 hown hbel hsz1
      have e1 : List.replicate (3 * (zs.length + 6)) (0 : Int) = fillE (codedTo zs (zs.length + 6)) (3 * 0) := by rw [Nat.mul_zero, fillE_zero, HL.out]
      rw [e1] at hown
      obtain ⟨g, HG⟩ : ∃ g, g = w.heap.size := ⟨_, rfl⟩
      have hown0 : Own w1 w.heap.size (.slice (some ⟨g, 0, none⟩) (3 * (zs.length + 6)) (3 * (zs.length + 6))) (fillE (codedTo zs (zs.length + 6)) (3 * 0)) := by rw [HG]; exact hown
      clear hown
      have hown := hown0
      clear hown0
      have hBg := hid (show w.heap.size ≤ g by omega)
      rw [← HG]
      clear HG e1
      obtain ⟨N, hN⟩ : ∃ N, N = 3 * (zs.length + 6) := ⟨_, rfl⟩
      rw [← hN] at hown
      rw [← hN]
      have HN := hid hN
      have hN2 : N ≤ 1218 := by omega
      clear hN
      go_wp2
      go_loopw [6, 26] (fun v q wr => ∃ i V : Nat, i ≤ zs.length + 6 ∧ q = .int .i64 i ∧ v = .int .u64 V ∧ V < 18446744073709551616 ∧ Hid (2 * (V : Int) % 128 = preI zs i) ∧ Own wr w.heap.size (.slice (some ⟨g, 0, none⟩) N N) (fillE (codedTo zs (zs.length + 6)) (3 * i)) ∧ Below w.heap.size w wr) (fun _ q _ => zs.length + 6 - (intOf q).toNat)
      case atStart => exact ⟨0, 0, by omega, rfl, rfl, by omega, by rw [preI_zero]; rfl, hown, hbel⟩
      case round =>
        clear hown hbel
        obtain ⟨i, V, hi, rfl, rfl, lV0, HP, hown, hbel⟩ := hrel
        by_cases hlt : i < zs.length + 6
        · have hN3 : 3 * i + 2 < N := by rw [HN.out]; omega
          by_cases hin : i < zs.length
          · skip
            obtain ⟨b1, o1, rfl, hc1⟩ := (ha.below hbel).at hin
            have g1 := hc1 i hin
            clear hc1
            have hb01 := bitI_bd hb.out (i : Int)
            obtain ⟨b, hbb⟩ := Int.eq_ofNat_of_zero_le hb01.1
            have hgd : zs.getD i 0 = (b : Int) := by rw [← hbb]; unfold bitI; rw [if_neg (by omega), Int.toNat_natCast]
            rw [hgd] at g1
            obtain ⟨U, hU, lU, hor, lV, HV0⟩ := win_move hb.out i V b HP.out hbb
            have HV := hid HV0
            have hb1 : b ≤ 1 := by omega
            clear HV0 hgd hb01
            generalize hV' : U + b = V' at *
            have HV' := hid hV'
            clear hV'
            have hTr := hT.below hbel
            obtain ⟨wv, hwv⟩ : ∃ wv : Nat, wordI (V' : Int) = (wv : Int) := Int.eq_ofNat_of_zero_le (wordI_bd _).1
            have hw8 := (wordI_bd (V' : Int)).2
            rw [hwv] at hw8
            have HT2 := hid (show trip zs i = [(wv : Int) / 4 % 2, (wv : Int) / 2 % 2, (wv : Int) / 1 % 2] by rw [trip_word hb.out i _ HV.out, hwv]; simp)
            have HP' := hid (win_next hb.out i _ HV.out)
            have HWV := hid hwv
            clear hwv
            go_wp2_with (go_at_call 44; refine (word_any V' lV _ hTr).mono ?_; rintro e w' ⟨rfl, rfl⟩; rw [HWV.out])
            go_loopw [44] (fun q wr => ∃ j : Nat, j ≤ 3 ∧ q = .int .i64 j ∧ Own wr w.heap.size (.slice (some ⟨g, 0, none⟩) N N) (fillE (codedTo zs (zs.length + 6)) (3 * i + j)) ∧ Below w.heap.size w wr) (fun q _ => 3 - (intOf q).toNat)
            case atStart => exact ⟨0, by omega, rfl, hown, hbel⟩
            case round =>
              obtain ⟨j, hj, rfl, hownI, hbI⟩ := hrel
              clear hown hbel
              rcases (show j = 0 ∨ j = 1 ∨ j = 2 ∨ j = 3 by omega) with rfl | rfl | rfl | rfl
              · obtain ⟨y, hy1, hy2, hy3⟩ := low_bit (wv / 4) (by omega)
                have hyv : bits .and .u64 ((wv : Int) / 4) 1 = (y : Int) := by rw [← hy1]; rfl
                replace hownI : Own wr w.heap.size (.slice (some ⟨g, 0, none⟩) N N) (fillE (codedTo zs (zs.length + 6)) (3 * i)) := hownI
                have hcell := hownI.cell (i := 3 * i) (by rw [fillE_length _ _ (by rw [HL.out]; omega), HL.out]; omega)
                have hfr := hownI.free (3 * i)
                have hset := hownI.set (3 * i) (y : Int)
                rw [fillE_set _ (3 * i) (by rw [HL.out]; omega) _ (by rw [codedTo_trip0 zs _ i (by omega), HT2.out]; show (y : Int) = (wv : Int) / 4 % 2; omega)] at hset
                have hbI' := hbI.setCell (p := ⟨g, 3 * i, none⟩) hBg.out (.int .u8 (y : Int))
                clear hownI hbI hy1 hy2
                go_wp2
                go_roundw
                case rel => exact ⟨0 + 1, by omega, by go_num, hset, hbI'⟩
                case measure => simp [intOf]
              · obtain ⟨y, hy1, hy2, hy3⟩ := low_bit (wv / 2) (by omega)
                have hyv : bits .and .u64 ((wv : Int) / 2) 1 = (y : Int) := by rw [← hy1]; rfl
                have hcell := hownI.cell (i := 3 * i + 1) (by rw [fillE_length _ _ (by rw [HL.out]; omega), HL.out]; omega)
                have hfr := hownI.free (3 * i + 1)
                have hset := hownI.set (3 * i + 1) (y : Int)
                rw [fillE_set _ (3 * i + 1) (by rw [HL.out]; omega) _ (by rw [codedTo_trip zs _ i (by omega) 1 (by omega), HT2.out]; show (y : Int) = (wv : Int) / 2 % 2; omega)] at hset
                have hbI' := hbI.setCell (p := ⟨g, 3 * i + 1, none⟩) hBg.out (.int .u8 (y : Int))
                clear hownI hbI hy1 hy2
                go_wp2
                go_roundw
                case rel => exact ⟨1 + 1, by omega, by go_num, hset, hbI'⟩
                case measure => simp [intOf]
              · obtain ⟨y, hy1, hy2, hy3⟩ := low_bit (wv / 1) (by omega)
                have hyv : bits .and .u64 (wv : Int) 1 = (y : Int) := by rw [← hy1, Nat.div_one]
                have hcell := hownI.cell (i := 3 * i + 2) (by rw [fillE_length _ _ (by rw [HL.out]; omega), HL.out]; omega)
                have hfr := hownI.free (3 * i + 2)
                have hset := hownI.set (3 * i + 2) (y : Int)
                rw [fillE_set _ (3 * i + 2) (by rw [HL.out]; omega) _ (by rw [codedTo_trip zs _ i (by omega) 2 (by omega), HT2.out]; show (y : Int) = (wv : Int) / 1 % 2; omega)] at hset
                have hbI' := hbI.setCell (p := ⟨g, 3 * i + 2, none⟩) hBg.out (.int .u8 (y : Int))
                clear hownI hbI hy1 hy2
                go_wp2
                go_roundw
                case rel => exact ⟨2 + 1, by omega, by go_num, hset, hbI'⟩
                case measure => simp [intOf]
              · go_wp2
                go_roundw
                case rel => exact ⟨i + 1, V', by omega, by go_num, rfl, lV, HP', hownI, hbI⟩
                case measure => simp [intOf]; omega
          · skip
            have hbb : bitI zs (i : Int) = ((0 : Nat) : Int) := by unfold bitI; rw [if_neg (by omega), Int.toNat_natCast]; simp [List.getD, Nat.le_of_not_lt hin]
            obtain ⟨U, hU, lU, _, lV, HV0⟩ := win_move hb.out i V 0 HP.out hbb
            rw [Nat.add_zero] at lV HV0
            have HV := hid HV0
            clear HV0
            obtain ⟨V', rfl⟩ : ∃ V', V' = U := ⟨_, rfl⟩
            have hTr := hT.below hbel
            obtain ⟨wv, hwv⟩ : ∃ wv : Nat, wordI (V' : Int) = (wv : Int) := Int.eq_ofNat_of_zero_le (wordI_bd _).1
            have hw8 := (wordI_bd (V' : Int)).2
            rw [hwv] at hw8
            have HT2 := hid (show trip zs i = [(wv : Int) / 4 % 2, (wv : Int) / 2 % 2, (wv : Int) / 1 % 2] by rw [trip_word hb.out i _ HV.out, hwv]; simp)
            have HP' := hid (win_next hb.out i _ HV.out)
            have HWV := hid hwv
            clear hwv
            go_wp2_with (go_at_call 44; refine (word_any V' lV _ hTr).mono ?_; rintro e w' ⟨rfl, rfl⟩; rw [HWV.out])
            go_loopw [44] (fun q wr => ∃ j : Nat, j ≤ 3 ∧ q = .int .i64 j ∧ Own wr w.heap.size (.slice (some ⟨g, 0, none⟩) N N) (fillE (codedTo zs (zs.length + 6)) (3 * i + j)) ∧ Below w.heap.size w wr) (fun q _ => 3 - (intOf q).toNat)
            case atStart => exact ⟨0, by omega, rfl, hown, hbel⟩
            case round =>
              obtain ⟨j, hj, rfl, hownI, hbI⟩ := hrel
              clear hown hbel
              rcases (show j = 0 ∨ j = 1 ∨ j = 2 ∨ j = 3 by omega) with rfl | rfl | rfl | rfl
              · obtain ⟨y, hy1, hy2, hy3⟩ := low_bit (wv / 4) (by omega)
                have hyv : bits .and .u64 ((wv : Int) / 4) 1 = (y : Int) := by rw [← hy1]; rfl
                replace hownI : Own wr w.heap.size (.slice (some ⟨g, 0, none⟩) N N) (fillE (codedTo zs (zs.length + 6)) (3 * i)) := hownI
                have hcell := hownI.cell (i := 3 * i) (by rw [fillE_length _ _ (by rw [HL.out]; omega), HL.out]; omega)
                have hfr := hownI.free (3 * i)
                have hset := hownI.set (3 * i) (y : Int)
                rw [fillE_set _ (3 * i) (by rw [HL.out]; omega) _ (by rw [codedTo_trip0 zs _ i (by omega), HT2.out]; show (y : Int) = (wv : Int) / 4 % 2; omega)] at hset
                have hbI' := hbI.setCell (p := ⟨g, 3 * i, none⟩) hBg.out (.int .u8 (y : Int))
                clear hownI hbI hy1 hy2
                go_wp2
                go_roundw
                case rel => exact ⟨0 + 1, by omega, by go_num, hset, hbI'⟩
                case measure => simp [intOf]
              · obtain ⟨y, hy1, hy2, hy3⟩ := low_bit (wv / 2) (by omega)
                have hyv : bits .and .u64 ((wv : Int) / 2) 1 = (y : Int) := by rw [← hy1]; rfl
                have hcell := hownI.cell (i := 3 * i + 1) (by rw [fillE_length _ _ (by rw [HL.out]; omega), HL.out]; omega)
                have hfr := hownI.free (3 * i + 1)
                have hset := hownI.set (3 * i + 1) (y : Int)
                rw [fillE_set _ (3 * i + 1) (by rw [HL.out]; omega) _ (by rw [codedTo_trip zs _ i (by omega) 1 (by omega), HT2.out]; show (y : Int) = (wv : Int) / 2 % 2; omega)] at hset
                have hbI' := hbI.setCell (p := ⟨g, 3 * i + 1, none⟩) hBg.out (.int .u8 (y : Int))
                clear hownI hbI hy1 hy2
                go_wp2
                go_roundw
                case rel => exact ⟨1 + 1, by omega, by go_num, hset, hbI'⟩
                case measure => simp [intOf]
              · obtain ⟨y, hy1, hy2, hy3⟩ := low_bit (wv / 1) (by omega)
                have hyv : bits .and .u64 (wv : Int) 1 = (y : Int) := by rw [← hy1, Nat.div_one]
                have hcell := hownI.cell (i := 3 * i + 2) (by rw [fillE_length _ _ (by rw [HL.out]; omega), HL.out]; omega)
                have hfr := hownI.free (3 * i + 2)
                have hset := hownI.set (3 * i + 2) (y : Int)
                rw [fillE_set _ (3 * i + 2) (by rw [HL.out]; omega) _ (by rw [codedTo_trip zs _ i (by omega) 2 (by omega), HT2.out]; show (y : Int) = (wv : Int) / 1 % 2; omega)] at hset
                have hbI' := hbI.setCell (p := ⟨g, 3 * i + 2, none⟩) hBg.out (.int .u8 (y : Int))
                clear hownI hbI hy1 hy2
                go_wp2
                go_roundw
                case rel => exact ⟨2 + 1, by omega, by go_num, hset, hbI'⟩
                case measure => simp [intOf]
              · go_wp2
                go_roundw
                case rel => exact ⟨i + 1, V', by omega, by go_num, rfl, lV, HP', hownI, hbI⟩
                case measure => simp [intOf]; omega
        · obtain rfl : i = zs.length + 6 := by omega
          go_wp2
          go_ret2
          refine ⟨_, rfl, ?_, hbel⟩
          rw [show 3 * (zs.length + 6) = (codedTo zs (zs.length + 6)).length from HL.out.symm, fillE_all] at hown
          exact hown
  · have he : encErr zs = errOf zs := by unfold encErr; rw [if_neg h0]
    have hL : encL zs = [] := by unfold encL; rw [he, if_neg h0]
    rw [he, hL]
    have hne : (errOf zs != 0) = true := by simpa using h0
    have herr := err_cases zs
    have H0 := hid h0
    clear he hL h0
    generalize HE : errOf zs = q at *
    go_enter Tryz.func13, Tryz.ntmps13
    go_wp2_with (go_at_call 42; refine (check_any zs a c _ ha hz).mono ?_; rintro e w' ⟨rfl, rfl⟩; rw [HE])
    go_ret2
    exact ⟨_, rfl, Own.nil _ _, Below.refl _ _⟩
end Go.Proofs.YtplkmkbambbemadGreatDoor
namespace Go.Proofs.YtplkmkbambbemadGreatDoor
open Go.ChangeShapes Go.WideShapes Go.ChangeAt Go.RowKit
theorem below_setRow {B : Nat} {a w : World} (h : Below B a w) {g : Nat} (hg : B ≤ g) (cs : Array Value) : Below B a (w.setRow g cs) :=
  h.trans ⟨rfl, rfl, rfl, by simp, fun k hk => setRow_other w g k cs (by omega)⟩
def wordsTo (n : Nat) : List Int := (List.range 64).map fun S => if S < n then wordI (2 * (S : Int)) else 0
theorem wordsTo_length (n : Nat) : (wordsTo n).length = 64 := by simp [wordsTo]
theorem wordsTo_set (n : Nat) : (wordsTo n).set n (wordI (2 * (n : Int))) = wordsTo (n + 1) := by
  refine List.ext_getElem (by simp [wordsTo]) fun j h1 h2 => ?_
  rw [List.getElem_set]
  simp only [wordsTo, List.getElem_map, List.getElem_range]
  by_cases hj : n = j
  · subst hj; simp
  · rw [if_neg hj]
    by_cases h : j < n
    · rw [if_pos h, if_pos (by omega)]
    · rw [if_neg h, if_neg (by omega)]
theorem wordsTo_at (S : Nat) (h : S < 64) : (wordsTo 64).getD S 0 = wordI (2 * (S : Int)) := by simp [wordsTo, List.getD, h]
set_option maxRecDepth 100000 in
set_option maxHeartbeats 1000000 in
theorem words_any (w : World) (hT : Taps w) :
    Calls Tryz.prog 94 #[] w fun e w' => e = .returned (.agg ((wordsTo 64).map (Value.int .u64)).toArray) ∧ Below w.heap.size w w' := by
  go_enter Tryz.func94, Tryz.ntmps94
  go_wp2
  have hsz : w.heap.size < w.heap.size + 1 := by omega
  go_loopw [3] (fun q wr => ∃ S : Nat, S ≤ 64 ∧ q = .int .i64 S ∧ ArrAt .u64 144 wr w.heap.size (List.replicate 64 0) ∧ ArrAt .u64 144 wr (w.heap.size + 1) (wordsTo S) ∧ Below w.heap.size w wr) (fun q _ => 64 - (intOf q).toNat)
  case atStart =>
    refine ⟨0, by omega, rfl, ?_, ?_, ?_⟩
    · exact (Below.heap_alloc _ _ w.heap.size (by simp)).trans (heap_alloc_new w _)
    · have := heap_alloc_new (w.alloc (.cells ((List.replicate 64 (0 : Int)).map (Value.int .u64)).toArray 144)) (.cells ((List.replicate 64 (0 : Int)).map (Value.int .u64)).toArray 144)
      have e : (w.alloc (.cells ((List.replicate 64 (0 : Int)).map (Value.int .u64)).toArray 144)).heap.size = w.heap.size + 1 := by simp
      rw [e] at this
      exact this
    · exact (((Below.refl _ _).alloc (Nat.le_refl _) _).alloc (by simp) _)
  case round =>
    obtain ⟨S, hS, rfl, hA, hB, hbel⟩ := hrel
    by_cases hlt : S < 64
    · have hc := hB.cell (j := S) (by rw [wordsTo_length]; exact hlt)
      have hf := hB.free S
      have hT' := hT.below hbel
      have hset := hB.set S (wordI (2 * (S : Int)))
      rw [wordsTo_set] at hset
      have hA' := hA.other ⟨w.heap.size + 1, S, none⟩ (.int .u64 (wordI (2 * (S : Int)))) (by show w.heap.size ≠ w.heap.size + 1; omega)
      have hbel' := hbel.setCell (p := ⟨w.heap.size + 1, S, none⟩) (by show w.heap.size ≤ w.heap.size + 1; omega) (.int .u64 (wordI (2 * (S : Int))))
      clear hA hB hbel
      have hw := wordI_bd (2 * (S : Int))
      have HE1 := hid (show (S : Int) * 2 = ((2 * S : Nat) : Int) by omega)
      have HE2 := hid (show ((2 * S : Nat) : Int) = 2 * (S : Int) by omega)
      go_wp2_with (first | (go_at_call 44; rw [HE1.out]; refine (word_any (2 * S) (by omega) _ hT').mono ?_; rintro e w' ⟨rfl, rfl⟩; rw [HE2.out]))
      go_roundw
      case rel => exact ⟨S + 1, by omega, by go_num, hA', hset, hbel'⟩
      case measure => simp [intOf]; omega
    · obtain rfl : S = 64 := by omega
      go_wp2_with (first | (refine wpList_load_row rfl 144 (.tmp 1) rfl (w.heap.size + 1) rfl 144 _ (0, 0) _ hB Tryz.underlying144 rfl (by kernel_rfl) ?_) | (refine wpList_store_row rfl 144 (.tmp 0) (.tmp 13) rfl w.heap.size 144 _ _ rfl rfl hA (by kernel_rfl) (by simp [wordsTo]) (by kernel_rfl) ?_))
      refine bodyPost_ret (results_cell_row (p := 0) (ty := 144) (by kernel_rfl) _ _ w.heap.size 144 _ (0, 0) _ rfl (setRow_heap _ _ _ _ _ _ hA) Tryz.underlying144 rfl (by kernel_rfl)) rfl ?_
      exact ⟨rfl, below_setRow hbel (Nat.le_refl _) _⟩
end Go.Proofs.YtplkmkbambbemadGreatDoor
namespace Go.Proofs.YtplkmkbambbemadGreatDoor
open Go.ChangeShapes Go.WideShapes Go.ChangeAt Go.RowKit
/-- What a word scores of the first j of what is heard. -/
def psum (hs : List Int) (v : Nat) : Nat → Int
  | 0 => 0
  | j + 1 => psum hs v j + sgn ((v / 2 ^ (2 - j) % 2 : Nat) : Int) (hs.getD j 0)
theorem psum_bd (hs : List Int) (v : Nat) (h : ∀ k, -100000 ≤ hs.getD k 0 ∧ hs.getD k 0 ≤ 100000) : ∀ j : Nat, -(100000 * (j : Int)) ≤ psum hs v j ∧ psum hs v j ≤ 100000 * (j : Int)
  | 0 => by simp [psum]
  | j + 1 => by
    have := psum_bd hs v h j
    have := h j
    unfold psum sgn
    split <;> omega
/-- The gains, while they are made. -/
def gainsTo (hs : List Int) (v j : Nat) : List Int := (List.range 8).map fun u => if u < v then psum hs u 3 else if u = v then psum hs v j else 0
theorem gainsTo_length (hs : List Int) (v j : Nat) : (gainsTo hs v j).length = 8 := by simp [gainsTo]
theorem gainsTo_at (hs : List Int) (v j : Nat) (h : v < 8) : (gainsTo hs v j).getD v 0 = psum hs v j := by simp [gainsTo, List.getD, h]
theorem gainsTo_set (hs : List Int) (v j : Nat) : (gainsTo hs v j).set v (psum hs v (j + 1)) = gainsTo hs v (j + 1) := by
  refine List.ext_getElem (by simp [gainsTo]) fun u h1 h2 => ?_
  rw [List.getElem_set]
  simp only [gainsTo, List.getElem_map, List.getElem_range]
  by_cases hu : v = u
  · subst hu; simp
  · have hu' : ¬ u = v := fun e => hu e.symm
    rw [if_neg hu, if_neg hu', if_neg hu']
theorem gainsTo_next (hs : List Int) (v : Nat) : gainsTo hs v 3 = gainsTo hs (v + 1) 0 := by
  refine List.ext_getElem (by simp [gainsTo]) fun u h1 h2 => ?_
  simp only [gainsTo, List.getElem_map, List.getElem_range]
  by_cases h : u < v
  · rw [if_pos h, if_pos (by omega)]
  · rw [if_neg h]
    by_cases e : u = v
    · subst e; rw [if_pos rfl, if_pos (by omega)]
    · rw [if_neg e, if_neg (by omega)]
      split
      · simp [psum]
      · rfl
theorem gainsTo_zero (hs : List Int) : gainsTo hs 0 0 = List.replicate 8 0 := by
  simp only [gainsTo, psum]
  rfl
theorem gainsTo_all (hs : List Int) (v : Nat) (h : v < 8) : (gainsTo hs 8 0).getD v 0 = psum hs v 3 := by simp [gainsTo, List.getD, h]
theorem psum_gw (soft : List Int) (i v : Nat) (hs : List Int) (h0 : hs.getD 0 0 = soft.getD (3 * i) 0) (h1 : hs.getD 1 0 = soft.getD (3 * i + 1) 0) (h2 : hs.getD 2 0 = soft.getD (3 * i + 2) 0) : psum hs v 3 = gw soft i (v : Int) := by
  show 0 + sgn ((v / 2 ^ 2 % 2 : Nat) : Int) (hs.getD 0 0) + sgn ((v / 2 ^ 1 % 2 : Nat) : Int) (hs.getD 1 0) + sgn ((v / 2 ^ 0 % 2 : Nat) : Int) (hs.getD 2 0) = _
  unfold gw
  rw [h0, h1, h2, show ((v / 2 ^ 2 % 2 : Nat) : Int) = (v : Int) / 4 % 2 by omega, show ((v / 2 ^ 1 % 2 : Nat) : Int) = (v : Int) / 2 % 2 by omega, show ((v / 2 ^ 0 % 2 : Nat) : Int) = (v : Int) % 2 by omega]
  omega
theorem and1_i64 : ∀ x : Fin 8, bits .and .i64 (x.val : Int) 1 = ((x.val % 2 : Nat) : Int) := by decide +kernel
set_option maxRecDepth 100000 in
set_option maxHeartbeats 1000000 in
theorem gains_any (hs : List Int) (a : Option Addr) (c : Nat) (w : World) (ha : Rd .i64 w a hs) (hl : hs.length = 3) (hb : ∀ k, -100000 ≤ hs.getD k 0 ∧ hs.getD k 0 ≤ 100000) :
    Calls Tryz.prog 95 #[.slice a 3 c] w fun e w' => e = .returned (.agg ((gainsTo hs 8 0).map (Value.int .i64)).toArray) ∧ Below w.heap.size w w' := by
  obtain ⟨b1, o1, rfl, hc1⟩ := ha.at (i := 0) (by omega)
  have q0 := hc1 0 (by omega)
  have q1 := hc1 1 (by omega)
  have q2 := hc1 2 (by omega)
  rw [Nat.add_zero] at q0
  have hlt1 : b1 < w.heap.size := World.block_lt_of_cell? w _ q0
  have HB := hid hb
  clear hc1 hb
  obtain ⟨B, hB⟩ : ∃ B, B = w.heap.size := ⟨_, rfl⟩
  go_enter Tryz.func95, Tryz.ntmps95
  go_wp2
  rw [← hB]
  have HBB := hid hB
  rw [← hB] at hlt1
  clear hB
  go_loopw [7] (fun q wr => ∃ v : Nat, v ≤ 8 ∧ q = .int .i64 v ∧ ArrAt .i64 147 wr B (List.replicate 8 0) ∧ ArrAt .i64 147 wr (B + 1) (gainsTo hs v 0) ∧ Below B w wr) (fun q _ => 8 - (intOf q).toNat)
  case atStart =>
    refine ⟨0, by omega, rfl, ?_, ?_, ?_⟩
    · rw [HBB.out]
      exact (Below.heap_alloc _ _ w.heap.size (by simp)).trans (heap_alloc_new w _)
    · have := heap_alloc_new (w.alloc (.cells ((List.replicate 8 (0 : Int)).map (Value.int .i64)).toArray 147)) (.cells ((List.replicate 8 (0 : Int)).map (Value.int .i64)).toArray 147)
      have e : (w.alloc (.cells ((List.replicate 8 (0 : Int)).map (Value.int .i64)).toArray 147)).heap.size = B + 1 := by simp [HBB.out]
      rw [e] at this
      rw [gainsTo_zero]
      exact this
    · exact (((Below.refl _ _).alloc (by rw [HBB.out]; exact Nat.le_refl _) _).alloc (by rw [HBB.out]; simp) _)
  case round =>
    obtain ⟨v, hv, rfl, hA, hG, hbel⟩ := hrel
    by_cases hlt : v < 8
    · go_wp2
      go_loopw [12] (fun q wr => ∃ j : Nat, j ≤ 3 ∧ q = .int .i64 j ∧ ArrAt .i64 147 wr B (List.replicate 8 0) ∧ ArrAt .i64 147 wr (B + 1) (gainsTo hs v j) ∧ Below B w wr) (fun q _ => 3 - (intOf q).toNat)
      case atStart => exact ⟨0, by omega, rfl, hA, hG, hbel⟩
      case round =>
        clear hA hG hbel
        obtain ⟨j, hj, rfl, hA, hG, hbel⟩ := hrel
        rcases (show j = 0 ∨ j = 1 ∨ j = 2 ∨ j = 3 by omega) with rfl | rfl | rfl | rfl
        · have g1 := (hbel.cell (p := ⟨b1, o1, none⟩) (by show b1 < B; omega)).trans q0
          have hc := hG.cell (j := v) (by rw [gainsTo_length]; exact hlt)
          rw [gainsTo_at hs v 0 hlt] at hc
          have hfr := hG.free v
          have hx := HB.out 0
          have hps := psum_bd hs v HB.out 0
          have hps1 := psum_bd hs v HB.out (0 + 1)
          have hsx := hid (show psum hs v (0 + 1) = psum hs v 0 + sgn ((v / 4 % 2 : Nat) : Int) (hs.getD 0 0) from rfl)
          have hset := hG.set v (psum hs v (0 + 1))
          rw [gainsTo_set] at hset
          have hA' := hA.other ⟨B + 1, v, none⟩ (.int .i64 (psum hs v (0 + 1))) (by show B ≠ B + 1; omega)
          have hbel' := hbel.setCell (p := ⟨B + 1, v, none⟩) (by show B ≤ B + 1; omega) (.int .i64 (psum hs v (0 + 1)))
          have hb1 : bits .and .i64 ((v : Int) / 4) 1 = ((v / 4 % 2 : Nat) : Int) := by
            have := and1_i64 ⟨v / 4, by omega⟩
            rw [← this]
            congr 1
          clear hA hG hbel
          obtain ⟨p0, e0⟩ : ∃ p0, p0 = psum hs v 0 := ⟨_, rfl⟩
          obtain ⟨p1, e1⟩ : ∃ p1, p1 = psum hs v (0 + 1) := ⟨_, rfl⟩
          obtain ⟨x, ex⟩ : ∃ x, x = hs.getD 0 0 := ⟨_, rfl⟩
          obtain ⟨y, ey⟩ : ∃ y, y = v / 4 % 2 := ⟨_, rfl⟩
          rw [← e0] at hc hps hsx
          rw [← e1] at hset hA' hbel' hps1 hsx
          rw [← ex] at g1 hx hsx
          rw [← ey] at hb1 hsx
          have EE := hid ey
          clear e0 e1 ex ey
          by_cases h1 : y = 1
          · subst h1
            have hv1 := hid (show p0 + -x = p1 by rw [hsx.out]; unfold sgn; rw [if_pos (by rfl)])
            go_wp2
            go_roundw
            case rel => rw [hv1.out]; exact ⟨0 + 1, by omega, by go_num, hA', hset, hbel'⟩
            case measure => simp [intOf]
          · obtain rfl : y = 0 := by have := EE.out; omega
            have hv1 := hid (show p0 + x = p1 by rw [hsx.out]; unfold sgn; rw [if_neg (by omega)])
            go_wp2
            go_roundw
            case rel => rw [hv1.out]; exact ⟨0 + 1, by omega, by go_num, hA', hset, hbel'⟩
            case measure => simp [intOf]
        · have g1 := (hbel.cell (p := ⟨b1, o1 + 1, none⟩) (by show b1 < B; omega)).trans q1
          have hc := hG.cell (j := v) (by rw [gainsTo_length]; exact hlt)
          rw [gainsTo_at hs v 1 hlt] at hc
          have hfr := hG.free v
          have hx := HB.out 1
          have hps := psum_bd hs v HB.out 1
          have hps1 := psum_bd hs v HB.out (1 + 1)
          have hsx := hid (show psum hs v (1 + 1) = psum hs v 1 + sgn ((v / 2 % 2 : Nat) : Int) (hs.getD 1 0) from rfl)
          have hset := hG.set v (psum hs v (1 + 1))
          rw [gainsTo_set] at hset
          have hA' := hA.other ⟨B + 1, v, none⟩ (.int .i64 (psum hs v (1 + 1))) (by show B ≠ B + 1; omega)
          have hbel' := hbel.setCell (p := ⟨B + 1, v, none⟩) (by show B ≤ B + 1; omega) (.int .i64 (psum hs v (1 + 1)))
          have hb1 : bits .and .i64 ((v : Int) / 2) 1 = ((v / 2 % 2 : Nat) : Int) := by
            have := and1_i64 ⟨v / 2, by omega⟩
            rw [← this]
            congr 1
          clear hA hG hbel
          obtain ⟨p0, e0⟩ : ∃ p0, p0 = psum hs v 1 := ⟨_, rfl⟩
          obtain ⟨p1, e1⟩ : ∃ p1, p1 = psum hs v (1 + 1) := ⟨_, rfl⟩
          obtain ⟨x, ex⟩ : ∃ x, x = hs.getD 1 0 := ⟨_, rfl⟩
          obtain ⟨y, ey⟩ : ∃ y, y = v / 2 % 2 := ⟨_, rfl⟩
          rw [← e0] at hc hps hsx
          rw [← e1] at hset hA' hbel' hps1 hsx
          rw [← ex] at g1 hx hsx
          rw [← ey] at hb1 hsx
          have EE := hid ey
          clear e0 e1 ex ey
          by_cases h1 : y = 1
          · subst h1
            have hv1 := hid (show p0 + -x = p1 by rw [hsx.out]; unfold sgn; rw [if_pos (by rfl)])
            go_wp2
            go_roundw
            case rel => rw [hv1.out]; exact ⟨1 + 1, by omega, by go_num, hA', hset, hbel'⟩
            case measure => simp [intOf]
          · obtain rfl : y = 0 := by have := EE.out; omega
            have hv1 := hid (show p0 + x = p1 by rw [hsx.out]; unfold sgn; rw [if_neg (by omega)])
            go_wp2
            go_roundw
            case rel => rw [hv1.out]; exact ⟨1 + 1, by omega, by go_num, hA', hset, hbel'⟩
            case measure => simp [intOf]
        · have g1 := (hbel.cell (p := ⟨b1, o1 + 2, none⟩) (by show b1 < B; omega)).trans q2
          have hc := hG.cell (j := v) (by rw [gainsTo_length]; exact hlt)
          rw [gainsTo_at hs v 2 hlt] at hc
          have hfr := hG.free v
          have hx := HB.out 2
          have hps := psum_bd hs v HB.out 2
          have hps1 := psum_bd hs v HB.out (2 + 1)
          have hsx := hid (show psum hs v (2 + 1) = psum hs v 2 + sgn ((v / 1 % 2 : Nat) : Int) (hs.getD 2 0) from rfl)
          have hset := hG.set v (psum hs v (2 + 1))
          rw [gainsTo_set] at hset
          have hA' := hA.other ⟨B + 1, v, none⟩ (.int .i64 (psum hs v (2 + 1))) (by show B ≠ B + 1; omega)
          have hbel' := hbel.setCell (p := ⟨B + 1, v, none⟩) (by show B ≤ B + 1; omega) (.int .i64 (psum hs v (2 + 1)))
          have hb1 : bits .and .i64 ((v : Int)) 1 = ((v / 1 % 2 : Nat) : Int) := by
            have := and1_i64 ⟨v / 1, by omega⟩
            rw [← this]
            congr 1
            simp
          clear hA hG hbel
          obtain ⟨p0, e0⟩ : ∃ p0, p0 = psum hs v 2 := ⟨_, rfl⟩
          obtain ⟨p1, e1⟩ : ∃ p1, p1 = psum hs v (2 + 1) := ⟨_, rfl⟩
          obtain ⟨x, ex⟩ : ∃ x, x = hs.getD 2 0 := ⟨_, rfl⟩
          obtain ⟨y, ey⟩ : ∃ y, y = v / 1 % 2 := ⟨_, rfl⟩
          rw [← e0] at hc hps hsx
          rw [← e1] at hset hA' hbel' hps1 hsx
          rw [← ex] at g1 hx hsx
          rw [← ey] at hb1 hsx
          have EE := hid ey
          clear e0 e1 ex ey
          by_cases h1 : y = 1
          · subst h1
            have hv1 := hid (show p0 + -x = p1 by rw [hsx.out]; unfold sgn; rw [if_pos (by rfl)])
            go_wp2
            go_roundw
            case rel => rw [hv1.out]; exact ⟨2 + 1, by omega, by go_num, hA', hset, hbel'⟩
            case measure => simp [intOf]
          · obtain rfl : y = 0 := by have := EE.out; omega
            have hv1 := hid (show p0 + x = p1 by rw [hsx.out]; unfold sgn; rw [if_neg (by omega)])
            go_wp2
            go_roundw
            case rel => rw [hv1.out]; exact ⟨2 + 1, by omega, by go_num, hA', hset, hbel'⟩
            case measure => simp [intOf]
        · rw [gainsTo_next] at hG
          go_wp2
          go_roundw
          case rel => exact ⟨v + 1, by omega, by go_num, hA, hG, hbel⟩
          case measure => simp [intOf]; omega
    · obtain rfl : v = 8 := by omega
      go_wp2_with (first | (refine wpList_load_row rfl 147 (.tmp 3) rfl (B + 1) rfl 147 _ (0, 0) _ hG Tryz.underlying147 rfl (by kernel_rfl) ?_) | (refine wpList_store_row rfl 147 (.tmp 2) (.tmp 33) rfl B 147 _ _ rfl rfl hA (by kernel_rfl) (by simp [gainsTo]) (by simp [gainsTo, List.range, List.range.loop, Value.oneCell']) ?_))
      refine bodyPost_ret (results_cell_row (p := 2) (ty := 147) (by kernel_rfl) _ _ B 147 _ (0, 0) _ rfl (setRow_heap _ _ _ _ _ _ hA) Tryz.underlying147 rfl (by kernel_rfl)) rfl ?_
      exact ⟨rfl, by rw [← HBB.out]; exact below_setRow hbel (Nat.le_refl _) _⟩
end Go.Proofs.YtplkmkbambbemadGreatDoor
namespace Go.Proofs.YtplkmkbambbemadGreatDoor
theorem map_set_at {β : Type} (f g : Nat → β) (N S : Nat) (h : ∀ u, u ≠ S → f u = g u) (x : β) (hx : x = g S) : ((List.range N).map f).set S x = (List.range N).map g := by
  refine List.ext_getElem (by simp) fun j h1 h2 => ?_
  rw [List.getElem_set]
  simp only [List.getElem_map, List.getElem_range]
  by_cases hj : S = j
  · subst hj; rw [if_pos rfl, hx]
  · rw [if_neg hj, h j (fun e => hj e.symm)]
def bestL (l : List Int) (n k : Nat) : List Int := (List.range 64).map (val l n k)
theorem bestL_length (l : List Int) (n k : Nat) : (bestL l n k).length = 64 := by simp [bestL]
theorem bestL_at (l : List Int) (n k S : Nat) (h : S < 64) : (bestL l n k).getD S 0 = val l n k S := by simp [bestL, List.getD, h]
theorem bestL_zero (l : List Int) (n : Nat) : bestL l n 0 = List.replicate 64 0 := by
  refine List.ext_getElem (by simp [bestL]) fun j h1 h2 => ?_
  rw [List.getElem_replicate]
  simp [bestL, val]
def hereS (l : List Int) (n k S : Nat) : List Int := (List.range 64).map fun u => if u < S then val l n (k + 1) u else 0
theorem hereS_length (l : List Int) (n k S : Nat) : (hereS l n k S).length = 64 := by simp [hereS]
theorem hereS_zero (l : List Int) (n k : Nat) : hereS l n k 0 = List.replicate 64 0 := by
  refine List.ext_getElem (by simp [hereS]) fun j h1 h2 => ?_
  rw [List.getElem_replicate]
  simp [hereS]
theorem hereS_all (l : List Int) (n k : Nat) : hereS l n k 64 = bestL l n (k + 1) := by
  refine List.ext_getElem (by simp [hereS, bestL]) fun j h1 h2 => ?_
  have : j < 64 := by simpa [hereS] using h1
  simp [hereS, bestL, this]
theorem hereS_set (l : List Int) (n k S : Nat) (x : Int) (hx : x = val l n (k + 1) S) : (hereS l n k S).set S x = hereS l n k (S + 1) := by
  refine map_set_at _ _ 64 S (fun u hu => ?_) x (by rw [if_pos (by omega), hx])
  by_cases h : u < S
  · rw [if_pos h, if_pos (by omega)]
  · rw [if_neg h, if_neg (by omega)]
def onesK (l : List Int) (n m : Nat) : List Int := (List.range n).map fun j => if m ≤ j then (marks l n (n + 5 - j) 64 : Int) else 0
theorem onesK_length (l : List Int) (n m : Nat) : (onesK l n m).length = n := by simp [onesK]
theorem onesK_first (l : List Int) (n m : Nat) (h : n ≤ m) : onesK l n m = List.replicate n 0 := by
  refine List.ext_getElem (by simp [onesK]) fun j h1 h2 => ?_
  have : j < n := by simpa [onesK] using h1
  simp [onesK, show ¬ m ≤ j by omega]
theorem onesK_at (l : List Int) (n j : Nat) (h : j < n) : (onesK l n 0).getD j 0 = (marks l n (n + 5 - j) 64 : Int) := by simp [onesK, List.getD, h]
/-- The marks, those of the place i being made. -/
def onesS (l : List Int) (n i S : Nat) : List Int := (onesK l n (i + 1)).set i (marks l n (n + 5 - i) S : Int)
theorem onesS_length (l : List Int) (n i S : Nat) : (onesS l n i S).length = n := by simp [onesS, onesK_length]
theorem onesS_zero (l : List Int) (n i : Nat) : onesS l n i 0 = onesK l n (i + 1) := by
  refine List.ext_getElem (by simp [onesS]) fun j h1 h2 => ?_
  simp only [onesS, List.getElem_set, onesK, List.getElem_map, List.getElem_range]
  split
  · rename_i e; subst e; rw [if_neg (by omega)]; rfl
  · rfl
theorem onesS_all (l : List Int) (n i : Nat) : onesS l n i 64 = onesK l n i := by
  refine map_set_at _ _ n i (fun u hu => ?_) _ (by rw [if_pos (Nat.le_refl _)])
  by_cases h : i ≤ u
  · rw [if_pos h, if_pos (by omega)]
  · rw [if_neg h, if_neg (by omega)]
theorem onesS_late (l : List Int) (n i S S' : Nat) (h : n ≤ i) : onesS l n i S = onesS l n i S' := by
  unfold onesS
  rw [List.set_eq_of_length_le (by rw [onesK_length]; exact h), List.set_eq_of_length_le (by rw [onesK_length]; exact h)]
theorem onesS_at (l : List Int) (n i S : Nat) (h : i < n) : (onesS l n i S).getD i 0 = (marks l n (n + 5 - i) S : Int) := by
  simp [onesS, List.getD, onesK_length, h]
theorem onesS_set (l : List Int) (n i S : Nat) (x : Int) (hx : x = (marks l n (n + 5 - i) (S + 1) : Int)) : (onesS l n i S).set i x = onesS l n i (S + 1) := by
  unfold onesS
  rw [List.set_set, hx]
theorem onesS_same (l : List Int) (n i S : Nat) (h : one l n (n + 5 - i) S = false) : onesS l n i (S + 1) = onesS l n i S := by
  unfold onesS
  rw [marks, h]
  simp
theorem gw_bd (l : List Int) (h : ∀ k, -100000 ≤ l.getD k 0 ∧ l.getD k 0 ≤ 100000) (i : Nat) (w : Int) : -300000 ≤ gw l i w ∧ gw l i w ≤ 300000 := by
  have h0 := h (3 * i)
  have h1 := h (3 * i + 1)
  have h2 := h (3 * i + 2)
  unfold gw sgn
  split <;> split <;> split <;> omega
theorem val_bd (l : List Int) (n : Nat) (h : ∀ k, -100000 ≤ l.getD k 0 ∧ l.getD k 0 ≤ 100000) : ∀ (k S : Nat), -(300000 * (k : Int)) ≤ val l n k S ∧ val l n k S ≤ 300000 * (k : Int)
  | 0, S => by simp [val]
  | k + 1, S => by
    have a := val_bd l n h k (2 * S % 64)
    have b := val_bd l n h k (2 * S % 64 + 1)
    have c := gw_bd l h (n + 6 - (k + 1)) (wordI (2 * (S : Int)))
    have d := gw_bd l h (n + 6 - (k + 1)) (7 - wordI (2 * (S : Int)))
    rw [val]
    split
    · omega
    · split <;> omega
/-- One step, at the place i. -/
theorem val_step (l : List Int) (n i k S : Nat) (hi : i + (k + 1) = n + 6) :
    val l n (k + 1) S = if k < 6 then gw l i (wordI (2 * (S : Int))) + val l n k (2 * S % 64) else
      if gw l i (wordI (2 * (S : Int))) + val l n k (2 * S % 64) < gw l i (7 - wordI (2 * (S : Int))) + val l n k (2 * S % 64 + 1) then gw l i (7 - wordI (2 * (S : Int))) + val l n k (2 * S % 64 + 1) else gw l i (wordI (2 * (S : Int))) + val l n k (2 * S % 64) := by
  rw [val, show n + 6 - (k + 1) = i by omega]
theorem one_step (l : List Int) (n i k S : Nat) (hi : i + (k + 1) = n + 6) : one l n k S = decide (gw l i (wordI (2 * (S : Int))) + val l n k (2 * S % 64) < gw l i (7 - wordI (2 * (S : Int))) + val l n k (2 * S % 64 + 1)) := by
  unfold one
  rw [show n + 6 - (k + 1) = i by omega]
end Go.Proofs.YtplkmkbambbemadGreatDoor
