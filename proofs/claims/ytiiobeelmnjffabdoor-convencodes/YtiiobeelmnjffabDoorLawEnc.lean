import Derived.Test.YtiiobeelmnjffabDoorScore
import Derived.Test.YtiiobeelmnjffabDoorSame
import Derived.Test.YtiiobeelmnjffabDoorFrame
namespace Go.Proofs.YtiiobeelmnjffabDoor
open Go.ChangeShapes Go.WideShapes Go.ChangeAt Go.RowKit

set_option maxHeartbeats 1000000 in
theorem law_enc_bad (zs l : List Int) (a b : Option Addr) (c cb : Nat) (w : World) (ha : Rd .u8 w a zs) (hz : zs.length ≤ maxLen) (hy : Bytes zs) (hb : Rd .i64 w b l) (hl : l.length ≤ maxLen) (hT : Taps w) (h0 : errOf zs ≠ 0) :
    Calls Tryd.prog 3 #[.slice a zs.length c, .slice b l.length cb] w fun e w' => e = .returned (.bool true) ∧ Below w.heap.size w w' := by
  have he : encErr zs = errOf zs := by unfold encErr; rw [if_neg h0]
  have hL : encL zs = [] := by unfold encL; rw [he, if_neg h0]
  have hs : scoreErr zs l = errOf zs := by unfold scoreErr; rw [he, if_neg h0]
  have hv : scoreV zs l = 0 := by unfold scoreV; rw [hs, if_neg h0]
  have HE := hid he
  have HS := hid hs
  have HV := hid hv
  have d0 : (errOf zs == 0) = false := by simpa using h0
  have d1 : (errOf zs != 0) = true := by simpa using h0
  clear he hs hv
  unfold maxLen at hz hl
  obtain ⟨q, hq⟩ : ∃ q, q = errOf zs := ⟨_, rfl⟩
  rw [← hq] at d0 d1 h0
  have HQ := hid hq.symm
  clear hq
  go_enter Tryd.func3, Tryd.ntmps3
  go_wp2_with (first
    | (go_at_call 7; refine (encode_any zs a c _ ha (by unfold maxLen; omega) hy hT).mono ?_; rintro e w1 ⟨v, rfl, hown, hbel⟩; rw [HE.out, HQ.out]; rw [hL] at hown; obtain ⟨a2, c2, rfl, _, _, _⟩ := hown.shape; have hT1 := hT.below hbel)
    | (go_at_call 8; refine (score_any zs l a b c cb _ (ha.below hbel) (by unfold maxLen; omega) hy (hb.below hbel) (by unfold maxLen; omega) hT1).mono ?_; rintro e w2 ⟨rfl, hbel2⟩; rw [HS.out, HV.out, HQ.out]; have hb2 := bthen hbel hbel2)
    | (go_at_call 9; refine (rbits_any zs a c _ (ha.below hb2) (by unfold maxLen; omega) hy).mono ?_; rintro e w3 ⟨rfl, rfl⟩; rw [HQ.out]))
  go_ret
  exact ⟨by simp, hb2⟩

set_option maxHeartbeats 1000000 in
theorem law_enc_long (zs l : List Int) (a b : Option Addr) (c cb : Nat) (w : World) (ha : Rd .u8 w a zs) (hz : zs.length ≤ maxLen) (hy : Bytes zs) (hb : Rd .i64 w b l) (hl : l.length ≤ maxLen) (hT : Taps w) (h0 : errOf zs = 0) (h4 : 400 < zs.length) :
    Calls Tryd.prog 3 #[.slice a zs.length c, .slice b l.length cb] w fun e w' => e = .returned (.bool true) ∧ Below w.heap.size w w' := by
  have he : encErr zs = 2 := by unfold encErr; rw [if_pos h0, if_pos h4]
  have hL : encL zs = [] := by unfold encL; rw [he]; rfl
  have hs : scoreErr zs l = 2 := by unfold scoreErr; rw [he]; rfl
  have hv : scoreV zs l = 0 := by unfold scoreV; rw [hs]; rfl
  have HE := hid he
  have HS := hid hs
  have HV := hid hv
  have HQ := hid h0
  clear he hs hv h0
  unfold maxLen at hz hl
  go_enter Tryd.func3, Tryd.ntmps3
  go_wp2_with (first
    | (go_at_call 7; refine (encode_any zs a c _ ha (by unfold maxLen; omega) hy hT).mono ?_; rintro e w1 ⟨v, rfl, hown, hbel⟩; rw [HE.out]; rw [hL] at hown; obtain ⟨a2, c2, rfl, _, _, _⟩ := hown.shape; have hT1 := hT.below hbel)
    | (go_at_call 8; refine (score_any zs l a b c cb _ (ha.below hbel) (by unfold maxLen; omega) hy (hb.below hbel) (by unfold maxLen; omega) hT1).mono ?_; rintro e w2 ⟨rfl, hbel2⟩; rw [HS.out, HV.out]; have hb2 := bthen hbel hbel2)
    | (go_at_call 9; refine (rbits_any zs a c _ (ha.below hb2) (by unfold maxLen; omega) hy).mono ?_; rintro e w3 ⟨rfl, rfl⟩; rw [HQ.out]))
  go_ret
  exact ⟨by simp, hb2⟩

set_option maxHeartbeats 1000000 in
theorem law_enc_good (zs l : List Int) (a b : Option Addr) (c cb : Nat) (w : World) (ha : Rd .u8 w a zs) (hy : Bytes zs) (hb : Rd .i64 w b l) (hl : l.length ≤ maxLen) (hT : Taps w) (h0 : errOf zs = 0) (h4 : ¬ 400 < zs.length) :
    Calls Tryd.prog 3 #[.slice a zs.length c, .slice b l.length cb] w fun e w' => e = .returned (.bool true) ∧ Below w.heap.size w w' := by
  have he : encErr zs = 0 := by unfold encErr; rw [if_pos h0, if_neg h4]
  have hL : encL zs = codedTo zs (zs.length + 6) := by unfold encL; rw [if_pos he]
  have HE := hid he
  have HQ := hid h0
  have hz4 : zs.length ≤ 400 := by omega
  have hbits := hid (show Bits zs from fun k => ⟨(hy.at k).1, (err_zero h0).1 k⟩)
  have hlen := codedTo_length zs (zs.length + 6)
  generalize hcs : codedTo zs (zs.length + 6) = cs at *
  have hlc : cs.length ≤ 1218 := by omega
  have HLM := hid hl
  unfold maxLen at hl
  by_cases h1 : softErr l = 0
  · have hsb := hid (soft_of h1)
    by_cases h2 : l.length = cs.length
    · have hs : scoreErr zs l = 0 := by unfold scoreErr; rw [if_pos he, if_pos h1, if_pos (by omega)]
      have hv : scoreV zs l = scoreTo cs l cs.length := by unfold scoreV; rw [if_pos hs, hcs, hlen]
      have HS := hid hs
      have HV := hid hv
      have H2 := hid h2
      have hne : ((l.length : Int) != (cs.length : Int)) = false := by simp; omega
      clear hs hv he h0 h1 h2 hlen h4
      go_enter Tryd.func3, Tryd.ntmps3
      go_wp2_with (first
        | (go_at_call 7; refine (encode_any zs a c _ ha (by unfold maxLen; omega) hy hT).mono ?_; rintro e w1 ⟨v, rfl, hown, hbel⟩; rw [HE.out]; rw [hL] at hown; obtain ⟨a2, c2, rfl, _, _, _⟩ := hown.shape; have hT1 := hT.below hbel)
        | (go_at_call 8; refine (score_any zs l a b c cb _ (ha.below hbel) (by unfold maxLen; omega) hy (hb.below hbel) HLM.out hT1).mono ?_; rintro e w2 ⟨rfl, hbel2⟩; rw [HS.out, HV.out]; have hb2 := bthen hbel hbel2; have hown2 := hown.below hbel2)
        | (go_at_call 9; refine (rbits_any zs a c _ (ha.below hb2) (by unfold maxLen; omega) hy).mono ?_; rintro e w3 ⟨rfl, rfl⟩; rw [HQ.out])
        | (go_at_call 10; refine (rcoded_any zs a c _ (ha.below hb2) hbits.out hz4).mono ?_; rintro e w4 ⟨v4, rfl, hown4, hbel4⟩; rw [hcs] at hown4; obtain ⟨a4, c4, rfl, _, _, _⟩ := hown4.shape; have hb4 := bthen hb2 hbel4; have hown3 := hown2.below hbel4)
        | (go_at_call 11; refine (same_bits cs cs a2 a4 c2 c4 _ hown3.rd hown4.rd (by unfold maxLen; omega) (by unfold maxLen; omega)).mono ?_; rintro e w5 ⟨rfl, hbel5⟩; rw [decide_eq_true (rfl : cs = cs)]; have hb5 := bthen hb4 hbel5; have hown5 := hown4.below hbel5)
        | (go_at_call 12; refine (rsoft_any l b cb _ (hb.below hb5) HLM.out).mono ?_; rintro e w6 ⟨rfl, rfl⟩; rw [hsb.out])
        | (go_at_call 13; refine (rscore_any cs l a4 b c4 cb l.length _ hown5.rd (hb.below hb5) rfl (by rw [H2.out]; omega) (by omega) (soft_at hsb.out)).mono ?_; rintro e w6 ⟨rfl, rfl⟩))
      go_ret
      exact ⟨by simp, hb5⟩
    · have hs : scoreErr zs l = 1 := by unfold scoreErr; rw [if_pos he, if_pos h1, if_neg (by omega)]
      have hv : scoreV zs l = 0 := by unfold scoreV; rw [hs]; rfl
      have HS := hid hs
      have HV := hid hv
      have hne : ((l.length : Int) != (cs.length : Int)) = true := by simp; omega
      clear hs hv he h0 h1 h2 hlen h4
      go_enter Tryd.func3, Tryd.ntmps3
      go_wp2_with (first
        | (go_at_call 7; refine (encode_any zs a c _ ha (by unfold maxLen; omega) hy hT).mono ?_; rintro e w1 ⟨v, rfl, hown, hbel⟩; rw [HE.out]; rw [hL] at hown; obtain ⟨a2, c2, rfl, _, _, _⟩ := hown.shape; have hT1 := hT.below hbel)
        | (go_at_call 8; refine (score_any zs l a b c cb _ (ha.below hbel) (by unfold maxLen; omega) hy (hb.below hbel) HLM.out hT1).mono ?_; rintro e w2 ⟨rfl, hbel2⟩; rw [HS.out, HV.out]; have hb2 := bthen hbel hbel2; have hown2 := hown.below hbel2)
        | (go_at_call 9; refine (rbits_any zs a c _ (ha.below hb2) (by unfold maxLen; omega) hy).mono ?_; rintro e w3 ⟨rfl, rfl⟩; rw [HQ.out])
        | (go_at_call 10; refine (rcoded_any zs a c _ (ha.below hb2) hbits.out hz4).mono ?_; rintro e w4 ⟨v4, rfl, hown4, hbel4⟩; rw [hcs] at hown4; obtain ⟨a4, c4, rfl, _, _, _⟩ := hown4.shape; have hb4 := bthen hb2 hbel4; have hown3 := hown2.below hbel4)
        | (go_at_call 11; refine (same_bits cs cs a2 a4 c2 c4 _ hown3.rd hown4.rd (by unfold maxLen; omega) (by unfold maxLen; omega)).mono ?_; rintro e w5 ⟨rfl, hbel5⟩; rw [decide_eq_true (rfl : cs = cs)]; have hb5 := bthen hb4 hbel5; have hown5 := hown4.below hbel5)
        | (go_at_call 12; refine (rsoft_any l b cb _ (hb.below hb5) HLM.out).mono ?_; rintro e w6 ⟨rfl, rfl⟩; rw [hsb.out]))
      go_ret
      exact ⟨by simp, hb5⟩
  · have hs : scoreErr zs l = 1 := by unfold scoreErr; rw [if_pos he, if_neg h1]
    have hv : scoreV zs l = 0 := by unfold scoreV; rw [hs]; rfl
    have HS := hid hs
    have HV := hid hv
    have hsb := hid (show softOk l = false by unfold softErr at h1; cases h : softOk l <;> simp_all)
    clear hs hv he h0 h1 hlen h4
    go_enter Tryd.func3, Tryd.ntmps3
    go_wp2_with (first
      | (go_at_call 7; refine (encode_any zs a c _ ha (by unfold maxLen; omega) hy hT).mono ?_; rintro e w1 ⟨v, rfl, hown, hbel⟩; rw [HE.out]; rw [hL] at hown; obtain ⟨a2, c2, rfl, _, _, _⟩ := hown.shape; have hT1 := hT.below hbel)
      | (go_at_call 8; refine (score_any zs l a b c cb _ (ha.below hbel) (by unfold maxLen; omega) hy (hb.below hbel) HLM.out hT1).mono ?_; rintro e w2 ⟨rfl, hbel2⟩; rw [HS.out, HV.out]; have hb2 := bthen hbel hbel2; have hown2 := hown.below hbel2)
      | (go_at_call 9; refine (rbits_any zs a c _ (ha.below hb2) (by unfold maxLen; omega) hy).mono ?_; rintro e w3 ⟨rfl, rfl⟩; rw [HQ.out])
      | (go_at_call 10; refine (rcoded_any zs a c _ (ha.below hb2) hbits.out hz4).mono ?_; rintro e w4 ⟨v4, rfl, hown4, hbel4⟩; rw [hcs] at hown4; obtain ⟨a4, c4, rfl, _, _, _⟩ := hown4.shape; have hb4 := bthen hb2 hbel4; have hown3 := hown2.below hbel4)
      | (go_at_call 11; refine (same_bits cs cs a2 a4 c2 c4 _ hown3.rd hown4.rd (by unfold maxLen; omega) (by unfold maxLen; omega)).mono ?_; rintro e w5 ⟨rfl, hbel5⟩; rw [decide_eq_true (rfl : cs = cs)]; have hb5 := bthen hb4 hbel5; have hown5 := hown4.below hbel5)
      | (go_at_call 12; refine (rsoft_any l b cb _ (hb.below hb5) HLM.out).mono ?_; rintro e w6 ⟨rfl, rfl⟩; rw [hsb.out]))
    go_ret
    exact ⟨by simp, hb5⟩

theorem law_enc (zs l : List Int) (a b : Option Addr) (c cb : Nat) (w : World) (ha : Rd .u8 w a zs) (hz : zs.length ≤ maxLen) (hy : Bytes zs) (hb : Rd .i64 w b l) (hl : l.length ≤ maxLen) (hT : Taps w) :
    Calls Tryd.prog 3 #[.slice a zs.length c, .slice b l.length cb] w fun e w' => e = .returned (.bool true) ∧ Below w.heap.size w w' := by
  by_cases h0 : errOf zs = 0
  · by_cases h4 : 400 < zs.length
    · exact law_enc_long zs l a b c cb w ha hz hy hb hl hT h0 h4
    · exact law_enc_good zs l a b c cb w ha hy hb hl hT h0 h4
  · exact law_enc_bad zs l a b c cb w ha hz hy hb hl hT h0
end Go.Proofs.YtiiobeelmnjffabDoor
