import Derived.Test.YtfbjedcfppghgabDoorLawS2
namespace Go.Proofs.YtfbjedcfppghgabDoor
open Go.ChangeShapes Go.WideShapes Go.ChangeAt Go.RowKit

set_option maxRecDepth 100000 in
set_option maxHeartbeats 4000000 in
theorem law_says (b : List Int) (n k : Int) (l : List Int) (a s : Option Addr) (c cs : Nat) (w : World) (ha : Rd .u8 w a b) (hz : b.length ≤ maxLen) (hbc : b.length ≤ c) (hy : Bytes b) (hn : -9223372036854775808 ≤ n ∧ n ≤ 9223372036854775807)
    (hs : Rd .i64 w s l) (hlz : l.length ≤ maxLen) (hlc : l.length ≤ cs) (hW : Wor w) :
    Calls Tryd.prog 7 #[.slice a b.length c, .int .i64 n, .int .i64 k, .slice s l.length cs] w fun e w' => e = .returned (.bool true) ∧ Below w.heap.size w w' := by
  have hmz : b.length ≤ 9223372036854775807 := by unfold maxLen at hz; omega
  have hml : l.length ≤ 9223372036854775807 := by unfold maxLen at hlz; omega
  have hWl := hW.lt
  have hTu := turn_uni b a c w ha hz hy
  obtain ⟨E, eE⟩ : ∃ E, E = turnErr b := ⟨_, rfl⟩
  rw [← eE] at hTu
  have HE := hid eE
  clear eE
  go_enter Tryd.func7, Tryd.ntmps7
  go_wp2_with fail
  refine hTu.mono ?_
  rintro e w1 ⟨a1, n1, c1, rfl, hb1, hT0, hT1⟩
  have hbits := fun wz hbz => rbits_any b a c wz (ha.below hbz) hz hy
  obtain ⟨Y, eY⟩ : ∃ Y, Y = errOf b := ⟨_, rfl⟩
  rw [← eY] at hbits
  have HY := hid eY
  have HET := hid (show E = if Y = 0 then sizeErr b.length else Y by rw [HE.out, eY]; rfl)
  clear eY hTu
  have hbits1 := hbits w1 hb1
  go_upto_region 3 with (first | (go_at_call 10; refine hbits1.mono ?_; rintro e w2 ⟨rfl, rfl⟩))
  go_cut [32] from 18 (fun t wx => t = .bool (decide (Y = 0) && !powI b.length) ∧ w1 = wx)
  case first =>
    by_cases h0 : Y = 0
    · have hb0 : (Y == 0) = true := by simpa using h0
      have hd0 : decide (Y = 0) = true := by simpa using h0
      have hpw := rpower_any b.length w1
      clear h0
      go_wp2_with (first | (go_at_call 21; refine hpw.mono ?_; rintro e w2 ⟨rfl, rfl⟩))
      go_meet
      exact ⟨by rw [hd0]; rfl, rfl⟩
    · have hb0 : (Y == 0) = false := by simpa using h0
      have hd0 : decide (Y = 0) = false := by simpa using h0
      clear h0
      go_wp2
      go_meet
      exact ⟨by rw [hd0]; rfl, rfl⟩
  case rest =>
  obtain ⟨rfl, rfl⟩ := hcut
  go_upto_if 32 with fail
  go_cut [11] from 18 (fun t wx => t = .int .i64 E ∧ w1 = wx)
  case first =>
    cases hq : decide (Y = 0) && !powI b.length with
    | true =>
      have h' : Y = 0 ∧ powI b.length = false := by simpa using hq
      have HV := hid (show 1 = E by rw [HET.out, if_pos h'.1, size_no h'.2])
      clear hq h'
      go_wp2
      go_meet
      exact ⟨by rw [HV.out], rfl⟩
    | false =>
      have HV := hid (show Y = E by
        rw [HET.out]
        by_cases h0 : Y = 0
        · rw [if_pos h0, size_yes (by rw [decide_eq_true h0] at hq; simpa using hq), h0]
        · rw [if_neg h0])
      clear hq
      go_wp2
      go_meet
      exact ⟨by rw [HV.out], rfl⟩
  case rest =>
  obtain ⟨rfl, rfl⟩ := hcut
  go_upto_region 5 with fail
  go_cut [55] from 18 (fun t wx => t = .bool false ∧ Below w1.heap.size w1 wx)
  case first =>
    by_cases h0 : E = 0
    · have hT := hT0 h0
      obtain ⟨rfl, bb, m, hm, em, hr⟩ := hT
      have h5 : b.length ≤ 512 := by rw [em]; exact Nat.pow_le_pow_right (by omega) hm
      have hrt := rturn_any m b a b.length c w1 (ha.below hb1) rfl em h5 hbc bb
      have LT := hid ((turn_length m b em).trans em.symm)
      have hb0 : (E == 0) = true := by simpa using h0
      have hb2 : (E != 0) = false := by simpa using h0
      clear hT0 hT1 h0 em
      go_wp2_with fail
      refine hrt.mono ?_
      rintro e w2 ⟨v2, rfl, ho2, hb2'⟩
      obtain ⟨a2, k2, rfl, -, -, hr2, -⟩ := ho2.slice LT.out
      have hsm := sameT _ _ b.length a1 a2 c1 k2 w2 (hr.below hb2') hr2 LT.out LT.out (by omega) rfl
      clear ho2
      go_wp2_with fail
      refine hsm.mono ?_
      rintro e w3 ⟨rfl, hb3⟩
      go_wp2
      go_meet
      exact ⟨rfl, bthen hb2' hb3⟩
    · obtain rfl := hT1 h0
      have hb0 : (E == 0) = false := by simpa using h0
      have hb2 : (E != 0) = true := by simpa using h0
      clear hT0 hT1 h0
      go_wp2
      go_meet
      exact ⟨rfl, Below.refl _ _⟩
  case rest =>
  obtain ⟨rfl, hbc2⟩ := hcut
  have hbw2 := bthen hb1 hbc2
  clear hT0 hT1 hbits1 hbits
  go_upto_if 55 with fail
  go_cut [8] from 18 (fun t wz => t = .bool false ∧ wc = wz)
  case first =>
    go_wp2
    go_meet
    exact ⟨rfl, rfl⟩
  case rest =>
  obtain ⟨rfl, rfl⟩ := hcut
  exact ‹∀ a w, Code.wp _ _ _ a w → _› _ _ (says2 b n k l a s c cs w ha hz hbc hy hn hs hlz hlc hW _ hbw2 _ _ _ _ _ _ _ _ _ _ _ _ _ _ _ _ _ _ _ _ _ _ _ _ _ _ _ _ _ _ _ _ _ _ _ _ _ _ _ _ _ _ _ _ _ _ _ _ _ _ _ _ _ _ _ _ _ _ _ _ _ _ _ _ _ _ _ _ _ _ _ _ _ _ _ _ _ _ _ _ _ _ _ _ _ _ _ _ _ _ _ _ _ _ _ _ _ _ _ _ _ _ _ _ _ _ _ _ _ _ _ _ _ _ _ _ _ _ _ _ _ _ _ _ _ _ _ _ _ _ _ _ _ _ _ _ _ _ _ _ _ _ _ _ _ _ _ _ _ _ _ _ _ _ _ _ _ _ _ _ _ _ _ _ _ _ _ _ _ _ _ _)
end Go.Proofs.YtfbjedcfppghgabDoor
