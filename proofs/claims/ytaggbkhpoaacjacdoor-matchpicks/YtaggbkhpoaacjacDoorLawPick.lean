import Derived.Test.YtaggbkhpoaacjacDoorMatchL
import Derived.Deep.CutRange
import Derived.Deep.RegionHeld3
namespace Go.Proofs.YtaggbkhpoaacjacDoor
open Go.ChangeShapes Go.WideShapes Go.ChangeAt Go.RowKit

set_option maxRecDepth 100000 in
set_option maxHeartbeats 2000000 in
theorem picks_any (hO : PickLaws) (cs : List Int) (n v k : Int) (a : Option Addr) (c : Nat) (w : World) (hC : Col w) (ha : Rd .u8 w a cs) (hz : cs.length ≤ maxLen) (hy : Bytes cs) (hn : I64 n) (hv : I64 v) (hk : I64 k) :
    Calls Tryd.prog 4 #[.slice a cs.length c, .int .i64 n, .int .i64 v, .int .i64 k] w fun e w' => e = .returned (.bool true) ∧ Below w.heap.size w w' := by
  have hz' : cs.length ≤ 9223372036854775807 := by unfold maxLen at hz; omega
  go_enter Tryd.func4, Tryd.ntmps4
  go_wp2_with fail
  refine (hO.order n _ hC hn).mono ?_
  rintro e w1 ⟨a1, k1, c1, rfl, hb1, hO1, hO0⟩
  obtain ⟨E1, eE1⟩ : ∃ E1 : Int, E1 = if ordOk n then 0 else 1 := ⟨_, rfl⟩
  rw [← eE1]
  have HE1 := hid eE1
  clear eE1
  go_upto_region 2 with fail
  go_cut [28] from 18 (fun t wx => t = .bool (!ordOk n) ∧ w1 = wx)
  case first =>
    by_cases h0 : n < 0
    · have d0 : decide (n < 0) = true := decide_eq_true h0
      have HV := hid (show true = !ordOk n by unfold ordOk; simp; omega)
      clear h0
      go_wp2
      go_meet
      exact ⟨by rw [← HV.out], rfl⟩
    · have d0 : decide (n < 0) = false := decide_eq_false h0
      by_cases h1 : 4096 < n
      · have d1 : decide (4096 < n) = true := decide_eq_true h1
        have HV := hid (show true = !ordOk n by unfold ordOk; simp; omega)
        clear h0 h1
        go_wp2
        go_meet
        exact ⟨by rw [← HV.out], rfl⟩
      · have d1 : decide (4096 < n) = false := decide_eq_false h1
        have HV := hid (show false = !ordOk n by unfold ordOk; simp; omega)
        clear h0 h1
        go_wp2
        go_meet
        exact ⟨by rw [← HV.out], rfl⟩
  case rest =>
  obtain ⟨rfl, rfl⟩ := hcut
  go_upto_if 28 with fail
  go_cut [8] from 18 (fun t wx => t = .bool false ∧ Below w1.heap.size w1 wx)
  case first =>
    cases hq : ordOk n with
    | false =>
      rw [hq] at HE1
      obtain rfl := hO0 hq
      have HV := hid (show E1 = 1 by rw [HE1.out]; rfl)
      obtain rfl := HV.out
      clear hq hO1 hO0 HE1 HV
      go_wp2
      go_meet
      exact ⟨rfl, Below.refl _ _⟩
    | true =>
      rw [hq] at HE1
      obtain ⟨rfl, hr1⟩ := hO1 hq
      have HV := hid (show E1 = 0 by rw [HE1.out]; rfl)
      obtain rfl := HV.out
      have hnn : 0 ≤ n ∧ n ≤ 4096 := by unfold ordOk at hq; simpa using hq
      obtain ⟨m, rfl⟩ : ∃ m : Nat, n = (m : Int) := ⟨n.toNat, by omega⟩
      simp only [Int.toNat_natCast] at hr1
      simp only [Int.toNat_natCast]
      have hm : m ≤ 4096 := by omega
      have HLO := hid ((intsM_length (ordM m)).trans (ordM_length m))
      have hro := rorder_any m w1 hm
      clear hq hO1 hO0 HE1 HV
      go_wp2_with fail
      refine hro.mono ?_
      rintro e w2 ⟨u2, rfl, ho2, hb2⟩
      obtain ⟨a2, c2, rfl, hr2⟩ := ho2.shapeR HLO.out
      have hsm := sameL (intsM (ordM m)) m a1 a2 c1 c2 w2 (hr1.below hb2) hr2 HLO.out hm
      clear ho2 hro
      go_wp2_with fail
      refine hsm.mono ?_
      rintro e w3 ⟨rfl, hb3⟩
      go_wp2
      go_meet
      exact ⟨rfl, bthen hb2 hb3⟩
  case rest =>
  obtain ⟨rfl, hb2⟩ := hcut
  have hbw := bthen hb1 hb2
  clear hO1 hO0 HE1 hb1 hb2
  go_wp2_with fail
  refine (hO.begin' n v _ hn hv).mono ?_
  rintro e w3 ⟨rfl, hb3⟩
  have hbw3 := bthen hbw hb3
  obtain ⟨B, eB⟩ : ∃ B : Int, B = if begOk n v then ((v.toNat * n.toNat / 4 : Nat) : Int) else 0 := ⟨_, rfl⟩
  obtain ⟨E2, eE2⟩ : ∃ E2 : Int, E2 = if begOk n v then 0 else 1 := ⟨_, rfl⟩
  rw [← eB, ← eE2]
  have HB := hid eB
  have HE2 := hid eE2
  have hvr := rversion_any v w3
  clear eB eE2 hbw hb3
  go_upto_region 8 with fail
  go_cut [61] from 18 (fun t wx => t = .bool (!begOk n v) ∧ w3 = wx)
  case first =>
    by_cases h0 : n < 1
    · have d0 : decide (n < 1) = true := decide_eq_true h0
      have HV := hid (show true = !begOk n v by unfold begOk; simp; omega)
      clear h0
      go_wp2
      go_meet
      exact ⟨by rw [← HV.out], rfl⟩
    · have d0 : decide (n < 1) = false := decide_eq_false h0
      by_cases h1 : 4096 < n
      · have d1 : decide (4096 < n) = true := decide_eq_true h1
        have HV := hid (show true = !begOk n v by unfold begOk; simp; omega)
        clear h0 h1
        go_wp2
        go_meet
        exact ⟨by rw [← HV.out], rfl⟩
      · have d1 : decide (4096 < n) = false := decide_eq_false h1
        have dn : decide (1 ≤ n ∧ n ≤ 4096) = true := decide_eq_true (by omega)
        have HV := hid (show (!verOk v) = !begOk n v by unfold begOk; rw [dn]; rfl)
        clear h0 h1 dn
        go_wp2_with (first | (go_at_call 17; refine hvr.mono ?_; rintro e w4 ⟨rfl, rfl⟩))
        go_meet
        exact ⟨by rw [← HV.out], rfl⟩
  case rest =>
  obtain ⟨rfl, rfl⟩ := hcut
  go_upto_if 61 with fail
  go_cut [8] from 18 (fun t wx => t = .bool false ∧ w3 = wx)
  case first =>
    cases hq : begOk n v with
    | false =>
      rw [hq] at HE2 HB
      have HV := hid (show E2 = 1 by rw [HE2.out]; rfl)
      have HV2 := hid (show B = 0 by rw [HB.out]; rfl)
      obtain rfl := HV.out
      obtain rfl := HV2.out
      clear hq HE2 HB HV HV2
      go_wp2
      go_meet
      exact ⟨rfl, rfl⟩
    | true =>
      rw [hq] at HE2 HB
      have HV := hid (show E2 = 0 by rw [HE2.out]; rfl)
      have HV2 := hid (show B = ((v.toNat * n.toNat / 4 : Nat) : Int) by rw [HB.out]; rfl)
      obtain rfl := HV.out
      have hnn : (1 ≤ n ∧ n ≤ 4096) ∧ 0 ≤ v ∧ v ≤ 3 := by unfold begOk verOk at hq; simpa using hq
      have hmul : v * n = ((v.toNat * n.toNat : Nat) : Int) := by rw [Int.natCast_mul, Int.toNat_of_nonneg (by omega), Int.toNat_of_nonneg (by omega)]
      have hle : v.toNat * n.toNat ≤ 12288 := by
        have := Nat.mul_le_mul (show v.toNat ≤ 3 by omega) (show n.toNat ≤ 4096 by omega)
        omega
      obtain ⟨q, eq⟩ : ∃ q, q = v.toNat * n.toNat := ⟨_, rfl⟩
      rw [← eq] at hmul hle HV2
      have hwm : IntKind.i64.wrap (v * n) = (q : Int) := by rw [hmul, IntKind.wrap_i64]; omega
      have hquo : (q : Int).tdiv 4 = ((q / 4 : Nat) : Int) := by rw [Int.tdiv_eq_ediv_of_nonneg (by omega)]; simp
      have hbe : (B != ((q / 4 : Nat) : Int)) = false := by rw [HV2.out]; simp
      clear hq HE2 HB HV HV2 eq hmul hnn
      go_wp2
      all_goals
        go_meet
        exact ⟨rfl, rfl⟩
  case rest =>
  obtain ⟨rfl, rfl⟩ := hcut
  clear HB HE2 hvr
  go_wp2_with fail
  refine (hO.pick cs a c v k _ (hC.later hbw3) (ha.below hbw3) hz hy hv hk).mono ?_
  rintro e w4 ⟨a4, k4, c4, rfl, hb4, hP0, hP1⟩
  have hbw4 := bthen hbw3 hb4
  have hbits := rbits_any cs a c w4 (ha.below hbw4) hz hy
  have hvr := rversion_any v w4
  have HER := hid (show errOf cs = 0 → cs.length ≤ 4096 from fun h => (err_zero h).2)
  obtain ⟨Y, eY⟩ : ∃ Y, Y = pickErr cs v k := ⟨_, rfl⟩
  rw [← eY] at hP0 hP1
  rw [← eY]
  have HY := hid eY
  unfold pickErr at HY
  obtain ⟨x, ex⟩ : ∃ x, x = errOf cs := ⟨_, rfl⟩
  rw [← ex] at hbits HY HER
  obtain ⟨bad, ebad⟩ : ∃ bad : Bool, bad = decide (cs.length = 0 ∨ verOk v = false ∨ k < 0 ∨ 4096 < k) := ⟨_, rfl⟩
  have HBAD := hid ebad
  clear eY ex ebad hbw3 hb4
  go_wp2_with fail
  refine hbits.mono ?_
  rintro e w5 ⟨rfl, rfl⟩
  clear hbits
  go_upto_region 15 with fail
  go_cut [106] from 18 (fun t wx => t = .bool ((x == 0) && bad) ∧ w4 = wx)
  case first =>
    cases HX0 : (x == 0) with
    | false =>
      go_wp2
      go_meet
      exact ⟨by rw [HX0]; rfl, rfl⟩
    | true =>
      by_cases h0 : cs.length = 0
      · have HV := hid (show bad = true by rw [HBAD.out]; simp [h0])
        have d0 : ((cs.length : Int) == 0) = true := by simp [h0]
        clear h0
        go_wp2
        go_meet
        exact ⟨by rw [HX0, HV.out]; rfl, rfl⟩
      · have d0 : ((cs.length : Int) == 0) = false := beq_eq_false_iff_ne.2 (by omega)
        cases h1 : verOk v with
        | false =>
          rw [h1] at hvr
          have HV := hid (show bad = true by rw [HBAD.out]; simp [h1])
          clear h0 h1
          go_wp2_with (first | (go_at_call 17; refine hvr.mono ?_; rintro e w5 ⟨rfl, rfl⟩))
          go_meet
          exact ⟨by rw [HX0, HV.out]; rfl, rfl⟩
        | true =>
          rw [h1] at hvr
          by_cases h2 : k < 0
          · have d2 : decide (k < 0) = true := decide_eq_true h2
            have HV := hid (show bad = true by rw [HBAD.out]; simp [h2])
            clear h0 h1 h2
            go_wp2_with (first | (go_at_call 17; refine hvr.mono ?_; rintro e w5 ⟨rfl, rfl⟩))
            go_meet
            exact ⟨by rw [HX0, HV.out]; rfl, rfl⟩
          · have d2 : decide (k < 0) = false := decide_eq_false h2
            by_cases h3 : 4096 < k
            · have d3 : decide (4096 < k) = true := decide_eq_true h3
              have HV := hid (show bad = true by rw [HBAD.out]; simp [h3])
              clear h0 h1 h2 h3
              go_wp2_with (first | (go_at_call 17; refine hvr.mono ?_; rintro e w5 ⟨rfl, rfl⟩))
              go_meet
              exact ⟨by rw [HX0, HV.out]; rfl, rfl⟩
            · have d3 : decide (4096 < k) = false := decide_eq_false h3
              have HV := hid (show bad = false by rw [HBAD.out]; exact decide_eq_false (fun h => by rcases h with h | h | h | h; exact h0 h; rw [h1] at h; cases h; exact h2 h; exact h3 h))
              clear h0 h1 h2 h3
              go_wp2_with (first | (go_at_call 17; refine hvr.mono ?_; rintro e w5 ⟨rfl, rfl⟩))
              go_meet
              exact ⟨by rw [HX0, HV.out]; rfl, rfl⟩
  case rest =>
  obtain ⟨rfl, rfl⟩ := hcut
  clear hvr
  go_upto_if 106 with fail
  go_cut [15] from 18 (fun t wx => t = .int .i64 Y ∧ w4 = wx)
  case first =>
    cases hq : (x == 0) && bad with
    | true =>
      have h' : x = 0 ∧ bad = true := by simpa using hq
      have HV := hid (show 1 = Y by rw [HY.out, if_pos h'.1, if_pos (by have := h'.2; rw [HBAD.out] at this; simpa using this)])
      clear hq h'
      go_wp2
      go_meet
      exact ⟨by rw [HV.out], rfl⟩
    | false =>
      have HV := hid (show x = Y by
        rw [HY.out]
        by_cases h0 : x = 0
        · have hb : bad = false := by simpa [h0] using hq
          rw [HBAD.out] at hb
          rw [if_pos h0, if_neg (by simpa using hb), h0]
        · rw [if_neg h0])
      clear hq
      go_wp2
      go_meet
      exact ⟨by rw [HV.out], rfl⟩
  case rest =>
  obtain ⟨rfl, rfl⟩ := hcut
  by_cases hY : Y = 0
  · obtain ⟨rfl, hr4⟩ := hP0 hY
    have hall : x = 0 ∧ ¬ (cs.length = 0 ∨ verOk v = false ∨ k < 0 ∨ 4096 < k) := by
      have h := HY.out
      rw [hY] at h
      by_cases h0 : x = 0
      · rw [if_pos h0] at h
        refine ⟨h0, fun hb => ?_⟩
        rw [if_pos hb] at h
        cases h
      · rw [if_neg h0] at h
        exact absurd h.symm h0
    have hl4 := HER.out hall.1
    have hl1 : 1 ≤ cs.length := by have := hall.2; omega
    have hvo : verOk v = true := by
      cases h : verOk v with
      | true => rfl
      | false => exact absurd (Or.inr (Or.inl h)) hall.2
    obtain ⟨vn, rfl, hvn⟩ : ∃ vn : Nat, v = (vn : Int) ∧ vn ≤ 3 := by
      unfold verOk at hvo
      simp at hvo
      exact ⟨v.toNat, by omega, by omega⟩
    obtain ⟨kn, rfl, hkn⟩ : ∃ kn : Nat, k = (kn : Int) ∧ kn ≤ 4096 := ⟨k.toNat, by have := hall.2; omega, by have := hall.2; omega⟩
    simp only [Int.toNat_natCast] at hr4
    simp only [Int.toNat_natCast]
    subst hY
    have hpk := rpicked_any cs.length vn kn w4 hl1 hl4 hvn hkn
    have HPL := hid (pickTo_length cs.length vn kn)
    have HPB := hid (fun i => pickM_lt (n := cs.length) (v := vn) (i := i) hl1)
    clear hP0 hP1 HY HER HBAD hall hvo
    go_wp2_with fail
    refine hpk.mono ?_
    rintro e w6 ⟨u6', rfl, ho6, hb6⟩
    obtain ⟨a6, c6, rfl, hr6⟩ := ho6.shapeR HPL.out
    have hr4' := hr4.below hb6
    have ha6 := ha.below (bthen hbw4 hb6)
    have hbw6 := bthen hbw4 hb6
    clear hpk ho6 hr4 ha hbw4 hb6
    go_wp2
    go_loopw [17] (fun q wr => ∃ i : Nat, i ≤ kn ∧ q = .int .i64 i ∧ Below w6.heap.size w6 wr) (fun q _ => kn - (intOf q).toNat)
    case atStart => exact ⟨0, Nat.zero_le _, rfl, Below.refl _ _⟩
    case round =>
      obtain ⟨i, hi, rfl, hbr⟩ := hrel
      by_cases hlt : i < kn
      · obtain ⟨b1, o1, rfl, hc1⟩ := (hr4'.below hbr).at (i := i) (by rw [pickedM_length]; exact hlt)
        obtain ⟨b2, o2, rfl, hc2⟩ := (hr6.below hbr).at (i := i) (by rw [HPL.out]; exact hlt)
        obtain ⟨b3, o3, rfl, hc3⟩ := (ha6.below hbr).at (i := pickM cs.length vn i) (HPB.out i)
        have q1 := hc1 i (by rw [pickedM_length]; exact hlt)
        have q2 := hc2 i (by rw [HPL.out]; exact hlt)
        have q3 := hc3 (pickM cs.length vn i) (HPB.out i)
        rw [pickedM_at hlt] at q1
        rw [intsM_at, pickTo_at hlt] at q2
        have hpl := HPB.out i
        obtain ⟨pk, epk⟩ : ∃ pk, pk = pickM cs.length vn i := ⟨_, rfl⟩
        rw [← epk] at q1 q2 q3 hpl
        obtain ⟨z, ez⟩ : ∃ z, z = cs.getD pk 0 := ⟨_, rfl⟩
        rw [← ez] at q1 q3
        have hzz : (z != z) = false := by simp
        clear epk ez hc1 hc2 hc3
        go_upto_region 25 with fail
        go_quiet (fail)
        go_wp2
        go_roundw
        case rel => first | exact ⟨i + 1, by omega, by go_num, below_drewN hbr nq⟩ | ((repeat apply Exists.intro); exact ⟨⟨i + 1, by omega, by go_num, below_drewN hbr nq⟩, rfl⟩)
        case measure => simp [intOf]; omega
      · obtain rfl : i = kn := by omega
        go_wp2
        go_ret
        exact ⟨rfl, bthen hbw6 hbr⟩
  · obtain rfl := hP1 hY
    have b1 : (Y != 0) = true := by simpa using hY
    have b2 : (Y == Y) = true := by simp
    clear hP0 hP1 HY hY HER HBAD
    go_wp2
    go_ret
    exact ⟨rfl, hbw4⟩
end Go.Proofs.YtaggbkhpoaacjacDoor
