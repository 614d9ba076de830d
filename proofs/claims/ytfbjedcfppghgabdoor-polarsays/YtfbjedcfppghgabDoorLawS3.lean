import Derived.Test.YtfbjedcfppghgabDoorLawS4
namespace Go.Proofs.YtfbjedcfppghgabDoor
open Go.ChangeShapes Go.WideShapes Go.ChangeAt Go.RowKit

set_option linter.unusedVariables false in
set_option maxRecDepth 1000000 in
set_option maxHeartbeats 4000000 in
theorem says3 (b : List Int) (n k : Int) (l : List Int) (a s : Option Addr) (c cs : Nat) (w : World) (ha : Rd .u8 w a b) (hz : b.length ≤ maxLen) (hbc : b.length ≤ c) (hy : Bytes b) (hn : -9223372036854775808 ≤ n ∧ n ≤ 9223372036854775807)
    (hs : Rd .i64 w s l) (hlz : l.length ≤ maxLen) (hlc : l.length ≤ cs) (hW : Wor w) (wx : World) (hbx : Below w.heap.size w wx) (u4 u5 u6 u7 u9 u10 u11 u12 u13 u14 u15 u16 u17 u18 u19 u20 u21 u22 u23 u24 u25 u26 u27 u28 u29 u30 u31 u32 u33 u34 u35 u36 u37 u38 u39 u40 u41 u42 u43 u44 u45 u46 u47 u48 u49 u50 u51 u52 u53 u54 u55 u56 u57 u58 u59 u60 u61 u62 u63 u64 u65 u66 u67 u68 u69 u70 u71 u72 u73 u74 u75 u76 u77 u78 u79 u80 u81 u82 u83 u84 u85 u86 u87 u88 u89 u90 u91 u92 u93 u94 u95 u96 u97 u98 u99 u100 u101 u102 u103 u104 u105 u106 u107 u108 u109 u110 u111 u112 u113 u114 u115 u116 u117 u118 u119 u120 u121 u122 u123 u124 u125 u126 u127 u128 u129 u130 u131 u132 u133 u134 u135 u136 u137 u138 u139 u140 u141 u142 u143 u144 u145 u146 u147 u148 u149 u150 u151 u152 u153 u154 u155 u156 u157 u158 u159 u160 u161 u162 u163 u164 u165 u166 u167 u168 u169 u170 u171 u172 u173 u174 u175 u176 : Value) :
    Code.wp Tryd.prog (tailAt 7 (Tryd.f7.body.getD .skip)) (bodyPost Tryd.prog Tryd.f7 fun e w' => e = .returned (.bool true) ∧ Below w.heap.size w w') ⟨#[.slice a b.length c, .int .i64 n, .int .i64 k, .slice s l.length cs, u4, u5, u6, u7, .bool false, u9, u10, u11, u12, u13, u14, u15, u16, u17, u18, u19, u20, u21, u22, u23, u24, u25, u26, u27, u28, u29, u30, u31, u32, u33, u34, u35, u36, u37, u38, u39, u40, u41, u42, u43, u44, u45, u46, u47, u48, u49, u50, u51, u52, u53, u54, u55, u56, u57, u58, u59, u60, u61, u62, u63, u64, u65, u66, u67, u68, u69, u70, u71, u72, u73, u74, u75, u76, u77, u78, u79, u80, u81, u82, u83, u84, u85, u86, u87, u88, u89, u90, u91, u92, u93, u94, u95, u96, u97, u98, u99, u100, u101, u102, u103, u104, u105, u106, u107, u108, u109, u110, u111, u112, u113, u114, u115, u116, u117, u118, u119, u120, u121, u122, u123, u124, u125, u126, u127, u128, u129, u130, u131, u132, u133, u134, u135, u136, u137, u138, u139, u140, u141, u142, u143, u144, u145, u146, u147, u148, u149, u150, u151, u152, u153, u154, u155, u156, u157, u158, u159, u160, u161, u162, u163, u164, u165, u166, u167, u168, u169, u170, u171, u172, u173, u174, u175, u176], []⟩ wx := by
  conv => arg 2; whnf
  have hmz : b.length ≤ 9223372036854775807 := by unfold maxLen at hz; omega
  have hml : l.length ≤ 9223372036854775807 := by unfold maxLen at hlz; omega
  have hWl := hW.lt
  have hbw4 := hbx
  have hbits := fun wz hbz => rbits_any b a c wz (ha.below hbz) hz hy
  obtain ⟨Y, eY⟩ : ∃ Y, Y = errOf b := ⟨_, rfl⟩
  rw [← eY] at hbits
  have HY := hid eY
  clear eY
  have hEn := encode_uni b n a c wx (ha.below hbw4) hz hy hn (hW.below hbw4 hWl)
  obtain ⟨e3, ee3⟩ : ∃ e3, e3 = pencErr b n := ⟨_, rfl⟩
  rw [← ee3] at hEn
  have HE3 := hid (show e3 = if Y = 0 then (if placesOk n b.length then 0 else 1) else Y by rw [ee3, HY.out]; rfl)
  clear ee3
  go_wp2_with fail
  refine hEn.mono ?_
  rintro e w5 ⟨a5, n5, c5, rfl, hb5, hE0, hE1⟩
  have hbw5 := bthen hbw4 hb5
  have hbits5 := hbits w5 hbw5
  clear hEn
  go_upto_region 15 with (first | (go_at_call 10; refine hbits5.mono ?_; rintro e w6 ⟨rfl, rfl⟩))
  go_cut [111] from 18 (fun t wx => t = .bool (decide (Y = 0) && !placesOk n b.length) ∧ w5 = wx)
  case first =>
    by_cases h0 : Y = 0
    · have hb0 : (Y == 0) = true := by simpa using h0
      have hd0 : decide (Y = 0) = true := by simpa using h0
      have hpw := rpower_any n w5
      clear h0
      cases hp : powI n with
      | false =>
        rw [hp] at hpw
        have HV := hid (show placesOk n b.length = false by unfold placesOk; rw [hp]; rfl)
        clear hp
        go_wp2_with (first | (go_at_call 21; refine hpw.mono ?_; rintro e w2 ⟨rfl, rfl⟩))
        go_meet
        exact ⟨by rw [hd0, HV.out]; rfl, rfl⟩
      | true =>
        rw [hp] at hpw
        by_cases hkn : n < (b.length : Int)
        · have HV := hid (show placesOk n b.length = false by unfold placesOk; rw [hp]; simp; omega)
          clear hp
          go_wp2_with (first | (go_at_call 21; refine hpw.mono ?_; rintro e w2 ⟨rfl, rfl⟩))
          go_meet
          exact ⟨by rw [hd0, HV.out]; rfl, rfl⟩
        · have d1 : decide (n < (b.length : Int)) = false := decide_eq_false hkn
          have HV := hid (show placesOk n b.length = true by unfold placesOk; rw [hp]; simp; omega)
          clear hp
          go_wp2_with (first | (go_at_call 21; refine hpw.mono ?_; rintro e w2 ⟨rfl, rfl⟩))
          go_meet
          exact ⟨by rw [hd0, HV.out]; rfl, rfl⟩
    · have hb0 : (Y == 0) = false := by simpa using h0
      have hd0 : decide (Y = 0) = false := by simpa using h0
      clear h0
      go_wp2
      go_meet
      exact ⟨by rw [hd0]; rfl, rfl⟩
  case rest =>
  obtain ⟨rfl, rfl⟩ := hcut
  go_upto_if 111 with fail
  go_cut [11] from 18 (fun t wx => t = .int .i64 e3 ∧ w5 = wx)
  case first =>
    cases hq : decide (Y = 0) && !placesOk n b.length with
    | true =>
      have h' : Y = 0 ∧ placesOk n b.length = false := by simpa using hq
      have HV := hid (show 1 = e3 by rw [HE3.out, if_pos h'.1, h'.2]; rfl)
      clear hq h'
      go_wp2
      go_meet
      exact ⟨by rw [HV.out], rfl⟩
    | false =>
      have HV := hid (show Y = e3 by
        rw [HE3.out]
        by_cases h0 : Y = 0
        · rw [decide_eq_true h0] at hq
          have hp : placesOk n b.length = true := by simpa using hq
          rw [if_pos h0, hp, h0]; rfl
        · rw [if_neg h0])
      clear hq
      go_wp2
      go_meet
      exact ⟨by rw [HV.out], rfl⟩
  case rest =>
  obtain ⟨rfl, rfl⟩ := hcut
  go_upto_region 17 with fail
  go_cut [135] from 18 (fun t wx => t = .bool false ∧ Below w5.heap.size w5 wx)
  case first =>
    by_cases h0 : e3 = 0
    · obtain ⟨m, N, hm, eN, rfl, hbN, bb, rfl, hr⟩ := hE0 h0
      have h5 : n5 ≤ 512 := by rw [eN]; exact Nat.pow_le_pow_right (by omega) hm
      have hrh := rhalved_any m b a n5 b.length c w5 (ha.below hbw5) bb rfl hbN eN h5
      have LT := hid ((turn_length m _ ((spread_length n5 (placesM n5 b.length) b b.length).trans eN)).trans eN.symm)
      have hb0 : (e3 == 0) = true := by simpa using h0
      have hb2 : (e3 != 0) = false := by simpa using h0
      clear hE0 hE1 h0 eN
      go_wp2_with fail
      refine hrh.mono ?_
      rintro e w6 ⟨v6, rfl, ho6, hb6⟩
      obtain ⟨a6, k6, rfl, -, -, hr6, -⟩ := ho6.slice LT.out
      have hsm := sameT _ _ n5 a5 a6 c5 k6 w6 (hr.below hb6) hr6 LT.out LT.out (by omega) rfl
      clear ho6
      go_wp2_with fail
      refine hsm.mono ?_
      rintro e w7 ⟨rfl, hb7⟩
      go_wp2
      go_meet
      exact ⟨rfl, bthen hb6 hb7⟩
    · obtain rfl := hE1 h0
      have hb0 : (e3 == 0) = false := by simpa using h0
      have hb2 : (e3 != 0) = true := by simpa using h0
      clear hE0 hE1 h0
      go_wp2
      go_meet
      exact ⟨rfl, Below.refl _ _⟩
  case rest =>
  obtain ⟨rfl, hbc6⟩ := hcut
  have hbw6 := bthen hbw5 hbc6
  clear hE0 hE1 hbits hbits5
  go_upto_if 135 with fail
  go_cut [8] from 18 (fun t wz => t = .bool false ∧ wc = wz)
  case first =>
    go_wp2
    go_meet
    exact ⟨rfl, rfl⟩
  case rest =>
  obtain ⟨rfl, rfl⟩ := hcut
  exact ‹∀ a w, Code.wp _ _ _ a w → _› _ _ (says4 b n k l a s c cs w ha hz hbc hy hn hs hlz hlc hW _ hbw6 _ _ _ _ _ _ _ _ _ _ _ _ _ _ _ _ _ _ _ _ _ _ _ _ _ _ _ _ _ _ _ _ _ _ _ _ _ _ _ _ _ _ _ _ _ _ _ _ _ _ _ _ _ _ _ _ _ _ _ _ _ _ _ _ _ _ _ _ _ _ _ _ _ _ _ _ _ _ _ _ _ _ _ _ _ _ _ _ _ _ _ _ _ _ _ _ _ _ _ _ _ _ _ _ _ _ _ _ _ _ _ _ _ _ _ _ _ _ _ _ _ _ _ _ _ _ _ _ _ _ _ _ _ _ _ _ _ _ _ _ _ _ _ _ _ _ _ _ _ _ _ _ _ _ _ _ _ _ _ _ _ _ _ _ _ _ _ _ _ _ _ _)
end Go.Proofs.YtfbjedcfppghgabDoor
