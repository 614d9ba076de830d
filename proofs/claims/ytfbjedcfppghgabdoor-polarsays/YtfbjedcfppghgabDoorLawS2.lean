import Derived.Test.YtfbjedcfppghgabDoorLawS3
namespace Go.Proofs.YtfbjedcfppghgabDoor
open Go.ChangeShapes Go.WideShapes Go.ChangeAt Go.RowKit

set_option linter.unusedVariables false in
set_option maxRecDepth 1000000 in
set_option maxHeartbeats 4000000 in
theorem says2 (b : List Int) (n k : Int) (l : List Int) (a s : Option Addr) (c cs : Nat) (w : World) (ha : Rd .u8 w a b) (hz : b.length ≤ maxLen) (hbc : b.length ≤ c) (hy : Bytes b) (hn : -9223372036854775808 ≤ n ∧ n ≤ 9223372036854775807)
    (hs : Rd .i64 w s l) (hlz : l.length ≤ maxLen) (hlc : l.length ≤ cs) (hW : Wor w) (wx : World) (hbx : Below w.heap.size w wx) (u4 u5 u6 u7 u9 u10 u11 u12 u13 u14 u15 u16 u17 u18 u19 u20 u21 u22 u23 u24 u25 u26 u27 u28 u29 u30 u31 u32 u33 u34 u35 u36 u37 u38 u39 u40 u41 u42 u43 u44 u45 u46 u47 u48 u49 u50 u51 u52 u53 u54 u55 u56 u57 u58 u59 u60 u61 u62 u63 u64 u65 u66 u67 u68 u69 u70 u71 u72 u73 u74 u75 u76 u77 u78 u79 u80 u81 u82 u83 u84 u85 u86 u87 u88 u89 u90 u91 u92 u93 u94 u95 u96 u97 u98 u99 u100 u101 u102 u103 u104 u105 u106 u107 u108 u109 u110 u111 u112 u113 u114 u115 u116 u117 u118 u119 u120 u121 u122 u123 u124 u125 u126 u127 u128 u129 u130 u131 u132 u133 u134 u135 u136 u137 u138 u139 u140 u141 u142 u143 u144 u145 u146 u147 u148 u149 u150 u151 u152 u153 u154 u155 u156 u157 u158 u159 u160 u161 u162 u163 u164 u165 u166 u167 u168 u169 u170 u171 u172 u173 u174 u175 u176 : Value) :
    Code.wp Tryd.prog (tailAt 5 (Tryd.f7.body.getD .skip)) (bodyPost Tryd.prog Tryd.f7 fun e w' => e = .returned (.bool true) ∧ Below w.heap.size w w') ⟨#[.slice a b.length c, .int .i64 n, .int .i64 k, .slice s l.length cs, u4, u5, u6, u7, .bool false, u9, u10, u11, u12, u13, u14, u15, u16, u17, u18, u19, u20, u21, u22, u23, u24, u25, u26, u27, u28, u29, u30, u31, u32, u33, u34, u35, u36, u37, u38, u39, u40, u41, u42, u43, u44, u45, u46, u47, u48, u49, u50, u51, u52, u53, u54, u55, u56, u57, u58, u59, u60, u61, u62, u63, u64, u65, u66, u67, u68, u69, u70, u71, u72, u73, u74, u75, u76, u77, u78, u79, u80, u81, u82, u83, u84, u85, u86, u87, u88, u89, u90, u91, u92, u93, u94, u95, u96, u97, u98, u99, u100, u101, u102, u103, u104, u105, u106, u107, u108, u109, u110, u111, u112, u113, u114, u115, u116, u117, u118, u119, u120, u121, u122, u123, u124, u125, u126, u127, u128, u129, u130, u131, u132, u133, u134, u135, u136, u137, u138, u139, u140, u141, u142, u143, u144, u145, u146, u147, u148, u149, u150, u151, u152, u153, u154, u155, u156, u157, u158, u159, u160, u161, u162, u163, u164, u165, u166, u167, u168, u169, u170, u171, u172, u173, u174, u175, u176], []⟩ wx := by
  conv => arg 2; whnf
  have hmz : b.length ≤ 9223372036854775807 := by unfold maxLen at hz; omega
  have hml : l.length ≤ 9223372036854775807 := by unfold maxLen at hlz; omega
  have hWl := hW.lt
  have hbw2 := hbx
  have hPl := places_uni n k wx hn (hW.below hbw2 hWl)
  obtain ⟨e2, ee2⟩ : ∃ e2, e2 = plErr n k := ⟨_, rfl⟩
  rw [← ee2] at hPl
  have HE2 := hid ee2
  clear ee2
  go_wp2_with fail
  refine hPl.mono ?_
  rintro e w3 ⟨a3, n3, c3, rfl, hb3, hP0, hP1⟩
  have hbw3 := bthen hbw2 hb3
  clear hPl
  go_upto_region 8 with fail
  go_cut [73] from 18 (fun t wx => t = .bool (!placesOk n k) ∧ w3 = wx)
  case first =>
    have hpw := rpower_any n w3
    cases hp : powI n with
    | false =>
      rw [hp] at hpw
      have HV := hid (show placesOk n k = false by unfold placesOk; rw [hp]; rfl)
      clear hp
      go_wp2_with (first | (go_at_call 21; refine hpw.mono ?_; rintro e w4 ⟨rfl, rfl⟩))
      go_meet
      exact ⟨by rw [HV.out]; rfl, rfl⟩
    | true =>
      rw [hp] at hpw
      by_cases hk0 : k < 0
      · have HV := hid (show placesOk n k = false by unfold placesOk; rw [hp]; simp; omega)
        clear hp
        go_wp2_with (first | (go_at_call 21; refine hpw.mono ?_; rintro e w4 ⟨rfl, rfl⟩))
        go_meet
        exact ⟨by rw [HV.out]; rfl, rfl⟩
      · have d0 : decide (k < 0) = false := decide_eq_false hk0
        by_cases hkn : n < k
        · have HV := hid (show placesOk n k = false by unfold placesOk; rw [hp]; simp; omega)
          clear hp
          go_wp2_with (first | (go_at_call 21; refine hpw.mono ?_; rintro e w4 ⟨rfl, rfl⟩))
          go_meet
          exact ⟨by rw [HV.out]; rfl, rfl⟩
        · have d1 : decide (n < k) = false := decide_eq_false hkn
          have HV := hid (show placesOk n k = true by unfold placesOk; rw [hp]; simp; omega)
          clear hp
          go_wp2_with (first | (go_at_call 21; refine hpw.mono ?_; rintro e w4 ⟨rfl, rfl⟩))
          go_meet
          exact ⟨by rw [HV.out]; rfl, rfl⟩
  case rest =>
  obtain ⟨rfl, rfl⟩ := hcut
  go_upto_if 73 with fail
  go_cut [8] from 18 (fun t wx => t = .bool false ∧ Below w3.heap.size w3 wx)
  case first =>
    cases hp : placesOk n k with
    | false =>
      have he2 : e2 = 1 := by rw [HE2.out, plErr, hp]; rfl
      obtain rfl := hP1 hp
      subst he2
      clear hP0 hP1 hp
      go_wp2
      go_meet
      exact ⟨rfl, Below.refl _ _⟩
    | true =>
      have he2 : e2 = 0 := by rw [HE2.out, plErr, hp]; rfl
      obtain ⟨m, N, K, hm, eN, rfl, rfl, hKN, rfl, hr⟩ := hP0 hp
      subst he2
      have h5 : N ≤ 512 := by rw [eN]; exact Nat.pow_le_pow_right (by omega) hm
      have hrp := rplaces_any N n3 w3 h5
      have LP := hid ((ints_length (placesM N n3)).trans (places_length hKN))
      clear hP0 hP1 hp eN
      go_wp2_with fail
      refine hrp.mono ?_
      rintro e w4 ⟨v4, rfl, ho4, hb4⟩
      obtain ⟨a4, k4, rfl, -, -, hr4, -⟩ := ho4.slice LP.out
      have hsm := sameI _ _ n3 a3 a4 c3 k4 w4 (hr.below hb4) hr4 LP.out LP.out (by omega) rfl
      clear ho4
      go_wp2_with fail
      refine hsm.mono ?_
      rintro e w5 ⟨rfl, hb5⟩
      go_wp2
      go_meet
      exact ⟨rfl, bthen hb4 hb5⟩
  case rest =>
  obtain ⟨rfl, hbc4⟩ := hcut
  have hbw4 := bthen hbw3 hbc4
  exact ‹∀ a w, Code.wp _ _ _ a w → _› _ _ (says3 b n k l a s c cs w ha hz hbc hy hn hs hlz hlc hW _ hbw4 _ _ _ _ _ _ _ _ _ _ _ _ _ _ _ _ _ _ _ _ _ _ _ _ _ _ _ _ _ _ _ _ _ _ _ _ _ _ _ _ _ _ _ _ _ _ _ _ _ _ _ _ _ _ _ _ _ _ _ _ _ _ _ _ _ _ _ _ _ _ _ _ _ _ _ _ _ _ _ _ _ _ _ _ _ _ _ _ _ _ _ _ _ _ _ _ _ _ _ _ _ _ _ _ _ _ _ _ _ _ _ _ _ _ _ _ _ _ _ _ _ _ _ _ _ _ _ _ _ _ _ _ _ _ _ _ _ _ _ _ _ _ _ _ _ _ _ _ _ _ _ _ _ _ _ _ _ _ _ _ _ _ _ _ _ _ _ _ _ _ _ _)
end Go.Proofs.YtfbjedcfppghgabDoor
