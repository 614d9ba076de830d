import Derived.Test.YtfbjedcfppghgabDoorLawU
namespace Go.Proofs.YtfbjedcfppghgabDoor
open Go.ChangeShapes Go.WideShapes Go.ChangeAt Go.RowKit

set_option linter.unusedVariables false in
set_option maxRecDepth 1000000 in
set_option maxHeartbeats 4000000 in
theorem says4 (b : List Int) (n k : Int) (l : List Int) (a s : Option Addr) (c cs : Nat) (w : World) (ha : Rd .u8 w a b) (hz : b.length ≤ maxLen) (hbc : b.length ≤ c) (hy : Bytes b) (hn : -9223372036854775808 ≤ n ∧ n ≤ 9223372036854775807)
    (hs : Rd .i64 w s l) (hlz : l.length ≤ maxLen) (hlc : l.length ≤ cs) (hW : Wor w) (wx : World) (hbx : Below w.heap.size w wx) (u4 u5 u6 u7 u9 u10 u11 u12 u13 u14 u15 u16 u17 u18 u19 u20 u21 u22 u23 u24 u25 u26 u27 u28 u29 u30 u31 u32 u33 u34 u35 u36 u37 u38 u39 u40 u41 u42 u43 u44 u45 u46 u47 u48 u49 u50 u51 u52 u53 u54 u55 u56 u57 u58 u59 u60 u61 u62 u63 u64 u65 u66 u67 u68 u69 u70 u71 u72 u73 u74 u75 u76 u77 u78 u79 u80 u81 u82 u83 u84 u85 u86 u87 u88 u89 u90 u91 u92 u93 u94 u95 u96 u97 u98 u99 u100 u101 u102 u103 u104 u105 u106 u107 u108 u109 u110 u111 u112 u113 u114 u115 u116 u117 u118 u119 u120 u121 u122 u123 u124 u125 u126 u127 u128 u129 u130 u131 u132 u133 u134 u135 u136 u137 u138 u139 u140 u141 u142 u143 u144 u145 u146 u147 u148 u149 u150 u151 u152 u153 u154 u155 u156 u157 u158 u159 u160 u161 u162 u163 u164 u165 u166 u167 u168 u169 u170 u171 u172 u173 u174 u175 u176 : Value) :
    Code.wp Tryd.prog (tailAt 11 (Tryd.f7.body.getD .skip)) (bodyPost Tryd.prog Tryd.f7 fun e w' => e = .returned (.bool true) ∧ Below w.heap.size w w') ⟨#[.slice a b.length c, .int .i64 n, .int .i64 k, .slice s l.length cs, u4, u5, u6, u7, .bool false, u9, u10, u11, u12, u13, u14, u15, u16, u17, u18, u19, u20, u21, u22, u23, u24, u25, u26, u27, u28, u29, u30, u31, u32, u33, u34, u35, u36, u37, u38, u39, u40, u41, u42, u43, u44, u45, u46, u47, u48, u49, u50, u51, u52, u53, u54, u55, u56, u57, u58, u59, u60, u61, u62, u63, u64, u65, u66, u67, u68, u69, u70, u71, u72, u73, u74, u75, u76, u77, u78, u79, u80, u81, u82, u83, u84, u85, u86, u87, u88, u89, u90, u91, u92, u93, u94, u95, u96, u97, u98, u99, u100, u101, u102, u103, u104, u105, u106, u107, u108, u109, u110, u111, u112, u113, u114, u115, u116, u117, u118, u119, u120, u121, u122, u123, u124, u125, u126, u127, u128, u129, u130, u131, u132, u133, u134, u135, u136, u137, u138, u139, u140, u141, u142, u143, u144, u145, u146, u147, u148, u149, u150, u151, u152, u153, u154, u155, u156, u157, u158, u159, u160, u161, u162, u163, u164, u165, u166, u167, u168, u169, u170, u171, u172, u173, u174, u175, u176], []⟩ wx := by
  conv => arg 2; whnf
  have hmz : b.length ≤ 9223372036854775807 := by unfold maxLen at hz; omega
  have hml : l.length ≤ 9223372036854775807 := by unfold maxLen at hlz; omega
  have hWl := hW.lt
  clear hbc
  have hbw6 := hbx
  have hDe := decode_uni l k s cs wx (hs.below hbw6) hlz hlc (hW.below hbw6 hWl)
  obtain ⟨e4, ee4⟩ : ∃ e4, e4 = pdecErr l k := ⟨_, rfl⟩
  rw [← ee4] at hDe
  have HE4 := hid ee4
  clear ee4
  go_wp2_with fail
  refine hDe.mono ?_
  rintro e w7 ⟨a7, n7, c7, rfl, hb7, hD0, hD1⟩
  have hbw7 := bthen hbw6 hb7
  have hsf := rsoft_any l s cs w7 (hs.below hbw7) hlz
  have hpw := rpower_any l.length w7
  clear hDe
  go_upto_region 20 with fail
  go_cut [160] from 18 (fun t wx => t = .bool (!(softOk l && placesOk l.length k)) ∧ w7 = wx)
  case first =>
    cases hso : softOk l with
    | false =>
      rw [hso] at hsf
      have HS := hid hso
      clear hso
      go_wp2_with (first | (go_at_call 13; refine hsf.mono ?_; rintro e w8 ⟨rfl, rfl⟩) | (go_at_call 21; refine hpw.mono ?_; rintro e w8 ⟨rfl, rfl⟩))
      go_meet
      exact ⟨by rw [HS.out]; rfl, rfl⟩
    | true =>
      rw [hso] at hsf
      have HS := hid hso
      cases hp : powI l.length with
      | false =>
        rw [hp] at hpw
        have HV := hid (show placesOk l.length k = false by unfold placesOk; rw [hp]; rfl)
        clear hso hp
        go_wp2_with (first | (go_at_call 13; refine hsf.mono ?_; rintro e w8 ⟨rfl, rfl⟩) | (go_at_call 21; refine hpw.mono ?_; rintro e w8 ⟨rfl, rfl⟩))
        go_meet
        exact ⟨by rw [HS.out, HV.out]; rfl, rfl⟩
      | true =>
        rw [hp] at hpw
        by_cases hk0 : k < 0
        · have HV := hid (show placesOk l.length k = false by unfold placesOk; rw [hp]; simp; omega)
          clear hso hp
          go_wp2_with (first | (go_at_call 13; refine hsf.mono ?_; rintro e w8 ⟨rfl, rfl⟩) | (go_at_call 21; refine hpw.mono ?_; rintro e w8 ⟨rfl, rfl⟩))
          go_meet
          exact ⟨by rw [HS.out, HV.out]; rfl, rfl⟩
        · have d0 : decide (k < 0) = false := decide_eq_false hk0
          by_cases hkn : (l.length : Int) < k
          · have HV := hid (show placesOk l.length k = false by unfold placesOk; rw [hp]; simp; omega)
            clear hso hp
            go_wp2_with (first | (go_at_call 13; refine hsf.mono ?_; rintro e w8 ⟨rfl, rfl⟩) | (go_at_call 21; refine hpw.mono ?_; rintro e w8 ⟨rfl, rfl⟩))
            go_meet
            exact ⟨by rw [HS.out, HV.out]; rfl, rfl⟩
          · have d1 : decide ((l.length : Int) < k) = false := decide_eq_false hkn
            have HV := hid (show placesOk l.length k = true by unfold placesOk; rw [hp]; simp; omega)
            clear hso hp
            go_wp2_with (first | (go_at_call 13; refine hsf.mono ?_; rintro e w8 ⟨rfl, rfl⟩) | (go_at_call 21; refine hpw.mono ?_; rintro e w8 ⟨rfl, rfl⟩))
            go_meet
            exact ⟨by rw [HS.out, HV.out]; rfl, rfl⟩
  case rest =>
  obtain ⟨rfl, rfl⟩ := hcut
  clear hsf hpw
  cases hq : softOk l && placesOk l.length k with
  | false =>
    have he4 : e4 = 1 := by rw [HE4.out, pdecErr, hq]; rfl
    obtain rfl := hD1 hq
    subst he4
    clear hD0 hD1 hq
    go_wp2
    go_ret
    exact ⟨rfl, hbw7⟩
  | true =>
    have he4 : e4 = 0 := by rw [HE4.out, pdecErr, hq]; rfl
    obtain ⟨m, K, hm, em, rfl, hKl, rfl, hr⟩ := hD0 hq
    have hso : softOk l = true := by simp at hq; exact hq.1
    subst he4
    have h5 : l.length ≤ 512 := by rw [em]; exact Nat.pow_le_pow_right (by omega) hm
    have hfo := rfound_any m l s l.length n7 cs w7 (hs.below hbw7) rfl em h5 hKl (within_soft hso)
    have LR := hid (show (readM (placesM l.length n7) (decP m l (openM l.length n7))).length = n7 by simp [readM, places_length hKl])
    clear hD0 hD1 hq em hso
    go_wp2_with fail
    refine hfo.mono ?_
    rintro e w8 ⟨v8, rfl, ho8, hb8⟩
    obtain ⟨a8, k8, rfl, -, -, hr8, -⟩ := ho8.slice LR.out
    have hsm := sameT _ _ n7 a7 a8 c7 k8 w8 (hr.below hb8) hr8 LR.out LR.out (by omega) rfl
    clear ho8
    go_wp2_with fail
    refine hsm.mono ?_
    rintro e w9 ⟨rfl, hb9⟩
    go_wp2
    go_ret
    exact ⟨rfl, bthen (bthen hbw7 hb8) hb9⟩
end Go.Proofs.YtfbjedcfppghgabDoor
