import Derived.Test.YtaggbkhpoaacjacDoorInts
import Derived.Test.YtaggbkhpoaacjacDoorConvM
namespace Go.Proofs.YtaggbkhpoaacjacDoor
open Go.ChangeShapes Go.WideShapes Go.ChangeAt Go.RowKit

/-- How loud the place i is heard. -/
def loudAt (ls : List Int) (i : Nat) : Int :=
  let x := if ls.length = 0 then 1 else ls.getD (i % ls.length) 0
  if x < 1 ∨ 100000 < x then 7 else x
def heardAt (cs ls : List Int) (i : Nat) : Int := sgn (cs.getD i 0) (loudAt ls i)
def heardTo (cs ls : List Int) (k : Nat) : List Int := (List.range k).map (heardAt cs ls)
theorem heardTo_succ (cs ls : List Int) (k : Nat) : heardTo cs ls (k + 1) = heardTo cs ls k ++ [heardAt cs ls k] := by simp [heardTo, List.range_succ]
theorem heardTo_length (cs ls : List Int) (k : Nat) : (heardTo cs ls k).length = k := by simp [heardTo]
theorem loudAt_bd (ls : List Int) (i : Nat) : 1 ≤ loudAt ls i ∧ loudAt ls i ≤ 100000 := by
  unfold loudAt
  simp only
  split <;> omega
theorem heardTo_at (cs ls : List Int) (k i : Nat) (h : i < k) : (heardTo cs ls k).getD i 0 = heardAt cs ls i := by simp [heardTo, List.getD, h]

set_option maxHeartbeats 1000000 in
theorem heard_any (cs ls : List Int) (a b : Option Addr) (c cb : Nat) (w : World) (ha : Rd .u8 w a cs) (hb : Rd .i64 w b ls) (hc : cs.length ≤ 1218) (hl : ls.length ≤ maxLen) :
    Calls Tryd.prog 10 #[.slice a cs.length c, .slice b ls.length cb] w fun e w' => ∃ v, e = .returned (.tuple #[v, .bool true]) ∧ OwnI w' w.heap.size v (heardTo cs ls cs.length) ∧ Below w.heap.size w w' := by
  unfold maxLen at hl
  go_enter Tryd.func10, Tryd.ntmps10
  go_wp2
  go_loopw [6, 7] (fun v q wr => ∃ i : Nat, i ≤ cs.length ∧ q = .int .i64 i ∧ OwnI wr w.heap.size v (heardTo cs ls i) ∧ Below w.heap.size w wr) (fun _ q _ => cs.length - (intOf q).toNat)
  case atStart => exact ⟨0, Nat.zero_le _, rfl, OwnI.nil _ _, Below.refl _ _⟩
  case round =>
    obtain ⟨i, hi, rfl, hown, hbel⟩ := hrel
    by_cases hlt : i < cs.length
    · have hlen := hid (heardTo_length cs ls i)
      have hsz := hbel.size
      obtain ⟨b1, o1, rfl, hc1⟩ := (ha.below hbel).at hlt
      have g1 := hc1 i hlt
      clear hc1
      have hlb := loudAt_bd ls i
      have HA := hid (show heardAt cs ls i = sgn (cs.getD i 0) (loudAt ls i) from rfl)
      obtain ⟨x, ex⟩ : ∃ x, x = cs.getD i 0 := ⟨_, rfl⟩
      rw [← ex] at g1 HA
      clear ex
      by_cases h0 : ls.length = 0
      · have hL1 : loudAt ls i = 1 := by unfold loudAt; simp [h0]
        rw [hL1] at HA
        have d0 : decide (0 < ls.length) = false := decide_eq_false (by omega)
        clear hlb hL1 h0
        by_cases hx : x = 1
        · have dx : (x == 1) = true := by simpa using hx
          have HV := hid (show (-1 : Int) = heardAt cs ls i by rw [HA.out, sgn, if_pos hx])
          clear hx HA
          go_wp2_with (first | (at_builtin; refine wpList_pushI w.heap.size w (-1) hown rfl _ _ rfl rfl rfl (by rw [hlen.out]; omega) hbel hbel.size ?_))
          intro v' w1 hown' hbel'
          rw [HV.out, ← heardTo_succ] at hown'
          clear hown hbel
          go_wp2
          go_roundw
          case rel => first | exact ⟨i + 1, by omega, by go_num, hown', hbel'⟩ | ((repeat apply Exists.intro); exact ⟨⟨i + 1, by omega, by go_num, hown', hbel'⟩, rfl⟩)
          case measure => simp [intOf]; omega
        · have dx : (x == 1) = false := by simpa using hx
          have HV := hid (show (1 : Int) = heardAt cs ls i by rw [HA.out, sgn, if_neg hx])
          clear hx HA
          go_wp2_with (first | (at_builtin; refine wpList_pushI w.heap.size w 1 hown rfl _ _ rfl rfl rfl (by rw [hlen.out]; omega) hbel hbel.size ?_))
          intro v' w1 hown' hbel'
          rw [HV.out, ← heardTo_succ] at hown'
          clear hown hbel
          go_wp2
          go_roundw
          case rel => first | exact ⟨i + 1, by omega, by go_num, hown', hbel'⟩ | ((repeat apply Exists.intro); exact ⟨⟨i + 1, by omega, by go_num, hown', hbel'⟩, rfl⟩)
          case measure => simp [intOf]; omega
      · have hml : i % ls.length < ls.length := Nat.mod_lt _ (by omega)
        obtain ⟨b2, o2, rfl, hc2⟩ := (hb.below hbel).at hml
        have g2 := hc2 _ hml
        clear hc2
        have hrem : (i : Int).tmod (ls.length : Int) = ((i % ls.length : Nat) : Int) := by rw [Int.tmod_eq_emod_of_nonneg (by omega)]; simp
        have hne : ((ls.length : Int) == 0) = false := beq_false_of_ne (by omega)
        have hpos : 0 < ls.length := by omega
        have HLA := hid (show loudAt ls i = if ls.getD (i % ls.length) 0 < 1 ∨ 100000 < ls.getD (i % ls.length) 0 then 7 else ls.getD (i % ls.length) 0 by unfold loudAt; rw [if_neg h0])
        obtain ⟨m, hm⟩ : ∃ m, m = i % ls.length := ⟨_, rfl⟩
        rw [← hm] at g2 hrem hml HLA
        obtain ⟨y, ey⟩ : ∃ y, y = ls.getD m 0 := ⟨_, rfl⟩
        rw [← ey] at g2 HLA
        clear hm ey h0
        by_cases hy : y < 1 ∨ 100000 < y
        · have HL7 := hid (show loudAt ls i = 7 by rw [HLA.out, if_pos hy])
          rw [HL7.out] at HA
          clear HLA hlb
          by_cases hy1 : y < 1
          · have d1 : decide (y < 1) = true := decide_eq_true hy1
            clear hy
            by_cases hx : x = 1
            · have dx : (x == 1) = true := by simpa using hx
              have HV := hid (show (-7 : Int) = heardAt cs ls i by rw [HA.out, sgn, if_pos hx])
              clear hx HA
              go_wp2_with (first | (at_builtin; refine wpList_pushI w.heap.size w (-7) hown rfl _ _ rfl rfl rfl (by rw [hlen.out]; omega) hbel hbel.size ?_))
              intro v' w1 hown' hbel'
              rw [HV.out, ← heardTo_succ] at hown'
              clear hown hbel
              go_wp2
              go_roundw
              case rel => first | exact ⟨i + 1, by omega, by go_num, hown', hbel'⟩ | ((repeat apply Exists.intro); exact ⟨⟨i + 1, by omega, by go_num, hown', hbel'⟩, rfl⟩)
              case measure => simp [intOf]; omega
            · have dx : (x == 1) = false := by simpa using hx
              have HV := hid (show (7 : Int) = heardAt cs ls i by rw [HA.out, sgn, if_neg hx])
              clear hx HA
              go_wp2_with (first | (at_builtin; refine wpList_pushI w.heap.size w (7) hown rfl _ _ rfl rfl rfl (by rw [hlen.out]; omega) hbel hbel.size ?_))
              intro v' w1 hown' hbel'
              rw [HV.out, ← heardTo_succ] at hown'
              clear hown hbel
              go_wp2
              go_roundw
              case rel => first | exact ⟨i + 1, by omega, by go_num, hown', hbel'⟩ | ((repeat apply Exists.intro); exact ⟨⟨i + 1, by omega, by go_num, hown', hbel'⟩, rfl⟩)
              case measure => simp [intOf]; omega
          · have d1 : decide (y < 1) = false := decide_eq_false hy1
            have d2 : decide (100000 < y) = true := decide_eq_true (by omega)
            clear hy
            by_cases hx : x = 1
            · have dx : (x == 1) = true := by simpa using hx
              have HV := hid (show (-7 : Int) = heardAt cs ls i by rw [HA.out, sgn, if_pos hx])
              clear hx HA
              go_wp2_with (first | (at_builtin; refine wpList_pushI w.heap.size w (-7) hown rfl _ _ rfl rfl rfl (by rw [hlen.out]; omega) hbel hbel.size ?_))
              intro v' w1 hown' hbel'
              rw [HV.out, ← heardTo_succ] at hown'
              clear hown hbel
              go_wp2
              go_roundw
              case rel => first | exact ⟨i + 1, by omega, by go_num, hown', hbel'⟩ | ((repeat apply Exists.intro); exact ⟨⟨i + 1, by omega, by go_num, hown', hbel'⟩, rfl⟩)
              case measure => simp [intOf]; omega
            · have dx : (x == 1) = false := by simpa using hx
              have HV := hid (show (7 : Int) = heardAt cs ls i by rw [HA.out, sgn, if_neg hx])
              clear hx HA
              go_wp2_with (first | (at_builtin; refine wpList_pushI w.heap.size w (7) hown rfl _ _ rfl rfl rfl (by rw [hlen.out]; omega) hbel hbel.size ?_))
              intro v' w1 hown' hbel'
              rw [HV.out, ← heardTo_succ] at hown'
              clear hown hbel
              go_wp2
              go_roundw
              case rel => first | exact ⟨i + 1, by omega, by go_num, hown', hbel'⟩ | ((repeat apply Exists.intro); exact ⟨⟨i + 1, by omega, by go_num, hown', hbel'⟩, rfl⟩)
              case measure => simp [intOf]; omega
        · have HLy := hid (show loudAt ls i = y by rw [HLA.out, if_neg hy])
          rw [HLy.out] at HA
          have d1 : decide (y < 1) = false := decide_eq_false (by omega)
          have d2 : decide (100000 < y) = false := decide_eq_false (by omega)
          have hyb : 1 ≤ y ∧ y ≤ 100000 := by omega
          clear HLA hlb hy
          by_cases hx : x = 1
          · have dx : (x == 1) = true := by simpa using hx
            have HV := hid (show (-y : Int) = heardAt cs ls i by rw [HA.out, sgn, if_pos hx])
            clear hx HA
            go_wp2_with (first | (at_builtin; refine wpList_pushI w.heap.size w (-y) hown rfl _ _ rfl rfl rfl (by rw [hlen.out]; omega) hbel hbel.size ?_))
            intro v' w1 hown' hbel'
            rw [HV.out, ← heardTo_succ] at hown'
            clear hown hbel
            go_wp2
            go_roundw
            case rel => first | exact ⟨i + 1, by omega, by go_num, hown', hbel'⟩ | ((repeat apply Exists.intro); exact ⟨⟨i + 1, by omega, by go_num, hown', hbel'⟩, rfl⟩)
            case measure => simp [intOf]; omega
          · have dx : (x == 1) = false := by simpa using hx
            have HV := hid (show (y : Int) = heardAt cs ls i by rw [HA.out, sgn, if_neg hx])
            clear hx HA
            go_wp2_with (first | (at_builtin; refine wpList_pushI w.heap.size w (y) hown rfl _ _ rfl rfl rfl (by rw [hlen.out]; omega) hbel hbel.size ?_))
            intro v' w1 hown' hbel'
            rw [HV.out, ← heardTo_succ] at hown'
            clear hown hbel
            go_wp2
            go_roundw
            case rel => first | exact ⟨i + 1, by omega, by go_num, hown', hbel'⟩ | ((repeat apply Exists.intro); exact ⟨⟨i + 1, by omega, by go_num, hown', hbel'⟩, rfl⟩)
            case measure => simp [intOf]; omega
    · obtain rfl : i = cs.length := by omega
      go_wp2
      go_ret2
      exact ⟨_, rfl, hown, hbel⟩
end Go.Proofs.YtaggbkhpoaacjacDoor
