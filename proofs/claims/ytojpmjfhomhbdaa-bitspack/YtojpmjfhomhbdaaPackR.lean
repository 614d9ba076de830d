import Derived.Test.YtojpmjfhomhbdaaPackM
import Derived.Test.YtojpmjfhomhbdaaCheck
import Derived.Test.YtojpmjfhomhbdaaOwn
namespace Go.Proofs.Ytojpmjfhomhbdaa
open Go.ChangeShapes Go.WideShapes Go.ChangeAt Go.RowKit

set_option maxHeartbeats 1000000 in
theorem rpack_ok (zs : List Int) (a : Option Addr) (c : Nat) (w : World) (ha : Rd .u8 w a zs) (hb : Bits zs) (hz : zs.length ≤ 4096) :
    Calls Try.prog 13 #[.slice a zs.length c] w fun e w' => e = .returned (.string (strOfNums (packL zs))) ∧ Below w.heap.size w w' := by
  go_enter Try.func13, Try.ntmps13
  go_wp2
  go_loopw [3, 4] (fun v i wr => ∃ j I : Nat, Hid (I = 8 * j ∧ j ≤ (zs.length + 7) / 8) ∧ I ≤ 5000 ∧ i = .int .i64 I ∧ Own wr w.heap.size v (packUpto zs j) ∧ Below w.heap.size w wr) (fun _ i _ => 5000 - (intOf i).toNat)
  case atStart => exact ⟨0, 0, ⟨rfl, Nat.zero_le _⟩, by omega, rfl, Own.nil _ _, Below.refl _ _⟩
  case round =>
    obtain ⟨j, I, HI, hI, rfl, hown, hbel⟩ := hrel
    have hsz := hbel.size
    by_cases hlt : I < zs.length
    · go_wp2
      go_loop [5, 6] (fun n k => ∃ t : Nat, ∃ q : Int, t ≤ 8 ∧ 0 ≤ q ∧ q ≤ 255 ∧ k = .int .i64 (I + t : Nat) ∧ n = .int .i64 q ∧ Hid (q = num zs I t)) (fun _ k => I + 8 - (intOf k).toNat)
      case atStart => exact ⟨0, 0, by omega, by omega, by omega, rfl, rfl, rfl⟩
      case round =>
        obtain ⟨t, q, ht, hq0, hq1, rfl, rfl, HQ⟩ := hrel
        by_cases ht8 : t < 8
        · have hnext := num_byte hb I (t + 1) (by omega)
          rw [num, ← HQ.out] at hnext
          by_cases hin : I + t < zs.length
          · obtain ⟨b1, o1, rfl, hc1⟩ := (ha.below hbel).at hin
            have g1 := hc1 (I + t) hin
            have hx01 := hb (I + t)
            obtain ⟨x, hx⟩ : ∃ x, x = zs.getD (I + t) 0 := ⟨_, rfl⟩
            rw [← hx] at g1 hx01 hnext
            have HX : Hid (x = zs.getD (I + t) 0) := hx
            clear hc1 hx
            go_wp2
            go_round
            case rel => exact ⟨t + 1, q * 2 + x, by omega, by omega, by omega, by go_num, rfl, by unfold Hid; rw [num, ← HQ.out, ← HX.out]; omega⟩
            case measure => simp [intOf]; omega
          · have HX : Hid (zs.getD (I + t) 0 = 0) := by
              show _ = _
              rw [List.getD_eq_getElem?_getD, List.getElem?_eq_none (by omega)]; rfl
            rw [HX.out] at hnext
            go_wp2
            go_round
            case rel => exact ⟨t + 1, q * 2, by omega, by omega, by omega, by go_num, rfl, by unfold Hid; rw [num, ← HQ.out, HX.out]; omega⟩
            case measure => simp [intOf]; omega
        · obtain rfl : t = 8 := by omega
          have hj : j < (zs.length + 7) / 8 := by have := HI.out; omega
          go_wp2_with (at_builtin; refine wpList_push w.heap.size w q hown rfl _ _ rfl rfl rfl (by rw [packUpto_length]; omega) hbel hbel.size ?_)
          intro v' w1 hown' hbel'
          rw [HQ.out, HI.out.1, ← packUpto_succ] at hown'
          clear hown hbel
          go_wp2
          go_roundw
          case rel => exact ⟨j + 1, I + 8, ⟨by have := HI.out; omega, hj⟩, by omega, by go_num, hown', hbel'⟩
          case measure => simp [intOf]; omega
    · rw [packUpto_all zs j (by have := HI.out; omega) HI.out.2] at hown
      obtain ⟨a', c', rfl, _⟩ := hown.shape
      have hcv := conv_rd hown.rd c'
      go_wp2
      go_ret
      exact ⟨rfl, hbel⟩
end Go.Proofs.Ytojpmjfhomhbdaa
