import Derived.Test.YtbmdjfolfmgmmagPlain
namespace Go.Proofs.Ytbmdjfolfmgmmag
open Go.ChangeShapes Go.WideShapes Go.ChangeAt Go.RowKit

set_option maxHeartbeats 400000 in
theorem check_any (zs : List Int) (a : Option Addr) (c : Nat) (w : World) (ha : Rd .u8 w a zs) (hz : zs.length ≤ maxLen) :
    Calls Try.prog 49 #[.slice a zs.length c] w fun e w' => e = .returned (.int .i64 (errOf zs)) ∧ w = w' := by
  unfold maxLen at hz
  go_enter Try.func49, Try.ntmps49
  go_wp2
  go_loop [7] (fun i => ∃ k : Nat, k ≤ zs.length ∧ i = .int .i64 k ∧ Hid (Okay zs k)) (fun i => zs.length - (intOf i).toNat)
  case atStart => exact ⟨0, Nat.zero_le _, rfl, fun j hj => by omega⟩
  case round =>
    obtain ⟨k, hk, rfl, hok⟩ := hrel
    by_cases hlt : k < zs.length
    · obtain ⟨b1, o1, rfl, hc1⟩ := ha.at hlt
      have g1 := hc1 k hlt
      clear hc1
      obtain ⟨x, hx⟩ : ∃ x, x = zs.getD k 0 := ⟨_, rfl⟩
      rw [← hx] at g1
      have HX : Hid (x = zs.getD k 0) := hx
      clear hx
      by_cases h1 : x ≤ 1
      · go_wp2
        go_round
        case rel => exact ⟨k + 1, by omega, by go_num, hok.out.succ (HX.out ▸ h1)⟩
        case measure => simp [intOf]; omega
      · go_wp2
        go_ret
        exact ⟨ret_int (err_bad (k := k) (by rw [← HX.out]; omega)).symm, rfl⟩
    · have hkl : k = zs.length := by omega
      subst hkl
      by_cases hl : 4096 < zs.length
      · go_wp2
        go_ret
        exact ⟨ret_int (err_long hok.out hl).symm, rfl⟩
      · go_wp2
        go_ret
        exact ⟨ret_int (err_none hok.out hl).symm, rfl⟩

end Go.Proofs.Ytbmdjfolfmgmmag
