import Derived.Test.YtdndeegpbjlibacPlain
namespace Go.Proofs.Ytdndeegpbjlibac
open Go.ChangeShapes Go.WideShapes Go.ChangeAt Go.RowKit

set_option maxHeartbeats 400000 in
theorem check_any (zs : List Int) (a : Option Addr) (c : Nat) (w : World) (ha : Rd .u8 w a zs) (hz : zs.length ≤ maxLen) :
    Calls Try.prog 19 #[.slice a zs.length c] w fun e w' => e = .returned (.int .i64 (errOf zs)) ∧ w = w' := by
  unfold maxLen at hz
  go_enter Try.func19, Try.ntmps19
  go_wp2
  go_loop [7] (fun i => ∃ k : Nat, k ≤ zs.length ∧ i = .int .i64 k ∧ Hid (Okay zs k)) (fun i => zs.length - (intOf i).toNat)
  case atStart => exact ⟨0, Nat.zero_le _, rfl, fun j hj => by omega⟩
  case round =>
    obtain ⟨k, hk, rfl, hok⟩ := hrel
    by_cases hlt : k < zs.length
    · obtain ⟨b1, o1, rfl, hc1⟩ := ha.at hlt
      have g1 := hc1 k hlt
      clear hc1
      obtain ⟨x, hx⟩ : ∃ x, x = zs.getD k 0 := ⟨_, rfl⟩
      rw [← hx] at g1
      have HX : Hid (x = zs.getD k 0) := hx
      clear hx
      by_cases h1 : x ≤ 1
      · go_wp2
        go_round
        case rel => exact ⟨k + 1, by omega, by go_num, hok.out.succ (HX.out ▸ h1)⟩
        case measure => simp [intOf]; omega
      · go_wp2
        go_ret
        exact ⟨ret_int (err_bad (k := k) (by rw [← HX.out]; omega)).symm, rfl⟩
    · have hkl : k = zs.length := by omega
      subst hkl
      by_cases hl : 4096 < zs.length
      · go_wp2
        go_ret
        exact ⟨ret_int (err_long hok.out hl).symm, rfl⟩
      · go_wp2
        go_ret
        exact ⟨ret_int (err_none hok.out hl).symm, rfl⟩

set_option maxHeartbeats 400000 in
theorem rbits_any (zs : List Int) (a : Option Addr) (c : Nat) (w : World) (ha : Rd .u8 w a zs) (hz : zs.length ≤ maxLen) (hy : Bytes zs) :
    Calls Try.prog 6 #[.slice a zs.length c] w fun e w' => e = .returned (.int .i64 (errOf zs)) ∧ w = w' := by
  unfold maxLen at hz
  go_enter Try.func6, Try.ntmps6
  go_wp2
  go_loop [3] (fun i => ∃ k : Nat, k ≤ zs.length ∧ i = .int .i64 k ∧ Hid (Okay zs k)) (fun i => zs.length - (intOf i).toNat)
  case atStart => exact ⟨0, Nat.zero_le _, rfl, fun j hj => by omega⟩
  case round =>
    obtain ⟨k, hk, rfl, hok⟩ := hrel
    by_cases hlt : k < zs.length
    · obtain ⟨b1, o1, rfl, hc1⟩ := ha.at hlt
      have g1 := hc1 k hlt
      have hb := hy.at k
      clear hc1 hy
      obtain ⟨x, hx⟩ : ∃ x, x = zs.getD k 0 := ⟨_, rfl⟩
      rw [← hx] at g1 hb
      have HX : Hid (x = zs.getD k 0) := hx
      clear hx
      by_cases h0 : x = 0
      · subst h0
        go_wp2
        go_round
        case rel => exact ⟨k + 1, by omega, by go_num, hok.out.succ (by rw [← HX.out]; decide)⟩
        case measure => simp [intOf]; omega
      · have n0 : (x != 0) = true := by simp [h0]
        clear h0
        by_cases h1 : x = 1
        · subst h1
          go_wp2
          go_round
          case rel => exact ⟨k + 1, by omega, by go_num, hok.out.succ (by rw [← HX.out]; decide)⟩
          case measure => simp [intOf]; omega
        · have n1 : (x != 1) = true := by simp [h1]
          have hbig : ¬ x ≤ 1 := by simp at n0; omega
          clear h1
          go_wp2
          go_ret
          exact ⟨ret_int (err_bad (k := k) (by rw [← HX.out]; omega)).symm, rfl⟩
    · have hkl : k = zs.length := by omega
      subst hkl
      by_cases hl : 4096 < zs.length
      · go_wp2
        go_ret
        exact ⟨ret_int (err_long hok.out hl).symm, rfl⟩
      · go_wp2
        go_ret
        exact ⟨ret_int (err_none hok.out hl).symm, rfl⟩
end Go.Proofs.Ytdndeegpbjlibac
