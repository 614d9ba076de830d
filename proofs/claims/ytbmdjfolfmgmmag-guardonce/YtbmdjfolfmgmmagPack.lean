import Derived.Test.YtbmdjfolfmgmmagPackM
import Derived.Test.YtbmdjfolfmgmmagCheck
import Derived.Test.YtbmdjfolfmgmmagOwn
namespace Go.Proofs.Ytbmdjfolfmgmmag
open Go.ChangeShapes Go.WideShapes Go.ChangeAt Go.RowKit

set_option maxRecDepth 100000 in
set_option maxHeartbeats 1000000 in
theorem pack_bad (zs : List Int) (a : Option Addr) (c : Nat) (w : World) (ha : Rd .u8 w a zs) (hz : zs.length ≤ maxLen) (he : errOf zs ≠ 0) :
    Calls Try.prog 39 #[.slice a zs.length c] w fun e w' => e = .returned (.tuple #[.string ByteArray.empty, .int .i64 (errOf zs)]) ∧ w = w' := by
  have hne : (errOf zs != 0) = true := by simpa using he
  clear he
  go_enter Try.func39, Try.ntmps39
  go_wp2_with (go_at_call 49; refine (check_any zs a c _ ha hz).mono ?_; rintro e w' ⟨rfl, rfl⟩)
  go_ret2
  exact ⟨rfl, rfl⟩

set_option maxRecDepth 100000 in
set_option maxHeartbeats 1000000 in
theorem pack_ok (zs : List Int) (a : Option Addr) (c : Nat) (w : World) (ha : Rd .u8 w a zs) (hb : Bits zs) (hz : zs.length ≤ 4096) (he : errOf zs = 0) :
    Calls Try.prog 39 #[.slice a zs.length c] w fun e w' => e = .returned (.tuple #[.string (strOfNums (packL zs)), .int .i64 0]) ∧ Below w.heap.size w w' := by
  have HE : Hid (errOf zs = 0) := he
  clear he
  go_enter Try.func39, Try.ntmps39
  go_wp2_with (first | (go_at_call 49; refine (check_any zs a c _ ha (by unfold maxLen; omega)).mono ?_; rintro e w' ⟨rfl, rfl⟩; rw [HE.out]) | (at_make; refine wpList_makeBytes w.heap.size w ((zs.length + 7) / 8) rfl _ _ rfl _ _ rfl rfl ?_ ?_ (by omega) (Below.refl _ _) (Nat.le_refl _) ?_))
  · omega
  · omega
  intro w1 hown1 hbel1 hsz1
  rw [← packTo_zero zs] at hown1
  obtain ⟨M, hM⟩ : ∃ M, M = (zs.length + 7) / 8 := ⟨_, rfl⟩
  rw [← hM] at hown1 ⊢
  have hM1 : M ≤ 513 := by omega
  have hM2 : zs.length ≤ 8 * M := by omega
  have HM : Hid (M = (zs.length + 7) / 8) := hM
  clear hM
  go_wp2
  go_loopw [20] (fun i wr => ∃ k : Nat, k ≤ zs.length ∧ i = .int .i64 k ∧ Own wr w.heap.size (.slice (some ⟨w.heap.size, 0, none⟩) M M) (packTo zs k) ∧ Below w.heap.size w wr) (fun i _ => zs.length - (intOf i).toNat)
  case atStart => exact ⟨0, Nat.zero_le _, rfl, hown1, hbel1⟩
  case round =>
    clear hown1 hbel1
    obtain ⟨k, hk, rfl, hown, hbel⟩ := hrel
    by_cases hlt : k < zs.length
    · have hll : (packTo zs k).length = M := hown.len
      have hk8 : k / 8 < M := by omega
      have hc := hown.cell (i := k / 8) (by omega)
      rw [packTo_getD zs k (k / 8) (by rw [← HM.out]; exact hk8)] at hc
      have hf := hown.free (k / 8)
      obtain ⟨b1, o1, rfl, hc1⟩ := (ha.below hbel).at hlt
      have g1 := hc1 k hlt
      clear hc1 hll
      have hor := or_step zs k hb _ _ rfl rfl
      obtain ⟨p, hp⟩ : ∃ p, p = byteTo zs k (k / 8) := ⟨_, rfl⟩
      obtain ⟨x, hx⟩ : ∃ x, x = zs.getD k 0 := ⟨_, rfl⟩
      have hx01 := hb k
      rw [← hp] at hc hor
      rw [← hx] at g1 hor hx01
      obtain ⟨hp0, hp1, hq0, hq1, hor'⟩ := hor
      have HOR : Hid (bits .or .u8 p (x * 2 ^ (7 - k % 8)) = byteTo zs (k + 1) (k / 8)) := hor'
      have hk8' : (k : Int) / 8 < M := by omega
      clear hp hx hor'
      go_wp2
      go_region
      go_wp2
      go_roundw
      case rel => exact ⟨k + 1, by omega, by go_num, (packTo_set zs k _ HOR.out ▸ hown.set (k / 8) _).drew, (hbel.setCell (Nat.le_refl _) _).drew⟩
      case measure => simp [intOf]; omega
    · obtain rfl : k = zs.length := by omega
      rw [packTo_all] at hown
      have hcv := conv_rd hown.rd M
      rw [hown.len] at hcv
      go_wp2
      go_ret2
      exact ⟨rfl, hbel⟩
end Go.Proofs.Ytbmdjfolfmgmmag
