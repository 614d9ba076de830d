import Derived.Test.YtbmdjfolfmgmmagPlain
namespace Go.Proofs.Ytbmdjfolfmgmmag
open Go.ChangeShapes Go.WideShapes Go.ChangeAt Go.RowKit

/-- The byte at a place of a text. -/
def byteAt (s : ByteArray) (j : Nat) : Int := if h : j < s.size then (s[j].toNat : Int) else 0
/-- The bit at a place of a text: the first byte's highest place first. -/
def bitAt (s : ByteArray) (i : Nat) : Int := byteAt s (i / 8) / 2 ^ (7 - i % 8) % 2

theorem byteAt_eq (s : ByteArray) (j : Nat) (h : j < s.size) : byteAt s j = (s[j].toNat : Int) := by simp [byteAt, h]
theorem byteAt_bd (s : ByteArray) (j : Nat) : 0 ≤ byteAt s j ∧ byteAt s j ≤ 255 := by
  unfold byteAt
  split
  · have := s[j].toNat_lt; omega
  · omega
theorem bitAt_bd (s : ByteArray) (i : Nat) : 0 ≤ bitAt s i ∧ bitAt s i ≤ 1 := by unfold bitAt; omega

theorem half_step (m q : Int) (K r : Nat) (hr : r ≤ K) (h : q = m / 2 ^ (K - r)) : q / 2 = m / 2 ^ (K + 1 - r) := by
  rw [show K + 1 - r = (K - r) + 1 from by omega, Int.pow_succ, ← Int.ediv_ediv_of_nonneg (Int.pow_nonneg (by decide)), h]

theorem wrap64_byte (u : UInt8) : wrap64 (u.toNat : Int) = (u.toNat : Int) := by
  have := u.toNat_lt
  exact Go.IntWalk.wrap64_in _ (by omega)

theorem val_int {k : IntKind} {a b : Int} (h : a = b) : Value.int k a = Value.int k b := by rw [h]

set_option maxHeartbeats 400000 in
theorem bitat_any (s : ByteArray) (i : Nat) (w : World) (hs : i / 8 < s.size) (hm : s.size ≤ 140737488355328) :
    Calls Try.prog 54 #[.string s, .int .i64 i] w fun e w' => e = .returned (.int .u8 (bitAt s i)) ∧ w = w' := by
  have hi : (i : Int) / 8 < s.size := by omega
  have HB : Hid (byteAt s (i / 8) = (s[i / 8].toNat : Int)) := byteAt_eq s _ hs
  go_enter Try.func54, Try.ntmps54
  go_wp2
  go_loop [5, 6] (fun n k => ∃ K : Nat, ∃ q : Int, i % 8 ≤ K ∧ K ≤ 7 ∧ 0 ≤ q ∧ q ≤ 255 ∧ k = .int .i64 K ∧ n = .int .i64 q ∧ Hid (q = byteAt s (i / 8) / 2 ^ (K - i % 8))) (fun _ k => 7 - (intOf k).toNat)
  case atStart => exact ⟨i % 8, byteAt s (i / 8), by omega, by omega, (byteAt_bd _ _).1, (byteAt_bd _ _).2, by go_num, val_int (by rw [HB.out, wrap64_byte]), by unfold Hid; simp⟩
  case round =>
    obtain ⟨K, q, h1, h2, h3, h4, rfl, rfl, HQ⟩ := hrel
    by_cases hlt : K < 7
    · go_wp2
      go_round
      case rel => exact ⟨K + 1, q / 2, by omega, by omega, by omega, by omega, by go_num, rfl, half_step _ _ _ _ h1 HQ.out⟩
      case measure => simp [intOf]; omega
    · go_wp2
      go_ret
      have : K = 7 := by omega
      subst this
      exact ⟨ret_int (by unfold bitAt; rw [← HQ.out]), rfl⟩
end Go.Proofs.Ytbmdjfolfmgmmag
