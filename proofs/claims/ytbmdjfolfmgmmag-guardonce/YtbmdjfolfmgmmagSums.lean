import Derived.Test.YtbmdjfolfmgmmagDiv
namespace Go.Proofs.Ytbmdjfolfmgmmag
open Go.ChangeShapes Go.WideShapes Go.ChangeAt Go.RowKit

/-- The sum of bits, of a kind. -/
def ksum (zs : List Int) (k : Int) : List Int := sumL (kW k) (kP k) zs

set_option maxHeartbeats 1000000 in
theorem sum_err (zs : List Int) (k : Int) (a : Option Addr) (c : Nat) (w : World) (ha : Rd .u8 w a zs) (hz : zs.length ≤ maxLen) (h : errSum zs k ≠ 0) :
    Calls Try.prog 40 #[.slice a zs.length c, .int .i64 k] w fun e w' => e = .returned (.tuple #[.slice none 0 0, .int .i64 (errSum zs k)]) ∧ Below w.heap.size w w' := by
  have hne : (errSum zs k != 0) = true := by simpa using h
  go_enter Try.func40, Try.ntmps40
  go_wp2_with fail
  refine (checksum_err zs k a c _ ha hz h).mono ?_
  rintro e w1 ⟨rfl, hb⟩
  clear h
  go_wp2
  go_ret2
  exact ⟨rfl, hb.alloc hb.size _⟩

set_option maxHeartbeats 1000000 in
theorem sum_ok (zs : List Int) (k : Int) (a : Option Addr) (c : Nat) (w : World) (ha : Rd .u8 w a zs) (hy : Bytes zs) (h : errSum zs k = 0) :
    Calls Try.prog 40 #[.slice a zs.length c, .int .i64 k] w fun e w' => ∃ v, e = .returned (.tuple #[v, .int .i64 0]) ∧ Own w' w.heap.size v (ksum zs k) ∧ Below w.heap.size w w' := by
  obtain ⟨he, hk⟩ := errSum_ok h
  obtain ⟨hD, hW1, hW, hR⟩ := kind_div hk
  have hb : Bits zs := fun j => ⟨(hy.at j).1, (err_zero he).1 j⟩
  have hz := (err_zero he).2
  have HE : Hid (errOf zs = 0) := he
  have HK : Hid (isKind k = true) := hk
  clear h hy he hk
  unfold ksum kP
  unfold kP at hD
  go_enter Try.func40, Try.ntmps40
  go_wp2_with fail
  refine (checksum_ok zs k a c _ ha (by unfold maxLen; omega) HE.out HK.out).mono ?_
  rintro e w1 ⟨rfl, hb1⟩
  have ha1 := ha.below hb1
  go_wp2_with fail
  refine (sum_any (kW k) (kR k) zs a c _ (ha1.below ((Below.refl _ _).alloc (Nat.le_refl _) _)) hb hz hD hW1 hW hR).mono ?_
  rintro e w2 ⟨v, rfl, hown, hb2⟩
  have hb3 := bthen hb1 (bthen ((Below.refl _ _).alloc (Nat.le_refl _) _) hb2)
  go_wp2
  go_ret2
  refine ⟨v, rfl, hown.mono ?_, hb3⟩
  have := hb1.size
  simp
  omega
end Go.Proofs.Ytbmdjfolfmgmmag
