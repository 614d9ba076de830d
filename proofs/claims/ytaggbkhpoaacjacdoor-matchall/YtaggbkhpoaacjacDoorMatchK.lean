import Derived.Test.YtaggbkhpoaacjacDoorInts
import Derived.Test.YtaggbkhpoaacjacDoorConvM
namespace Go.Proofs.YtaggbkhpoaacjacDoor
open Go.ChangeShapes Go.WideShapes Go.ChangeAt Go.RowKit

/-- Of any number of 64 bits the lowest i. -/
theorem and_low (x : Int) (i : Nat) (hi : i ≤ 62) : bits BinOp.and IntKind.i64 x (2 ^ i - 1) = x % 2 ^ i := by
  have hp : (0 : Int) < 2 ^ i := Int.pow_pos (by decide)
  have hle : (2 : Int) ^ i ≤ 2 ^ 62 := by exact_mod_cast Nat.pow_le_pow_right (by decide) hi
  have hnat : 2 ^ i - 1 < 2 ^ 64 := by
    have : 2 ^ i ≤ 2 ^ 62 := Nat.pow_le_pow_right (by decide) hi
    omega
  have hc : ((2 : Int) ^ i - 1) = ((2 ^ i - 1 : Nat) : Int) := by
    rw [Int.natCast_sub (Nat.two_pow_pos i)]; simp
  rw [hc]
  have hb : bits BinOp.and IntKind.i64 x ((2 ^ i - 1 : Nat) : Int) = IntKind.i64.wrap (((x % ((2 ^ 64 : Nat) : Int)).toNat % 2 ^ i : Nat) : Int) := by
    have e1 : (BitVec.ofInt 64 x &&& BitVec.ofInt 64 ((2 ^ i - 1 : Nat) : Int)).toNat = (x % ((2 ^ 64 : Nat) : Int)).toNat % 2 ^ i := by
      rw [BitVec.toNat_and, BitVec.ofInt_natCast, BitVec.toNat_ofNat, BitVec.toNat_ofInt, Nat.mod_eq_of_lt hnat, Nat.and_two_pow_sub_one_eq_mod]
    exact congrArg (fun n : Nat => IntKind.i64.wrap (n : Int)) e1
  rw [hb]
  have h0 : 0 ≤ x % ((2 ^ 64 : Nat) : Int) := Int.emod_nonneg _ (by decide)
  have e : (((x % ((2 ^ 64 : Nat) : Int)).toNat % 2 ^ i : Nat) : Int) = x % 2 ^ i := by
    rw [Int.natCast_emod, Int.toNat_of_nonneg h0]
    have hd : ((2 ^ i : Nat) : Int) ∣ ((2 ^ 64 : Nat) : Int) := Int.natCast_dvd_natCast.2 (Nat.pow_dvd_pow 2 (by omega))
    rw [Int.emod_emod_of_dvd _ hd]
    simp
  rw [e, IntKind.wrap_i64]
  have h1 := Int.emod_nonneg x (Int.ne_of_gt hp)
  have h2 := Int.emod_lt_of_pos x hp
  omega

def smallTo (zs : List Int) (k : Nat) : List Int := (zs.take k).map fun x => 1 + x % 4
theorem smallTo_succ (zs : List Int) (k : Nat) (h : k < zs.length) : smallTo zs (k + 1) = smallTo zs k ++ [1 + zs.getD k 0 % 4] := by
  unfold smallTo
  rw [List.take_succ_eq_append_getElem h, List.map_append]
  simp [List.getD, h]
theorem smallTo_length (zs : List Int) (k : Nat) : (smallTo zs k).length = min k zs.length := by simp [smallTo]
theorem smallTo_bd (zs : List Int) (k j : Nat) (hj : j < (smallTo zs k).length) : 1 ≤ (smallTo zs k).getD j 0 ∧ (smallTo zs k).getD j 0 ≤ 4 := by
  have : (smallTo zs k).getD j 0 ∈ smallTo zs k := by
    have e : (smallTo zs k).getD j 0 = (smallTo zs k)[j] := by simp [List.getD, hj]
    rw [e]; exact List.getElem_mem hj
  obtain ⟨x, _, hx⟩ := List.mem_map.1 this
  rw [← hx]
  omega

set_option maxHeartbeats 1000000 in
theorem small_any (zs : List Int) (a : Option Addr) (c : Nat) (w : World) (ha : Rd .i64 w a zs) (hz : zs.length ≤ 17592186044416) :
    Calls Tryd.prog 25 #[.slice a zs.length c] w fun e w' => ∃ v, e = .returned v ∧ OwnI w' w.heap.size v (smallTo zs zs.length) ∧ Below w.heap.size w w' := by
  go_enter Tryd.func25, Tryd.ntmps25
  go_wp2
  go_loopw [3, 4] (fun v i wr => ∃ k : Nat, k ≤ zs.length ∧ i = .int .i64 k ∧ OwnI wr w.heap.size v (smallTo zs k) ∧ Below w.heap.size w wr) (fun _ i _ => zs.length - (intOf i).toNat)
  case atStart => exact ⟨0, Nat.zero_le _, rfl, OwnI.nil _ _, Below.refl _ _⟩
  case round =>
    obtain ⟨k, hk, rfl, hown, hbel⟩ := hrel
    have hsz := hbel.size
    by_cases h1 : k < zs.length
    · obtain ⟨b1, o1, rfl, hc1⟩ := (ha.below hbel).at h1
      have g1 := hc1 k h1
      clear hc1
      obtain ⟨x, ex⟩ : ∃ x, x = zs.getD k 0 := ⟨_, rfl⟩
      rw [← ex] at g1
      have EX := hid ex
      have HG := hid (smallTo_succ zs k h1)
      have HGL : Hid ((smallTo zs k).length < 17592186044416) := by
        unfold Hid
        have := smallTo_length zs k
        omega
      have e3 : bits BinOp.and IntKind.i64 x 3 = x % 4 := and_low x 2 (by decide)
      have hm : 0 ≤ x % 4 ∧ x % 4 < 4 := by omega
      obtain ⟨y, ey⟩ : ∃ y, y = x % 4 := ⟨_, rfl⟩
      rw [← ey] at e3 hm
      have EY := hid ey
      clear ex ey
      go_wp2_with (first | (at_builtin; refine wpList_pushL w.heap.size w (1 + y) hown rfl _ _ rfl rfl rfl HGL.out hbel hbel.size ?_))
      intro v' w1 hown' hbel'
      rw [EY.out, EX.out, ← HG.out] at hown'
      clear hown hbel
      go_wp2
      go_roundw
      case rel => first | exact ⟨k + 1, by omega, by go_num, hown', hbel'⟩ | ((repeat apply Exists.intro); exact ⟨⟨k + 1, by omega, by go_num, hown', hbel'⟩, rfl⟩)
      case measure => simp [intOf]; omega
    · obtain rfl : k = zs.length := by omega
      go_wp2
      go_ret
      exact ⟨_, rfl, hown, hbel⟩
end Go.Proofs.YtaggbkhpoaacjacDoor
