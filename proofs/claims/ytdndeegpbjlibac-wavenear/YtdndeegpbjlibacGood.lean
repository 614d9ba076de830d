import Derived.Test.YtdndeegpbjlibacOwn
namespace Go.Proofs.Ytdndeegpbjlibac
open Go.ChangeShapes Go.WideShapes Go.ChangeAt Go.RowKit

def goodTo (zs : List Int) (k : Nat) : List Int := (zs.take k).map (· % 2)
theorem goodTo_succ (zs : List Int) (k : Nat) (h : k < zs.length) : goodTo zs (k + 1) = goodTo zs k ++ [zs.getD k 0 % 2] := by
  unfold goodTo
  rw [List.take_succ_eq_append_getElem h, List.map_append]
  simp [List.getD, h]
theorem goodTo_length (zs : List Int) (k : Nat) : (goodTo zs k).length = min k zs.length := by simp [goodTo]
theorem goodTo_bits (zs : List Int) (k : Nat) : Bits (goodTo zs k) := fun j => by
  by_cases h : j < (goodTo zs k).length
  · have : (goodTo zs k).getD j 0 ∈ goodTo zs k := by
      have e : (goodTo zs k).getD j 0 = (goodTo zs k)[j] := by simp [List.getD, h]
      rw [e]; exact List.getElem_mem h
    obtain ⟨x, _, hx⟩ := List.mem_map.1 this
    rw [← hx]
    omega
  · have : (goodTo zs k).getD j 0 = 0 := by simp only [List.getD, List.getElem?_eq_none (Nat.le_of_not_lt h)]; rfl
    rw [this]; omega

set_option maxHeartbeats 1000000 in
theorem good_any (zs : List Int) (m : Nat) (a : Option Addr) (c : Nat) (w : World) (ha : Rd .u8 w a zs) (hz : zs.length ≤ maxLen) (hy : Bytes zs) (hm : m ≤ 4096) :
    Calls Try.prog 16 #[.slice a zs.length c, .int .i64 m] w fun e w' => ∃ v, e = .returned v ∧ Own w' w.heap.size v (goodTo zs m) ∧ Below w.heap.size w w' := by
  unfold maxLen at hz
  go_enter Try.func16, Try.ntmps16
  go_wp2
  go_loopw [5, 6] (fun v i wr => ∃ k : Nat, k ≤ zs.length ∧ k ≤ m ∧ i = .int .i64 k ∧ Own wr w.heap.size v (goodTo zs k) ∧ Below w.heap.size w wr) (fun _ i _ => m - (intOf i).toNat)
  case atStart => exact ⟨0, Nat.zero_le _, Nat.zero_le _, rfl, Own.nil _ _, Below.refl _ _⟩
  case round =>
    obtain ⟨k, hk, hkm, rfl, hown, hbel⟩ := hrel
    have hsz := hbel.size
    by_cases h1 : k < zs.length
    · by_cases h2 : k < m
      · obtain ⟨b1, o1, rfl, hc1⟩ := (ha.below hbel).at h1
        have g1 := hc1 k h1
        have hb := hy.at k
        clear hc1
        obtain ⟨x, ex⟩ : ∃ x, x = zs.getD k 0 := ⟨_, rfl⟩
        rw [← ex] at g1 hb
        have EX := hid ex
        have HG := hid (goodTo_succ zs k h1)
        have HGL : Hid ((goodTo zs k).length < 70368744177664) := by
          unfold Hid
          have := goodTo_length zs k
          omega
        clear ex
        go_wp2_with (first | (at_builtin; refine wpList_push w.heap.size w (x % 2) hown rfl _ _ rfl rfl rfl HGL.out hbel hbel.size ?_))
        intro v' w1 hown' hbel'
        rw [EX.out, ← HG.out] at hown'
        clear hown hbel
        go_wp2
        go_roundw
        case rel => first | exact ⟨k + 1, by omega, by omega, by go_num, hown', hbel'⟩ | ((repeat apply Exists.intro); exact ⟨⟨k + 1, by omega, by omega, by go_num, hown', hbel'⟩, rfl⟩)
        case measure => simp [intOf]; omega
      · obtain rfl : k = m := by omega
        go_wp2
        go_ret
        exact ⟨_, rfl, hown, hbel⟩
    · obtain rfl : k = zs.length := by omega
      have HG : Hid (goodTo zs m = goodTo zs zs.length) := by
        unfold Hid goodTo
        rw [List.take_length, List.take_of_length_le hkm]
      go_wp2
      go_ret
      exact ⟨_, rfl, by rw [HG.out]; exact hown, hbel⟩
end Go.Proofs.Ytdndeegpbjlibac
