import Derived.Test.YtbmdjfolfmgmmagAdded
import Derived.Test.YtbmdjfolfmgmmagNoiseG
namespace Go.Proofs.Ytbmdjfolfmgmmag
open Go.ChangeShapes Go.WideShapes Go.ChangeAt Go.RowKit

/-- A row of noise, its first k places covered. -/
def coverTo (zs ns : List Int) (k : Nat) : List Int := (List.range ns.length).map fun j => if j < k then (zs.getD j 0 + ns.getD j 0) % 2 else ns.getD j 0
theorem coverTo_length (zs ns : List Int) (k : Nat) : (coverTo zs ns k).length = ns.length := by simp [coverTo]
theorem coverTo_zero (zs ns : List Int) : coverTo zs ns 0 = ns := by
  refine List.ext_getElem (by simp [coverTo]) fun j h1 h2 => ?_
  simp [coverTo, List.getD, h2]
theorem coverTo_all (zs ns : List Int) : coverTo zs ns ns.length = addTo zs ns ns.length := by
  unfold coverTo addTo
  refine List.map_congr_left fun j hj => ?_
  rw [if_pos (List.mem_range.1 hj)]
theorem coverTo_getD (zs ns : List Int) (k : Nat) (h : k < ns.length) : (coverTo zs ns k).getD k 0 = ns.getD k 0 := by simp [coverTo, List.getD, h]
theorem coverTo_set (zs ns : List Int) (k : Nat) (x : Int) (hx : x = (zs.getD k 0 + ns.getD k 0) % 2) : (coverTo zs ns k).set k x = coverTo zs ns (k + 1) := by
  refine List.ext_getElem (by simp [coverTo]) fun j h1 h2 => ?_
  rw [List.getElem_set]
  split
  · rename_i e
    subst e
    simp only [coverTo, List.getElem_map, List.getElem_range]
    rw [if_pos (by omega), hx]
  · rename_i e
    simp only [coverTo, List.getElem_map, List.getElem_range]
    by_cases hj : j < k
    · rw [if_pos hj, if_pos (by omega)]
    · rw [if_neg hj, if_neg (by omega)]

theorem xor_bits (a b : Int) (ha : 0 ≤ a ∧ a ≤ 1) (hb : 0 ≤ b ∧ b ≤ 1) : bits .xor .u8 a b = (b + a) % 2 := by
  rcases (show a = 0 ∨ a = 1 by omega) with rfl | rfl <;> rcases (show b = 0 ∨ b = 1 by omega) with rfl | rfl <;> decide

theorem noise_bits (s n : Nat) : Bits (noiseTo s n) := fun k => by
  by_cases h : k < n
  · have : (noiseTo s n).getD k 0 = noiseAt s k := by simp [noiseTo, List.getD, h]
    rw [this]; exact b2i_bd _
  · have : (noiseTo s n).getD k 0 = 0 := by simp [noiseTo, List.getD, h]
    rw [this]; omega

/-- What is wrong with bits and a seed. -/
def errCover (zs : List Int) (s : Int) : Int := if errOf zs = 0 then (if seedOk s then 0 else 1) else errOf zs

set_option maxRecDepth 100000 in
set_option maxHeartbeats 1000000 in
theorem cover_bits (zs : List Int) (s : Int) (a : Option Addr) (c : Nat) (w : World) (ha : Rd .u8 w a zs) (hz : zs.length ≤ maxLen) (he : errOf zs ≠ 0) :
    Calls Try.prog 36 #[.slice a zs.length c, .int .i64 s] w fun e w' => e = .returned (.tuple #[.slice none 0 0, .int .i64 (errOf zs)]) ∧ w = w' := by
  have hne : (errOf zs != 0) = true := by simpa using he
  clear he
  go_enter Try.func36, Try.ntmps36
  go_wp2_with fail
  refine (check_any zs a c _ ha hz).mono ?_
  rintro e w1 ⟨rfl, rfl⟩
  go_wp2
  go_ret2
  exact ⟨rfl, rfl⟩

set_option maxRecDepth 100000 in
set_option maxHeartbeats 1000000 in
theorem cover_seed (zs : List Int) (s : Int) (a : Option Addr) (c : Nat) (w : World) (ha : Rd .u8 w a zs) (hz : zs.length ≤ maxLen) (he : errOf zs = 0) (hs : seedOk s = false) :
    Calls Try.prog 36 #[.slice a zs.length c, .int .i64 s] w fun e w' => e = .returned (.tuple #[.slice none 0 0, .int .i64 1]) ∧ w = w' := by
  have HE := hid he
  have hn : noiseOk s zs.length = false := by unfold noiseOk; rw [hs]; rfl
  have HN := hid hn
  clear he hn hs
  go_enter Try.func36, Try.ntmps36
  go_wp2_with fail
  refine (check_any zs a c _ ha hz).mono ?_
  rintro e w1 ⟨rfl, rfl⟩
  rw [HE.out]
  go_wp2_with fail
  refine (noise_bad s zs.length _ HN.out).mono ?_
  rintro e w1 ⟨rfl, rfl⟩
  go_wp2
  go_ret2
  exact ⟨rfl, rfl⟩

set_option maxRecDepth 100000 in
set_option maxHeartbeats 1000000 in
theorem cover_ok (zs : List Int) (s : Nat) (a : Option Addr) (c : Nat) (w : World) (ha : Rd .u8 w a zs) (hb : Bits zs) (he : errOf zs = 0) (hs : s < 2147483648) :
    Calls Try.prog 36 #[.slice a zs.length c, .int .i64 s] w fun e w' => ∃ v, e = .returned (.tuple #[v, .int .i64 0]) ∧ Own w' w.heap.size v (addTo zs (noiseTo s zs.length) zs.length) ∧ Below w.heap.size w w' := by
  have hz := (err_zero he).2
  have HE := hid he
  have hnb := noise_bits s zs.length
  have HNL := hid (noiseTo_length s zs.length)
  clear he
  go_enter Try.func36, Try.ntmps36
  go_wp2_with fail
  refine (check_any zs a c _ ha (by unfold maxLen; omega)).mono ?_
  rintro e w1 ⟨rfl, rfl⟩
  rw [HE.out]
  go_wp2_with fail
  refine (noise_ok s zs.length _ hs hz).mono ?_
  rintro e w1 ⟨v1, rfl, hown1, hb1⟩
  obtain ⟨a1, c1, rfl, hne1, -⟩ := hown1.shape
  rw [HNL.out]
  rw [HNL.out, ← coverTo_zero zs (noiseTo s zs.length)] at hown1
  have ha1 := ha.below hb1
  generalize hns : noiseTo s zs.length = ns at *
  have HNS := hid hns
  clear hns
  go_wp2
  go_loopw [28] (fun i wr => ∃ k : Nat, k ≤ zs.length ∧ i = .int .i64 k ∧ Own wr w.heap.size (.slice a1 zs.length c1) (coverTo zs ns k) ∧ Below w.heap.size w wr) (fun i _ => zs.length - (intOf i).toNat)
  case atStart => exact ⟨0, Nat.zero_le _, rfl, hown1, hb1⟩
  case round =>
    clear hown1
    obtain ⟨k, hk, rfl, hown, hbel⟩ := hrel
    by_cases hlt : k < zs.length
    · obtain ⟨g, rfl⟩ := hne1 (by intro e; have := HNL.out; rw [e] at this; simp at this; omega)
      obtain ⟨b2, o2, rfl, hc2⟩ := (ha.below hbel).at hlt
      have g2 := hc2 k hlt
      have hll : (coverTo zs ns k).length = zs.length := hown.len
      have hc := hown.cell (i := k) (by omega)
      rw [coverTo_getD zs ns k (by rw [HNL.out]; exact hlt)] at hc
      have hf := hown.free k
      have bx := hb k
      have bn := hnb k
      clear hll hc2
      obtain ⟨x, ex⟩ : ∃ x, x = zs.getD k 0 := ⟨_, rfl⟩
      obtain ⟨y, ey⟩ : ∃ y, y = ns.getD k 0 := ⟨_, rfl⟩
      rw [← ex] at g2 bx
      rw [← ey] at hc bn
      have EX := hid ex
      have EY := hid ey
      clear ex ey
      go_wp2
      have hset := coverTo_set zs ns k (bits .xor .u8 y x) (by rw [xor_bits y x bn bx, ← EX.out, ← EY.out])
      go_roundw
      case rel => exact ⟨k + 1, by omega, by go_num, hset ▸ hown.set k _, hbel.setCell hown.block.1 _⟩
      case measure => simp [intOf]; omega
    · go_wp2
      go_ret2
      obtain rfl : k = zs.length := by omega
      refine ⟨_, rfl, ?_, hbel⟩
      have e1 : ns.length = zs.length := HNL.out
      have e2 := coverTo_all zs ns
      rw [e1] at e2
      rw [e2] at hown
      rw [HNS.out]
      exact hown
end Go.Proofs.Ytbmdjfolfmgmmag
