import Derived.Test.YtbmdjfolfmgmmagPush
namespace Go.Proofs.Ytbmdjfolfmgmmag
open Go.ChangeShapes Go.WideShapes Go.ChangeAt Go.RowKit

/-- Two lists of bits, added place by place (as bytes are). -/
def addTo (xs ys : List Int) (k : Nat) : List Int := (List.range k).map fun i => (xs.getD i 0 + ys.getD i 0) % 2
theorem addTo_length (xs ys : List Int) (k : Nat) : (addTo xs ys k).length = k := by simp [addTo]
theorem addTo_succ (xs ys : List Int) (k : Nat) : addTo xs ys (k + 1) = addTo xs ys k ++ [(xs.getD k 0 + ys.getD k 0) % 2] := by simp [addTo, List.range_succ]

set_option maxHeartbeats 1000000 in
theorem added_any (xs ys : List Int) (a b : Option Addr) (ca cb m : Nat) (w : World) (ha : Rd .u8 w a xs) (hb : Rd .u8 w b ys) (hx : Bits xs) (hy : Bits ys) (hl : ys.length = m) (hm : xs.length ≤ m) (hz : m ≤ 4096) :
    Calls Try.prog 43 #[.slice a xs.length ca, .slice b m cb] w fun e w' => ∃ v, e = .returned v ∧ Own w' w.heap.size v (addTo xs ys xs.length) ∧ Below w.heap.size w w' := by
  have HL := hid hl
  clear hl
  go_enter Try.func43, Try.ntmps43
  go_wp2
  go_loopw [5, 6] (fun v i wr => ∃ k : Nat, k ≤ xs.length ∧ i = .int .i64 k ∧ Own wr w.heap.size v (addTo xs ys k) ∧ Below w.heap.size w wr) (fun _ i _ => xs.length - (intOf i).toNat)
  case atStart => exact ⟨0, Nat.zero_le _, rfl, Own.nil _ _, Below.refl _ _⟩
  case round =>
    obtain ⟨k, hk, rfl, hown, hbel⟩ := hrel
    have hsz := hbel.size
    by_cases hlt : k < xs.length
    · obtain ⟨b1, o1, rfl, hc1⟩ := (ha.below hbel).at hlt
      obtain ⟨b2, o2, rfl, hc2⟩ := (hb.below hbel).at (i := k) (by rw [HL.out]; omega)
      have g1 := hc1 k hlt
      have g2 := hc2 k (by rw [HL.out]; omega)
      have bx := hx k
      have by' := hy k
      clear hc1 hc2
      obtain ⟨x, ex⟩ : ∃ x, x = xs.getD k 0 := ⟨_, rfl⟩
      obtain ⟨y, ey⟩ : ∃ y, y = ys.getD k 0 := ⟨_, rfl⟩
      rw [← ex] at g1 bx
      rw [← ey] at g2 by'
      have EX := hid ex
      have EY := hid ey
      clear ex ey
      have hkm : (k : Int) < (m : Int) := by omega
      have hwr : IntKind.u8.wrap (x + y) = x + y := by rw [IntKind.wrap_u8']; omega
      have htm : (x + y).tmod 2 = (x + y) % 2 := Int.tmod_eq_emod_of_nonneg (by omega)
      go_wp2_with fail
      go_region_law (refine step_push w.heap.size w wr.heap.size ((x + y) % 2) (show Own (wr.alloc (.cells #[.int .u8 ((x + y) % 2)] 5)).drew _ _ _ from World.ownsRow.alloc hown _) rfl (.tmp 13) (.tmp 24) rfl rfl rfl (cell_one _ _ _) (by rw [addTo_length]; omega) (hbel.alloc hsz _).drew (by simp; omega) ?_; intro v' w1 hown' hbel')
      all_goals
        rw [EX.out, EY.out, ← addTo_succ] at hown'
        clear hown hbel
        go_wp2
        go_roundw
        case rel => exact ⟨k + 1, by omega, by go_num, hown', hbel'⟩
        case measure => simp [intOf]; omega
    · go_wp2
      go_ret
      obtain rfl : k = xs.length := by omega
      exact ⟨_, rfl, hown, hbel⟩
end Go.Proofs.Ytbmdjfolfmgmmag
