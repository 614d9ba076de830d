import Derived.Test.YtfbjedcfppghgacDoorDocP
import Derived.Test.YtfbjedcfppghgacDoorArr
import Derived.Test.YtfbjedcfppghgacDoorShelf
namespace Go.Proofs.YtfbjedcfppghgacDoor
open Go.ChangeShapes Go.WideShapes Go.ChangeAt Go.RowKit

/-! THE PROGRAM'S worthOf. -/

/-- The table of worths lies where it was laid. -/
def Wor (w : World) : Prop := ∃ T fr, w.heap[0]? = some (.cells (wTab.map (Value.int .i64)).toArray T fr)
theorem Wor.below {w w' : World} {B : Nat} (h : Wor w) (hb : Below B w w') (hB : 0 < B) : Wor w' := by
  obtain ⟨T, fr, e⟩ := h
  exact ⟨T, fr, (hb.block _ hB).trans e⟩
theorem Wor.lt {w : World} (h : Wor w) : 0 < w.heap.size := by
  obtain ⟨T, fr, e⟩ := h
  rcases Nat.lt_or_ge 0 w.heap.size with h | h
  · exact h
  · rw [Array.getElem?_eq_none h] at e; cases e

theorem and1_tab0 : ∀ q : Fin 512, bits BinOp.and IntKind.i64 (q.val : Int) 1 = ((q.val % 2 : Nat) : Int) := by decide +kernel
theorem and1_tab (p k : Nat) (hp : p < 512) : bits BinOp.and IntKind.i64 ((p : Int) / 2 ^ k) 1 = ((p / 2 ^ k % 2 : Nat) : Int) := by
  have hlt : p / 2 ^ k < 512 := Nat.lt_of_le_of_lt (Nat.div_le_self _ _) hp
  have := and1_tab0 ⟨p / 2 ^ k, hlt⟩
  rw [← this]
  simp

set_option maxHeartbeats 1000000 in
theorem worthOf_any (p : Nat) (w : World) (hp : p < 512) (hW : Wor w) :
    Calls Tryd.prog 16 #[.int .i64 p] w fun e w' => e = .returned (.int .i64 (worthI p)) ∧ w = w' := by
  obtain ⟨T, fr, hh⟩ := hW
  go_enter Tryd.func16, Tryd.ntmps16
  go_wp2_with (first | (refine wpList_load_row rfl 49 (.global 0) rfl 0 rfl T _ fr _ hh Tryd.underlying49 rfl (by kernel_rfl) ?_))
  go_loop [3, 7] (fun q3 q7 => ∃ k : Nat, k ≤ 9 ∧ q3 = .int .i64 (worthTo p k) ∧ q7 = .int .i64 k) (fun _ q7 => 9 - (intOf q7).toNat)
  case atStart => exact ⟨0, by omega, rfl, rfl⟩
  case round =>
    obtain ⟨k, hk, rfl, rfl⟩ := hrel
    by_cases hlt : k < 9
    · have ht := tab9 k hlt
      have hwb := worthTo_bd p k hk
      have HCS : Hid ((wTab.map (Value.int .i64)).toArray[k]? = some (.int .i64 (wTab.getD k 0))) := by
        unfold Hid
        have : k < wTab.length := by simpa [wTab] using hlt
        simp [List.getD, this]
      have HW := hid (show worthTo p (k + 1) = worthTo p k + if p / 2 ^ k % 2 = 1 then wTab.getD k 0 else 0 from rfl)
      have HA := hid (and1_tab p k hp)
      generalize wTab.getD k 0 = y at *
      generalize worthTo p k = z at *
      by_cases h1 : p / 2 ^ k % 2 = 1
      · have HZ : Hid (z + y = worthTo p (k + 1)) := by unfold Hid; rw [HW.out, if_pos h1]
        have hd : (bits BinOp.and IntKind.i64 ((p : Int) / 2 ^ k) 1 == 1) = true := by rw [HA.out, h1]; rfl
        clear HW h1 HA
        go_wp2_with (first | (refine wpList_index rfl 49 (.tmp 6) (.tmp 7) rfl 3 _ 9 k (.int .i64 y) (.int .i64) .i64 rfl rfl Tryd.underlying49 Tryd.underlying3 rfl (by kernel_rfl) hlt HCS.out ?_))
        go_round
        case rel => exact ⟨k + 1, by omega, by rw [← HZ.out], by go_num⟩
        case measure => simp [intOf]; omega
      · have HZ : Hid (z = worthTo p (k + 1)) := by unfold Hid; rw [HW.out, if_neg h1, Int.add_zero]
        have hd : (bits BinOp.and IntKind.i64 ((p : Int) / 2 ^ k) 1 == 1) = false := by rw [HA.out, show p / 2 ^ k % 2 = 0 by omega]; rfl
        clear HW h1 HA
        go_wp2_with (first | (refine wpList_index rfl 49 (.tmp 6) (.tmp 7) rfl 3 _ 9 k (.int .i64 y) (.int .i64) .i64 rfl rfl Tryd.underlying49 Tryd.underlying3 rfl (by kernel_rfl) hlt HCS.out ?_))
        go_round
        case rel => exact ⟨k + 1, by omega, by rw [← HZ.out], by go_num⟩
        case measure => simp [intOf]; omega
    · obtain rfl : k = 9 := by omega
      go_wp2
      go_ret
      exact ⟨rfl, rfl⟩
end Go.Proofs.YtfbjedcfppghgacDoor
