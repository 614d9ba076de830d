import Derived.Test.YtojpmjfhomhbdaaBitAt
import Derived.Test.YtojpmjfhomhbdaaOwn
namespace Go.Proofs.Ytojpmjfhomhbdaa
open Go.ChangeShapes Go.WideShapes Go.ChangeAt Go.RowKit

/-- The first n bits of a text. -/
def unpackTo (s : ByteArray) (n : Nat) : List Int := (List.range n).map (bitAt s)
/-- What is wrong with asking for n bits of a text. -/
def unpackErr (s : ByteArray) (n : Int) : Int := if n < 0 ∨ 8 * (s.size : Int) < n then 1 else if 4096 < n then 2 else 0
def unpackL (s : ByteArray) (n : Int) : List Int := if unpackErr s n = 0 then unpackTo s n.toNat else []

theorem unpackTo_succ (s : ByteArray) (n : Nat) : unpackTo s (n + 1) = unpackTo s n ++ [bitAt s n] := by simp [unpackTo, List.range_succ]
theorem unpackTo_length (s : ByteArray) (n : Nat) : (unpackTo s n).length = n := by simp [unpackTo]

set_option maxHeartbeats 1000000 in
theorem runpack_any (s : ByteArray) (n : Int) (w : World) (hm : s.size ≤ 140737488355328) :
    Calls Try.prog 14 #[.string s, .int .i64 n] w fun e w' => ∃ v, e = .returned (.tuple #[v, .int .i64 (unpackErr s n)]) ∧ Own w' w.heap.size v (unpackL s n) ∧ Below w.heap.size w w' := by
  by_cases h1 : n < 0
  · have he : unpackErr s n = 1 := by unfold unpackErr; rw [if_pos (.inl h1)]
    have hL : unpackL s n = [] := by unfold unpackL; rw [he]; rfl
    rw [he, hL]
    go_enter Try.func14, Try.ntmps14
    go_wp2
    go_ret2
    exact ⟨_, rfl, Own.nil _ _, Below.refl _ _⟩
  · have h1' : decide (n < 0) = false := by simpa using h1
    by_cases h2 : 8 * (s.size : Int) < n
    · have he : unpackErr s n = 1 := by unfold unpackErr; rw [if_pos (.inr h2)]
      have hL : unpackL s n = [] := by unfold unpackL; rw [he]; rfl
      rw [he, hL]
      go_enter Try.func14, Try.ntmps14
      go_wp2
      go_ret2
      exact ⟨_, rfl, Own.nil _ _, Below.refl _ _⟩
    · have h2' : decide (8 * (s.size : Int) < n) = false := by simpa using h2
      by_cases h3 : 4096 < n
      · have he : unpackErr s n = 2 := by unfold unpackErr; rw [if_neg (by omega), if_pos h3]
        have hL : unpackL s n = [] := by unfold unpackL; rw [he]; rfl
        rw [he, hL]
        go_enter Try.func14, Try.ntmps14
        go_wp2
        go_ret2
        exact ⟨_, rfl, Own.nil _ _, Below.refl _ _⟩
      · have he : unpackErr s n = 0 := by unfold unpackErr; rw [if_neg (by omega), if_neg h3]
        have hL : unpackL s n = unpackTo s n.toNat := by unfold unpackL; rw [if_pos he]
        rw [he, hL]
        clear hL he
        obtain ⟨N, rfl⟩ := Int.eq_ofNat_of_zero_le (show 0 ≤ n by omega)
        rw [Int.toNat_natCast]
        go_enter Try.func14, Try.ntmps14
        go_wp2
        go_loopw [6, 7] (fun v i wr => ∃ k : Nat, k ≤ N ∧ i = .int .i64 k ∧ Own wr w.heap.size v (unpackTo s k) ∧ Below w.heap.size w wr) (fun _ i _ => N - (intOf i).toNat)
        case atStart => exact ⟨0, Nat.zero_le _, rfl, Own.nil _ _, Below.refl _ _⟩
        case round =>
          obtain ⟨k, hk, rfl, hown, hbel⟩ := hrel
          have hsz := hbel.size
          have hln := unpackTo_length s k
          have HL : Hid ((unpackTo s k).length = k) := hln
          clear hln
          by_cases hlt : k < N
          · go_wp2_with (first | (go_at_call 27; refine (bitat_any s k _ (by omega) hm).mono ?_; rintro e w' ⟨rfl, rfl⟩) | (at_builtin; go_must (refine wpList_push w.heap.size w (bitAt s k) hown rfl _ _ rfl rfl rfl ?_ hbel ?_ ?_)))
            · rw [HL.out]; omega
            · exact hbel.size
            · intro v' w1 hown' hbel'
              rw [← unpackTo_succ] at hown'
              clear hown hbel
              go_wp2
              go_roundw
              case rel => exact ⟨k + 1, by omega, by go_num, hown', hbel'⟩
              case measure => simp [intOf]; omega
          · go_wp2
            go_ret2
            obtain rfl : k = N := by omega
            exact ⟨_, rfl, hown, hbel⟩
end Go.Proofs.Ytojpmjfhomhbdaa
