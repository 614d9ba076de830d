import Derived.Test.YtbmdjfolfmgmmagUnpack
namespace Go.Proofs.Ytbmdjfolfmgmmag
open Go.ChangeShapes Go.WideShapes Go.ChangeAt Go.RowKit

theorem u8_bit (x : Int) (h0 : 0 ≤ x) (h1 : x < 256) : bits .and .u8 x 1 = x % 2 := by
  rw [u8_and x 1 h0 h1 (by decide) (by decide), show (1 : Int).toNat = 1 from rfl, Nat.and_one_is_mod]
  omega

theorem div_pow_bd (x : Int) (e : Nat) (h0 : 0 ≤ x) (h1 : x < 256) : 0 ≤ x / 2 ^ e ∧ x / 2 ^ e < 256 := by
  have hp : (0 : Int) < 2 ^ e := Int.pow_pos (by decide)
  have h := Int.ediv_nonneg h0 (Int.le_of_lt hp)
  refine ⟨h, ?_⟩
  have : x / 2 ^ e ≤ x := Int.ediv_le_self _ h0
  omega

theorem unp_bit (s : ByteArray) (k : Nat) (h : k / 8 < s.size) : bits .and .u8 ((s[k / 8].toNat : Int) / 2 ^ (7 - k % 8)) 1 = bitAt s k := by
  have hb := byteAt_bd s (k / 8)
  rw [← byteAt_eq s _ h]
  have hd := div_pow_bd (byteAt s (k / 8)) (7 - k % 8) hb.1 (by omega)
  rw [u8_bit _ hd.1 hd.2]
  rfl

theorem unp_set (s : ByteArray) (N k : Nat) (h : k < N) (x : Int) (hx : x = bitAt s k) : (unpackTo s k ++ List.replicate (N - k) 0).set k x = unpackTo s (k + 1) ++ List.replicate (N - (k + 1)) 0 := by
  rw [show N - k = (N - (k + 1)) + 1 from by omega, set_fill _ _ _ _ (unpackTo_length s k), unpackTo_succ, hx]

set_option maxHeartbeats 1000000 in
theorem unpack_any (s : ByteArray) (n : Int) (w : World) (hm : s.size ≤ 140737488355328) :
    Calls Try.prog 51 #[.string s, .int .i64 n] w fun e w' => ∃ v, e = .returned (.tuple #[v, .int .i64 (unpackErr s n)]) ∧ Own w' w.heap.size v (unpackL s n) ∧ Below w.heap.size w w' := by
  by_cases h1 : n < 0
  · have he : unpackErr s n = 1 := by unfold unpackErr; rw [if_pos (.inl h1)]
    have hL : unpackL s n = [] := by unfold unpackL; rw [he]; rfl
    rw [he, hL]
    go_enter Try.func51, Try.ntmps51
    go_wp2
    go_ret2
    exact ⟨_, rfl, Own.nil _ _, Below.refl _ _⟩
  · have h1' : decide (n < 0) = false := by simpa using h1
    by_cases h2 : 8 * (s.size : Int) < n
    · have he : unpackErr s n = 1 := by unfold unpackErr; rw [if_pos (.inr h2)]
      have hL : unpackL s n = [] := by unfold unpackL; rw [he]; rfl
      rw [he, hL]
      go_enter Try.func51, Try.ntmps51
      go_wp2
      go_ret2
      exact ⟨_, rfl, Own.nil _ _, Below.refl _ _⟩
    · have h2' : decide (8 * (s.size : Int) < n) = false := by simpa using h2
      by_cases h3 : 4096 < n
      · have he : unpackErr s n = 2 := by unfold unpackErr; rw [if_neg (by omega), if_pos h3]
        have hL : unpackL s n = [] := by unfold unpackL; rw [he]; rfl
        rw [he, hL]
        go_enter Try.func51, Try.ntmps51
        go_wp2
        go_ret2
        exact ⟨_, rfl, Own.nil _ _, Below.refl _ _⟩
      · have he : unpackErr s n = 0 := by unfold unpackErr; rw [if_neg (by omega), if_neg h3]
        have hL : unpackL s n = unpackTo s n.toNat := by unfold unpackL; rw [if_pos he]
        rw [he, hL]
        clear hL he
        obtain ⟨N, rfl⟩ := Int.eq_ofNat_of_zero_le (show 0 ≤ n by omega)
        rw [Int.toNat_natCast]
        go_enter Try.func51, Try.ntmps51
        go_wp2_with (at_make; refine wpList_makeBytes w.heap.size w N rfl _ _ rfl _ _ rfl rfl rfl rfl (by omega) (Below.refl _ _) (Nat.le_refl _) ?_)
        intro w1 hown1 hbel1 hsz1
        go_wp2
        go_loopw [23] (fun i wr => ∃ k : Nat, k ≤ N ∧ i = .int .i64 k ∧ Own wr w.heap.size (.slice (some ⟨w.heap.size, 0, none⟩) N N) (unpackTo s k ++ List.replicate (N - k) 0) ∧ Below w.heap.size w wr) (fun i _ => N - (intOf i).toNat)
        case atStart => exact ⟨0, Nat.zero_le _, rfl, hown1, hbel1⟩
        case round =>
          clear hown1 hbel1
          obtain ⟨k, hk, rfl, hown, hbel⟩ := hrel
          by_cases hlt : k < N
          · have hll : (unpackTo s k ++ List.replicate (N - k) 0).length = N := hown.len
            have hc := hown.cell (i := k) (by omega)
            have hf := hown.free k
            have hi8 : (k : Int) / 8 < s.size := by omega
            clear hll
            go_wp2
            go_roundw
            case rel => exact ⟨k + 1, by omega, by go_num, unp_set s N k hlt _ (unp_bit s k (by omega)) ▸ hown.set k _, hbel.setCell (Nat.le_refl _) _⟩
            case measure => simp [intOf]; omega
          · go_wp2
            go_ret2
            obtain rfl : k = N := by omega
            rw [Nat.sub_self, List.replicate_zero, List.append_nil] at hown
            exact ⟨_, rfl, hown, hbel⟩
end Go.Proofs.Ytbmdjfolfmgmmag
