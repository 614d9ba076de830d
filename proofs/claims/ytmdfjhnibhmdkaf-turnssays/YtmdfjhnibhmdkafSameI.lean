import Derived.Test.YtmdfjhnibhmdkafSameB
namespace Go.Proofs.Ytmdfjhnibhmdkaf
open Go.ChangeShapes Go.WideShapes Go.ChangeAt Go.RowKit

set_option maxHeartbeats 400000 in
theorem same_ints (xs ys : List Int) (a b : Option Addr) (ca cb : Nat) (w : World) (ha : Rd .i64 w a xs) (hb : Rd .i64 w b ys) (hx : xs.length ≤ maxLen) (hy : ys.length ≤ maxLen) :
    Calls Try.prog 8 #[.slice a xs.length ca, .slice b ys.length cb] w fun e w' => e = .returned (.bool (decide (xs = ys))) ∧ Below w.heap.size w w' := by
  unfold maxLen at hx hy
  by_cases hl : ys.length = xs.length
  · have hne : (((xs.length : Nat) : Int) != ((ys.length : Nat) : Int)) = false := by rw [hl]; simp
    rw [hl] at hne ⊢
    clear hy
    have HL : Hid (ys.length = xs.length) := hl
    clear hl
    go_enter Try.func8, Try.ntmps8
    go_wp2
    go_loopw [5] (fun i wr => ∃ k : Nat, k ≤ xs.length ∧ i = .int .i64 k ∧ Hid (xs.take k = ys.take k) ∧ Below w.heap.size w wr) (fun i _ => xs.length - (intOf i).toNat)
    case atStart => exact ⟨0, Nat.zero_le _, rfl, rfl, Below.refl _ _⟩
    case round =>
      obtain ⟨k, hk, rfl, htk, hbel⟩ := hrel
      by_cases hlt : k < xs.length
      · obtain ⟨b1, o1, rfl, hc1⟩ := (ha.below hbel).at hlt
        obtain ⟨b2, o2, rfl, hc2⟩ := (hb.below hbel).at (i := k) (by rw [HL.out]; exact hlt)
        have g1 := hc1 k hlt
        have g2 := hc2 k (by rw [HL.out]; exact hlt)
        clear hc1 hc2
        go_wp2_with fail
        go_quiet (fail)
        go_wp2
        · go_ret
          exact ⟨dec_ne hlt ‹_›, below_drewN hbel _⟩
        · go_roundw
          case rel => exact ⟨k + 1, by omega, by go_num, take_ext' HL.out hlt htk.out ‹_›, below_drewN hbel _⟩
          case measure => simp [intOf]; omega
      · go_wp2
        go_ret
        exact ⟨dec_eq HL.out (by omega) htk.out, hbel⟩
  · have hne : (((xs.length : Nat) : Int) != ((ys.length : Nat) : Int)) = true := by simp; omega
    have hd : decide (xs = ys) = false := by simp; intro h; subst h; exact hl rfl
    rw [hd]
    clear hl
    go_enter Try.func8, Try.ntmps8
    go_wp2
    go_ret
    exact ⟨rfl, Below.refl _ _⟩
end Go.Proofs.Ytmdfjhnibhmdkaf
