import Derived.Test.YtdndeegpbjlibacBase
namespace Go.Proofs.Ytdndeegpbjlibac
open Go.ChangeShapes Go.WideShapes Go.ChangeAt Go.RowKit

theorem take_ext {xs ys : List Int} {k : Nat} (hl : ys.length = xs.length) (hk : k < xs.length) (h : xs.take k = ys.take k) (e : xs[k]?.getD 0 = ys[k]?.getD 0) : xs.take (k + 1) = ys.take (k + 1) := by
  rw [List.take_add_one, List.take_add_one, h]
  have h1 : xs[k]? = some xs[k] := List.getElem?_eq_getElem hk
  have h2 : ys[k]? = some (ys[k]'(by omega)) := List.getElem?_eq_getElem (by omega)
  rw [h1, h2] at e
  simp at e
  rw [h1, h2, e]

theorem take_ext' {xs ys : List Int} {k : Nat} (hl : ys.length = xs.length) (hk : k < xs.length) (h : xs.take k = ys.take k) (e : (xs[k] != ys[k]?.getD 0) = false) : xs.take (k + 1) = ys.take (k + 1) := by
  refine take_ext hl hk h ?_
  rw [List.getElem?_eq_getElem hk]
  simpa using e

theorem dec_ne {xs ys : List Int} {k : Nat} (hk : k < xs.length) (e : (xs[k] != ys[k]?.getD 0) = true) : Ending.returned (.bool false) = .returned (.bool (decide (xs = ys))) := by
  have : ¬ xs = ys := by
    intro h
    subst h
    simp [List.getElem?_eq_getElem hk] at e
  simp [this]

theorem dec_eq {xs ys : List Int} {k : Nat} (hl : ys.length = xs.length) (hk : xs.length ≤ k) (h : xs.take k = ys.take k) : Ending.returned (.bool true) = .returned (.bool (decide (xs = ys))) := by
  rw [List.take_of_length_le hk, List.take_of_length_le (by omega)] at h
  simp [h]

set_option maxHeartbeats 400000 in
theorem same_bits (xs ys : List Int) (a b : Option Addr) (ca cb : Nat) (w : World) (ha : Rd .u8 w a xs) (hb : Rd .u8 w b ys) (hx : xs.length ≤ maxLen) (hy : ys.length ≤ maxLen) :
    Calls Try.prog 14 #[.slice a xs.length ca, .slice b ys.length cb] w fun e w' => e = .returned (.bool (decide (xs = ys))) ∧ Below w.heap.size w w' := by
  unfold maxLen at hx hy
  by_cases hl : ys.length = xs.length
  · have hne : (((xs.length : Nat) : Int) != ((ys.length : Nat) : Int)) = false := by rw [hl]; simp
    rw [hl] at hne ⊢
    clear hy
    have HL : Hid (ys.length = xs.length) := hl
    clear hl
    go_enter Try.func14, Try.ntmps14
    go_wp2
    go_loopw [5] (fun i wr => ∃ k : Nat, k ≤ xs.length ∧ i = .int .i64 k ∧ Hid (xs.take k = ys.take k) ∧ Below w.heap.size w wr) (fun i _ => xs.length - (intOf i).toNat)
    case atStart => exact ⟨0, Nat.zero_le _, rfl, rfl, Below.refl _ _⟩
    case round =>
      obtain ⟨k, hk, rfl, htk, hbel⟩ := hrel
      by_cases hlt : k < xs.length
      · obtain ⟨b1, o1, rfl, hc1⟩ := (ha.below hbel).at hlt
        obtain ⟨b2, o2, rfl, hc2⟩ := (hb.below hbel).at (i := k) (by rw [HL.out]; exact hlt)
        have g1 := hc1 k hlt
        have g2 := hc2 k (by rw [HL.out]; exact hlt)
        clear hc1 hc2
        go_wp2_with fail
        go_quiet (fail)
        go_wp2
        · go_ret
          exact ⟨dec_ne hlt ‹_›, below_drewN hbel _⟩
        · go_roundw
          case rel => exact ⟨k + 1, by omega, by go_num, take_ext' HL.out hlt htk.out ‹_›, below_drewN hbel _⟩
          case measure => simp [intOf]; omega
      · go_wp2
        go_ret
        exact ⟨dec_eq HL.out (by omega) htk.out, hbel⟩
  · have hne : (((xs.length : Nat) : Int) != ((ys.length : Nat) : Int)) = true := by simp; omega
    have hd : decide (xs = ys) = false := by simp; intro h; subst h; exact hl rfl
    rw [hd]
    clear hl
    go_enter Try.func14, Try.ntmps14
    go_wp2
    go_ret
    exact ⟨rfl, Below.refl _ _⟩
end Go.Proofs.Ytdndeegpbjlibac
