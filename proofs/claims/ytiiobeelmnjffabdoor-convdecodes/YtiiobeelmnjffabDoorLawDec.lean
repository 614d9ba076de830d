import Derived.Test.YtiiobeelmnjffabDoorDecMain
import Derived.Test.YtiiobeelmnjffabDoorSame
import Derived.Test.YtiiobeelmnjffabDoorFrame
namespace Go.Proofs.YtiiobeelmnjffabDoor
open Go.ChangeShapes Go.WideShapes Go.ChangeAt Go.RowKit

set_option maxHeartbeats 1000000 in
theorem law_dec_good (l : List Int) (n : Nat) (a : Option Addr) (c : Nat) (w : World) (ha : Rd .i64 w a l) (hl : l.length = 3 * (n + 6)) (hn : n ≤ 400) (hs : softErr l = 0) (hcap : l.length ≤ c) (hT : Taps w) :
    Calls Tryd.prog 4 #[.slice a l.length c] w fun e w' => e = .returned (.bool true) ∧ Below w.heap.size w w' := by
  have HL := hid hl
  have HSO := hid hs
  have HCAP := hid hcap
  have hsb := hid (soft_of hs)
  have HWL := hid (way_length l n 0 0)
  have hq : ((l.length : Nat) : Int).tdiv 3 = (n : Int) + 6 := by rw [Int.tdiv_eq_ediv_of_nonneg (by omega)]; omega
  have hr : ((l.length : Nat) : Int).tmod 3 = 0 := by rw [Int.tmod_eq_emod_of_nonneg (by omega)]; omega
  have HLM := hid (show l.length ≤ maxLen by unfold maxLen; omega)
  have hlb : l.length ≤ 1218 := by omega
  have hn0 : decide ((n : Int) < 0) = false := decide_eq_false (by omega)
  have hn4 : decide (400 < (n : Int)) = false := decide_eq_false (by omega)
  generalize hD : way l n 0 0 = D at *
  generalize hN : top l n 0 0 = N at *
  clear hl hs hcap
  go_enter Tryd.func4, Tryd.ntmps4
  go_wp2_with (first
    | (go_at_call 14; refine (decode_good l n a c _ ha HL.out hn HSO.out HCAP.out hT).mono ?_; rintro e w1 ⟨v, rfl, hown1, hbel1⟩; rw [hD] at hown1; rw [hN]; obtain ⟨a2, c2, rfl, _, _, _⟩ := hown1.shape)
    | (go_at_call 12; refine (rsoft_any l a c _ (ha.below hbel1) HLM.out).mono ?_; rintro e w2 ⟨rfl, rfl⟩; rw [hsb.out])
    | (go_at_call 15; refine (rdecode_any l n a c _ (ha.below hbel1) (soft_at hsb.out) HL.out hn HCAP.out).mono ?_; rintro e w3 ⟨v3, rfl, hown3, hbel3⟩; rw [hD] at hown3; rw [hN]; obtain ⟨a3, c3, rfl, _, _, _⟩ := hown3.shape; have hb3 := bthen hbel1 hbel3; have hown2 := hown1.below hbel3)
    | (go_at_call 11; refine (same_bits D D a2 a3 c2 c3 _ hown2.rd hown3.rd (by rw [HWL.out]; unfold maxLen; omega) (by rw [HWL.out]; unfold maxLen; omega)).mono ?_; rintro e w4 ⟨rfl, hbel4⟩; rw [decide_eq_true (rfl : D = D)]; have hb4 := bthen hb3 hbel4))
  go_ret
  exact ⟨by simp, hb4⟩

set_option maxHeartbeats 1000000 in
theorem law_dec_bad (l : List Int) (a : Option Addr) (c : Nat) (w : World) (ha : Rd .i64 w a l) (hl : l.length ≤ maxLen) (h : ¬ decOk l) :
    Calls Tryd.prog 4 #[.slice a l.length c] w fun e w' => e = .returned (.bool true) ∧ Below w.heap.size w w' := by
  have HLM := hid hl
  unfold maxLen at hl
  have HH := hid h
  by_cases h0 : softErr l = 0
  · have hsb := hid (soft_of h0)
    have hq : ((l.length : Nat) : Int).tdiv 3 = ((l.length / 3 : Nat) : Int) := by rw [Int.tdiv_eq_ediv_of_nonneg (by omega)]; omega
    have hr : ((l.length : Nat) : Int).tmod 3 = ((l.length % 3 : Nat) : Int) := by rw [Int.tmod_eq_emod_of_nonneg (by omega)]; omega
    have hcase : l.length % 3 ≠ 0 ∨ l.length / 3 < 6 ∨ 406 < l.length / 3 := by
      by_cases e1 : l.length % 3 = 0
      · by_cases e2 : l.length / 3 < 6
        · exact .inr (.inl e2)
        · refine .inr (.inr ?_)
          rcases Nat.lt_or_ge 406 (l.length / 3) with e3 | e3
          · exact e3
          · exact absurd ⟨h0, e1, by omega, by omega⟩ h
      · exact .inl e1
    obtain ⟨Q3, hQ3⟩ : ∃ Q3, Q3 = l.length / 3 := ⟨_, rfl⟩
    obtain ⟨R3, hR3⟩ : ∃ R3, R3 = l.length % 3 := ⟨_, rfl⟩
    have hQb : Q3 ≤ 9223372036854775807 := by omega
    rw [← hQ3] at hq hcase
    rw [← hR3] at hr hcase
    clear h0 h hQ3 hR3
    by_cases e1 : R3 = 0
    · have d1 : ((R3 : Int) != 0) = false := by simp [e1]
      by_cases e2 : Q3 < 6
      · have d2 : decide ((Q3 : Int) - 6 < 0) = true := decide_eq_true (by omega)
        clear e1 hcase
        go_enter Tryd.func4, Tryd.ntmps4
        go_wp2_with (first
          | (go_at_call 14; refine (decode_bad l a c _ ha HLM.out HH.out).mono ?_; rintro e w1 ⟨v, rfl, hown1, hbel1⟩; obtain ⟨a2, c2, rfl, _, _, _⟩ := hown1.shape)
          | (go_at_call 12; refine (rsoft_any l a c _ (ha.below hbel1) HLM.out).mono ?_; rintro e w2 ⟨rfl, rfl⟩; rw [hsb.out]))
        go_ret
        exact ⟨by simp, hbel1⟩
      · have e3 : 406 < Q3 := by omega
        have d2 : decide ((Q3 : Int) - 6 < 0) = false := decide_eq_false (by omega)
        have d3 : decide (400 < (Q3 : Int) - 6) = true := decide_eq_true (by omega)
        clear e1 hcase
        go_enter Tryd.func4, Tryd.ntmps4
        go_wp2_with (first
          | (go_at_call 14; refine (decode_bad l a c _ ha HLM.out HH.out).mono ?_; rintro e w1 ⟨v, rfl, hown1, hbel1⟩; obtain ⟨a2, c2, rfl, _, _, _⟩ := hown1.shape)
          | (go_at_call 12; refine (rsoft_any l a c _ (ha.below hbel1) HLM.out).mono ?_; rintro e w2 ⟨rfl, rfl⟩; rw [hsb.out]))
        go_ret
        exact ⟨by simp, hbel1⟩
    · have d1 : ((R3 : Int) != 0) = true := by simp; omega
      clear e1 hcase
      go_enter Tryd.func4, Tryd.ntmps4
      go_wp2_with (first
        | (go_at_call 14; refine (decode_bad l a c _ ha HLM.out HH.out).mono ?_; rintro e w1 ⟨v, rfl, hown1, hbel1⟩; obtain ⟨a2, c2, rfl, _, _, _⟩ := hown1.shape)
        | (go_at_call 12; refine (rsoft_any l a c _ (ha.below hbel1) HLM.out).mono ?_; rintro e w2 ⟨rfl, rfl⟩; rw [hsb.out]))
      go_ret
      exact ⟨by simp, hbel1⟩
  · have hsb := hid (show softOk l = false by unfold softErr at h0; cases h1 : softOk l <;> simp_all)
    clear h0 h
    go_enter Tryd.func4, Tryd.ntmps4
    go_wp2_with (first
      | (go_at_call 14; refine (decode_bad l a c _ ha HLM.out HH.out).mono ?_; rintro e w1 ⟨v, rfl, hown1, hbel1⟩; obtain ⟨a2, c2, rfl, _, _, _⟩ := hown1.shape)
      | (go_at_call 12; refine (rsoft_any l a c _ (ha.below hbel1) HLM.out).mono ?_; rintro e w2 ⟨rfl, rfl⟩; rw [hsb.out]))
    go_ret
    exact ⟨by simp, hbel1⟩

theorem law_dec (l : List Int) (a : Option Addr) (c : Nat) (w : World) (ha : Rd .i64 w a l) (hl : l.length ≤ maxLen) (hcap : l.length ≤ c) (hT : Taps w) :
    Calls Tryd.prog 4 #[.slice a l.length c] w fun e w' => e = .returned (.bool true) ∧ Below w.heap.size w w' := by
  by_cases h : decOk l
  · obtain ⟨n, h1, h2⟩ := decOk_len h
    exact law_dec_good l n a c w ha h1 h2 h.1 hcap hT
  · exact law_dec_bad l a c w ha hl h
end Go.Proofs.YtiiobeelmnjffabDoor
