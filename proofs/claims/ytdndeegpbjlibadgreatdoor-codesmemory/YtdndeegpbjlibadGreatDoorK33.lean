import Derived.Test.YtdndeegpbjlibadGreatDoorK32
namespace Go.Proofs.YtdndeegpbjlibadGreatDoor
open Go.ChangeShapes Go.WideShapes Go.ChangeAt Go.RowKit

/-! Order, Begin AND Pick, WHATEVER THEY ARE ASKED. -/

set_option maxHeartbeats 1000000 in
theorem pick_bad (cs : List Int) (a : Option Addr) (c : Nat) (v k : Int) (w : World) (ha : Rd .u8 w a cs) (hz : cs.length ≤ maxLen) (hE : pickErr cs v k ≠ 0) :
    Calls Tryz.prog 15 #[.slice a cs.length c, .int .i64 v, .int .i64 k] w fun e w' => e = .returned (.tuple #[.slice none 0 0, .int .i64 (pickErr cs v k)]) ∧ Below w.heap.size w w' := by
  have hB0 : Below w.heap.size w (w.alloc (.cells #[.slice a cs.length c] 22)) := (Below.refl _ w).alloc (Nat.le_refl _) _
  have hck := check_any cs a c (w.alloc (.cells #[.slice a cs.length c] 22)) (ha.below hB0) hz
  have hsz := checkSize_any (cs.length : Int) (w.alloc (.cells #[.slice a cs.length c] 22))
  have hvr := checkVersion_any v (w.alloc (.cells #[.slice a cs.length c] 22))
  have hz' : cs.length ≤ 9223372036854775807 := by unfold maxLen at hz; omega
  by_cases h0 : errOf cs = 0
  · have hc4 := (err_zero h0).2
    have HE := hid (show (1 : Int) = pickErr cs v k by
      unfold pickErr at hE ⊢
      rw [if_pos h0] at hE ⊢
      split
      · rfl
      · rename_i h; rw [if_neg h] at hE; exact absurd rfl hE)
    have hbad : cs.length = 0 ∨ verOk v = false ∨ k < 0 ∨ 4096 < k := by
      unfold pickErr at hE
      rw [if_pos h0] at hE
      split at hE
      · assumption
      · exact absurd rfl hE
    rw [h0] at hck
    by_cases h1 : cs.length = 0
    · rw [show sizeErrM (cs.length : Int) = 1 by unfold sizeErrM; rw [show sizeOk (cs.length : Int) = false from decide_eq_false (by omega)]; rfl] at hsz
      clear hvr hbad h0 hc4 h1 hE hz
      go_enter Tryz.func15, Tryz.ntmps15
      go_wp2_with (first | (go_at_call 28; refine hck.mono ?_; rintro e w1 ⟨rfl, rfl⟩) | (go_at_call 37; refine hsz.mono ?_; rintro e w1 ⟨rfl, rfl⟩))
      go_ret2
      exact ⟨by rw [← HE.out]; rfl, hB0⟩
    · rw [show sizeErrM (cs.length : Int) = 0 by unfold sizeErrM; rw [show sizeOk (cs.length : Int) = true from decide_eq_true (by omega)]; rfl] at hsz
      cases h2 : verOk v with
      | false =>
        rw [show verErr v = 1 by unfold verErr; rw [h2]; rfl] at hvr
        clear hbad h0 hc4 h1 hE h2 hz
        go_enter Tryz.func15, Tryz.ntmps15
        go_wp2_with (first | (go_at_call 28; refine hck.mono ?_; rintro e w1 ⟨rfl, rfl⟩) | (go_at_call 37; refine hsz.mono ?_; rintro e w1 ⟨rfl, rfl⟩) | (go_at_call 38; refine hvr.mono ?_; rintro e w1 ⟨rfl, rfl⟩))
        go_ret2
        exact ⟨by rw [← HE.out]; rfl, hB0⟩
      | true =>
        rw [show verErr v = 0 by unfold verErr; rw [h2]; rfl] at hvr
        by_cases h3 : k < 0
        · have d3 : decide (k < 0) = true := decide_eq_true h3
          clear hbad h0 hc4 h1 hE h2 h3 hz
          go_enter Tryz.func15, Tryz.ntmps15
          go_wp2_with (first | (go_at_call 28; refine hck.mono ?_; rintro e w1 ⟨rfl, rfl⟩) | (go_at_call 37; refine hsz.mono ?_; rintro e w1 ⟨rfl, rfl⟩) | (go_at_call 38; refine hvr.mono ?_; rintro e w1 ⟨rfl, rfl⟩))
          go_ret2
          exact ⟨by rw [← HE.out]; rfl, hB0⟩
        · have d3 : decide (k < 0) = false := decide_eq_false h3
          have d4 : decide (4096 < k) = true := decide_eq_true (by rcases hbad with h | h | h | h; exact absurd h h1; rw [h2] at h; cases h; exact absurd h h3; exact h)
          clear hbad h0 hc4 h1 hE h2 h3 hz
          go_enter Tryz.func15, Tryz.ntmps15
          go_wp2_with (first | (go_at_call 28; refine hck.mono ?_; rintro e w1 ⟨rfl, rfl⟩) | (go_at_call 37; refine hsz.mono ?_; rintro e w1 ⟨rfl, rfl⟩) | (go_at_call 38; refine hvr.mono ?_; rintro e w1 ⟨rfl, rfl⟩))
          go_ret2
          exact ⟨by rw [← HE.out]; rfl, hB0⟩
  · have HE := hid (show errOf cs = pickErr cs v k by unfold pickErr; rw [if_neg h0])
    obtain ⟨x, ex⟩ : ∃ x, x = errOf cs := ⟨_, rfl⟩
    rw [← ex] at hck HE h0
    have hne : (x != 0) = true := by simpa using h0
    clear ex h0 hE hsz hvr hz
    go_enter Tryz.func15, Tryz.ntmps15
    go_wp2_with (first | (go_at_call 28; refine hck.mono ?_; rintro e w1 ⟨rfl, rfl⟩))
    go_ret2
    exact ⟨by rw [← HE.out]; rfl, hB0⟩

set_option maxHeartbeats 1000000 in
theorem pick_own (cs : List Int) (a : Option Addr) (c : Nat) (v k : Int) (w : World) (hC : Col w) (ha : Rd .u8 w a cs) (hz : cs.length ≤ maxLen) :
    Calls Tryz.prog 15 #[.slice a cs.length c, .int .i64 v, .int .i64 k] w fun e w' => ∃ a' k' c', e = .returned (.tuple #[.slice a' k' c', .int .i64 (pickErr cs v k)]) ∧ Below w.heap.size w w' ∧ (pickErr cs v k = 0 → k' = k.toNat ∧ Own w' w.heap.size (.slice a' k' c') (pickedM cs v.toNat k.toNat)) ∧ (pickErr cs v k ≠ 0 → a' = none ∧ k' = 0 ∧ c' = 0) := by
  by_cases hE : pickErr cs v k = 0
  · rw [hE]
    have hall : errOf cs = 0 ∧ ¬ (cs.length = 0 ∨ verOk v = false ∨ k < 0 ∨ 4096 < k) := by
      unfold pickErr at hE
      by_cases h0 : errOf cs = 0
      · rw [if_pos h0] at hE
        refine ⟨h0, fun hb => ?_⟩
        rw [if_pos hb] at hE
        cases hE
      · rw [if_neg h0] at hE
        exact absurd hE h0
    have hvo : verOk v = true := by
      cases h : verOk v with
      | true => rfl
      | false => exact absurd (Or.inr (Or.inl h)) hall.2
    obtain ⟨vn, rfl, hvn⟩ : ∃ vn : Nat, v = (vn : Int) ∧ vn ≤ 3 := by
      unfold verOk at hvo
      simp at hvo
      exact ⟨v.toNat, by omega, by omega⟩
    obtain ⟨kn, rfl, hkn⟩ : ∃ kn : Nat, k = (kn : Int) ∧ kn ≤ 4096 := ⟨k.toNat, by have := hall.2; omega, by have := hall.2; omega⟩
    refine (pick_good cs a cs.length c vn kn w hC ha rfl (by have := hall.2; omega) (err_zero hall.1).2 hall.1 hvn hkn).mono fun e w' h => ?_
    obtain ⟨a', c', rfl, hb, hr⟩ := h
    exact ⟨a', kn, c', rfl, hb, fun _ => ⟨rfl, hr⟩, fun h => absurd rfl h⟩
  · exact (pick_bad cs a c v k w ha hz hE).mono fun e w' h => ⟨none, 0, 0, h.1, h.2, fun h => absurd h hE, fun _ => ⟨rfl, rfl, rfl⟩⟩

theorem pick_any (cs : List Int) (a : Option Addr) (c : Nat) (v k : Int) (w : World) (hC : Col w) (ha : Rd .u8 w a cs) (hz : cs.length ≤ maxLen) :
    Calls Tryz.prog 15 #[.slice a cs.length c, .int .i64 v, .int .i64 k] w fun e w' => ∃ a' k' c', e = .returned (.tuple #[.slice a' k' c', .int .i64 (pickErr cs v k)]) ∧ Below w.heap.size w w' ∧ (pickErr cs v k = 0 → k' = k.toNat ∧ Rd .u8 w' a' (pickedM cs v.toNat k.toNat)) ∧ (pickErr cs v k ≠ 0 → k' = 0) :=
  (pick_own cs a c v k w hC ha hz).mono fun _ _ ⟨a', k', c', he, hb, h0, h1⟩ => ⟨a', k', c', he, hb, fun h => ⟨(h0 h).1, (h0 h).2.rd⟩, fun h => (h1 h).2.1⟩

end Go.Proofs.YtdndeegpbjlibadGreatDoor
