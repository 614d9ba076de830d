import Derived.Test.YtaggbkhpoaacjacDoorMatchV
namespace Go.Proofs.YtaggbkhpoaacjacDoor
open Go.ChangeShapes Go.WideShapes Go.ChangeAt Go.RowKit

/-! Order, Begin AND Pick, WHATEVER THEY ARE ASKED. -/

set_option maxHeartbeats 1000000 in
theorem order_any (n : Int) (w : World) (hC : Col w) :
    Calls Tryd.prog 13 #[.int .i64 n] w fun e w' => ∃ a k c, e = .returned (.tuple #[.slice a k c, .int .i64 (if ordOk n then 0 else 1)]) ∧ Below w.heap.size w w' ∧ (ordOk n = true → k = n.toNat ∧ Rd .i64 w' a (intsM (ordM n.toNat))) ∧ (ordOk n = false → k = 0) := by
  cases hq : ordOk n with
  | false =>
    suffices h : Calls Tryd.prog 13 #[.int .i64 n] w fun e w' => e = .returned (.tuple #[.slice none 0 0, .int .i64 1]) ∧ w = w' from
      h.mono fun e w' h => ⟨none, 0, 0, h.1, h.2 ▸ Below.refl _ _, fun h => (by cases h), fun _ => rfl⟩
    by_cases h0 : n < 0
    · have d0 : decide (n < 0) = true := decide_eq_true h0
      clear h0 hq
      go_enter Tryd.func13, Tryd.ntmps13
      go_wp2
      go_ret2
      exact ⟨rfl, rfl⟩
    · have d0 : decide (n < 0) = false := decide_eq_false h0
      have d1 : decide (4096 < n) = true := decide_eq_true (by
        rcases Int.lt_or_le 4096 n with h | h
        · exact h
        · rw [show ordOk n = true from decide_eq_true ⟨by omega, h⟩] at hq; cases hq)
      clear h0 hq
      go_enter Tryd.func13, Tryd.ntmps13
      go_wp2
      go_ret2
      exact ⟨rfl, rfl⟩
  | true =>
    have hnn : 0 ≤ n ∧ n ≤ 4096 := by unfold ordOk at hq; simpa using hq
    obtain ⟨m, rfl⟩ : ∃ m : Nat, n = (m : Int) := ⟨n.toNat, by omega⟩
    have hm : m ≤ 4096 := by omega
    have d0 : decide ((m : Int) < 0) = false := decide_eq_false (by omega)
    have d1 : decide (4096 < (m : Int)) = false := decide_eq_false (by omega)
    have HLO := hid ((intsM_length (ordM m)).trans (ordM_length m))
    have hor := orderOf_any m w hC hm
    suffices h : Calls Tryd.prog 13 #[.int .i64 m] w fun e w' => ∃ a c, e = .returned (.tuple #[.slice a m c, .int .i64 0]) ∧ Below w.heap.size w w' ∧ Rd .i64 w' a (intsM (ordM m)) from
      h.mono fun e w' h => by
        obtain ⟨a, c, rfl, hb, hr⟩ := h
        exact ⟨a, m, c, rfl, hb, fun _ => ⟨rfl, hr⟩, fun h => by cases h⟩
    clear hq hnn
    go_enter Tryd.func13, Tryd.ntmps13
    go_wp2_with (first | (go_at_call 31; refine hor.mono ?_; rintro e w1 ⟨u, rfl, ho, hb⟩; obtain ⟨a, c, rfl, hr⟩ := ho.shapeR HLO.out))
    go_ret2
    exact ⟨a, c, rfl, hb, hr⟩

set_option maxHeartbeats 1000000 in
theorem begin_any (n v : Int) (w : World) :
    Calls Tryd.prog 16 #[.int .i64 n, .int .i64 v] w fun e w' => e = .returned (.tuple #[.int .i64 (if begOk n v then ((v.toNat * n.toNat / 4 : Nat) : Int) else 0), .int .i64 (if begOk n v then 0 else 1)]) ∧ Below w.heap.size w w' := by
  have hsz := checkSize_any n w
  have hvr := checkVersion_any v w
  cases hq : begOk n v with
  | false =>
    cases h0 : sizeOk n with
    | false =>
      rw [show sizeErr n = 1 by unfold sizeErr; rw [h0]; rfl] at hsz
      clear hq h0 hvr
      go_enter Tryd.func16, Tryd.ntmps16
      go_wp2_with (first | (go_at_call 32; refine hsz.mono ?_; rintro e w1 ⟨rfl, rfl⟩))
      go_ret2
      exact ⟨rfl, Below.refl _ _⟩
    | true =>
      have h1 : verOk v = false := by unfold begOk at hq; rw [show decide (1 ≤ n ∧ n ≤ 4096) = true from h0] at hq; simpa using hq
      rw [show sizeErr n = 0 by unfold sizeErr; rw [h0]; rfl] at hsz
      rw [show verErr v = 1 by unfold verErr; rw [h1]; rfl] at hvr
      clear hq h0 h1
      go_enter Tryd.func16, Tryd.ntmps16
      go_wp2_with (first | (go_at_call 32; refine hsz.mono ?_; rintro e w1 ⟨rfl, rfl⟩) | (go_at_call 33; refine hvr.mono ?_; rintro e w1 ⟨rfl, rfl⟩))
      go_ret2
      exact ⟨rfl, Below.refl _ _⟩
  | true =>
    have hnn : (1 ≤ n ∧ n ≤ 4096) ∧ 0 ≤ v ∧ v ≤ 3 := by unfold begOk verOk at hq; simpa using hq
    obtain ⟨m, rfl⟩ : ∃ m : Nat, n = (m : Int) := ⟨n.toNat, by omega⟩
    obtain ⟨u, rfl⟩ : ∃ u : Nat, v = (u : Int) := ⟨v.toNat, by omega⟩
    rw [show sizeErr (m : Int) = 0 by unfold sizeErr; rw [show sizeOk (m : Int) = true from decide_eq_true hnn.1]; rfl] at hsz
    rw [show verErr (u : Int) = 0 by unfold verErr; rw [show verOk (u : Int) = true from decide_eq_true hnn.2]; rfl] at hvr
    have hbe := beginOf_any m u w (by omega) (by omega)
    simp only [Int.toNat_natCast]
    generalize u * m / 4 = b at *
    clear hq hnn
    go_enter Tryd.func16, Tryd.ntmps16
    go_wp2_with (first | (go_at_call 32; refine hsz.mono ?_; rintro e w1 ⟨rfl, rfl⟩) | (go_at_call 33; refine hvr.mono ?_; rintro e w1 ⟨rfl, rfl⟩) | (go_at_call 34; refine hbe.mono ?_; rintro e w1 ⟨rfl, rfl⟩))
    go_ret2
    exact ⟨rfl, Below.refl _ _⟩

set_option maxHeartbeats 1000000 in
theorem pick_any (cs : List Int) (a : Option Addr) (c : Nat) (v k : Int) (w : World) (hC : Col w) (ha : Rd .u8 w a cs) (hz : cs.length ≤ maxLen) :
    Calls Tryd.prog 18 #[.slice a cs.length c, .int .i64 v, .int .i64 k] w fun e w' => ∃ a' k' c', e = .returned (.tuple #[.slice a' k' c', .int .i64 (pickErr cs v k)]) ∧ Below w.heap.size w w' ∧ (pickErr cs v k = 0 → k' = k.toNat ∧ Rd .u8 w' a' (pickedM cs v.toNat k.toNat)) ∧ (pickErr cs v k ≠ 0 → k' = 0) := by
  by_cases hE : pickErr cs v k = 0
  · rw [hE]
    have hall : errOf cs = 0 ∧ ¬ (cs.length = 0 ∨ verOk v = false ∨ k < 0 ∨ 4096 < k) := by
      unfold pickErr at hE
      by_cases h0 : errOf cs = 0
      · rw [if_pos h0] at hE
        refine ⟨h0, fun hb => ?_⟩
        rw [if_pos hb] at hE
        cases hE
      · rw [if_neg h0] at hE
        exact absurd hE h0
    have hvo : verOk v = true := by
      cases h : verOk v with
      | true => rfl
      | false => exact absurd (Or.inr (Or.inl h)) hall.2
    obtain ⟨vn, rfl, hvn⟩ : ∃ vn : Nat, v = (vn : Int) ∧ vn ≤ 3 := by
      unfold verOk at hvo
      simp at hvo
      exact ⟨v.toNat, by omega, by omega⟩
    obtain ⟨kn, rfl, hkn⟩ : ∃ kn : Nat, k = (kn : Int) ∧ kn ≤ 4096 := ⟨k.toNat, by have := hall.2; omega, by have := hall.2; omega⟩
    refine (pick_good cs a cs.length c vn kn w hC ha rfl (by have := hall.2; omega) (err_zero hall.1).2 hall.1 hvn hkn).mono fun e w' h => ?_
    obtain ⟨a', c', rfl, hb, hr⟩ := h
    exact ⟨a', kn, c', rfl, hb, fun _ => ⟨rfl, hr⟩, fun h => absurd rfl h⟩
  · suffices h : Calls Tryd.prog 18 #[.slice a cs.length c, .int .i64 v, .int .i64 k] w fun e w' => e = .returned (.tuple #[.slice none 0 0, .int .i64 (pickErr cs v k)]) ∧ Below w.heap.size w w' from
      h.mono fun e w' h => ⟨none, 0, 0, h.1, h.2, fun h => absurd h hE, fun _ => rfl⟩
    have hB0 : Below w.heap.size w (w.alloc (.cells #[.slice a cs.length c] 22)) := (Below.refl _ w).alloc (Nat.le_refl _) _
    have hck := check_any cs a c (w.alloc (.cells #[.slice a cs.length c] 22)) (ha.below hB0) hz
    have hsz := checkSize_any (cs.length : Int) (w.alloc (.cells #[.slice a cs.length c] 22))
    have hvr := checkVersion_any v (w.alloc (.cells #[.slice a cs.length c] 22))
    have hz' : cs.length ≤ 9223372036854775807 := by unfold maxLen at hz; omega
    by_cases h0 : errOf cs = 0
    · have hc4 := (err_zero h0).2
      have HE := hid (show (1 : Int) = pickErr cs v k by
        unfold pickErr at hE ⊢
        rw [if_pos h0] at hE ⊢
        split
        · rfl
        · rename_i h; rw [if_neg h] at hE; exact absurd rfl hE)
      have hbad : cs.length = 0 ∨ verOk v = false ∨ k < 0 ∨ 4096 < k := by
        unfold pickErr at hE
        rw [if_pos h0] at hE
        split at hE
        · assumption
        · exact absurd rfl hE
      rw [h0] at hck
      by_cases h1 : cs.length = 0
      · rw [show sizeErr (cs.length : Int) = 1 by unfold sizeErr; rw [show sizeOk (cs.length : Int) = false from decide_eq_false (by omega)]; rfl] at hsz
        clear hvr hbad h0 hc4 h1 hE hz
        go_enter Tryd.func18, Tryd.ntmps18
        go_wp2_with (first | (go_at_call 26; refine hck.mono ?_; rintro e w1 ⟨rfl, rfl⟩) | (go_at_call 32; refine hsz.mono ?_; rintro e w1 ⟨rfl, rfl⟩))
        go_ret2
        exact ⟨by rw [← HE.out]; rfl, hB0⟩
      · rw [show sizeErr (cs.length : Int) = 0 by unfold sizeErr; rw [show sizeOk (cs.length : Int) = true from decide_eq_true (by omega)]; rfl] at hsz
        cases h2 : verOk v with
        | false =>
          rw [show verErr v = 1 by unfold verErr; rw [h2]; rfl] at hvr
          clear hbad h0 hc4 h1 hE h2 hz
          go_enter Tryd.func18, Tryd.ntmps18
          go_wp2_with (first | (go_at_call 26; refine hck.mono ?_; rintro e w1 ⟨rfl, rfl⟩) | (go_at_call 32; refine hsz.mono ?_; rintro e w1 ⟨rfl, rfl⟩) | (go_at_call 33; refine hvr.mono ?_; rintro e w1 ⟨rfl, rfl⟩))
          go_ret2
          exact ⟨by rw [← HE.out]; rfl, hB0⟩
        | true =>
          rw [show verErr v = 0 by unfold verErr; rw [h2]; rfl] at hvr
          by_cases h3 : k < 0
          · have d3 : decide (k < 0) = true := decide_eq_true h3
            clear hbad h0 hc4 h1 hE h2 h3 hz
            go_enter Tryd.func18, Tryd.ntmps18
            go_wp2_with (first | (go_at_call 26; refine hck.mono ?_; rintro e w1 ⟨rfl, rfl⟩) | (go_at_call 32; refine hsz.mono ?_; rintro e w1 ⟨rfl, rfl⟩) | (go_at_call 33; refine hvr.mono ?_; rintro e w1 ⟨rfl, rfl⟩))
            go_ret2
            exact ⟨by rw [← HE.out]; rfl, hB0⟩
          · have d3 : decide (k < 0) = false := decide_eq_false h3
            have d4 : decide (4096 < k) = true := decide_eq_true (by rcases hbad with h | h | h | h; exact absurd h h1; rw [h2] at h; cases h; exact absurd h h3; exact h)
            clear hbad h0 hc4 h1 hE h2 h3 hz
            go_enter Tryd.func18, Tryd.ntmps18
            go_wp2_with (first | (go_at_call 26; refine hck.mono ?_; rintro e w1 ⟨rfl, rfl⟩) | (go_at_call 32; refine hsz.mono ?_; rintro e w1 ⟨rfl, rfl⟩) | (go_at_call 33; refine hvr.mono ?_; rintro e w1 ⟨rfl, rfl⟩))
            go_ret2
            exact ⟨by rw [← HE.out]; rfl, hB0⟩
    · have HE := hid (show errOf cs = pickErr cs v k by unfold pickErr; rw [if_neg h0])
      obtain ⟨x, ex⟩ : ∃ x, x = errOf cs := ⟨_, rfl⟩
      rw [← ex] at hck HE h0
      have hne : (x != 0) = true := by simpa using h0
      clear ex h0 hE hsz hvr hz
      go_enter Tryd.func18, Tryd.ntmps18
      go_wp2_with (first | (go_at_call 26; refine hck.mono ?_; rintro e w1 ⟨rfl, rfl⟩))
      go_ret2
      exact ⟨by rw [← HE.out]; rfl, hB0⟩

theorem pick_laws : PickLaws := ⟨fun n w hC _ => order_any n w hC, fun n v w _ _ => begin_any n v w, fun cs a c v k w hC ha hz _ _ _ => pick_any cs a c v k w hC ha hz⟩
end Go.Proofs.YtaggbkhpoaacjacDoor
