import Derived.Test.YtiiobeelmnjffabDoorEnc
import Derived.Test.YtiiobeelmnjffabDoorCSoft
namespace Go.Proofs.YtiiobeelmnjffabDoor
open Go.ChangeShapes Go.WideShapes Go.ChangeAt Go.RowKit

/-- What is wrong with a score that is asked for. -/
def scoreErr (zs l : List Int) : Int := if encErr zs = 0 then (if softErr l = 0 then (if l.length = 3 * (zs.length + 6) then 0 else 1) else 1) else encErr zs
def scoreV (zs l : List Int) : Int := if scoreErr zs l = 0 then scoreTo (codedTo zs (zs.length + 6)) l (3 * (zs.length + 6)) else 0

theorem enc_len {zs : List Int} (h : encErr zs = 0) : zs.length ≤ 400 ∧ errOf zs = 0 := by
  unfold encErr at h
  split at h
  · split at h
    · cases h
    · exact ⟨by omega, by assumption⟩
  · rename_i h'; exact absurd h h'

theorem softErr_cases (l : List Int) : softErr l = 0 ∨ softErr l = 1 := by unfold softErr; split <;> simp
theorem soft_of {l : List Int} (h : softErr l = 0) : softOk l = true := by
  unfold softErr at h
  split at h
  · assumption
  · cases h

theorem ret_two {k : IntKind} {a b : Int} (h : a = b) (y : Value) : Ending.returned (.tuple #[.int k a, y]) = .returned (.tuple #[.int k b, y]) := by rw [h]

set_option maxHeartbeats 1000000 in
theorem score_any (zs l : List Int) (a b : Option Addr) (c cb : Nat) (w : World) (ha : Rd .u8 w a zs) (hz : zs.length ≤ maxLen) (hy : Bytes zs) (hb : Rd .i64 w b l) (hl : l.length ≤ maxLen) (hT : Taps w) :
    Calls Tryd.prog 8 #[.slice a zs.length c, .slice b l.length cb] w fun e w' => e = .returned (.tuple #[.int .i64 (scoreV zs l), .int .i64 (scoreErr zs l)]) ∧ Below w.heap.size w w' := by
  by_cases h0 : encErr zs = 0
  · have hcl : encL zs = codedTo zs (zs.length + 6) := by unfold encL; rw [if_pos h0]
    have hlen := codedTo_length zs (zs.length + 6)
    have hz4 := (enc_len h0).1
    have H0 := hid h0
    by_cases h1 : softErr l = 0
    · have H1 := hid h1
      by_cases h2 : l.length = 3 * (zs.length + 6)
      · have he : scoreErr zs l = 0 := by unfold scoreErr; rw [if_pos h0, if_pos h1, if_pos h2]
        have hv : scoreV zs l = scoreTo (codedTo zs (zs.length + 6)) l (3 * (zs.length + 6)) := by unfold scoreV; rw [if_pos he]
        rw [he, hv]
        have hsoft := hid (soft_of h1)
        clear he hv h0 h1
        unfold maxLen at hz hl
        generalize hcs : codedTo zs (zs.length + 6) = cs at *
        rw [← hlen] at h2 ⊢
        have HLEN := hid hlen
        have HM := hid h2
        rw [h2]
        rw [h2] at hl
        have hc5 : cs.length ≤ 1218 := by omega
        clear hlen hz hl h2
        go_enter Tryd.func8, Tryd.ntmps8
        go_wp2_with (first | (go_at_call 7; refine (encode_any zs a c _ ha (by unfold maxLen; omega) hy hT).mono ?_; rintro e w1 ⟨v, rfl, hown, hbel⟩; rw [H0.out]; rw [hcl] at hown; obtain ⟨a2, c2, rfl, _, _, _⟩ := hown.shape) | (go_at_call 21; rw [← HM.out]; refine (csoft_any l b cb _ (hb.below hbel) (by rw [HM.out]; unfold maxLen; omega)).mono ?_; rintro e w2 ⟨rfl, rfl⟩; rw [H1.out, HM.out]))
        have hrd := hown.rd
        have hb2 := hb.below hbel
        go_loop [9, 32] (fun n i => ∃ k : Nat, ∃ q : Int, k ≤ cs.length ∧ i = .int .i64 k ∧ n = .int .i64 q ∧ -10000000000 ≤ q ∧ q ≤ 10000000000 ∧ Hid (q = scoreTo cs l k)) (fun _ i => cs.length - (intOf i).toNat)
        case atStart => exact ⟨0, 0, Nat.zero_le _, rfl, rfl, by omega, by omega, rfl⟩
        case round =>
          obtain ⟨k, q, hk, rfl, rfl, hq0, hq1, HQ⟩ := hrel
          by_cases hlt : k < cs.length
          · obtain ⟨b1, o1, rfl, hc1⟩ := hrd.at hlt
            obtain ⟨b2, o2, rfl, hc2⟩ := hb2.at (i := k) (by rw [HM.out]; omega)
            have g1 := hc1 k hlt
            have g2 := hc2 k (by rw [HM.out]; omega)
            have by' := soft_at hsoft.out k
            have hnext := scoreTo_bd cs l (soft_at hsoft.out) (k + 1)
            have hs := hid (show scoreTo cs l (k + 1) = scoreTo cs l k + sgn (cs.getD k 0) (l.getD k 0) from rfl)
            clear hc1 hc2
            obtain ⟨x, ex⟩ : ∃ x, x = cs.getD k 0 := ⟨_, rfl⟩
            obtain ⟨y, ey⟩ : ∃ y, y = l.getD k 0 := ⟨_, rfl⟩
            rw [← ex] at g1
            rw [← ey] at g2 by'
            have EX := hid ex
            have EY := hid ey
            clear ex ey
            have hn2 : -10000000000 ≤ scoreTo cs l (k + 1) ∧ scoreTo cs l (k + 1) ≤ 10000000000 := by omega
            have HN2 := hid hn2
            clear hnext hn2
            by_cases h1 : x = 1
            · have c1 : (x == 1) = true := by simpa using h1
              have hv := hid (show q - y = scoreTo cs l (k + 1) by rw [hs.out, ← HQ.out, ← EX.out, ← EY.out, sgn, if_pos h1]; omega)
              clear h1
              go_wp2
              go_round
              case rel => exact ⟨k + 1, q - y, by omega, by go_num, rfl, by rw [hv.out]; exact HN2.out.1, by rw [hv.out]; exact HN2.out.2, hv.out⟩
              case measure => simp [intOf]; omega
            · have c1 : (x == 1) = false := by simpa using h1
              have hv := hid (show q + y = scoreTo cs l (k + 1) by rw [hs.out, ← HQ.out, ← EX.out, ← EY.out, sgn, if_neg h1])
              clear h1
              go_wp2
              go_round
              case rel => exact ⟨k + 1, q + y, by omega, by go_num, rfl, by rw [hv.out]; exact HN2.out.1, by rw [hv.out]; exact HN2.out.2, hv.out⟩
              case measure => simp [intOf]; omega
          · obtain rfl : k = cs.length := by omega
            go_wp2
            go_ret2
            exact ⟨ret_two HQ.out _, hbel⟩
      · have he : scoreErr zs l = 1 := by unfold scoreErr; rw [if_pos h0, if_pos h1, if_neg h2]
        have hv : scoreV zs l = 0 := by unfold scoreV; rw [he]; rfl
        rw [he, hv]
        have H2 : ((l.length : Int) != ((3 * (zs.length + 6) : Nat) : Int)) = true := by simp; omega
        rw [← hlen] at H2
        clear he hv h0 h1 h2
        unfold maxLen at hz hl
        generalize hcs : codedTo zs (zs.length + 6) = cs at *
        go_enter Tryd.func8, Tryd.ntmps8
        go_wp2_with (first | (go_at_call 7; refine (encode_any zs a c _ ha (by unfold maxLen; omega) hy hT).mono ?_; rintro e w1 ⟨v, rfl, hown, hbel⟩; rw [H0.out]; rw [hcl] at hown; obtain ⟨a2, c2, rfl, _, _, _⟩ := hown.shape) | (go_at_call 21; refine (csoft_any l b cb _ (hb.below hbel) (by unfold maxLen; omega)).mono ?_; rintro e w2 ⟨rfl, rfl⟩; rw [H1.out]))
        go_ret2
        exact ⟨rfl, hbel⟩
    · have he : scoreErr zs l = 1 := by unfold scoreErr; rw [if_pos h0, if_neg h1]
      have hv : scoreV zs l = 0 := by unfold scoreV; rw [he]; rfl
      rw [he, hv]
      have H1 := hid (show softErr l = 1 by rcases softErr_cases l with h | h <;> omega)
      clear he hv h0 h1
      unfold maxLen at hz hl
      generalize hcs : codedTo zs (zs.length + 6) = cs at *
      go_enter Tryd.func8, Tryd.ntmps8
      go_wp2_with (first | (go_at_call 7; refine (encode_any zs a c _ ha (by unfold maxLen; omega) hy hT).mono ?_; rintro e w1 ⟨v, rfl, hown, hbel⟩; rw [H0.out]; rw [hcl] at hown; obtain ⟨a2, c2, rfl, _, _, _⟩ := hown.shape) | (go_at_call 21; refine (csoft_any l b cb _ (hb.below hbel) (by unfold maxLen; omega)).mono ?_; rintro e w2 ⟨rfl, rfl⟩; rw [H1.out]))
      go_ret2
      exact ⟨rfl, hbel⟩
  · have he : scoreErr zs l = encErr zs := by unfold scoreErr; rw [if_neg h0]
    have hv : scoreV zs l = 0 := by unfold scoreV; rw [he, if_neg h0]
    rw [he, hv]
    have hne : (encErr zs != 0) = true := by simpa using h0
    clear he hv h0
    unfold maxLen at hz hl
    generalize HE : encErr zs = q at *
    go_enter Tryd.func8, Tryd.ntmps8
    go_wp2_with (first | (go_at_call 7; refine (encode_any zs a c _ ha (by unfold maxLen; omega) hy hT).mono ?_; rintro e w1 ⟨v, rfl, hown, hbel⟩; rw [HE]))
    go_ret2
    exact ⟨rfl, hbel⟩
end Go.Proofs.YtiiobeelmnjffabDoor
