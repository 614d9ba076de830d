import Derived.Test.YtfbjedcfppghgabDoorConvM
import Derived.Test.YtfbjedcfppghgabDoorPush
namespace Go.Proofs.YtfbjedcfppghgabDoor
open Go.ChangeShapes Go.WideShapes Go.ChangeAt Go.RowKit

/-- Soft numbers: each within the bound. -/
def softOk (l : List Int) : Bool := l.all fun x => decide (-100000 ≤ x ∧ x ≤ 100000)
def SoftTo (l : List Int) (k : Nat) : Prop := ∀ j, j < k → -100000 ≤ l.getD j 0 ∧ l.getD j 0 ≤ 100000

theorem soft_all {l : List Int} (h : SoftTo l l.length) : softOk l = true := by
  unfold softOk
  rw [List.all_eq_true]
  intro x hx
  obtain ⟨k, hk, rfl⟩ := List.getElem_of_mem hx
  have := h k hk
  have e : l.getD k 0 = l[k] := by simp [List.getD, hk]
  rw [e] at this
  simpa using this
theorem soft_at {l : List Int} (h : softOk l = true) (k : Nat) : -100000 ≤ l.getD k 0 ∧ l.getD k 0 ≤ 100000 := by
  unfold softOk at h
  rw [List.all_eq_true] at h
  by_cases hk : k < l.length
  · have := h _ (List.getElem_mem hk)
    have e : l.getD k 0 = l[k] := by simp [List.getD, hk]
    rw [e]
    simpa using this
  · have : l.getD k 0 = 0 := by simp [List.getD, Nat.le_of_not_lt hk]
    rw [this]; omega
theorem soft_bad {l : List Int} {k : Nat} (h : l.getD k 0 < -100000 ∨ 100000 < l.getD k 0) : softOk l = false := by
  cases hs : softOk l with
  | false => rfl
  | true => have := soft_at hs k; omega
theorem ret_bool {a b : Bool} (h : a = b) : Ending.returned (.bool a) = .returned (.bool b) := by rw [h]

set_option maxHeartbeats 400000 in
theorem rsoft_any (l : List Int) (a : Option Addr) (c : Nat) (w : World) (ha : Rd .i64 w a l) (hl : l.length ≤ maxLen) :
    Calls Tryd.prog 13 #[.slice a l.length c] w fun e w' => e = .returned (.bool (softOk l)) ∧ w = w' := by
  unfold maxLen at hl
  go_enter Tryd.func13, Tryd.ntmps13
  go_wp2
  go_loop [3] (fun i => ∃ k : Nat, k ≤ l.length ∧ i = .int .i64 k ∧ Hid (SoftTo l k)) (fun i => l.length - (intOf i).toNat)
  case atStart => exact ⟨0, Nat.zero_le _, rfl, fun j hj => by omega⟩
  case round =>
    obtain ⟨k, hk, rfl, hok⟩ := hrel
    by_cases hlt : k < l.length
    · obtain ⟨b1, o1, rfl, hc1⟩ := ha.at hlt
      have g1 := hc1 k hlt
      clear hc1
      obtain ⟨x, hx⟩ : ∃ x, x = l.getD k 0 := ⟨_, rfl⟩
      rw [← hx] at g1
      have HX := hid hx
      clear hx
      by_cases h1 : 100000 < x
      · go_wp2
        go_ret
        exact ⟨ret_bool (soft_bad (k := k) (by rw [← HX.out]; omega)).symm, rfl⟩
      · have d1 : decide (100000 < x) = false := decide_eq_false h1
        by_cases h2 : x < -100000
        · go_wp2
          go_ret
          exact ⟨ret_bool (soft_bad (k := k) (by rw [← HX.out]; omega)).symm, rfl⟩
        · have d2 : decide (x < -100000) = false := decide_eq_false h2
          have hstep : Hid (SoftTo l (k + 1)) := fun j hj => by
            by_cases e : j = k
            · subst e; rw [← HX.out]; omega
            · exact hok.out j (by omega)
          go_wp2
          go_round
          case rel => exact ⟨k + 1, by omega, by go_num, hstep⟩
          case measure => simp [intOf]; omega
    · obtain rfl : k = l.length := by omega
      go_wp2
      go_ret
      exact ⟨ret_bool (soft_all hok.out).symm, rfl⟩

/-- What coded bits score. -/
def scoreTo (cs l : List Int) : Nat → Int
  | 0 => 0
  | k + 1 => scoreTo cs l k + sgn (cs.getD k 0) (l.getD k 0)

theorem scoreTo_bd (cs l : List Int) (h : ∀ k, -100000 ≤ l.getD k 0 ∧ l.getD k 0 ≤ 100000) : ∀ k : Nat, -(100000 * (k : Int)) ≤ scoreTo cs l k ∧ scoreTo cs l k ≤ 100000 * (k : Int)
  | 0 => by simp [scoreTo]
  | k + 1 => by
    have := scoreTo_bd cs l h k
    have := h k
    unfold scoreTo sgn
    split <;> omega

set_option maxHeartbeats 400000 in
theorem rscore_any (cs l : List Int) (a b : Option Addr) (ca cb m : Nat) (w : World) (ha : Rd .u8 w a cs) (hb : Rd .i64 w b l) (hm : l.length = m) (hlen : cs.length ≤ m) (hc : cs.length ≤ 100000) (hl : ∀ k, -100000 ≤ l.getD k 0 ∧ l.getD k 0 ≤ 100000) :
    Calls Tryd.prog 14 #[.slice a cs.length ca, .slice b m cb] w fun e w' => e = .returned (.int .i64 (scoreTo cs l cs.length)) ∧ w = w' := by
  have HM := hid hm
  clear hm
  go_enter Tryd.func14, Tryd.ntmps14
  go_wp2
  go_loop [5, 6] (fun n i => ∃ k : Nat, ∃ q : Int, k ≤ cs.length ∧ i = .int .i64 k ∧ n = .int .i64 q ∧ -10000000000 ≤ q ∧ q ≤ 10000000000 ∧ Hid (q = scoreTo cs l k)) (fun _ i => cs.length - (intOf i).toNat)
  case atStart => exact ⟨0, 0, Nat.zero_le _, rfl, rfl, by omega, by omega, rfl⟩
  case round =>
    obtain ⟨k, q, hk, rfl, rfl, hq0, hq1, HQ⟩ := hrel
    by_cases hlt : k < cs.length
    · obtain ⟨b1, o1, rfl, hc1⟩ := ha.at hlt
      obtain ⟨b2, o2, rfl, hc2⟩ := hb.at (i := k) (by rw [HM.out]; omega)
      have g1 := hc1 k hlt
      have g2 := hc2 k (by rw [HM.out]; omega)
      have by' := hl k
      have hnext := scoreTo_bd cs l hl (k + 1)
      have hs := hid (show scoreTo cs l (k + 1) = scoreTo cs l k + sgn (cs.getD k 0) (l.getD k 0) from rfl)
      clear hc1 hc2
      obtain ⟨x, ex⟩ : ∃ x, x = cs.getD k 0 := ⟨_, rfl⟩
      obtain ⟨y, ey⟩ : ∃ y, y = l.getD k 0 := ⟨_, rfl⟩
      rw [← ex] at g1
      rw [← ey] at g2 by'
      have EX := hid ex
      have EY := hid ey
      have hkm : (k : Int) < (m : Int) := by omega
      clear ex ey
      have hn2 : -10000000000 ≤ scoreTo cs l (k + 1) ∧ scoreTo cs l (k + 1) ≤ 10000000000 := by omega
      have HN2 := hid hn2
      clear hnext hn2
      by_cases h1 : x = 1
      · have c1 : (x == 1) = true := by simpa using h1
        have hv := hid (show q - y = scoreTo cs l (k + 1) by rw [hs.out, ← HQ.out, ← EX.out, ← EY.out, sgn, if_pos h1]; omega)
        clear h1
        go_wp2
        go_round
        case rel => exact ⟨k + 1, q - y, by omega, by go_num, rfl, by rw [hv.out]; exact HN2.out.1, by rw [hv.out]; exact HN2.out.2, hv.out⟩
        case measure => simp [intOf]; omega
      · have c1 : (x == 1) = false := by simpa using h1
        have hv := hid (show q + y = scoreTo cs l (k + 1) by rw [hs.out, ← HQ.out, ← EX.out, ← EY.out, sgn, if_neg h1])
        clear h1
        go_wp2
        go_round
        case rel => exact ⟨k + 1, q + y, by omega, by go_num, rfl, by rw [hv.out]; exact HN2.out.1, by rw [hv.out]; exact HN2.out.2, hv.out⟩
        case measure => simp [intOf]; omega
    · obtain rfl : k = cs.length := by omega
      go_wp2
      go_ret
      exact ⟨ret_int HQ.out, rfl⟩

set_option maxHeartbeats 400000 in
theorem rahead_any (xs ys : List Int) (a b : Option Addr) (ca cb : Nat) (w : World) (ha : Rd .u8 w a xs) (hb : Rd .u8 w b ys) (hx : xs.length ≤ maxLen) (hl : ys.length = xs.length) :
    Calls Tryd.prog 18 #[.slice a xs.length ca, .slice b xs.length cb] w fun e w' => e = .returned (.bool (ahead xs ys)) ∧ Below w.heap.size w w' := by
  unfold maxLen at hx
  have HL := hid hl
  clear hl
  go_enter Tryd.func18, Tryd.ntmps18
  go_wp2
  go_loopw [5] (fun i wr => ∃ k : Nat, k ≤ xs.length ∧ i = .int .i64 k ∧ Hid (ahead xs ys = ahead (xs.drop k) (ys.drop k)) ∧ Below w.heap.size w wr) (fun i _ => xs.length - (intOf i).toNat)
  case atStart => exact ⟨0, Nat.zero_le _, rfl, rfl, Below.refl _ _⟩
  case round =>
    obtain ⟨k, hk, rfl, HA, hbel⟩ := hrel
    by_cases hlt : k < xs.length
    · obtain ⟨b1, o1, rfl, hc1⟩ := (ha.below hbel).at hlt
      obtain ⟨b2, o2, rfl, hc2⟩ := (hb.below hbel).at (i := k) (by rw [HL.out]; exact hlt)
      have g1 := hc1 k hlt
      have g2 := hc2 k (by rw [HL.out]; exact hlt)
      have hsp := hid (ahead_drop xs ys k hlt (by rw [HL.out]; exact hlt))
      clear hc1 hc2
      obtain ⟨x, ex⟩ : ∃ x, x = xs.getD k 0 := ⟨_, rfl⟩
      obtain ⟨y, ey⟩ : ∃ y, y = ys.getD k 0 := ⟨_, rfl⟩
      rw [← ex] at g1
      rw [← ey] at g2
      have EX := hid ex
      have EY := hid ey
      clear ex ey
      by_cases h1 : x = y
      · have c1 : (x != y) = false := by simpa using h1
        have hv := hid (show ahead xs ys = ahead (xs.drop (k + 1)) (ys.drop (k + 1)) by rw [HA.out, hsp.out, ← EX.out, ← EY.out, if_pos h1])
        clear h1
        go_wp2_with fail
        go_quiet (fail)
        go_wp2
        go_roundw
        case rel => exact ⟨k + 1, by omega, by go_num, hv.out, below_drewN hbel _⟩
        case measure => simp [intOf]; omega
      · have c1 : (x != y) = true := by simpa using h1
        have hv := hid (show ahead xs ys = decide (x < y) by rw [HA.out, hsp.out, ← EX.out, ← EY.out, if_neg h1])
        clear h1
        go_wp2_with fail
        go_quiet (fail)
        go_wp2_with fail
        go_quiet (fail)
        go_wp2
        go_ret
        exact ⟨ret_bool hv.out.symm, below_drewN (below_drewN hbel _) _⟩
    · have hv := hid (show ahead xs ys = false by rw [HA.out, List.drop_eq_nil_of_le (by omega)]; rfl)
      go_wp2
      go_ret
      exact ⟨ret_bool hv.out.symm, hbel⟩
end Go.Proofs.YtfbjedcfppghgabDoor
