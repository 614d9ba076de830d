import Derived.Test.YtaggbkhpoaacjacDoorMatchO
namespace Go.Proofs.YtaggbkhpoaacjacDoor
open Go.ChangeShapes Go.WideShapes Go.ChangeAt Go.RowKit

/-! THE DOCUMENT'S Version, Picked. -/

def verOk (v : Int) : Bool := decide (0 ≤ v ∧ v ≤ 3)
theorem ret_boolM {a b : Bool} (h : a = b) : Ending.returned (.bool a) = .returned (.bool b) := by rw [h]

set_option maxHeartbeats 400000 in
theorem rversion_any (v : Int) (w : World) : Calls Tryd.prog 17 #[.int .i64 v] w fun e w' => e = .returned (.bool (verOk v)) ∧ w = w' := by
  by_cases h0 : 0 ≤ v
  · have d0 : decide (0 ≤ v) = true := decide_eq_true h0
    by_cases h3 : v ≤ 3
    · have HV := hid (show true = verOk v by simp [verOk, h0, h3])
      have d3 : decide (v ≤ 3) = true := decide_eq_true h3
      clear h0 h3
      go_enter Tryd.func17, Tryd.ntmps17
      go_wp2
      go_ret
      exact ⟨ret_boolM HV.out, rfl⟩
    · have HV := hid (show false = verOk v by simp [verOk]; omega)
      have d3 : decide (v ≤ 3) = false := decide_eq_false h3
      clear h0 h3
      go_enter Tryd.func17, Tryd.ntmps17
      go_wp2
      go_ret
      exact ⟨ret_boolM HV.out, rfl⟩
  · have HV := hid (show false = verOk v by simp [verOk]; omega)
    have d0 : decide (0 ≤ v) = false := decide_eq_false h0
    clear h0
    go_enter Tryd.func17, Tryd.ntmps17
    go_wp2
    go_ret
    exact ⟨ret_boolM HV.out, rfl⟩

/-- Which coded bit the i-th picked one is. -/
def pickM (n v i : Nat) : Nat := (ordM n).getD ((n * v / 4 + i) % n) 0
def pickTo (n v c : Nat) : List Nat := (List.range c).map (pickM n v)
theorem pickTo_succ (n v i : Nat) : intsM (pickTo n v (i + 1)) = intsM (pickTo n v i) ++ [((pickM n v i : Nat) : Int)] := by simp [pickTo, intsM, List.range_succ]
theorem pickTo_length (n v c : Nat) : (intsM (pickTo n v c)).length = c := by simp [pickTo, intsM]
theorem pickM_lt {n v i : Nat} (h : 1 ≤ n) : pickM n v i < n := by
  unfold pickM
  have hm : (n * v / 4 + i) % n < (ordM n).length := by rw [ordM_length]; exact Nat.mod_lt _ (by omega)
  have e : (ordM n).getD ((n * v / 4 + i) % n) 0 = (ordM n)[(n * v / 4 + i) % n] := by simp [List.getD, hm]
  rw [e]
  exact mem_ordM.1 (List.getElem_mem hm)

set_option maxRecDepth 100000 in
set_option maxHeartbeats 2000000 in
theorem rpicked_any (n v c : Nat) (w : World) (h1 : 1 ≤ n) (hn : n ≤ 4096) (hv : v ≤ 3) (hc : c ≤ 4096) :
    Calls Tryd.prog 20 #[.int .i64 n, .int .i64 v, .int .i64 c] w fun e w' => ∃ u, e = .returned u ∧ OwnI w' w.heap.size u (intsM (pickTo n v c)) ∧ Below w.heap.size w w' := by
  have hmul : (n : Int) * (v : Int) = ((n * v : Nat) : Int) := by simp
  have hnv : n * v ≤ 12288 := by
    have := Nat.mul_le_mul hn hv
    omega
  obtain ⟨p, ep⟩ : ∃ p, p = n * v := ⟨_, rfl⟩
  rw [← ep] at hmul hnv
  have hquo : (p : Int).tdiv 4 = ((p / 4 : Nat) : Int) := by rw [Int.tdiv_eq_ediv_of_nonneg (by omega)]; simp
  obtain ⟨b, eb⟩ : ∃ b, b = p / 4 := ⟨_, rfl⟩
  rw [← eb] at hquo
  have hbn : b < n := by
    have h3 : n * v ≤ n * 3 := Nat.mul_le_mul_left n hv
    omega
  have HB := hid (show b = n * v / 4 by rw [eb, ep])
  have HLO := hid ((intsM_length (ordM n)).trans (ordM_length n))
  have hwm : IntKind.i64.wrap ((n : Int) * (v : Int)) = (p : Int) := by rw [hmul, IntKind.wrap_i64]; omega
  clear ep eb
  go_enter Tryd.func20, Tryd.ntmps20
  go_wp2_with fail
  refine (rorder_any n _ hn).mono ?_
  rintro e w1 ⟨v1, rfl, hown1, hbel1⟩
  obtain ⟨aL, cL, rfl, -, -⟩ := hown1.shape
  have hrL := hown1.rd
  rw [HLO.out]
  clear hown1
  go_wp2
  go_loopw [8, 9, 10] (fun u q9 q10 wr => ∃ i t : Nat, i ≤ c ∧ Hid (t = (b + i) % n) ∧ t < n ∧ q9 = .int .i64 t ∧ q10 = .int .i64 i ∧ OwnI wr w1.heap.size u (intsM (pickTo n v i)) ∧ Below w1.heap.size w1 wr) (fun _ _ q10 _ => c - (intOf q10).toNat)
  case atStart => exact ⟨0, b, Nat.zero_le _, by unfold Hid; rw [Nat.add_zero, Nat.mod_eq_of_lt hbn], hbn, rfl, rfl, OwnI.nil _ _, Below.refl _ _⟩
  case round =>
    obtain ⟨i, t, hi, HT, htn, rfl, rfl, hown, hbel⟩ := hrel
    have hsz := hbel.size
    by_cases hlt : i < c
    · obtain ⟨b1, o1, rfl, hc1⟩ := (hrL.below hbel).at (i := t) (by rw [HLO.out]; exact htn)
      have g1 := hc1 t (by rw [HLO.out]; exact htn)
      rw [intsM_at] at g1
      have HPS := hid (pickTo_succ n v i)
      have HP := hid (show (ordM n).getD t 0 = pickM n v i by unfold pickM; rw [HT.out, HB.out])
      have HL8 : Hid ((intsM (pickTo n v i)).length < 8796093022208) := by unfold Hid; rw [pickTo_length]; omega
      rw [HP.out] at g1
      generalize pickM n v i = x at *
      clear hc1 HP
      by_cases he : t + 1 = n
      · have hbe : ((t : Int) + 1 == (n : Int)) = true := by simp; omega
        have HT' : Hid (0 = (b + (i + 1)) % n) := by
          unfold Hid
          rw [← Nat.add_assoc, Nat.add_mod, ← HT.out]
          by_cases h1n : n = 1
          · subst h1n; omega
          · rw [Nat.mod_eq_of_lt (show 1 < n by omega), he, Nat.mod_self]
        clear he
        go_wp2_with (first | (at_builtin; refine wpList_pushI w1.heap.size w1 (x : Int) hown rfl _ _ rfl rfl rfl HL8.out hbel hsz ?_))
        intro u' w2 hown' hbel'
        rw [← HPS.out] at hown'
        go_wp2
        go_roundw
        case rel => first | exact ⟨i + 1, 0, by omega, HT', by omega, rfl, by go_num, hown', hbel'⟩ | ((repeat apply Exists.intro); exact ⟨⟨i + 1, 0, by omega, HT', by omega, rfl, by go_num, hown', hbel'⟩, rfl⟩)
        case measure => simp [intOf]; omega
      · have hbe : ((t : Int) + 1 == (n : Int)) = false := by simp; omega
        have ht1 : t + 1 < n := by omega
        have HT' : Hid (t + 1 = (b + (i + 1)) % n) := by
          unfold Hid
          rw [← Nat.add_assoc, Nat.add_mod, ← HT.out, Nat.mod_eq_of_lt (show 1 < n by omega), Nat.mod_eq_of_lt (by omega)]
        clear he
        go_wp2_with (first | (at_builtin; refine wpList_pushI w1.heap.size w1 (x : Int) hown rfl _ _ rfl rfl rfl HL8.out hbel hsz ?_))
        intro u' w2 hown' hbel'
        rw [← HPS.out] at hown'
        go_wp2
        go_roundw
        case rel => exact ⟨i + 1, t + 1, by omega, HT', by omega, by go_num, by go_num, hown', hbel'⟩
        case measure => simp [intOf]; omega
    · obtain rfl : i = c := by omega
      go_wp2
      go_ret
      exact ⟨_, rfl, hown.mono hbel1.size, bthen hbel1 hbel⟩
end Go.Proofs.YtaggbkhpoaacjacDoor
