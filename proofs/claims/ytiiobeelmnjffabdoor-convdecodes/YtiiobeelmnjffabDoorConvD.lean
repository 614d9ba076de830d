import Derived.Test.YtiiobeelmnjffabDoorCodeM
namespace Go.Proofs.YtiiobeelmnjffabDoor

/-! THE CODE AS THE PROGRAM COUNTS IT: a window whose lowest place is the bit itself, states whose lowest place is the newest bit; words of three coded bits. -/

/-- The document's state of a state of the program. -/
def rev6 (S : Int) : Int := S % 2 * 32 + S / 2 % 2 * 16 + S / 4 % 2 * 8 + S / 8 % 2 * 4 + S / 16 % 2 * 2 + S / 32 % 2
/-- The word of a window. -/
def wordI (W : Int) : Int :=
  (W % 2 + W / 2 % 2 + W / 4 % 2 + W / 8 % 2 + W / 64 % 2) % 2 * 4 + (W % 2 + W / 4 % 2 + W / 8 % 2 + W / 32 % 2 + W / 64 % 2) % 2 * 2 + (W % 2 + W / 2 % 2 + W / 4 % 2 + W / 16 % 2 + W / 64 % 2) % 2

theorem wordI_bd (W : Int) : 0 ≤ wordI W ∧ wordI W < 8 := by unfold wordI; omega
theorem wordI_mod (W V : Int) (h : W % 128 = V % 128) : wordI W = wordI V := by
  have h0 : W % 2 = V % 2 := by omega
  have h1 : W / 2 % 2 = V / 2 % 2 := by omega
  have h2 : W / 4 % 2 = V / 4 % 2 := by omega
  have h3 : W / 8 % 2 = V / 8 % 2 := by omega
  have h4 : W / 16 % 2 = V / 16 % 2 := by omega
  have h5 : W / 32 % 2 = V / 32 % 2 := by omega
  have h6 : W / 64 % 2 = V / 64 % 2 := by omega
  unfold wordI
  rw [h0, h1, h2, h3, h4, h5, h6]

theorem rev_all : ∀ S : Fin 64, ∀ x : Fin 2,
    (nxt (rev6 (S.val : Int)) (x.val : Int) = rev6 ((2 * (S.val : Int) + (x.val : Int)) % 64) ∧
    out0 (rev6 (S.val : Int)) (x.val : Int) = wordI (2 * (S.val : Int) + (x.val : Int)) / 4 % 2 ∧
    out1 (rev6 (S.val : Int)) (x.val : Int) = wordI (2 * (S.val : Int) + (x.val : Int)) / 2 % 2 ∧
    out2 (rev6 (S.val : Int)) (x.val : Int) = wordI (2 * (S.val : Int) + (x.val : Int)) % 2 ∧
    wordI (2 * (S.val : Int) + 1) = 7 - wordI (2 * (S.val : Int))) := by decide +kernel

theorem rev_at (S : Nat) (hS : S < 64) (x : Nat) (hx : x < 2) :
    nxt (rev6 (S : Int)) (x : Int) = rev6 ((2 * (S : Int) + (x : Int)) % 64) ∧
    out0 (rev6 (S : Int)) (x : Int) = wordI (2 * (S : Int) + (x : Int)) / 4 % 2 ∧
    out1 (rev6 (S : Int)) (x : Int) = wordI (2 * (S : Int) + (x : Int)) / 2 % 2 ∧
    out2 (rev6 (S : Int)) (x : Int) = wordI (2 * (S : Int) + (x : Int)) % 2 ∧
    wordI (2 * (S : Int) + 1) = 7 - wordI (2 * (S : Int)) := rev_all ⟨S, hS⟩ ⟨x, hx⟩

/-- What a word scores of what is heard at the place i. -/
def gw (soft : List Int) (i : Nat) (w : Int) : Int :=
  sgn (w / 4 % 2) (soft.getD (3 * i) 0) + sgn (w / 2 % 2) (soft.getD (3 * i + 1) 0) + sgn (w % 2) (soft.getD (3 * i + 2) 0)

theorem gw_gain (soft : List Int) (i S x : Nat) (hS : S < 64) (hx : x < 2) : gw soft i (wordI (2 * (S : Int) + (x : Int))) = gain soft i (rev6 (S : Int)) (x : Int) := by
  obtain ⟨_, h0, h1, h2, _⟩ := rev_at S hS x hx
  unfold gw gain
  rw [h0, h1, h2]

/-- The best from a place and a state on, k places being left; from the place n on only 0 is said. -/
def val (soft : List Int) (n : Nat) : Nat → Nat → Int
  | 0, _ => 0
  | k + 1, S =>
    let i := n + 6 - (k + 1)
    let z := gw soft i (wordI (2 * (S : Int))) + val soft n k (2 * S % 64)
    let o := gw soft i (7 - wordI (2 * (S : Int))) + val soft n k (2 * S % 64 + 1)
    if k < 6 then z else if z < o then o else z
/-- Does only a 1 bring the most, k places being left behind this one? -/
def one (soft : List Int) (n k S : Nat) : Bool :=
  decide (gw soft (n + 6 - (k + 1)) (wordI (2 * (S : Int))) + val soft n k (2 * S % 64) < gw soft (n + 6 - (k + 1)) (7 - wordI (2 * (S : Int))) + val soft n k (2 * S % 64 + 1))

theorem rev_next0 (S : Nat) (hS : S < 64) : nxt (rev6 (S : Int)) 0 = rev6 ((2 * S % 64 : Nat) : Int) := by
  have := (rev_at S hS 0 (by omega)).1
  rw [show ((2 * S % 64 : Nat) : Int) = (2 * (S : Int) + ((0 : Nat) : Int)) % 64 by omega]
  exact this
theorem rev_next1 (S : Nat) (hS : S < 64) : nxt (rev6 (S : Int)) 1 = rev6 ((2 * S % 64 + 1 : Nat) : Int) := by
  have := (rev_at S hS 1 (by omega)).1
  rw [show ((2 * S % 64 + 1 : Nat) : Int) = (2 * (S : Int) + ((1 : Nat) : Int)) % 64 by omega]
  exact this
theorem gw_gain0 (soft : List Int) (i S : Nat) (hS : S < 64) : gw soft i (wordI (2 * (S : Int))) = gain soft i (rev6 (S : Int)) 0 := by
  have := gw_gain soft i S 0 hS (by omega)
  simpa using this
theorem gw_gain1 (soft : List Int) (i S : Nat) (hS : S < 64) : gw soft i (7 - wordI (2 * (S : Int))) = gain soft i (rev6 (S : Int)) 1 := by
  have h := gw_gain soft i S 1 hS (by omega)
  have h' := (rev_at S hS 1 (by omega)).2.2.2.2
  rw [← h']
  simpa using h

theorem val_tail (soft : List Int) (n : Nat) : ∀ k, k ≤ 6 → ∀ S, S < 64 → val soft n k S = sc soft (n + 6 - k) (rev6 (S : Int)) (List.replicate k 0)
  | 0, _, _, _ => rfl
  | k + 1, hk, S, hS => by
    rw [val]
    simp only [if_pos (show k < 6 by omega)]
    rw [gw_gain0 soft _ S hS, val_tail soft n k (by omega) _ (Nat.mod_lt _ (by omega)), List.replicate_succ, sc, rev_next0 S hS, show n + 6 - (k + 1) + 1 = n + 6 - k by omega]

theorem val_top (soft : List Int) (n : Nat) : ∀ r, r ≤ n → ∀ S, S < 64 → val soft n (r + 6) S = top soft r (n - r) (rev6 (S : Int))
  | 0, _, S, hS => by
    rw [Nat.zero_add, val_tail soft n 6 (by omega) S hS]
    show _ = sc soft (n - 0) _ zeros6
    rw [show n + 6 - 6 = n - 0 by omega]
    rfl
  | r + 1, hr, S, hS => by
    rw [show r + 1 + 6 = (r + 6) + 1 by omega, val]
    simp only [if_neg (show ¬ r + 6 < 6 by omega)]
    rw [gw_gain0 soft _ S hS, gw_gain1 soft _ S hS, val_top soft n r (by omega) _ (Nat.mod_lt _ (by omega)), val_top soft n r (by omega) _ (by omega), show n + 6 - (r + 6 + 1) = n - (r + 1) by omega]
    rw [top, rev_next0 S hS, rev_next1 S hS, show n - (r + 1) + 1 = n - r by omega]
    split <;> omega

theorem one_way (soft : List Int) (n r S : Nat) (hr : r < n) (hS : S < 64) :
    way soft (r + 1) (n - (r + 1)) (rev6 (S : Int)) = if one soft n (r + 6) S then 1 :: way soft r (n - r) (rev6 ((2 * S % 64 + 1 : Nat) : Int)) else 0 :: way soft r (n - r) (rev6 ((2 * S % 64 : Nat) : Int)) := by
  rw [way]
  unfold one
  rw [gw_gain0 soft _ S hS, gw_gain1 soft _ S hS, val_top soft n r (by omega) _ (Nat.mod_lt _ (by omega)), val_top soft n r (by omega) _ (by omega), show n + 6 - (r + 6 + 1) = n - (r + 1) by omega, rev_next0 S hS, rev_next1 S hS, show n - (r + 1) + 1 = n - r by omega]
  simp only [decide_eq_true_eq]

/-- The marks of a place: a place a state. -/
def marks (soft : List Int) (n k : Nat) : Nat → Nat
  | 0 => 0
  | S + 1 => marks soft n k S + if one soft n k S then 2 ^ S else 0
theorem marks_lt (soft : List Int) (n k : Nat) : ∀ S, marks soft n k S < 2 ^ S
  | 0 => by simp [marks]
  | S + 1 => by
    have := marks_lt soft n k S
    have h2 : 2 ^ (S + 1) = 2 ^ S + 2 ^ S := by rw [Nat.pow_succ]; omega
    unfold marks
    split <;> omega
theorem marks_or (soft : List Int) (n k S : Nat) : marks soft n k S ||| 2 ^ S = marks soft n k S + 2 ^ S := by
  have h := marks_lt soft n k S
  have := Nat.two_pow_add_eq_or_of_lt h 1
  rw [Nat.mul_one] at this
  rw [Nat.or_comm, ← this, Nat.add_comm]
theorem marks_above (soft : List Int) (n k S : Nat) : ∀ d, marks soft n k (S + d) / 2 ^ S % 2 = (marks soft n k S + if d = 0 then 0 else if one soft n k S then 2 ^ S else 0) / 2 ^ S % 2
  | 0 => by simp
  | 1 => by simp [marks]
  | d + 2 => by
    have ih := marks_above soft n k S (d + 1)
    rw [show S + (d + 2) = (S + (d + 1)) + 1 by omega, marks]
    split
    · have e : 2 ^ (S + (d + 1)) = 2 ^ S * (2 * 2 ^ d) := by rw [Nat.pow_add, Nat.pow_succ, Nat.mul_comm (2 ^ d) 2]
      rw [e, Nat.add_mul_div_left _ _ (Nat.two_pow_pos S), Nat.add_mul_mod_self_left, ih]
      simp
    · rw [Nat.add_zero, ih]
      simp
theorem marks_bit (soft : List Int) (n k S : Nat) (hS : S < 64) : marks soft n k 64 / 2 ^ S % 2 = if one soft n k S then 1 else 0 := by
  obtain ⟨d, hd⟩ : ∃ d, 64 = S + (d + 1) := ⟨63 - S, by omega⟩
  have := marks_above soft n k S (d + 1)
  rw [← hd] at this
  rw [this]
  have hl := marks_lt soft n k S
  simp only [Nat.succ_ne_zero, if_false]
  split
  · rw [Nat.add_div_right _ (Nat.two_pow_pos S), Nat.div_eq_of_lt hl]
  · rw [Nat.add_zero, Nat.div_eq_of_lt hl]
end Go.Proofs.YtiiobeelmnjffabDoor
