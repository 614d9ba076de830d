import Derived.Test.YtiiobeelmnjffabDoorCoded
namespace Go.Proofs.YtiiobeelmnjffabDoor
open Go.RowKit

/-- The state ahead of the place i. -/
def stI (zs : List Int) (i : Nat) : Int := bitI zs (i - 1) * 32 + bitI zs (i - 2) * 16 + bitI zs (i - 3) * 8 + bitI zs (i - 4) * 4 + bitI zs (i - 5) * 2 + bitI zs (i - 6)

theorem stI_zero (zs : List Int) : stI zs 0 = 0 := by simp [stI, bitI]

theorem stI_next {zs : List Int} (h : Bits zs) (i : Nat) : nxt (stI zs i) (bitI zs i) = stI zs (i + 1) := by
  have e : ∀ k : Nat, bitI zs (((i + 1 : Nat) : Int) - ((k + 1 : Nat) : Int)) = bitI zs ((i : Int) - (k : Int)) := fun k => by congr 1; omega
  have e0 := e 0
  have e1 := e 1
  have e2 := e 2
  have e3 := e 3
  have e4 := e 4
  have e5 := e 5
  simp at e0 e1 e2 e3 e4 e5
  unfold nxt stI
  have b1 := bitI_bd h ((i : Int) - 1)
  have b2 := bitI_bd h ((i : Int) - 2)
  have b3 := bitI_bd h ((i : Int) - 3)
  have b4 := bitI_bd h ((i : Int) - 4)
  have b5 := bitI_bd h ((i : Int) - 5)
  have b6 := bitI_bd h ((i : Int) - 6)
  rw [show ((i + 1 : Nat) : Int) - 1 = (i : Int) from by omega, show ((i + 1 : Nat) : Int) - 2 = (i : Int) - 1 from by omega, show ((i + 1 : Nat) : Int) - 3 = (i : Int) - 2 from by omega, show ((i + 1 : Nat) : Int) - 4 = (i : Int) - 3 from by omega, show ((i + 1 : Nat) : Int) - 5 = (i : Int) - 4 from by omega, show ((i + 1 : Nat) : Int) - 6 = (i : Int) - 5 from by omega]
  omega

theorem st_parts (a b c d e f : Int) (ha : 0 ≤ a ∧ a ≤ 1) (hb : 0 ≤ b ∧ b ≤ 1) (hc : 0 ≤ c ∧ c ≤ 1) (hd : 0 ≤ d ∧ d ≤ 1) (he : 0 ≤ e ∧ e ≤ 1) (hf : 0 ≤ f ∧ f ≤ 1) :
    (a * 32 + b * 16 + c * 8 + d * 4 + e * 2 + f) / 32 % 2 = a ∧ (a * 32 + b * 16 + c * 8 + d * 4 + e * 2 + f) / 16 % 2 = b ∧ (a * 32 + b * 16 + c * 8 + d * 4 + e * 2 + f) / 8 % 2 = c ∧
    (a * 32 + b * 16 + c * 8 + d * 4 + e * 2 + f) / 4 % 2 = d ∧ (a * 32 + b * 16 + c * 8 + d * 4 + e * 2 + f) / 2 % 2 = e ∧ (a * 32 + b * 16 + c * 8 + d * 4 + e * 2 + f) % 2 = f := by omega

theorem trip_out {zs : List Int} (h : Bits zs) (i : Nat) : trip zs i = [out0 (stI zs i) (bitI zs i), out1 (stI zs i) (bitI zs i), out2 (stI zs i) (bitI zs i)] := by
  obtain ⟨p1, p2, p3, p4, p5, p6⟩ := st_parts _ _ _ _ _ _ (bitI_bd h ((i : Int) - 1)) (bitI_bd h ((i : Int) - 2)) (bitI_bd h ((i : Int) - 3)) (bitI_bd h ((i : Int) - 4)) (bitI_bd h ((i : Int) - 5)) (bitI_bd h ((i : Int) - 6))
  unfold trip out0 out1 out2 stI
  rw [p1, p2, p3, p4, p5, p6]

theorem codedTo_at (zs : List Int) : ∀ (K i r : Nat), i < K → r < 3 → (codedTo zs K).getD (3 * i + r) 0 = (trip zs i).getD r 0
  | 0, i, r, h, _ => by omega
  | K + 1, i, r, h, hr => by
    rw [codedTo]
    by_cases hi : i < K
    · rw [← codedTo_at zs K i r hi hr]
      have hl := codedTo_length zs K
      simp only [List.getD, List.getElem?_append_left (show 3 * i + r < (codedTo zs K).length by omega)]
    · obtain rfl : i = K := by omega
      have hl := codedTo_length zs i
      simp only [List.getD, List.getElem?_append_right (show (codedTo zs i).length ≤ 3 * i + r by omega)]
      rw [show 3 * i + r - (codedTo zs i).length = r from by omega]

/-- What the first k bits score. -/
def gainTo (soft zs : List Int) : Nat → Int
  | 0 => 0
  | k + 1 => gainTo soft zs k + gain soft k (stI zs k) (bitI zs k)

theorem score_gain {zs : List Int} (h : Bits zs) (soft : List Int) (K : Nat) : ∀ k, k ≤ K → scoreTo (codedTo zs K) soft (3 * k) = gainTo soft zs k
  | 0, _ => rfl
  | k + 1, hk => by
    have ih := score_gain h soft K k (by omega)
    have c0 := codedTo_at zs K k 0 (by omega) (by omega)
    have c1 := codedTo_at zs K k 1 (by omega) (by omega)
    have c2 := codedTo_at zs K k 2 (by omega) (by omega)
    rw [trip_out h k] at c0 c1 c2
    rw [show 3 * (k + 1) = 3 * k + 1 + 1 + 1 from by omega, scoreTo, scoreTo, scoreTo, ih, gainTo]
    rw [show 3 * k + 1 + 1 = 3 * k + 2 from by omega, c1, c2]
    rw [Nat.add_zero] at c0
    rw [c0]
    unfold gain
    show _ + sgn (out0 (stI zs k) (bitI zs k)) _ + sgn (out1 (stI zs k) (bitI zs k)) _ + sgn (out2 (stI zs k) (bitI zs k)) _ = _
    omega

theorem sc_gain {zs : List Int} (h : Bits zs) (soft : List Int) : ∀ (c : List Int) (i : Nat), (∀ j, j < c.length → c.getD j 0 = bitI zs ((i + j : Nat) : Int)) → sc soft i (stI zs i) c = gainTo soft zs (i + c.length) - gainTo soft zs i
  | [], i, _ => by simp [sc]
  | x :: c, i, hc => by
    have h0 : x = bitI zs i := by have := hc 0 (by simp); simpa using this
    have ih := sc_gain h soft c (i + 1) (fun j hj => by
      have := hc (j + 1) (by simpa using hj)
      rw [show i + 1 + j = i + (j + 1) from by omega, ← this]
      simp)
    rw [sc, h0, stI_next h i, ih, List.length_cons, show i + 1 + c.length = i + (c.length + 1) from by omega]
    show _ = gainTo soft zs (i + (c.length + 1)) - gainTo soft zs i
    rw [show gainTo soft zs (i + 1) = gainTo soft zs i + gain soft i (stI zs i) (bitI zs i) from rfl]
    omega

/-- What the document's coded bits score is what the way scores. -/
theorem score_sc {zs : List Int} (h : Bits zs) (soft : List Int) : scoreTo (codedTo zs (zs.length + 6)) soft (3 * (zs.length + 6)) = sc soft 0 0 (zs ++ zeros6) := by
  have hs := sc_gain h soft (zs ++ zeros6) 0 (fun j hj => by
    rw [Nat.zero_add]
    unfold bitI
    rw [if_neg (by omega), Int.toNat_natCast]
    by_cases hj' : j < zs.length
    · simp only [List.getD, List.getElem?_append_left hj']
    · simp only [List.getD, List.getElem?_append_right (Nat.le_of_not_lt hj'), List.getElem?_eq_none (Nat.le_of_not_lt hj')]
      have hj6 : j - zs.length < 6 := by simp [zeros6] at hj; omega
      match j - zs.length, hj6 with
      | 0, _ | 1, _ | 2, _ | 3, _ | 4, _ | 5, _ => rfl)
  rw [stI_zero] at hs
  rw [score_gain h soft (zs.length + 6) (zs.length + 6) (Nat.le_refl _), hs]
  simp [zeros6, gainTo]

end Go.Proofs.YtiiobeelmnjffabDoor
