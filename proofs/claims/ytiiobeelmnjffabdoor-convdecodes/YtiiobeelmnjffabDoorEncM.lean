import Derived.Test.YtiiobeelmnjffabDoorWord
namespace Go.Proofs.YtiiobeelmnjffabDoor
open Go.ChangeShapes Go.WideShapes Go.ChangeAt Go.RowKit

/-- A row that is filled from its head on. -/
def fillTo (L : List Int) (k : Nat) : List Int := L.take k ++ List.replicate (L.length - k) 0
theorem fillTo_zero (L : List Int) : fillTo L 0 = List.replicate L.length 0 := by simp [fillTo]
theorem fillTo_all (L : List Int) : fillTo L L.length = L := by simp [fillTo]
theorem fillTo_length (L : List Int) (k : Nat) (h : k ≤ L.length) : (fillTo L k).length = L.length := by simp [fillTo]; omega
theorem fillTo_set (L : List Int) (k : Nat) (h : k < L.length) (x : Int) (hx : x = L.getD k 0) : (fillTo L k).set k x = fillTo L (k + 1) := by
  unfold fillTo
  obtain ⟨m, hm⟩ : ∃ m, L.length - k = m + 1 := ⟨L.length - k - 1, by omega⟩
  rw [hm, set_fill _ k m x (by simp; omega), show L.length - (k + 1) = m by omega, hx]
  congr 1
  rw [List.take_add_one]
  simp [List.getD, h]

theorem seven (x0 x1 x2 x3 x4 x5 x6 : Int) (h0 : 0 ≤ x0 ∧ x0 ≤ 1) (h1 : 0 ≤ x1 ∧ x1 ≤ 1) (h2 : 0 ≤ x2 ∧ x2 ≤ 1) (h3 : 0 ≤ x3 ∧ x3 ≤ 1) (h4 : 0 ≤ x4 ∧ x4 ≤ 1) (h5 : 0 ≤ x5 ∧ x5 ≤ 1) (h6 : 0 ≤ x6 ∧ x6 ≤ 1) :
    (x6 * 64 + x5 * 32 + x4 * 16 + x3 * 8 + x2 * 4 + x1 * 2 + x0) % 2 = x0 ∧ (x6 * 64 + x5 * 32 + x4 * 16 + x3 * 8 + x2 * 4 + x1 * 2 + x0) / 2 % 2 = x1 ∧ (x6 * 64 + x5 * 32 + x4 * 16 + x3 * 8 + x2 * 4 + x1 * 2 + x0) / 4 % 2 = x2 ∧
    (x6 * 64 + x5 * 32 + x4 * 16 + x3 * 8 + x2 * 4 + x1 * 2 + x0) / 8 % 2 = x3 ∧ (x6 * 64 + x5 * 32 + x4 * 16 + x3 * 8 + x2 * 4 + x1 * 2 + x0) / 16 % 2 = x4 ∧ (x6 * 64 + x5 * 32 + x4 * 16 + x3 * 8 + x2 * 4 + x1 * 2 + x0) / 32 % 2 = x5 ∧
    (x6 * 64 + x5 * 32 + x4 * 16 + x3 * 8 + x2 * 4 + x1 * 2 + x0) / 64 % 2 = x6 := by omega

/-- Twice the state at the place i, the newest bit lowest. -/
def preI (zs : List Int) (i : Nat) : Int :=
  bitI zs ((i : Int) - 6) * 64 + bitI zs ((i : Int) - 5) * 32 + bitI zs ((i : Int) - 4) * 16 + bitI zs ((i : Int) - 3) * 8 + bitI zs ((i : Int) - 2) * 4 + bitI zs ((i : Int) - 1) * 2

theorem preI_bd {zs : List Int} (h : Bits zs) (i : Nat) : 0 ≤ preI zs i ∧ preI zs i < 128 := by
  have h1 := bitI_bd h ((i : Int) - 1)
  have h2 := bitI_bd h ((i : Int) - 2)
  have h3 := bitI_bd h ((i : Int) - 3)
  have h4 := bitI_bd h ((i : Int) - 4)
  have h5 := bitI_bd h ((i : Int) - 5)
  have h6 := bitI_bd h ((i : Int) - 6)
  unfold preI
  omega
theorem preI_zero (zs : List Int) : preI zs 0 = 0 := by simp [preI, bitI]
theorem preI_next {zs : List Int} (h : Bits zs) (i : Nat) : preI zs (i + 1) = 2 * ((preI zs i + bitI zs i) % 64) := by
  have e : ∀ k : Nat, bitI zs (((i + 1 : Nat) : Int) - ((k + 1 : Nat) : Int)) = bitI zs ((i : Int) - (k : Int)) := fun k => by congr 1; omega
  have e0 := e 0
  have e1 := e 1
  have e2 := e 2
  have e3 := e 3
  have e4 := e 4
  have e5 := e 5
  simp only [Nat.zero_add, Nat.reduceAdd, Int.cast_ofNat_Int, Int.sub_zero] at e0 e1 e2 e3 e4 e5
  have h0 := bitI_bd h (i : Int)
  have h1 := bitI_bd h ((i : Int) - 1)
  have h2 := bitI_bd h ((i : Int) - 2)
  have h3 := bitI_bd h ((i : Int) - 3)
  have h4 := bitI_bd h ((i : Int) - 4)
  have h5 := bitI_bd h ((i : Int) - 5)
  have h6 := bitI_bd h ((i : Int) - 6)
  unfold preI
  rw [e1, e2, e3, e4, e5]
  have e0' : bitI zs (((i + 1 : Nat) : Int) - 1) = bitI zs i := e0
  rw [e0']
  omega

/-- The three coded bits of a place are the word of its window. -/
theorem trip_word {zs : List Int} (h : Bits zs) (i : Nat) (V : Int) (hV : V % 128 = preI zs i + bitI zs i) : trip zs i = [wordI V / 4 % 2, wordI V / 2 % 2, wordI V % 2] := by
  have h0 := bitI_bd h (i : Int)
  have h1 := bitI_bd h ((i : Int) - 1)
  have h2 := bitI_bd h ((i : Int) - 2)
  have h3 := bitI_bd h ((i : Int) - 3)
  have h4 := bitI_bd h ((i : Int) - 4)
  have h5 := bitI_bd h ((i : Int) - 5)
  have h6 := bitI_bd h ((i : Int) - 6)
  have hp := preI_bd h i
  rw [wordI_mod V (preI zs i + bitI zs i) (by omega)]
  obtain ⟨p0, p1, p2, p3, p4, p5, p6⟩ := seven _ _ _ _ _ _ _ h0 h1 h2 h3 h4 h5 h6
  unfold preI wordI trip
  rw [p0, p1, p2, p3, p4, p5, p6]
  generalize bitI zs (i : Int) = x0 at *
  generalize bitI zs ((i : Int) - 1) = x1 at *
  generalize bitI zs ((i : Int) - 2) = x2 at *
  generalize bitI zs ((i : Int) - 3) = x3 at *
  generalize bitI zs ((i : Int) - 4) = x4 at *
  generalize bitI zs ((i : Int) - 5) = x5 at *
  generalize bitI zs ((i : Int) - 6) = x6 at *
  clear p0 p1 p2 p3 p4 p5 p6 hp hV
  have q0 := Int.emod_two_eq (x0 + x1 + x2 + x3 + x6)
  have q1 := Int.emod_two_eq (x0 + x2 + x3 + x5 + x6)
  have q2 := Int.emod_two_eq (x0 + x1 + x2 + x4 + x6)
  generalize (x0 + x1 + x2 + x3 + x6) % 2 = y0 at *
  generalize (x0 + x2 + x3 + x5 + x6) % 2 = y1 at *
  generalize (x0 + x1 + x2 + x4 + x6) % 2 = y2 at *
  rcases q0 with rfl | rfl <;> rcases q1 with rfl | rfl <;> rcases q2 with rfl | rfl <;> rfl

theorem win_next {zs : List Int} (h : Bits zs) (i : Nat) (V : Int) (hV : V % 128 = preI zs i + bitI zs i) : 2 * V % 128 = preI zs (i + 1) := by
  rw [preI_next h i, ← hV]
  omega

/-- What is wrong with bits that are to be coded. -/
def encErr (zs : List Int) : Int := if errOf zs = 0 then (if 400 < zs.length then 2 else 0) else errOf zs
def encL (zs : List Int) : List Int := if encErr zs = 0 then codedTo zs (zs.length + 6) else []
theorem codedTo_trip (zs : List Int) (K i : Nat) (hi : i < K) (j : Nat) (hj : j < 3) : (codedTo zs K).getD (3 * i + j) 0 = (trip zs i).getD j 0 := codedTo_at zs K i j hi hj
theorem codedTo_trip0 (zs : List Int) (K i : Nat) (hi : i < K) : (codedTo zs K).getD (3 * i) 0 = (trip zs i).getD 0 0 := codedTo_at zs K i 0 hi (by omega)
end Go.Proofs.YtiiobeelmnjffabDoor
