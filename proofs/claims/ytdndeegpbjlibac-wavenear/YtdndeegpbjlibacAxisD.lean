import Derived.Test.YtdndeegpbjlibacWaveM
namespace Go.Proofs.Ytdndeegpbjlibac
open Go.ChangeShapes Go.WideShapes Go.ChangeAt Go.RowKit

/-! WHAT THE PROGRAM COMPUTES OF POINTS: by axes. -/

def bitN (n place : Nat) : Nat := n / 2 ^ place % 2
theorem bitN_or (n place : Nat) : bitN n place = 0 ∨ bitN n place = 1 := by unfold bitN; omega
/-- An axis's level of a number's lowest t bits. -/
def levM (n : Nat) : Nat → Int
  | 0 => 0
  | t + 1 => (1 - 2 * (bitN n t : Int)) * ((2 ^ t : Nat) - levM n t)
def levsM (h : Nat) : List Int := (List.range (2 ^ h)).map fun n => levM n h
/-- A point's bits of one axis as a number. -/
def numM (c : List Int) (axis : Nat) : Nat → Nat
  | 0 => 0
  | t + 1 => 2 * numM c axis t + (c.getD (axis + 2 * t) 0).toNat

def sqM (h : Nat) (x : Int) (n : Nat) : Int := (x - levM n h) * (x - levM n h)
def leastTo (h : Nat) (x : Int) (place bit : Nat) : Nat → Int
  | 0 => 9223372036854775807
  | j + 1 => if bitN j place = bit then min (leastTo h x place bit j) (sqM h x j) else leastTo h x place bit j
def hearM (h : Nat) (x : Int) (place : Nat) : Int := leastTo h x place 1 (2 ^ h) - leastTo h x place 0 (2 ^ h)
def nearA (h : Nat) (x : Int) : Nat → Nat
  | 0 => 0
  | j + 1 => if sqM h x j < sqM h x (nearA h x j) then j else nearA h x j
theorem nearA_lt (h : Nat) (x : Int) : ∀ j, 1 ≤ j → nearA h x j < j
  | 1, _ => by simp [nearA]
  | j + 2, _ => by
    have := nearA_lt h x (j + 1) (by omega)
    rw [nearA]
    split <;> omega
theorem nearA_bd (h : Nat) (x : Int) {j : Nat} (hj : j ≤ 2 ^ h) : nearA h x j < 2 ^ h := by
  by_cases e : j = 0
  · subst e; exact Nat.two_pow_pos h
  · have := nearA_lt h x j (by omega); omega

theorem levM_bd (n : Nat) : ∀ t, t ≤ 3 → -(7 : Int) ≤ levM n t ∧ levM n t ≤ 7
  | 0, _ => by simp [levM]
  | 1, _ => by
    rcases bitN_or n 0 with e | e <;> simp [levM, e]
  | 2, _ => by
    rcases bitN_or n 0 with e | e <;> rcases bitN_or n 1 with e2 | e2 <;> simp [levM, e, e2]
  | 3, _ => by
    rcases bitN_or n 0 with e | e <;> rcases bitN_or n 1 with e2 | e2 <;> rcases bitN_or n 2 with e3 | e3 <;> simp [levM, e, e2, e3]
  | t + 4, h => by omega
theorem sqM_bd {h : Nat} {x : Int} (hh : h ≤ 3) (hx : -1000 ≤ x ∧ x ≤ 1000) (n : Nat) : 0 ≤ sqM h x n ∧ sqM h x n ≤ 4000000 := by
  have h1 := levM_bd n h hh
  have sq : ∀ z : Int, -2000 ≤ z ∧ z ≤ 2000 → 0 ≤ z * z ∧ z * z ≤ 4000000 := fun z hz => by
    have h1 : z * z = (z.natAbs * z.natAbs : Nat) := by rw [Int.natAbs_mul_self]
    have h2 : z.natAbs * z.natAbs ≤ 2000 * 2000 := Nat.mul_le_mul (by omega) (by omega)
    omega
  exact sq _ (by omega)

/-- What the program has gathered of one point behind t pairs of bits. -/
def pairsTo (F G : Nat → Int) (h : Nat) (t : Nat) : List Int := (List.range t).flatMap fun s => [F (h - 1 - s), G (h - 1 - s)]
theorem pairsTo_succ (F G : Nat → Int) (h t : Nat) : pairsTo F G h (t + 1) = pairsTo F G h t ++ [F (h - 1 - t), G (h - 1 - t)] := by
  unfold pairsTo
  rw [List.range_succ, List.flatMap_append]
  simp
theorem pairsTo_length (F G : Nat → Int) (h : Nat) : ∀ t, (pairsTo F G h t).length = 2 * t
  | 0 => rfl
  | t + 1 => by rw [pairsTo_succ, List.length_append, pairsTo_length F G h t]; simp; omega
end Go.Proofs.Ytdndeegpbjlibac
