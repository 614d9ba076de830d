import Derived.Test.YtbmdjfolfmgmmagSumM
namespace Go.Proofs.Ytbmdjfolfmgmmag

def newX (r : Nat) : Nat := (r / 8 ^^^ r) % 2
def newY (r : Nat) : Nat := (r / 8 ^^^ r / 4 ^^^ r / 2 ^^^ r) % 2
def stepX (r : Nat) : Nat := r / 2 ||| newX r * 2 ^ 30
def stepY (r : Nat) : Nat := r / 2 ||| newY r * 2 ^ 30
def regX : Nat → Nat
  | 0 => 1
  | t + 1 => stepX (regX t)
def regY (s : Nat) : Nat → Nat
  | 0 => s
  | t + 1 => stepY (regY s t)

theorem testBit_zero' (x : Nat) : x.testBit 0 = decide (x % 2 = 1) := by simp [Nat.testBit_zero]

theorem mod_two_bit (x : Nat) : decide (x % 2 = 1) = x.testBit 0 := (testBit_zero' x).symm

theorem div_bit (r e j : Nat) : (r / 2 ^ e).testBit j = r.testBit (e + j) := by
  rw [Nat.testBit_div_two_pow, Nat.add_comm]

theorem newX_bit (r : Nat) : decide (newX r = 1) = (r.testBit 3 ^^ r.testBit 0) := by
  unfold newX
  rw [mod_two_bit, Nat.testBit_xor, show (8 : Nat) = 2 ^ 3 from rfl, div_bit]

theorem newY_bit (r : Nat) : decide (newY r = 1) = (((r.testBit 3 ^^ r.testBit 2) ^^ r.testBit 1) ^^ r.testBit 0) := by
  unfold newY
  rw [mod_two_bit, Nat.testBit_xor, Nat.testBit_xor, Nat.testBit_xor, show (8 : Nat) = 2 ^ 3 from rfl, show (4 : Nat) = 2 ^ 2 from rfl, div_bit, div_bit]
  have : (r / 2).testBit 0 = r.testBit 1 := by
    have := div_bit r 1 0
    simpa using this
  rw [this]

theorem push_bit (r x : Nat) (hr : r < 2 ^ 31) (hx : x ≤ 1) (j : Nat) : (r / 2 ||| x * 2 ^ 30).testBit j = if j < 30 then r.testBit (j + 1) else (decide (j = 30) && decide (x = 1)) := by
  rw [Nat.testBit_or, testBit_up x 30 j hx]
  have h1 : (r / 2).testBit j = r.testBit (j + 1) := by
    have := div_bit r 1 j
    rw [Nat.add_comm] at this
    simpa using this
  rw [h1]
  by_cases hj : j < 30
  · rw [if_pos hj]
    have : decide (j = 30) = false := by simp; omega
    rw [this]; simp
  · rw [if_neg hj]
    have : r.testBit (j + 1) = false := Nat.testBit_lt_two_pow (Nat.lt_of_lt_of_le hr (Nat.pow_le_pow_right (by decide) (by omega)))
    rw [this]; simp

theorem push_lt (r x : Nat) (hr : r < 2 ^ 31) (hx : x ≤ 1) : (r / 2 ||| x * 2 ^ 30) < 2 ^ 31 := by
  apply Nat.or_lt_two_pow
  · omega
  · rcases (show x = 0 ∨ x = 1 by omega) with rfl | rfl <;> decide

theorem regX_lt : ∀ t, regX t < 2 ^ 31
  | 0 => by decide
  | t + 1 => push_lt _ _ (regX_lt t) (by unfold newX; omega)
theorem regY_lt (s : Nat) (hs : s < 2 ^ 31) : ∀ t, regY s t < 2 ^ 31
  | 0 => hs
  | t + 1 => push_lt _ _ (regY_lt s hs t) (by unfold newY; omega)

def bitX (t : Nat) : Bool := (regX t).testBit 0
def bitY (s t : Nat) : Bool := (regY s t).testBit 0

theorem regX_bit : ∀ j t, j ≤ 30 → (regX t).testBit j = bitX (t + j)
  | 0, t, _ => rfl
  | j + 1, t, h => by
    have := regX_bit j (t + 1) (by omega)
    rw [show t + (j + 1) = t + 1 + j from by omega, ← this]
    show _ = (stepX (regX t)).testBit j
    unfold stepX
    rw [push_bit _ _ (regX_lt t) (by unfold newX; omega), if_pos (by omega)]

theorem regY_bit (s : Nat) (hs : s < 2 ^ 31) : ∀ j t, j ≤ 30 → (regY s t).testBit j = bitY s (t + j)
  | 0, t, _ => rfl
  | j + 1, t, h => by
    have := regY_bit s hs j (t + 1) (by omega)
    rw [show t + (j + 1) = t + 1 + j from by omega, ← this]
    show _ = (stepY (regY s t)).testBit j
    unfold stepY
    rw [push_bit _ _ (regY_lt s hs t) (by unfold newY; omega), if_pos (by omega)]

theorem bitX_rec (t : Nat) : bitX (t + 31) = (bitX (t + 3) ^^ bitX t) := by
  have h := regX_bit 30 (t + 1) (by omega)
  rw [show t + 1 + 30 = t + 31 from by omega] at h
  rw [← h]
  show (stepX (regX t)).testBit 30 = _
  unfold stepX
  rw [push_bit _ _ (regX_lt t) (by unfold newX; omega), if_neg (by omega), newX_bit, regX_bit 3 t (by omega), regX_bit 0 t (by omega)]
  simp

theorem bitY_rec (s : Nat) (hs : s < 2 ^ 31) (t : Nat) : bitY s (t + 31) = (((bitY s (t + 3) ^^ bitY s (t + 2)) ^^ bitY s (t + 1)) ^^ bitY s t) := by
  have h := regY_bit s hs 30 (t + 1) (by omega)
  rw [show t + 1 + 30 = t + 31 from by omega] at h
  rw [← h]
  show (stepY (regY s t)).testBit 30 = _
  unfold stepY
  rw [push_bit _ _ (regY_lt s hs t) (by unfold newY; omega), if_neg (by omega), newY_bit, regY_bit s hs 3 t (by omega), regY_bit s hs 2 t (by omega), regY_bit s hs 1 t (by omega), regY_bit s hs 0 t (by omega)]
  simp

theorem bitX_first (j : Nat) (h : j ≤ 30) : bitX j = decide (j = 0) := by
  have := regX_bit j 0 h
  rw [Nat.zero_add] at this
  rw [← this]
  show (1 : Nat).testBit j = _
  cases j with
  | zero => rfl
  | succ j => simp [Nat.testBit_succ]

theorem bitY_first (s : Nat) (hs : s < 2 ^ 31) (j : Nat) (h : j ≤ 30) : bitY s j = s.testBit j := by
  have := regY_bit s hs j 0 h
  rw [Nat.zero_add] at this
  exact this.symm

/-- The noise. -/
def noiseAt (s i : Nat) : Int := b2i (bitX (1600 + i) ^^ bitY s (1600 + i))
def noiseTo (s n : Nat) : List Int := (List.range n).map (noiseAt s)
theorem noiseTo_length (s n : Nat) : (noiseTo s n).length = n := by simp [noiseTo]
theorem noiseTo_succ (s n : Nat) : noiseTo s (n + 1) = noiseTo s n ++ [noiseAt s n] := by simp [noiseTo, List.range_succ]

/-- A row that is filled up to place k. -/
def fillTo (f : Nat → Bool) (k N : Nat) : List Int := (List.range N).map fun j => if j < k then b2i (f j) else 0
theorem fillTo_length (f : Nat → Bool) (k N : Nat) : (fillTo f k N).length = N := by simp [fillTo]
theorem fillTo_getD (f : Nat → Bool) (k N j : Nat) (h : j < N) (hk : j < k) : (fillTo f k N).getD j 0 = b2i (f j) := by simp [fillTo, List.getD, h, hk]
theorem fillTo_set (f : Nat → Bool) (k N : Nat) (x : Int) (hx : x = b2i (f k)) : (fillTo f k N).set k x = fillTo f (k + 1) N := by
  refine List.ext_getElem (by simp [fillTo]) fun j h1 h2 => ?_
  rw [List.getElem_set]
  split
  · rename_i e
    subst e
    simp [fillTo, hx]
  · rename_i e
    simp only [fillTo, List.getElem_map, List.getElem_range]
    by_cases hj : j < k
    · rw [if_pos hj, if_pos (by omega)]
    · rw [if_neg hj, if_neg (by omega)]
theorem fillTo_zero (f : Nat → Bool) (N : Nat) : fillTo f 0 N = List.replicate N 0 := by
  rw [List.eq_replicate_iff]
  refine ⟨fillTo_length _ _ _, fun x hx => ?_⟩
  obtain ⟨j, _, rfl⟩ := List.mem_map.1 hx
  simp
theorem fillTo_first (N : Nat) : (List.replicate N (0 : Int)).set 0 1 = fillTo bitX 31 N := by
  refine List.ext_getElem (by simp [fillTo]) fun j h1 h2 => ?_
  simp only [fillTo, List.getElem_map, List.getElem_range]
  rw [List.getElem_set, List.getElem_replicate]
  by_cases hj : j < 31
  · rw [if_pos hj, bitX_first j (by omega)]
    by_cases h0 : j = 0
    · subst h0; rfl
    · rw [if_neg (by omega)]; simp [b2i, h0]
  · rw [if_neg hj, if_neg (by omega)]

theorem add_mod (a b : Bool) : (b2i a + b2i b) % 2 = b2i (a ^^ b) := by cases a <;> cases b <;> rfl
theorem add_mod4 (a b c d : Bool) : (b2i a + b2i b + b2i c + b2i d) % 2 = b2i (((a ^^ b) ^^ c) ^^ d) := by cases a <;> cases b <;> cases c <;> cases d <;> rfl

end Go.Proofs.Ytbmdjfolfmgmmag
