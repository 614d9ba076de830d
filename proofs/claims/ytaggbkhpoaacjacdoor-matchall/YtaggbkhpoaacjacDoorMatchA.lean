import Derived.Test.YtaggbkhpoaacjacDoorMatchL
import Derived.Test.YtaggbkhpoaacjacDoorMatchK
import Derived.Test.YtaggbkhpoaacjacDoorHeard
namespace Go.Proofs.YtaggbkhpoaacjacDoor

/-! ADDING IN ONE ORDER AND IN THE OTHER, as mathematics. -/

def cntA (ct : List Int) (j : Nat) : Nat := (ct.getD j 0 % 1024).toNat
def putA (G ls ct : List Int) (j : Nat) : List Int := heardTo (pickedM G (j % 4) (cntA ct j)) (smallTo ls ls.length) (cntA ct j)
def comA (G ls ct : List Int) (x j : Nat) : Int := comesTo (pickTo G.length (j % 4) (cntA ct j)) (putA G ls ct j) x (cntA ct j)
def stA (G ls ct : List Int) (f : Nat → Nat) : Nat → List Int
  | 0 => List.replicate G.length 0
  | t + 1 => nextM (stA G ls ct f t) (putA G ls ct (f t)) ((f t % 4 : Nat) : Int)

theorem cntA_le (ct : List Int) (j : Nat) : cntA ct j ≤ 1023 := by unfold cntA; omega
theorem putA_length (G ls ct : List Int) (j : Nat) : (putA G ls ct j).length = cntA ct j := heardTo_length _ _ _
theorem stA_length (G ls ct : List Int) (f : Nat → Nat) (t : Nat) : (stA G ls ct f t).length = G.length := by
  induction t with
  | zero => simp [stA]
  | succ t ih => rw [stA, nextM_length, ih]
theorem small_loud (ls : List Int) (i : Nat) : 1 ≤ loudAt (smallTo ls ls.length) i ∧ loudAt (smallTo ls ls.length) i ≤ 4 := by
  unfold loudAt
  simp only
  by_cases h : (smallTo ls ls.length).length = 0
  · rw [if_pos h]
    split <;> omega
  · rw [if_neg h]
    have hb := smallTo_bd ls ls.length (i % (smallTo ls ls.length).length) (Nat.mod_lt _ (by omega))
    split <;> omega
theorem putA_at {G ls ct : List Int} {j i : Nat} (h : i < cntA ct j) : (putA G ls ct j).getD i 0 = sgn (G.getD (pickM G.length (j % 4) i) 0) (loudAt (smallTo ls ls.length) i) := by
  unfold putA
  rw [heardTo_at _ _ _ _ h, heardAt, pickedM_at h]
theorem putA_bd (G ls ct : List Int) (j i : Nat) : -4 ≤ (putA G ls ct j).getD i 0 ∧ (putA G ls ct j).getD i 0 ≤ 4 := by
  by_cases h : i < cntA ct j
  · rw [putA_at h]
    have := small_loud ls i
    unfold sgn
    split <;> omega
  · have hl : (putA G ls ct j).length ≤ i := by rw [putA_length]; omega
    simp only [List.getD, List.getElem?_eq_none hl, Option.getD_none]
    omega
theorem comA_bd (G ls ct : List Int) (x j : Nat) : -4092 ≤ comA G ls ct x j ∧ comA G ls ct x j ≤ 4092 := by
  have h1 := comesTo_bd (pickTo G.length (j % 4) (cntA ct j)) (putA G ls ct j) x (M := 4) (by omega) (putA_bd G ls ct j) (cntA ct j)
  have h2 := cntA_le ct j
  unfold comA
  omega
theorem stA_at (G ls ct : List Int) (f : Nat → Nat) (t : Nat) {x : Nat} (hx : x < G.length) : (stA G ls ct f t).getD x 0 = sumTo (fun i => comA G ls ct x (f i)) t := by
  induction t with
  | zero => simp [stA, sumTo, List.getD, hx]
  | succ t ih =>
    rw [stA, sumTo, ← ih, nextM, gathTo_at _ _ _ _ (by rw [stA_length]; exact hx), stA_length, putA_length]
    simp only [comA, Int.toNat_natCast]
theorem soft_put (G ls ct : List Int) (j : Nat) : softOk (putA G ls ct j) = true := soft_all fun k _ => by
  have := putA_bd G ls ct j k
  omega
theorem soft_stA (G ls ct : List Int) (f : Nat → Nat) {t : Nat} (ht : t ≤ 8) : softOk (stA G ls ct f t) = true := soft_all fun x hx => by
  rw [stA_length] at hx
  rw [stA_at G ls ct f t hx]
  have := sumTo_bd (fun i => comA G ls ct x (f i)) (M := 4092) (fun i => comA_bd G ls ct x (f i)) t
  omega
theorem tell_put (G ls ct : List Int) (j : Nat) : tellOk (putA G ls ct j) ((j % 4 : Nat) : Int) = true := by
  have h1 := cntA_le ct j
  have h2 : verOk ((j % 4 : Nat) : Int) = true := decide_eq_true ⟨by omega, by omega⟩
  have h3 : decide ((putA G ls ct j).length ≤ 4096) = true := decide_eq_true (by rw [putA_length]; omega)
  unfold tellOk
  rw [soft_put, h2, h3]
  rfl
theorem addA (G ls ct : List Int) (f : Nat → Nat) {t : Nat} (ht : t < 8) : addErr (stA G ls ct f t) (putA G ls ct (f t)) ((f t % 4 : Nat) : Int) = 0 ∧ addM (stA G ls ct f t) (putA G ls ct (f t)) ((f t % 4 : Nat) : Int) = stA G ls ct f (t + 1) := by
  have h1 := tell_put G ls ct (f t)
  have h2 : softOk (nextM (stA G ls ct f t) (putA G ls ct (f t)) ((f t % 4 : Nat) : Int)) = true := soft_stA G ls ct f (t := t + 1) (by omega)
  constructor
  · unfold addErr; rw [h1, h2]; rfl
  · unfold addM; rw [h1, h2]; rfl
theorem stA_turned (G ls ct : List Int) (k : Nat) : stA G ls ct (fun i => k - 1 - i) k = stA G ls ct (fun i => i) k := by
  refine List.ext_getElem (by rw [stA_length, stA_length]) fun x h1 h2 => ?_
  have hx : x < G.length := by rw [stA_length] at h1; exact h1
  have e1 := stA_at G ls ct (fun i => k - 1 - i) k hx
  have e2 := stA_at G ls ct (fun i => i) k hx
  simp only [List.getD, List.getElem?_eq_getElem h1, List.getElem?_eq_getElem h2, Option.getD_some] at e1 e2
  rw [e1, e2]
  exact sumTo_turned (fun j => comA G ls ct x j) k
theorem stA_sign (G ls ct : List Int) (f : Nat → Nat) (t : Nat) {x : Nat} (hx : x < G.length) : (G.getD x 0 ≠ 1 → 0 ≤ (stA G ls ct f t).getD x 0) ∧ (G.getD x 0 = 1 → (stA G ls ct f t).getD x 0 ≤ 0) := by
  rw [stA_at G ls ct f t hx]
  constructor
  · intro h
    refine sumTo_pos _ t fun i _ => comesTo_pos _ _ _ _ fun q hq e => ?_
    rw [pickTo_at hq] at e
    rw [putA_at hq, e, sgn, if_neg h]
    have := small_loud ls q
    omega
  · intro h
    refine sumTo_neg _ t fun i _ => comesTo_neg _ _ _ _ fun q hq e => ?_
    rw [pickTo_at hq] at e
    rw [putA_at hq, e, sgn, if_pos h]
    have := small_loud ls q
    omega
end Go.Proofs.YtaggbkhpoaacjacDoor
