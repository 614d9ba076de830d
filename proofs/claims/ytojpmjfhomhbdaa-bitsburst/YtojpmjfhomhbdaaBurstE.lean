import Derived.Test.YtojpmjfhomhbdaaBurstM
import Derived.Test.YtojpmjfhomhbdaaLawLin
namespace Go.Proofs.Ytojpmjfhomhbdaa

/-- Is the bit i of a change (from place z on, of T bits) turned? -/
def hit (z : Int) (T : Nat) (ch : List Int) (i : Nat) : Bool := decide (0 ≤ z ∧ z < T ∧ (i : Int) < T - z ∧ ch.getD i 0 % 2 = 1)
/-- What the first k bits of a change turn, as bits. -/
def errB (z : Int) (T : Nat) (ch : List Int) (k j : Nat) : Bool := decide (z ≤ j ∧ (j : Int) - z < k) && hit z T ch ((j : Int) - z).toNat
def errTo (z : Int) (T : Nat) (ch : List Int) (k : Nat) : List Int := (List.range T).map fun j => b2i (errB z T ch k j)
def anyHit (z : Int) (T : Nat) (ch : List Int) (k : Nat) : Bool := (List.range k).any (hit z T ch)

theorem errTo_length (z : Int) (T : Nat) (ch : List Int) (k : Nat) : (errTo z T ch k).length = T := by simp [errTo]
theorem errTo_getD (z : Int) (T : Nat) (ch : List Int) (k j : Nat) (h : j < T) : (errTo z T ch k).getD j 0 = b2i (errB z T ch k j) := by simp [errTo, List.getD, h]
theorem errTo_bits (z : Int) (T : Nat) (ch : List Int) (k : Nat) : Bits (errTo z T ch k) := fun j => by
  by_cases h : j < T
  · rw [errTo_getD _ _ _ _ _ h]; exact b2i_bd _
  · have : (errTo z T ch k).getD j 0 = 0 := by simp [errTo, List.getD, Nat.le_of_not_lt h]
    rw [this]; omega

theorem anyHit_succ (z : Int) (T : Nat) (ch : List Int) (k : Nat) : anyHit z T ch (k + 1) = (anyHit z T ch k || hit z T ch k) := by simp [anyHit, List.range_succ]

theorem errB_miss (z : Int) (T : Nat) (ch : List Int) (k j : Nat) (h : hit z T ch k = false) : errB z T ch (k + 1) j = errB z T ch k j := by
  unfold errB
  by_cases hj : (j : Int) - z = k
  · rw [hj, Int.toNat_natCast, h, Bool.and_false, Bool.and_false]
  · have : decide (z ≤ (j : Int) ∧ (j : Int) - z < ((k + 1 : Nat) : Int)) = decide (z ≤ (j : Int) ∧ (j : Int) - z < (k : Int)) := by rw [decide_eq_decide]; omega
    rw [this]

theorem errTo_miss (z : Int) (T : Nat) (ch : List Int) (k : Nat) (h : hit z T ch k = false) : errTo z T ch (k + 1) = errTo z T ch k := by
  unfold errTo
  exact List.map_congr_left fun j _ => by rw [errB_miss z T ch k j h]

theorem addTo_zero {s : List Int} (hs : Bits s) (T : Nat) (hT : s.length = T) (e : List Int) (he : ∀ j, j < T → e.getD j 0 = 0) : addTo s e T = s := by
  refine List.ext_getElem (by simp [addTo, hT]) fun j h1 h2 => ?_
  have hj : j < T := by omega
  have b := hs j
  have e3 : s.getD j 0 = s[j] := by simp [List.getD, h2]
  have e4 : (addTo s e T)[j] = (s.getD j 0 + e.getD j 0) % 2 := by simp [addTo]
  rw [e4, he j hj, ← e3]
  omega

theorem errTo_zero (z : Int) (T : Nat) (ch : List Int) (j : Nat) (hj : j < T) : (errTo z T ch 0).getD j 0 = 0 := by
  rw [errTo_getD _ _ _ _ _ hj]
  have : errB z T ch 0 j = false := by
    unfold errB
    have : decide (z ≤ (j : Int) ∧ (j : Int) - z < ((0 : Nat) : Int)) = false := decide_eq_false (by omega)
    rw [this]; rfl
  rw [this]; rfl

theorem flip_set {s : List Int} (hs : Bits s) (T : Nat) (z : Int) (ch : List Int) (k p : Nat) (hp : (p : Int) = z + k) (hh : hit z T ch k = true) (x : Int) (hx : x = 1 - (addTo s (errTo z T ch k) T).getD p 0) :
    (addTo s (errTo z T ch k) T).set p x = addTo s (errTo z T ch (k + 1)) T := by
  have hh' := hh
  unfold hit at hh'
  have hd := of_decide_eq_true hh'
  have hpT : p < T := by omega
  refine List.ext_getElem (by simp [addTo]) fun j h1 h2 => ?_
  have hj : j < T := by simpa [addTo] using h2
  rw [List.getElem_set]
  split
  · rename_i e
    subst e
    rw [hx, addTo_getD _ _ _ _ hj, errTo_getD _ _ _ _ _ hj]
    have e1 : errB z T ch k p = false := by
      unfold errB
      rw [decide_eq_false (by omega)]; rfl
    have e2 : errB z T ch (k + 1) p = true := by
      unfold errB
      rw [decide_eq_true (by omega), show ((p : Int) - z).toNat = k from by omega, hh]; rfl
    have e4 : (addTo s (errTo z T ch (k + 1)) T)[p] = (s.getD p 0 + (errTo z T ch (k + 1)).getD p 0) % 2 := by simp [addTo]
    rw [e4, errTo_getD _ _ _ _ _ hj, e1, e2]
    have b := hs p
    simp only [b2i]
    simp only [Bool.false_eq_true, if_false, if_true]
    omega
  · rename_i e
    have e4 : ∀ m, (addTo s (errTo z T ch m) T)[j]'(by simpa [addTo] using hj) = (s.getD j 0 + (errTo z T ch m).getD j 0) % 2 := fun m => by simp [addTo]
    rw [e4, e4, errTo_getD _ _ _ _ _ hj, errTo_getD _ _ _ _ _ hj]
    have : errB z T ch (k + 1) j = errB z T ch k j := by
      unfold errB
      have : decide (z ≤ (j : Int) ∧ (j : Int) - z < ((k + 1 : Nat) : Int)) = decide (z ≤ (j : Int) ∧ (j : Int) - z < (k : Int)) := by rw [decide_eq_decide]; omega
      rw [this]
    rw [this]

/-- EVERY CHANGE WITHIN W PLACES IS SEEN. -/
theorem burst_iff {W P : Nat} (hD : Div W P) {s : List Int} (hs : Bits s) (n : Nat) (hl : s.length = n + W) (h0 : sumL W P (s.take n) = s.drop n) (z : Int) (ch : List Int) (K : Nat) (hK : K ≤ W) :
    sumL W P ((addTo s (errTo z (n + W) ch K) (n + W)).take n) = (addTo s (errTo z (n + W) ch K) (n + W)).drop n ↔ anyHit z (n + W) ch K = false := by
  have hc0 := (sum_iff hD hs n hl).1 h0
  have hea := errTo_bits z (n + W) ch K
  have hel := errTo_length z (n + W) ch K
  have hcr := crc_add hD hs hea (n + W) hl hel (n + W) (Nat.le_refl _)
  rw [List.take_of_length_le (by rw [addTo_length]; exact Nat.le_refl _), List.take_of_length_le (by omega), List.take_of_length_le (by omega), hc0, Nat.zero_xor] at hcr
  rw [sum_iff hD (addTo_bits _ _ _) n (addTo_length _ _ _), hcr]
  constructor
  · intro hz
    unfold anyHit
    rw [List.any_eq_false]
    intro i hi hh
    have hiK : i < K := List.mem_range.1 hi
    have hh' := hh
    unfold hit at hh'
    have hd := of_decide_eq_true hh'
    obtain ⟨A, rfl⟩ := Int.eq_ofNat_of_zero_le hd.1
    have hsplit : errTo (A : Int) (n + W) ch K = (errTo (A : Int) (n + W) ch K).take A ++ (((errTo (A : Int) (n + W) ch K).drop A).take W ++ ((errTo (A : Int) (n + W) ch K).drop A).drop W) := by
      rw [List.take_append_drop, List.take_append_drop]
    rw [hsplit] at hz
    have hb := burst_seen hD _ _ _ ?_ ?_ ?_ (List.length_take_le _ _) hz i
    · have hiW : i < W := by omega
      have e1 : (((errTo (A : Int) (n + W) ch K).drop A).take W).getD i 0 = (errTo (A : Int) (n + W) ch K).getD (A + i) 0 := by
        simp [List.getD, hiW]
      rw [e1, errTo_getD _ _ _ _ _ (by omega)] at hb
      have e2 : errB (A : Int) (n + W) ch K (A + i) = true := by
        unfold errB
        rw [decide_eq_true (by omega), show (((A + i : Nat) : Int) - (A : Int)).toNat = i from by omega, hh]; rfl
      rw [e2] at hb
      simp [b2i] at hb
    · intro x hx
      obtain ⟨j, hj, rfl⟩ := List.getElem_of_mem hx
      rw [List.length_take] at hj
      rw [List.getElem_take]
      have e : (errTo (A : Int) (n + W) ch K)[j]'(by omega) = b2i (errB (A : Int) (n + W) ch K j) := by simp [errTo]
      rw [e]
      have : errB (A : Int) (n + W) ch K j = false := by unfold errB; rw [decide_eq_false (by omega)]; rfl
      rw [this]; rfl
    · intro x hx
      obtain ⟨j, hj, rfl⟩ := List.getElem_of_mem hx
      rw [List.length_drop, List.length_drop] at hj
      rw [List.getElem_drop, List.getElem_drop]
      have e : (errTo (A : Int) (n + W) ch K)[A + (W + j)]'(by omega) = b2i (errB (A : Int) (n + W) ch K (A + (W + j))) := by simp [errTo]
      rw [e]
      have : errB (A : Int) (n + W) ch K (A + (W + j)) = false := by unfold errB; rw [decide_eq_false (by omega)]; rfl
      rw [this]; rfl
    · intro x hx
      exact all_of_bits hea x (List.mem_of_mem_drop (List.mem_of_mem_take hx))
  · intro ha
    have hz : ∀ x ∈ errTo z (n + W) ch K, x = 0 := by
      intro x hx
      obtain ⟨j, _, rfl⟩ := List.mem_map.1 hx
      have : errB z (n + W) ch K j = false := by
        unfold errB
        by_cases hj : z ≤ (j : Int) ∧ (j : Int) - z < (K : Int)
        · unfold anyHit at ha
          rw [List.any_eq_false] at ha
          have := ha ((j : Int) - z).toNat (List.mem_range.2 (by omega))
          rw [Bool.not_eq_true] at this
          rw [this, Bool.and_false]
        · rw [decide_eq_false hj]; rfl
      rw [this]; rfl
    rw [crc_feed, feed_zeros hD _ _ hz, movs_zero hD]

end Go.Proofs.Ytojpmjfhomhbdaa
