import Derived.Test.YtjpohfghibhkiadBase
namespace Go.Proofs.Ytjpohfghibhkiad
open Go.ChangeShapes Go.WideShapes Go.ChangeAt Go.RowKit

/-! POINTS, as mathematics. -/

/-- All lists of k bits, in their order. -/
def wordsM : Nat → List (List Int)
  | 0 => [[]]
  | k + 1 => (wordsM k).flatMap fun l => [l ++ [0], l ++ [1]]
def growW (LL : List (List Int)) (i : Nat) : List (List Int) := (LL.take i).flatMap fun l => [l ++ [0], l ++ [1]]
theorem growW_succ {LL : List (List Int)} {i : Nat} (h : i < LL.length) : growW LL (i + 1) = growW LL i ++ [LL.getD i [] ++ [0], LL.getD i [] ++ [1]] := by
  unfold growW
  rw [List.take_succ_eq_append_getElem h, List.flatMap_append]
  simp [List.getD, h]
theorem growW_all (LL : List (List Int)) : growW LL LL.length = LL.flatMap fun l => [l ++ [0], l ++ [1]] := by simp [growW]
theorem growW_length (LL : List (List Int)) (i : Nat) (h : i ≤ LL.length) : (growW LL i).length = 2 * i := by
  induction i with
  | zero => simp [growW]
  | succ i ih => rw [growW_succ (by omega), List.length_append, ih (by omega)]; simp; omega
theorem wordsM_succ (k : Nat) : wordsM (k + 1) = growW (wordsM k) (wordsM k).length := (growW_all _).symm
theorem wordsM_length (k : Nat) : (wordsM k).length = 2 ^ k := by
  induction k with
  | zero => rfl
  | succ k ih => rw [wordsM_succ, growW_length _ _ (Nat.le_refl _), ih, Nat.pow_succ]; omega
theorem mem_words_succ {k : Nat} {c : List Int} : c ∈ wordsM (k + 1) ↔ ∃ l ∈ wordsM k, c = l ++ [0] ∨ c = l ++ [1] := by simp [wordsM]
theorem words_len {k : Nat} {c : List Int} (h : c ∈ wordsM k) : c.length = k := by
  induction k generalizing c with
  | zero => simp [wordsM] at h; simp [h]
  | succ k ih =>
    obtain ⟨l, hl, rfl | rfl⟩ := mem_words_succ.1 h
    · simp [ih hl]
    · simp [ih hl]
theorem words_bits {k : Nat} {c : List Int} (h : c ∈ wordsM k) : ∀ x ∈ c, x = 0 ∨ x = 1 := by
  induction k generalizing c with
  | zero => simp [wordsM] at h; simp [h]
  | succ k ih =>
    obtain ⟨l, hl, rfl | rfl⟩ := mem_words_succ.1 h
    · intro x hx
      rw [List.mem_append] at hx
      rcases hx with hx | hx
      · exact ih hl x hx
      · left; simpa using hx
    · intro x hx
      rw [List.mem_append] at hx
      rcases hx with hx | hx
      · exact ih hl x hx
      · right; simpa using hx
theorem words_at {k i : Nat} (h : i < 2 ^ k) : (wordsM k).getD i [] ∈ wordsM k := by
  have hl : i < (wordsM k).length := by rw [wordsM_length]; exact h
  have e : (wordsM k).getD i [] = (wordsM k)[i] := by simp [List.getD, hl]
  rw [e]
  exact List.getElem_mem hl
theorem count_grow (LL : List (List Int)) (c : List Int) (x : Int) (hx : x = 0 ∨ x = 1) : (LL.flatMap fun l => [l ++ [0], l ++ [1]]).count (c ++ [x]) = LL.count c := by
  induction LL with
  | nil => rfl
  | cons l LL ih =>
    rw [List.flatMap_cons, List.count_append, ih, List.count_cons (l := LL)]
    have e : List.count (c ++ [x]) [l ++ [0], l ++ [1]] = if l == c then 1 else 0 := by
      rw [List.count_cons, List.count_cons, List.count_nil]
      by_cases h : l = c
      · subst h
        rcases hx with rfl | rfl
        · simp
        · simp
      · simp [h]
    rw [e]
    omega
/-- Each list of k bits is one of them, once. -/
theorem words_count {k : Nat} : ∀ {c : List Int}, c.length = k → (∀ x ∈ c, x = 0 ∨ x = 1) → (wordsM k).count c = 1 := by
  induction k with
  | zero => intro c h _; rw [List.eq_nil_of_length_eq_zero h]; rfl
  | succ k ih =>
    intro c h hb
    have hne : c ≠ [] := by rintro rfl; simp at h
    obtain ⟨l, x, rfl⟩ : ∃ l x, c = l ++ [x] := ⟨c.dropLast, c.getLast hne, (List.dropLast_concat_getLast hne).symm⟩
    rw [wordsM, count_grow _ _ _ (hb x (by simp))]
    exact ih (by simpa using h) (fun y hy => hb y (by simp [hy]))
theorem words_pick {k : Nat} {c : List Int} (h : c.length = k) (hb : ∀ x ∈ c, x = 0 ∨ x = 1) : (wordsM k).filter (fun l => decide (l = c)) = [c] := by
  have := List.filter_eq (l := wordsM k) c
  rw [words_count h hb] at this
  rw [this]
  rfl

/-- I (first 0) or Q (first 1) of bits, from the innermost out. -/
def sideR (l : List Int) (first : Nat) : Nat → Int
  | 0 => 0
  | r + 1 => if l.getD (l.length - 2 + first - 2 * r) 0 = 1 then -(if r = 0 then 1 else 2 * (r : Int) - sideR l first r) else (if r = 0 then 1 else 2 * (r : Int) - sideR l first r)
def sideM (l : List Int) (first : Nat) : Int := sideR l first (l.length / 2)
def pointM (l : List Int) : Int × Int := (sideM l 0, sideM l 1)
def farM (p q : Int × Int) : Int := (p.1 - q.1) * (p.1 - q.1) + (p.2 - q.2) * (p.2 - q.2)
theorem sideR_bd (l : List Int) (first : Nat) : ∀ r, r ≤ 3 → -(9 : Int) ≤ sideR l first r ∧ sideR l first r ≤ 9
  | 0, _ => by simp [sideR]
  | 1, _ => by simp only [sideR]; split <;> simp
  | 2, _ => by
    have h1 : -1 ≤ sideR l first 1 ∧ sideR l first 1 ≤ 1 := by simp only [sideR]; split <;> simp
    simp only [sideR] at h1 ⊢
    split <;> simp <;> omega
  | 3, _ => by
    have h2 : -3 ≤ sideR l first 2 ∧ sideR l first 2 ≤ 3 := by
      have h1 : -1 ≤ sideR l first 1 ∧ sideR l first 1 ≤ 1 := by simp only [sideR]; split <;> simp
      simp only [sideR] at h1 ⊢
      split <;> simp <;> omega
    have e : sideR l first 3 = if l.getD (l.length - 2 + first - 2 * 2) 0 = 1 then -(4 - sideR l first 2) else 4 - sideR l first 2 := by rw [sideR]; simp
    rw [e]
    split <;> omega
  | r + 4, h => by omega
end Go.Proofs.Ytjpohfghibhkiad
