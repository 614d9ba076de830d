import Derived.Test.YtfbjedcfppghgacDoorPolarS
namespace Go.Proofs.YtfbjedcfppghgacDoor

/-! THE PLACES, as mathematics: what a place is worth, which are better, the best k of n. -/

def wTab : List Int := [1000, 1189, 1414, 1681, 2000, 2378, 2828, 3363, 4000]
/-- What the lowest k bits of a place's number are worth. -/
def worthTo (p : Nat) : Nat → Int
  | 0 => 0
  | k + 1 => worthTo p k + if p / 2 ^ k % 2 = 1 then wTab.getD k 0 else 0
def worthI (p : Nat) : Int := worthTo p 9
/-- Is the first place the better one? -/
def btr (i j : Nat) : Bool := decide (worthI j < worthI i ∨ worthI i = worthI j ∧ j < i)
/-- How many of the first m places are better. -/
def betterTo (i m : Nat) : Nat := ((List.range m).filter (fun j => btr j i)).length
/-- Is a place one of the k best of n? -/
def isPlace (n k i : Nat) : Bool := decide (betterTo i n < k)
def placesM (n k : Nat) : List Nat := (List.range n).filter (isPlace n k)

theorem btr_irrefl (i : Nat) : btr i i = false := by simp [btr]
theorem btr_asymm {i j : Nat} (h : btr i j = true) : btr j i = false := by
  simp only [btr, decide_eq_true_eq, decide_eq_false_iff_not] at *
  omega
theorem btr_trans {i j k : Nat} (h : btr i j = true) (h' : btr j k = true) : btr i k = true := by
  simp only [btr, decide_eq_true_eq] at *
  omega
theorem btr_total {i j : Nat} (h : i ≠ j) : btr i j = true ∨ btr j i = true := by
  simp only [btr, decide_eq_true_eq] at *
  omega
theorem btr_neg {i j k : Nat} (h : btr i j = false) (h' : btr j k = false) : btr i k = false := by
  simp only [btr, decide_eq_false_iff_not] at *
  omega
theorem betterTo_succ (i m : Nat) : betterTo i (m + 1) = betterTo i m + if btr m i = true then 1 else 0 := by
  unfold betterTo
  rw [List.range_succ, List.filter_append, List.length_append]
  cases h : btr m i <;> simp [h]

theorem filter_take {α : Type} (p : α → Bool) : ∀ (l : List α) (k : Nat), (∀ i (h : i < l.length), p l[i] = decide (i < k)) → l.filter p = l.take k
  | [], _, _ => by simp
  | x :: l, 0, h => by
    have h0 : p x = false := h 0 (by simp)
    rw [List.filter_cons, h0, List.take_zero]
    simp only [Bool.false_eq_true, if_false, List.filter_eq_nil_iff]
    intro y hy
    obtain ⟨i, hi, rfl⟩ := List.getElem_of_mem hy
    have := h (i + 1) (by simp; omega)
    simpa using this
  | x :: l, k + 1, h => by
    have h0 : p x = true := (h 0 (by simp)).trans (by simp)
    rw [List.filter_cons, h0, if_pos rfl, List.take_succ_cons, filter_take p l k]
    intro i hi
    have := h (i + 1) (by simp; omega)
    simpa using this

/-- In a list in the order of worth, as many are better than one as stand ahead of it. -/
theorem rank_of : ∀ (l : List Nat) (i : Nat) (h : i < l.length), l.Pairwise (fun a b => btr a b = true) → (l.filter (fun j => btr j l[i])).length = i
  | x :: l, 0, _, hp => by
    rw [List.pairwise_cons] at hp
    rw [List.getElem_cons_zero, List.filter_cons, btr_irrefl]
    simp only [Bool.false_eq_true, if_false, List.length_eq_zero_iff, List.filter_eq_nil_iff]
    intro y hy
    simp [btr_asymm (hp.1 y hy)]
  | x :: l, i + 1, h, hp => by
    rw [List.pairwise_cons] at hp
    have hi : i < l.length := by simpa using h
    have ih := rank_of l i hi hp.2
    rw [List.getElem_cons_succ, List.filter_cons, hp.1 _ (List.getElem_mem hi), if_pos rfl, List.length_cons, ih]

/-- All places in the order of worth. -/
def orderM (n : Nat) : List Nat := (List.range n).mergeSort fun x y => !btr y x
theorem order_perm (n : Nat) : (orderM n).Perm (List.range n) := List.mergeSort_perm _ _
theorem order_sorted (n : Nat) : (orderM n).Pairwise (fun a b => btr a b = true) := by
  have h1 : (orderM n).Pairwise (fun a b => (!btr b a) = true) := List.pairwise_mergeSort (le := fun x y => !btr y x)
    (fun a b c h h' => by simp only [Bool.not_eq_true'] at *; exact btr_neg h' h)
    (fun a b => by
      cases h : btr b a with
      | false => rfl
      | true => simp [btr_asymm h]) _
  have h2 : (orderM n).Nodup := (order_perm n).nodup_iff.2 List.nodup_range
  refine (h1.and h2).imp ?_
  rintro a b ⟨h, hn⟩
  simp only [Bool.not_eq_true'] at h
  rcases btr_total hn with h' | h'
  · exact h'
  · rw [h] at h'; cases h'
theorem order_take (n k : Nat) : (orderM n).take k = (orderM n).filter (isPlace n k) := by
  refine (filter_take _ _ _ fun i hi => ?_).symm
  have hr := rank_of (orderM n) i hi (order_sorted n)
  have hp : ((orderM n).filter (fun j => btr j (orderM n)[i])).length = betterTo (orderM n)[i] n := ((order_perm n).filter _).length_eq
  unfold isPlace
  rw [← hp, hr]
theorem places_sorted (n k : Nat) : (placesM n k).Pairwise (fun a b => a < b) := List.pairwise_lt_range.filter _
def ints (l : List Nat) : List Int := l.map fun x : Nat => (x : Int)
theorem ints_length (l : List Nat) : (ints l).length = l.length := by simp [ints]
theorem ints_at (l : List Nat) (j : Nat) : (ints l).getD j 0 = ((l.getD j 0 : Nat) : Int) := by
  unfold ints List.getD
  rw [List.getElem?_map]
  cases l[j]? <;> rfl
/-- THE BEST k, RISING. -/
theorem order_best (n k : Nat) : (ints ((orderM n).take k)).mergeSort (fun x y => decide (x ≤ y)) = ints (placesM n k) := by
  unfold ints
  refine List.Perm.eq_of_pairwise (le := fun x y => x ≤ y) (fun a b _ _ h h' => by omega) ?_ ?_ ((List.mergeSort_perm _ _).trans ?_)
  · have := List.pairwise_mergeSort (le := fun x y : Int => decide (x ≤ y)) (fun a b c h h' => by simp at *; omega) (fun a b => by simp; omega) (((orderM n).take k).map fun x : Nat => (x : Int))
    simpa using this
  · rw [List.pairwise_map]
    exact (places_sorted n k).imp fun h => by omega
  · rw [order_take]
    exact ((order_perm n).filter _).map _
theorem order_length (n : Nat) : (orderM n).length = n := by rw [(order_perm n).length_eq, List.length_range]
theorem places_length {n k : Nat} (h : k ≤ n) : (placesM n k).length = k := by
  have := congrArg List.length (order_best n k)
  rw [List.length_mergeSort, ints_length, ints_length, List.length_take, order_length] at this
  omega
theorem places_lt {n k x : Nat} (h : x ∈ placesM n k) : x < n := by
  have := (List.mem_filter.1 h).1
  simpa using this
end Go.Proofs.YtfbjedcfppghgacDoor
