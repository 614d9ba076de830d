import Derived.Test.YtplkmkbambbemadGreatDoorK02
import Derived.Test.YtplkmkbambbemadGreatDoorK01
import Derived.SizedLaws
namespace Go.Proofs.YtplkmkbambbemadGreatDoor
def sightM : Nat → List Int → List Int → Int
  | 0, l, _ => l.getD 0 0
  | m + 1, l, f => if f.length < 2 ^ m then sightM m (fL (l.take (2 ^ m)) (l.drop (2 ^ m))) f else sightM m (gL (turnM m (f.take (2 ^ m))) (l.take (2 ^ m)) (l.drop (2 ^ m))) (f.drop (2 ^ m))
theorem decP_length : ∀ (m : Nat) (l : List Int) (o : List Bool), (decP m l o).length = 2 ^ m
  | 0, _, _ => rfl
  | m + 1, l, o => by
    rw [decP, List.length_append, decP_length m, decP_length m, Nat.pow_succ]
    omega
theorem decP_bits : ∀ (m : Nat) (l : List Int) (o : List Bool), AllBits (decP m l o)
  | 0, l, o => fun x hx => by
    simp only [decP, List.mem_singleton] at hx
    subst hx
    split <;> omega
  | m + 1, l, o => fun x hx => by
    rw [decP] at hx
    rcases List.mem_append.1 hx with h | h
    · exact decP_bits m _ _ x h
    · exact decP_bits m _ _ x h
theorem decP_sight : ∀ (m : Nat) (l : List Int) (o : List Bool) (i : Nat), i < 2 ^ m →
    (decP m l o).getD i 0 = if o.getD i false && decide (sightM m l ((decP m l o).take i) < 0) then 1 else 0
  | 0, l, o, i, h => by
    obtain rfl : i = 0 := by simp at h; exact h
    rfl
  | m + 1, l, o, i, h => by
    have h2 : (2 : Nat) ^ (m + 1) = 2 ^ m + 2 ^ m := by rw [Nat.pow_succ]; omega
    rw [decP]
    generalize hu : decP m (fL (l.take (2 ^ m)) (l.drop (2 ^ m))) (o.take (2 ^ m)) = u
    generalize hv : decP m (gL (turnM m u) (l.take (2 ^ m)) (l.drop (2 ^ m))) (o.drop (2 ^ m)) = v
    have lu : u.length = 2 ^ m := by rw [← hu]; exact decP_length m _ _
    by_cases hi : i < 2 ^ m
    · have ih := decP_sight m (fL (l.take (2 ^ m)) (l.drop (2 ^ m))) (o.take (2 ^ m)) i hi
      rw [hu] at ih
      have e1 : (u ++ v).getD i 0 = u.getD i 0 := by simp [List.getD, List.getElem?_append_left (show i < u.length by omega)]
      have e2 : (u ++ v).take i = u.take i := List.take_append_of_le_length (by omega)
      have e3 : (o.take (2 ^ m)).getD i false = o.getD i false := by simp [List.getD, hi]
      have e4 : (u.take i).length < 2 ^ m := by simp; omega
      rw [e1, e2, ih, e3, sightM, if_pos e4]
    · obtain ⟨j, rfl⟩ : ∃ j, i = 2 ^ m + j := ⟨i - 2 ^ m, by omega⟩
      have ih := decP_sight m (gL (turnM m u) (l.take (2 ^ m)) (l.drop (2 ^ m))) (o.drop (2 ^ m)) j (by omega)
      rw [hv] at ih
      have e1 : (u ++ v).getD (2 ^ m + j) 0 = v.getD j 0 := by rw [← lu]; simp only [List.getD]; rw [List.getElem?_append_right (by omega), Nat.add_sub_cancel_left]
      have e2 : (u ++ v).take (2 ^ m + j) = u ++ v.take j := by rw [← lu, List.take_append, List.take_of_length_le (by omega), Nat.add_sub_cancel_left]
      have e3 : (o.drop (2 ^ m)).getD j false = o.getD (2 ^ m + j) false := by simp [List.getD]
      have e4 : ¬ (u ++ v.take j).length < 2 ^ m := by rw [List.length_append]; omega
      rw [e1, e2, ih, e3, sightM, if_neg e4, List.take_left' lu, List.drop_left' lu]
end Go.Proofs.YtplkmkbambbemadGreatDoor
namespace Go.Proofs.YtplkmkbambbemadGreatDoor
def wTab : List Int := [1000, 1189, 1414, 1681, 2000, 2378, 2828, 3363, 4000]
/-- What the lowest k bits of a place's number are worth. -/
def worthTo (p : Nat) : Nat → Int
  | 0 => 0
  | k + 1 => worthTo p k + if p / 2 ^ k % 2 = 1 then wTab.getD k 0 else 0
def worthI (p : Nat) : Int := worthTo p 9
/-- Is the first place the better one? -/
def btr (i j : Nat) : Bool := decide (worthI j < worthI i ∨ worthI i = worthI j ∧ j < i)
/-- How many of the first m places are better. -/
def betterTo (i m : Nat) : Nat := ((List.range m).filter (fun j => btr j i)).length
/-- Is a place one of the k best of n? -/
def isPlace (n k i : Nat) : Bool := decide (betterTo i n < k)
def placesM (n k : Nat) : List Nat := (List.range n).filter (isPlace n k)
theorem btr_irrefl (i : Nat) : btr i i = false := by simp [btr]
theorem btr_asymm {i j : Nat} (h : btr i j = true) : btr j i = false := by
  simp only [btr, decide_eq_true_eq, decide_eq_false_iff_not] at *
  omega
theorem btr_trans {i j k : Nat} (h : btr i j = true) (h' : btr j k = true) : btr i k = true := by
  simp only [btr, decide_eq_true_eq] at *
  omega
theorem btr_total {i j : Nat} (h : i ≠ j) : btr i j = true ∨ btr j i = true := by
  simp only [btr, decide_eq_true_eq] at *
  omega
theorem btr_neg {i j k : Nat} (h : btr i j = false) (h' : btr j k = false) : btr i k = false := by
  simp only [btr, decide_eq_false_iff_not] at *
  omega
theorem betterTo_succ (i m : Nat) : betterTo i (m + 1) = betterTo i m + if btr m i = true then 1 else 0 := by
  unfold betterTo
  rw [List.range_succ, List.filter_append, List.length_append]
  cases h : btr m i <;> simp [h]
theorem filter_take {α : Type} (p : α → Bool) : ∀ (l : List α) (k : Nat), (∀ i (h : i < l.length), p l[i] = decide (i < k)) → l.filter p = l.take k
  | [], _, _ => by simp
  | x :: l, 0, h => by
    have h0 : p x = false := h 0 (by simp)
    rw [List.filter_cons, h0, List.take_zero]
    simp only [Bool.false_eq_true, if_false, List.filter_eq_nil_iff]
    intro y hy
    obtain ⟨i, hi, rfl⟩ := List.getElem_of_mem hy
    have := h (i + 1) (by simp; omega)
    simpa using this
  | x :: l, k + 1, h => by
    have h0 : p x = true := (h 0 (by simp)).trans (by simp)
    rw [List.filter_cons, h0, if_pos rfl, List.take_succ_cons, filter_take p l k]
    intro i hi
    have := h (i + 1) (by simp; omega)
    simpa using this
/-- In a list in the order of worth, as many are better than one as stand ahead of it. -/
theorem rank_of : ∀ (l : List Nat) (i : Nat) (h : i < l.length), l.Pairwise (fun a b => btr a b = true) → (l.filter (fun j => btr j l[i])).length = i
  | x :: l, 0, _, hp => by
    rw [List.pairwise_cons] at hp
    rw [List.getElem_cons_zero, List.filter_cons, btr_irrefl]
    simp only [Bool.false_eq_true, if_false, List.length_eq_zero_iff, List.filter_eq_nil_iff]
    intro y hy
    simp [btr_asymm (hp.1 y hy)]
  | x :: l, i + 1, h, hp => by
    rw [List.pairwise_cons] at hp
    have hi : i < l.length := by simpa using h
    have ih := rank_of l i hi hp.2
    rw [List.getElem_cons_succ, List.filter_cons, hp.1 _ (List.getElem_mem hi), if_pos rfl, List.length_cons, ih]
/-- All places in the order of worth. -/
def orderM (n : Nat) : List Nat := (List.range n).mergeSort fun x y => !btr y x
theorem order_perm (n : Nat) : (orderM n).Perm (List.range n) := List.mergeSort_perm _ _
theorem order_sorted (n : Nat) : (orderM n).Pairwise (fun a b => btr a b = true) := by
  have h1 : (orderM n).Pairwise (fun a b => (!btr b a) = true) := List.pairwise_mergeSort (le := fun x y => !btr y x)
    (fun a b c h h' => by simp only [Bool.not_eq_true'] at *; exact btr_neg h' h)
    (fun a b => by
      cases h : btr b a with
      | false => rfl
      | true => simp [btr_asymm h]) _
  have h2 : (orderM n).Nodup := (order_perm n).nodup_iff.2 List.nodup_range
  refine (h1.and h2).imp ?_
  rintro a b ⟨h, hn⟩
  simp only [Bool.not_eq_true'] at h
  rcases btr_total hn with h' | h'
  · exact h'
  · rw [h] at h'; cases h'
theorem order_take (n k : Nat) : (orderM n).take k = (orderM n).filter (isPlace n k) := by
  refine (filter_take _ _ _ fun i hi => ?_).symm
  have hr := rank_of (orderM n) i hi (order_sorted n)
  have hp : ((orderM n).filter (fun j => btr j (orderM n)[i])).length = betterTo (orderM n)[i] n := ((order_perm n).filter _).length_eq
  unfold isPlace
  rw [← hp, hr]
theorem places_sorted (n k : Nat) : (placesM n k).Pairwise (fun a b => a < b) := List.pairwise_lt_range.filter _
def ints (l : List Nat) : List Int := l.map fun x : Nat => (x : Int)
theorem ints_length (l : List Nat) : (ints l).length = l.length := by simp [ints]
theorem ints_at (l : List Nat) (j : Nat) : (ints l).getD j 0 = ((l.getD j 0 : Nat) : Int) := by
  unfold ints List.getD
  rw [List.getElem?_map]
  cases l[j]? <;> rfl
/-- THE BEST k, RISING. -/
theorem order_best (n k : Nat) : (ints ((orderM n).take k)).mergeSort (fun x y => decide (x ≤ y)) = ints (placesM n k) := by
  unfold ints
  refine List.Perm.eq_of_pairwise (le := fun x y => x ≤ y) (fun a b _ _ h h' => by omega) ?_ ?_ ((List.mergeSort_perm _ _).trans ?_)
  · have := List.pairwise_mergeSort (le := fun x y : Int => decide (x ≤ y)) (fun a b c h h' => by simp at *; omega) (fun a b => by simp; omega) (((orderM n).take k).map fun x : Nat => (x : Int))
    simpa using this
  · rw [List.pairwise_map]
    exact (places_sorted n k).imp fun h => by omega
  · rw [order_take]
    exact ((order_perm n).filter _).map _
theorem order_length (n : Nat) : (orderM n).length = n := by rw [(order_perm n).length_eq, List.length_range]
theorem places_length {n k : Nat} (h : k ≤ n) : (placesM n k).length = k := by
  have := congrArg List.length (order_best n k)
  rw [List.length_mergeSort, ints_length, ints_length, List.length_take, order_length] at this
  omega
theorem places_lt {n k x : Nat} (h : x ∈ placesM n k) : x < n := by
  have := (List.mem_filter.1 h).1
  simpa using this
end Go.Proofs.YtplkmkbambbemadGreatDoor
namespace Go.Proofs.YtplkmkbambbemadGreatDoor
theorem getD_is (l : List Int) {j : Nat} (h : j < l.length) : l.getD j 0 = l[j] := by simp [List.getD, h]
/-- How many places lie below i. -/
def cntM (q : Nat → Bool) (i : Nat) : Nat := ((List.range i).filter q).length
theorem range_split {i n : Nat} (h : i < n) : ∃ r : List Nat, List.range n = List.range i ++ i :: r ∧ ∀ x ∈ r, i < x := by
  refine ⟨(List.range n).drop (i + 1), ?_, ?_⟩
  · have h1 := (List.take_append_drop i (List.range n)).symm
    rw [List.take_range, Nat.min_eq_left (by omega), List.drop_eq_getElem_cons (by simpa using h), List.getElem_range] at h1
    exact h1
  · intro x hx
    obtain ⟨j, hj, rfl⟩ := List.getElem_of_mem hx
    rw [List.getElem_drop, List.getElem_range]
    omega
theorem place_at (q : Nat → Bool) {i n : Nat} (h : i < n) (hq : q i = true) : cntM q i < ((List.range n).filter q).length ∧ ((List.range n).filter q).getD (cntM q i) 0 = i := by
  obtain ⟨r, e, _⟩ := range_split h
  rw [e, List.filter_append, List.filter_cons, hq, if_pos rfl]
  constructor
  · rw [List.length_append]; unfold cntM; simp
  · simp [cntM, List.getD]
theorem place_not (q : Nat → Bool) {i n : Nat} (h : i < n) (hq : q i = false) : cntM q i < ((List.range n).filter q).length → ((List.range n).filter q).getD (cntM q i) 0 ≠ i := by
  obtain ⟨r, e, hr⟩ := range_split h
  rw [e, List.filter_append, List.filter_cons, hq]
  simp only [Bool.false_eq_true, if_false]
  intro h1 h2
  rw [List.length_append] at h1
  have h3 : 0 < (r.filter q).length := by unfold cntM at h1; omega
  have h4 : (r.filter q)[0] ∈ r := (List.mem_filter.1 (List.getElem_mem h3)).1
  have h5 := hr _ h4
  have h6 : ((List.range i).filter q ++ r.filter q).getD (cntM q i) 0 = (r.filter q)[0] := by
    simp only [List.getD, cntM]
    rw [List.getElem?_append_right (Nat.le_refl _), Nat.sub_self, List.getElem?_eq_getElem h3]
    rfl
  omega
/-- Bits laid at the places, one by one. -/
def spreadM (n : Nat) (P : List Nat) (b : List Int) : Nat → List Int
  | 0 => List.replicate n 0
  | i + 1 => (spreadM n P b i).set (P.getD i 0) (b.getD i 0)
theorem spread_length (n : Nat) (P : List Nat) (b : List Int) : ∀ i, (spreadM n P b i).length = n
  | 0 => by simp [spreadM]
  | i + 1 => by rw [spreadM, List.length_set, spread_length n P b i]
theorem spread_bits (n : Nat) (P : List Nat) (b : List Int) (hb : ∀ j, 0 ≤ b.getD j 0 ∧ b.getD j 0 ≤ 1) : ∀ i, ∀ x ∈ spreadM n P b i, 0 ≤ x ∧ x ≤ 1
  | 0, x, hx => by
    rw [spreadM] at hx
    have := List.eq_of_mem_replicate hx
    omega
  | i + 1, x, hx => by
    rw [spreadM] at hx
    rcases List.mem_or_eq_of_mem_set hx with h | h
    · exact spread_bits n P b hb i x h
    · subst h; exact hb i
/-- What stands at the places. -/
def readM (P : List Nat) (u : List Int) : List Int := P.map fun p => u.getD p 0
/-- What was found is marked: ones at those of the places from first on that hold 1. -/
def updM (P : List Nat) (fd : List Int) (first : Nat) (u : List Int) : List Int :=
  (List.range fd.length).map fun j => if first ≤ P.getD j 0 ∧ P.getD j 0 < first + u.length ∧ u.getD (P.getD j 0 - first) 0 = 1 then 1 else fd.getD j 0
theorem upd_length (P : List Nat) (fd : List Int) (first : Nat) (u : List Int) : (updM P fd first u).length = fd.length := by simp [updM]
theorem upd_at (P : List Nat) (fd : List Int) (first : Nat) (u : List Int) {j : Nat} (h : j < fd.length) :
    (updM P fd first u).getD j 0 = if first ≤ P.getD j 0 ∧ P.getD j 0 < first + u.length ∧ u.getD (P.getD j 0 - first) 0 = 1 then 1 else fd.getD j 0 := by
  simp [updM, List.getD, h]
theorem upd_append (P : List Nat) (fd : List Int) (first : Nat) (u v : List Int) : updM P (updM P fd first u) (first + u.length) v = updM P fd first (u ++ v) := by
  unfold updM
  rw [List.length_map, List.length_range]
  refine List.map_congr_left fun j hj => ?_
  have hj' : j < fd.length := by simpa using hj
  have e1 := upd_at P fd first u hj'
  unfold updM at e1
  rw [e1, List.length_append]
  generalize P.getD j 0 = p
  by_cases h1 : p < first + u.length
  · by_cases h0 : first ≤ p
    · have e2 : (u ++ v).getD (p - first) 0 = u.getD (p - first) 0 := by simp [List.getD, List.getElem?_append_left (show p - first < u.length by omega)]
      rw [e2, if_neg (by omega)]
      by_cases h2 : u.getD (p - first) 0 = 1
      · rw [if_pos ⟨h0, h1, h2⟩, if_pos ⟨h0, by omega, h2⟩]
      · rw [if_neg (by omega), if_neg (by omega)]
    · rw [if_neg (by omega), if_neg (by omega), if_neg (by omega)]
  · have e2 : (u ++ v).getD (p - first) 0 = v.getD (p - (first + u.length)) 0 := by
      simp only [List.getD]
      rw [List.getElem?_append_right (by omega)]
      congr 2
      omega
    rw [e2]
    by_cases h2 : p < first + u.length + v.length ∧ v.getD (p - (first + u.length)) 0 = 1
    · rw [if_pos ⟨by omega, h2.1, h2.2⟩, if_pos ⟨by omega, by omega, h2.2⟩]
    · rw [if_neg (by omega), if_neg (by omega), if_neg (by omega)]
/-- One place: it is none of P, or what is found there is no 1. -/
theorem upd_none (P : List Nat) (fd : List Int) (first : Nat) (x : Int) (h : x = 0) : updM P fd first [x] = fd := by
  subst h
  refine List.ext_getElem (by simp [updM]) fun j h1 h2 => ?_
  have e1 := upd_at P fd first [0] h2
  have e2 : (updM P fd first [0]).getD j 0 = (updM P fd first [0])[j] := by simp [List.getD, h1]
  have e3 : fd.getD j 0 = fd[j] := by simp [List.getD, h2]
  rw [← e2, e1, if_neg, e3]
  rintro ⟨h1, h2, h3⟩
  have h2' : P.getD j 0 < first + 1 := h2
  have : P.getD j 0 - first = 0 := by omega
  rw [this] at h3
  simp at h3
/-- The place is P's i-th: the i-th is marked. -/
theorem upd_one (P : List Nat) (hP : P.Pairwise (fun x y => x < y)) (fd : List Int) (hl : fd.length = P.length) (i : Nat) (hi : i < P.length) : updM P fd (P.getD i 0) [1] = fd.set i 1 := by
  refine List.ext_getElem (by simp [updM]) fun j h1 h2 => ?_
  have hj : j < fd.length := by simpa using h2
  have e1 := upd_at P fd (P.getD i 0) [1] hj
  have e2 : (updM P fd (P.getD i 0) [1]).getD j 0 = (updM P fd (P.getD i 0) [1])[j] := getD_is _ h1
  have e3 : fd.getD j 0 = fd[j] := by simp [List.getD, hj]
  rw [← e2, e1, List.getElem_set, e3]
  have gi : P.getD i 0 = P[i] := by simp [List.getD, hi]
  have gj : P.getD j 0 = P[j] := by simp [List.getD, show j < P.length by omega]
  by_cases e : i = j
  · subst e
    rw [if_pos rfl, if_pos]
    refine ⟨Nat.le_refl _, by simp, by simp⟩
  · rw [if_neg e, if_neg]
    rintro ⟨a, b, _⟩
    rw [gi, gj] at a b
    simp at b
    rcases Nat.lt_or_gt_of_ne e with h | h
    · have := (List.pairwise_iff_getElem.1 hP) i j hi (by omega) h
      omega
    · have := (List.pairwise_iff_getElem.1 hP) j i (by omega) hi h
      omega
theorem upd_all (P : List Nat) (k : Nat) (hk : P.length = k) (u : List Int) (hu : ∀ j, 0 ≤ u.getD j 0 ∧ u.getD j 0 ≤ 1) (hn : ∀ x ∈ P, x < u.length) : updM P (List.replicate k 0) 0 u = readM P u := by
  refine List.ext_getElem (by simp [updM, readM, hk]) fun j h1 h2 => ?_
  have hj : j < P.length := by simpa [readM] using h2
  have e1 := upd_at P (List.replicate k 0) 0 u (j := j) (by simp; omega)
  have e2 : (updM P (List.replicate k 0) 0 u).getD j 0 = (updM P (List.replicate k 0) 0 u)[j] := by simp [List.getD, h1]
  have e3 : (List.replicate k (0 : Int)).getD j 0 = 0 := by simp [List.getD, show j < k by omega]
  have gj : P.getD j 0 = P[j] := by simp [List.getD, hj]
  rw [← e2, e1, e3, gj]
  simp only [readM, List.getElem_map, Nat.sub_zero]
  have := hu P[j]
  have := hn _ (List.getElem_mem hj)
  by_cases h : u.getD P[j] 0 = 1
  · rw [if_pos ⟨by omega, by omega, h⟩, h]
  · rw [if_neg (by omega)]; omega
end Go.Proofs.YtplkmkbambbemadGreatDoor
namespace Go.Proofs.YtplkmkbambbemadGreatDoor
open Go.ChangeShapes Go.WideShapes Go.ChangeAt Go.RowKit
theorem addTo_addLN {xs ys : List Int} {n : Nat} (hx : xs.length = n) (hy : ys.length = n) : addTo xs ys n = addL xs ys := by
  refine List.ext_getElem (by simp [addTo, addL, hx, hy]) fun j h1 h2 => ?_
  have hj : j < n := by simpa [addTo] using h1
  simp [addTo, addL, List.getD, hx, hy, hj]
def noPow (n : Int) (j : Nat) : Prop := ∀ i, i < j → n ≠ ((2 ^ i : Nat) : Int)
theorem noPow_all {n : Int} (h : noPow n 10) : powI n = false := by
  cases hp : powI n with
  | false => rfl
  | true =>
    obtain ⟨m, hm, e⟩ := pow_of hp
    exact absurd e (h m (by omega))
set_option maxRecDepth 100000 in
set_option maxHeartbeats 400000 in
theorem rpower_any (n : Int) (w : World) :
    Calls Tryz.prog 65 #[.int .i64 n] w fun e w' => e = .returned (.bool (powI n)) ∧ w = w' := by
  go_enter Tryz.func65, Tryz.ntmps65
  go_wp2
  go_loop [3] (fun q => ∃ j p : Nat, j ≤ 10 ∧ Hid (p = 2 ^ j) ∧ p ≤ 1024 ∧ 1 ≤ p ∧ q = .int .i64 p ∧ Hid (noPow n j)) (fun q => 1025 - (intOf q).toNat)
  case atStart => exact ⟨0, 1, by omega, rfl, by omega, by omega, rfl, fun i hi => by omega⟩
  case round =>
    obtain ⟨j, p, hj, HP, hp, hp1, rfl, hno⟩ := hrel
    by_cases h5 : p ≤ 512
    · have hj9 : j ≤ 9 := by
        rcases Nat.lt_or_ge j 10 with h | h
        · omega
        · have : 2 ^ 10 ≤ p := by rw [HP.out]; exact Nat.pow_le_pow_right (by omega) h
          omega
      by_cases he : (p : Int) = n
      · have hb : ((p : Int) == n) = true := by simpa using he
        have HV := hid (show powI n = true by rw [← he, HP.out]; exact of_pow hj9)
        clear he
        go_wp2
        go_ret
        exact ⟨ret_bool HV.out.symm, rfl⟩
      · have hb : ((p : Int) == n) = false := by simpa using he
        have hno' : Hid (noPow n (j + 1)) := fun i hi => by
          by_cases e : i = j
          · subst e; rw [← HP.out]; exact fun h => he h.symm
          · exact hno.out i (by omega)
        have HP' : Hid (2 * p = 2 ^ (j + 1)) := by unfold Hid; rw [Nat.pow_succ, ← HP.out]; omega
        clear he
        go_wp2
        go_round
        case rel => exact ⟨j + 1, 2 * p, by omega, HP', by omega, by omega, by go_num, hno'⟩
        case measure => simp [intOf]; omega
    · have hj10 : j = 10 := by
        rcases Nat.lt_or_ge j 10 with h | h
        · have : p ≤ 2 ^ 9 := by rw [HP.out]; exact Nat.pow_le_pow_right (by omega) (by omega)
          omega
        · omega
      subst hj10
      go_wp2
      go_ret
      exact ⟨ret_bool (noPow_all hno.out).symm, rfl⟩
set_option maxRecDepth 100000 in
set_option maxHeartbeats 1000000 in
theorem rturn_any : ∀ (m : Nat) (x : List Int) (a : Option Addr) (n c : Nat) (w : World), Rd .u8 w a x → x.length = n → n = 2 ^ m → n ≤ 512 → n ≤ c → AllBits x →
    Calls Tryz.prog 112 #[.slice a n c] w fun e w' => ∃ v, e = .returned v ∧ Own w' w.heap.size v (turnM m x) ∧ Below w.heap.size w w'
  | 0, x, a, n, c, w, ha, hx, hn, hb, hc, bx => by
    obtain rfl : n = 1 := hn
    obtain ⟨b1, o1, rfl, hc1⟩ := ha.at (i := 0) (by omega)
    have g1 := hc1 0 (by omega)
    rw [Nat.add_zero] at g1
    have HX : Hid (x = [x.getD 0 0]) := by
      unfold Hid
      match x, hx with
      | [y], _ => rfl
    obtain ⟨y, ey⟩ : ∃ y, y = x.getD 0 0 := ⟨_, rfl⟩
    rw [← ey] at g1 HX
    clear hx hc1 ey
    go_enter Tryz.func112, Tryz.ntmps112
    go_wp2
    go_ret
    refine ⟨_, rfl, ?_, (Below.refl _ _).alloc (Nat.le_refl _) _⟩
    rw [turnM, HX.out]
    exact own_of_arr (arr_new .u8 5 w [y]) (Nat.le_refl _) rfl (by unfold maxLen; omega)
  | m + 1, x, a, n, c, w, ha, hx, hn, hb, hc, bx => by
    obtain ⟨h, eh⟩ : ∃ h, h = 2 ^ m := ⟨_, rfl⟩
    have h0 : 1 ≤ h := by rw [eh]; exact Nat.one_le_two_pow
    have hnh : n = h + h := by rw [hn, eh, Nat.pow_succ]; omega
    obtain ⟨b1, o1, rfl, hc1⟩ := ha.at (i := 0) (by omega)
    have l1 : (x.take h).length = h := by rw [List.length_take]; omega
    have l2 : (x.drop h).length = h := by rw [List.length_drop]; omega
    have b1' : AllBits (x.take h) := fun y hy => bx y (List.mem_of_mem_take hy)
    have b2' : AllBits (x.drop h) := fun y hy => bx y (List.mem_of_mem_drop hy)
    have hT : turnM (m + 1) x = addL (turnM m (x.take h)) (turnM m (x.drop h)) ++ turnM m (x.drop h) := by rw [turnM, eh]
    have t1 := turn_length m (x.take h) (l1.trans eh)
    have t2 := turn_length m (x.drop h) (l2.trans eh)
    rw [← eh] at t1 t2
    have c1 := turn_bits m _ b1'
    have c2 := turn_bits m _ b2'
    rw [hT]
    have r1 := Rd.take hc1 h
    have r2 := Rd.drop hc1 h
    have ih1 := fun w' hr => rturn_any m (x.take h) (some ⟨b1, o1, none⟩) h c w' hr l1 eh (by omega) (by omega) b1'
    have ih2 := fun w' hr => rturn_any m (x.drop h) (some ⟨b1, o1 + h, none⟩) h (c - h) w' hr l2 eh (by omega) (by omega) b2'
    generalize x.take h = x1 at *
    generalize x.drop h = x2 at *
    generalize turnM m x1 = y1 at *
    generalize turnM m x2 = y2 at *
    have HAD := hid (addTo_addLN t1 t2)
    have T1 := hid t1
    have T2 := hid t2
    have hq : (n : Int).tdiv 2 = (h : Int) := by rw [Int.tdiv_eq_ediv_of_nonneg (by omega)]; omega
    have hle : h ≤ n := by omega
    have hlc : h ≤ c := by omega
    have hne : ¬ c = h := by omega
    have hn1 : ((n : Int) == 1) = false := by simp; omega
    have HNH := hid (show n - h = h by omega)
    clear hn hnh hx eh hT l1 l2 t1 t2 hc1 ha
    have tok : True := trivial
    go_enter Tryz.func112, Tryz.ntmps112
    go_wp2_with fail
    refine (ih1 _ r1).mono ?_
    rintro e w1 ⟨v1, rfl, ho1, hb1⟩
    obtain ⟨a1, k1, rfl, -⟩ := ho1.shape
    rw [T1.out]
    go_wp2_with fail
    rw [HNH.out]
    refine (ih2 _ (r2.below hb1)).mono ?_
    rintro e w2 ⟨v2, rfl, ho2, hb2⟩
    obtain ⟨a2, k2, rfl, -⟩ := ho2.shape
    rw [T2.out]
    have hr1 := ho1.rd.below hb2
    have hr2 := ho2.rd
    have hb12 := bthen hb1 hb2
    have hadd := added_any y1 y2 a1 a2 k1 k2 h w2 hr1 hr2 c1.bits c2.bits T2.out (by rw [T1.out]; exact Nat.le_refl _) (by omega)
    rw [T1.out, HAD.out] at hadd
    clear ho1 ho2
    go_wp2_with fail
    refine hadd.mono ?_
    rintro e w3 ⟨v3, rfl, ho3, hb3⟩
    have LA := hid ((addL_length (T1.out.trans T2.out.symm)).trans T2.out)
    have hb13 := bthen hb12 hb3
    go_wp2_with (first | (refine wpList_cat w.heap.size w (ho3.mono hb12.size) (hr2.below hb3) rfl (.tmp 26) (.tmp 27) rfl rfl k2 (by rw [T2.out]; rfl) (by rw [LA.out, T2.out]; omega) hb13 hb13.size ?_; intro v4 w4 ho4 hb4))
    go_ret
    exact ⟨_, rfl, ho4, hb4⟩
theorem tab9 (k : Nat) (h : k < 9) : 1000 ≤ wTab.getD k 0 ∧ wTab.getD k 0 ≤ 4000 := by
  have : k = 0 ∨ k = 1 ∨ k = 2 ∨ k = 3 ∨ k = 4 ∨ k = 5 ∨ k = 6 ∨ k = 7 ∨ k = 8 := by omega
  rcases this with rfl | rfl | rfl | rfl | rfl | rfl | rfl | rfl | rfl <;> decide
theorem worthTo_bd (p : Nat) : ∀ k, k ≤ 9 → 0 ≤ worthTo p k ∧ worthTo p k ≤ 4000 * k
  | 0, _ => by simp [worthTo]
  | k + 1, h => by
    have ih := worthTo_bd p k (by omega)
    have t := tab9 k (by omega)
    rw [worthTo]
    split <;> omega
theorem worthI_bd (p : Nat) : 0 ≤ worthI p ∧ worthI p ≤ 36000 := worthTo_bd p 9 (Nat.le_refl _)
set_option maxRecDepth 100000 in
set_option maxHeartbeats 1000000 in
theorem rworth_any (p : Nat) (w : World) (hp : p < 4611686018427387904) :
    Calls Tryz.prog 130 #[.int .i64 p] w fun e w' => e = .returned (.int .i64 (worthI p)) ∧ Below w.heap.size w w' := by
  have harr := arr_new .i64 3 w wTab
  go_enter Tryz.func130, Tryz.ntmps130
  go_wp2
  go_loopw [0, 4, 5] (fun q0 q4 q5 wr => ∃ k r : Nat, k ≤ 9 ∧ Hid (r = p / 2 ^ k) ∧ r ≤ p ∧ q0 = .int .i64 r ∧ q4 = .int .i64 (worthTo p k) ∧ q5 = .int .i64 k ∧ ArrAt .i64 3 wr w.heap.size wTab ∧ Below w.heap.size w wr) (fun _ _ q5 _ => 9 - (intOf q5).toNat)
  case atStart => exact ⟨0, p, by omega, by unfold Hid; simp, Nat.le_refl _, rfl, rfl, rfl, harr, (Below.refl _ _).alloc (Nat.le_refl _) _⟩
  case round =>
    obtain ⟨k, r, hk, HR, hrp, rfl, rfl, rfl, ha, hbel⟩ := hrel
    by_cases hlt : k < 9
    · have g1 : wr.cell? ⟨w.heap.size, k, none⟩ = some (.int .i64 (wTab.getD k 0)) := ha.cell (by simpa [wTab] using hlt)
      have ht := tab9 k hlt
      have hwb := worthTo_bd p k hk
      have HW := hid (show worthTo p (k + 1) = worthTo p k + if r % 2 = 1 then wTab.getD k 0 else 0 by rw [worthTo, ← HR.out])
      have HR' : Hid (r / 2 = p / 2 ^ (k + 1)) := by unfold Hid; rw [HR.out, Nat.div_div_eq_div_mul, ← Nat.pow_succ]
      have hrem : (r : Int).tmod 2 = ((r % 2 : Nat) : Int) := by rw [Int.tmod_eq_emod_of_nonneg (by omega)]; simp
      have hquo : (r : Int).tdiv 2 = ((r / 2 : Nat) : Int) := by rw [Int.tdiv_eq_ediv_of_nonneg (by omega)]; simp
      generalize wTab.getD k 0 = y at *
      generalize worthTo p k = z at *
      by_cases h1 : r % 2 = 1
      · have HZ : Hid (z + y = worthTo p (k + 1)) := by unfold Hid; rw [HW.out, if_pos h1]
        have hd : (((r % 2 : Nat) : Int) == 1) = true := by rw [h1]; rfl
        clear HW h1 harr
        go_wp2
        go_roundw
        case rel => exact ⟨k + 1, r / 2, by omega, HR', by omega, by go_num, by rw [← HZ.out], by go_num, ha, hbel⟩
        case measure => simp [intOf]; omega
      · have HZ : Hid (z = worthTo p (k + 1)) := by unfold Hid; rw [HW.out, if_neg h1, Int.add_zero]
        have hd : (((r % 2 : Nat) : Int) == 1) = false := by simp; omega
        clear HW h1 harr
        go_wp2
        go_roundw
        case rel => exact ⟨k + 1, r / 2, by omega, HR', by omega, by go_num, by rw [← HZ.out], by go_num, ha, hbel⟩
        case measure => simp [intOf]; omega
    · obtain rfl : k = 9 := by omega
      go_wp2
      go_ret
      exact ⟨rfl, hbel⟩
end Go.Proofs.YtplkmkbambbemadGreatDoor
namespace Go.Proofs.YtplkmkbambbemadGreatDoor
open Go.ChangeShapes Go.WideShapes Go.ChangeAt Go.RowKit
open Go.ChangeMaps (open_string shut_string)
theorem Tryz.own : ownKnob Tryz.prog.godebug = none := by kernel_rfl
theorem Tryz.laidOut : laidOutB Tryz.prog = true := by kernel_rfl
/-- The datum of a slice with so many places. -/
def Places {H : Type} (d : DataW H) (c : Nat) : Prop := (d = .nil ∧ c = 0) ∨ ∃ elems spare, d = .slice elems spare ∧ elems.length + spare.length = c
theorem places_sized {H : Type} {P : Program} {ts : List TypeId} {ds : List (DataW H)} (h : (DataW.weightsEach P ts ds).all (· ≤ reachBytes) = true) {j : Nat} {t e : TypeId} {d : DataW H} {c : Nat}
    (ht : ts[j]? = some t) (hd : ds[j]? = some d) (hu : P.underlying t = some (.slice e)) (hp : Places d c) : c * P.bytesOf e ≤ 140737488351232 := by
  rcases hp with ⟨_, rfl⟩ | ⟨elems, spare, rfl, rfl⟩
  · omega
  · exact sized_slice h ht hd hu
theorem text_sized (a : ByteArray) (h : a.data.toList.length ≤ reachBytes) : a.size ≤ 140737488355328 := by
  have e : a.data.toList.length = a.size := Array.length_toList
  rw [e] at h
  have := reachBytes_lt
  omega
end Go.Proofs.YtplkmkbambbemadGreatDoor
namespace Go.Proofs.YtplkmkbambbemadGreatDoor
open Go.ChangeShapes Go.WideShapes Go.ChangeAt Go.RowKit
structure Setg where
  code : Int
  size : Int
  order : Int
  seed : Int
  count : Int
def Setg.val (S : Setg) : Value := .agg #[.int .i64 S.code, .int .i64 S.size, .int .i64 S.order, .int .i64 S.seed, .int .i64 S.count]
def set1 (S : Setg) (bytes : Int) : Bool := decide (0 ≤ bytes ∧ bytes ≤ 40 ∧ (S.code = 0 ∨ S.code = 1) ∧ (S.order = 2 ∨ S.order = 4 ∨ S.order = 6) ∧ 0 ≤ S.seed ∧ S.seed < 2147483648)
def set2 (S : Setg) : Bool := decide (S.order ≤ S.count ∧ S.count ≤ 4096 ∧ S.count % S.order = 0 ∧ (S.code = 0 → S.size = 0) ∧ (S.code = 1 → powI S.size = true))
def setErr (S : Setg) (bytes : Int) : Int := if set1 S bytes && set2 S then (if decide (S.code = 1 ∧ S.size < 8 * bytes + 24) then 2 else 0) else 1
def codedN (S : Setg) (bytes : Int) : Int := if S.code = 0 then 3 * (8 * bytes + 24) + 18 else S.size
theorem setErr_no1 {S : Setg} {bytes : Int} (h : set1 S bytes = false) : setErr S bytes = 1 := by unfold setErr; rw [h]; rfl
theorem setErr_no2 {S : Setg} {bytes : Int} (h : set2 S = false) : setErr S bytes = 1 := by unfold setErr; rw [h, Bool.and_false]; rfl
theorem ret_intL {a b : Int} (h : a = b) : Ending.returned (.int .i64 a) = .returned (.int .i64 b) := by rw [h]
theorem sealed_any (bytes : Int) (w : World) (h : 0 ≤ bytes ∧ bytes ≤ 40) : Calls Tryz.prog 66 #[.int .i64 bytes] w fun e w' => e = .returned (.int .i64 (8 * bytes + 24)) ∧ Below w.heap.size w w' := by
  go_enter Tryz.func66, Tryz.ntmps66
  go_wp2
  go_ret
  exact ⟨ret_intL (by go_num), Below.refl _ _⟩
end Go.Proofs.YtplkmkbambbemadGreatDoor
namespace Go.Proofs.YtplkmkbambbemadGreatDoor
open Go.ChangeShapes Go.WideShapes Go.ChangeAt Go.RowKit
def cellsQ (ps : List (Int × Int)) : List Value := ps.flatMap fun p => [.int .i64 p.1, .int .i64 p.2]
theorem cellsQ_length (ps : List (Int × Int)) : (cellsQ ps).length = 2 * ps.length := by
  induction ps with
  | nil => rfl
  | cons p ps ih =>
    have e : cellsQ (p :: ps) = .int .i64 p.1 :: .int .i64 p.2 :: cellsQ ps := rfl
    rw [e]; simp [ih]; omega
theorem cellsQ_at (ps : List (Int × Int)) : ∀ i, i < ps.length → (cellsQ ps)[i * 2]? = some (.int .i64 (ps.getD i (0, 0)).1) ∧ (cellsQ ps)[i * 2 + 1]? = some (.int .i64 (ps.getD i (0, 0)).2) := by
  induction ps with
  | nil => intro i hi; simp at hi
  | cons p ps ih =>
    intro i hi
    have e : cellsQ (p :: ps) = .int .i64 p.1 :: .int .i64 p.2 :: cellsQ ps := rfl
    cases i with
    | zero => rw [e]; simp [List.getD]
    | succ i =>
      have := ih i (by simpa using hi)
      rw [e, show (i + 1) * 2 = i * 2 + 1 + 1 by omega, List.getElem?_cons_succ, List.getElem?_cons_succ, show i * 2 + 1 + 1 + 1 = (i * 2 + 1) + 1 + 1 by omega, List.getElem?_cons_succ, List.getElem?_cons_succ]
      simpa [List.getD] using this
theorem cellsQ_set (p : Int × Int) : ∀ (ps : List (Int × Int)) (i : Nat), i < ps.length → cellsQ (ps.set i p) = ((cellsQ ps).set (i * 2) (.int .i64 p.1)).set (i * 2 + 1) (.int .i64 p.2)
  | [], i, hi => by simp at hi
  | q :: ps, 0, _ => rfl
  | q :: ps, i + 1, hi => by
    have ih := cellsQ_set p ps i (by simpa using hi)
    have e : ∀ (r : Int × Int) rs, cellsQ (r :: rs) = .int .i64 r.1 :: .int .i64 r.2 :: cellsQ rs := fun _ _ => rfl
    rw [List.set_cons_succ, e, e, ih, show (i + 1) * 2 = i * 2 + 1 + 1 by omega]
    rfl
theorem cellsQ_zero (n : Nat) : cellsQ (List.replicate n (0, 0)) = List.replicate (n * 2) (.int .i64 0) := by
  induction n with
  | zero => rfl
  | succ n ih =>
    have e : cellsQ ((0, 0) :: List.replicate n (0, 0)) = .int .i64 0 :: .int .i64 0 :: cellsQ (List.replicate n (0, 0)) := rfl
    rw [List.replicate_succ, e, ih, show (n + 1) * 2 = n * 2 + 1 + 1 by omega, List.replicate_succ, List.replicate_succ]
theorem cellsQ_one (ps : List (Int × Int)) : ∀ u ∈ cellsQ ps, u.oneCell' = true := by
  intro u hu
  unfold cellsQ at hu
  rw [List.mem_flatMap] at hu
  obtain ⟨p, _, hp⟩ := hu
  simp at hp
  rcases hp with rfl | rfl <;> rfl
theorem cellsQ_append (ps qs : List (Int × Int)) : cellsQ (ps ++ qs) = cellsQ ps ++ cellsQ qs := by unfold cellsQ; rw [List.flatMap_append]
/-- Such a list of one's own, T its type. -/
def OwnT (T : TypeId) (w : World) (B : Nat) (v : Value) (ps : List (Int × Int)) : Prop := w.ownsRow B T 2 v ps.length (cellsQ ps)
theorem OwnT.nil (T : TypeId) (w : World) (B : Nat) : OwnT T w B (.slice none 0 0) [] := World.ownsRow_nil _ _ _ _
theorem OwnT.below {T : TypeId} {w w' : World} {B : Nat} {v : Value} {ps : List (Int × Int)} (h : OwnT T w B v ps) (hb : Below w.heap.size w w') : OwnT T w' B v ps := by
  refine ⟨h.1, ?_⟩
  rcases h.2 with h' | ⟨g, cap, cur, h1, h2, h3, h4⟩
  · exact .inl h'
  · have hlt : g < w.heap.size := (Array.getElem?_eq_some_iff.1 h3).1
    exact .inr ⟨g, cap, cur, h1, h2, (hb.block g hlt).trans h3, h4⟩
theorem OwnT.mono {T : TypeId} {w : World} {B B' : Nat} {v : Value} {ps : List (Int × Int)} (h : OwnT T w B v ps) (hB : B' ≤ B) : OwnT T w B' v ps := by
  refine ⟨h.1, ?_⟩
  rcases h.2 with h' | ⟨g, cap, cur, h1, h2, h3⟩
  · exact .inl h'
  · exact .inr ⟨g, cap, cur, h1, by omega, h3⟩
theorem OwnT.shape {T : TypeId} {w : World} {B : Nat} {v : Value} {ps : List (Int × Int)} (h : OwnT T w B v ps) : ∃ a c, v = .slice a ps.length c ∧ ps.length ≤ c ∧ c ≤ maxLen := by
  rcases h.2 with ⟨rfl, h0⟩ | ⟨g, cap, cur, rfl, _, _, h1, h2, _⟩
  · exact ⟨none, 0, by rw [h0], by omega, by unfold maxLen; omega⟩
  · exact ⟨_, cap, rfl, h1, h2⟩
theorem OwnT.cells {T : TypeId} {w : World} {B n c : Nat} {a : Option Addr} {ps : List (Int × Int)} (h : OwnT T w B (.slice a n c) ps) {i : Nat} (hi : i < ps.length) : ∃ g, a = some ⟨g, 0, none⟩ ∧ w.cell? ⟨g, i * 2, none⟩ = some (.int .i64 (ps.getD i (0, 0)).1) ∧ w.cell? ⟨g, i * 2 + 1, none⟩ = some (.int .i64 (ps.getD i (0, 0)).2) := by
  rcases h.2 with ⟨h', h0⟩ | ⟨g, cap, cur, h', _, hg, hlc, _, hcs, ht⟩
  · omega
  · simp only [Value.slice.injEq] at h'
    obtain ⟨rfl, rfl, rfl⟩ := h'
    have hc := cellsQ_at ps i hi
    have hat : ∀ j, j < ps.length * 2 → cur[j]? = (cellsQ ps)[j]? := fun j hj => by
      rw [← ht, List.getElem?_take_of_lt hj]
      simp
    refine ⟨g, rfl, ?_, ?_⟩
    · rw [cell_of_row _ _ _ _ _ _ hg, hat _ (by omega)]; exact hc.1
    · rw [cell_of_row _ _ _ _ _ _ hg, hat _ (by omega)]; exact hc.2
theorem OwnT.blocks {T : TypeId} {w : World} {B : Nat} {v : Value} {ps : List (Int × Int)} (h : OwnT T w B v ps) : ∀ k, v.ownBlock = some k → B ≤ k := fun k hk => (h.lt k hk).1
end Go.Proofs.YtplkmkbambbemadGreatDoor
namespace Go.Proofs.YtplkmkbambbemadGreatDoor
open Go.ChangeShapes Go.WideShapes Go.ChangeAt Go.RowKit
/-- All lists of k bits, in their order. -/
def wordsM : Nat → List (List Int)
  | 0 => [[]]
  | k + 1 => (wordsM k).flatMap fun l => [l ++ [0], l ++ [1]]
def growW (LL : List (List Int)) (i : Nat) : List (List Int) := (LL.take i).flatMap fun l => [l ++ [0], l ++ [1]]
theorem growW_succ {LL : List (List Int)} {i : Nat} (h : i < LL.length) : growW LL (i + 1) = growW LL i ++ [LL.getD i [] ++ [0], LL.getD i [] ++ [1]] := by
  unfold growW
  rw [List.take_succ_eq_append_getElem h, List.flatMap_append]
  simp [List.getD, h]
theorem growW_all (LL : List (List Int)) : growW LL LL.length = LL.flatMap fun l => [l ++ [0], l ++ [1]] := by simp [growW]
theorem growW_length (LL : List (List Int)) (i : Nat) (h : i ≤ LL.length) : (growW LL i).length = 2 * i := by
  induction i with
  | zero => simp [growW]
  | succ i ih => rw [growW_succ (by omega), List.length_append, ih (by omega)]; simp; omega
theorem wordsM_succ (k : Nat) : wordsM (k + 1) = growW (wordsM k) (wordsM k).length := (growW_all _).symm
theorem wordsM_length (k : Nat) : (wordsM k).length = 2 ^ k := by
  induction k with
  | zero => rfl
  | succ k ih => rw [wordsM_succ, growW_length _ _ (Nat.le_refl _), ih, Nat.pow_succ]; omega
theorem mem_words_succ {k : Nat} {c : List Int} : c ∈ wordsM (k + 1) ↔ ∃ l ∈ wordsM k, c = l ++ [0] ∨ c = l ++ [1] := by simp [wordsM]
theorem words_len {k : Nat} {c : List Int} (h : c ∈ wordsM k) : c.length = k := by
  induction k generalizing c with
  | zero => simp [wordsM] at h; simp [h]
  | succ k ih =>
    obtain ⟨l, hl, rfl | rfl⟩ := mem_words_succ.1 h
    · simp [ih hl]
    · simp [ih hl]
theorem words_bits {k : Nat} {c : List Int} (h : c ∈ wordsM k) : ∀ x ∈ c, x = 0 ∨ x = 1 := by
  induction k generalizing c with
  | zero => simp [wordsM] at h; simp [h]
  | succ k ih =>
    obtain ⟨l, hl, rfl | rfl⟩ := mem_words_succ.1 h
    · intro x hx
      rw [List.mem_append] at hx
      rcases hx with hx | hx
      · exact ih hl x hx
      · left; simpa using hx
    · intro x hx
      rw [List.mem_append] at hx
      rcases hx with hx | hx
      · exact ih hl x hx
      · right; simpa using hx
theorem words_at {k i : Nat} (h : i < 2 ^ k) : (wordsM k).getD i [] ∈ wordsM k := by
  have hl : i < (wordsM k).length := by rw [wordsM_length]; exact h
  have e : (wordsM k).getD i [] = (wordsM k)[i] := by simp [List.getD, hl]
  rw [e]
  exact List.getElem_mem hl
theorem count_grow (LL : List (List Int)) (c : List Int) (x : Int) (hx : x = 0 ∨ x = 1) : (LL.flatMap fun l => [l ++ [0], l ++ [1]]).count (c ++ [x]) = LL.count c := by
  induction LL with
  | nil => rfl
  | cons l LL ih =>
    rw [List.flatMap_cons, List.count_append, ih, List.count_cons (l := LL)]
    have e : List.count (c ++ [x]) [l ++ [0], l ++ [1]] = if l == c then 1 else 0 := by
      rw [List.count_cons, List.count_cons, List.count_nil]
      by_cases h : l = c
      · subst h
        rcases hx with rfl | rfl
        · simp
        · simp
      · simp [h]
    rw [e]
    omega
/-- Each list of k bits is one of them, once. -/
theorem words_count {k : Nat} : ∀ {c : List Int}, c.length = k → (∀ x ∈ c, x = 0 ∨ x = 1) → (wordsM k).count c = 1 := by
  induction k with
  | zero => intro c h _; rw [List.eq_nil_of_length_eq_zero h]; rfl
  | succ k ih =>
    intro c h hb
    have hne : c ≠ [] := by rintro rfl; simp at h
    obtain ⟨l, x, rfl⟩ : ∃ l x, c = l ++ [x] := ⟨c.dropLast, c.getLast hne, (List.dropLast_concat_getLast hne).symm⟩
    rw [wordsM, count_grow _ _ _ (hb x (by simp))]
    exact ih (by simpa using h) (fun y hy => hb y (by simp [hy]))
theorem words_pick {k : Nat} {c : List Int} (h : c.length = k) (hb : ∀ x ∈ c, x = 0 ∨ x = 1) : (wordsM k).filter (fun l => decide (l = c)) = [c] := by
  have := List.filter_eq (l := wordsM k) c
  rw [words_count h hb] at this
  rw [this]
  rfl
/-- I (first 0) or Q (first 1) of bits, from the innermost out. -/
def sideR (l : List Int) (first : Nat) : Nat → Int
  | 0 => 0
  | r + 1 => if l.getD (l.length - 2 + first - 2 * r) 0 = 1 then -(if r = 0 then 1 else 2 * (r : Int) - sideR l first r) else (if r = 0 then 1 else 2 * (r : Int) - sideR l first r)
def farM (p q : Int × Int) : Int := (p.1 - q.1) * (p.1 - q.1) + (p.2 - q.2) * (p.2 - q.2)
theorem sideR_bd (l : List Int) (first : Nat) : ∀ r, r ≤ 3 → -(9 : Int) ≤ sideR l first r ∧ sideR l first r ≤ 9
  | 0, _ => by simp [sideR]
  | 1, _ => by simp only [sideR]; split <;> simp
  | 2, _ => by
    have h1 : -1 ≤ sideR l first 1 ∧ sideR l first 1 ≤ 1 := by simp only [sideR]; split <;> simp
    simp only [sideR] at h1 ⊢
    split <;> simp <;> omega
  | 3, _ => by
    have h2 : -3 ≤ sideR l first 2 ∧ sideR l first 2 ≤ 3 := by
      have h1 : -1 ≤ sideR l first 1 ∧ sideR l first 1 ≤ 1 := by simp only [sideR]; split <;> simp
      simp only [sideR] at h1 ⊢
      split <;> simp <;> omega
    have e : sideR l first 3 = if l.getD (l.length - 2 + first - 2 * 2) 0 = 1 then -(4 - sideR l first 2) else 4 - sideR l first 2 := by rw [sideR]; simp
    rw [e]
    split <;> omega
  | r + 4, h => by omega
end Go.Proofs.YtplkmkbambbemadGreatDoor
