import Derived.Test.YtfbjedcfppghgacDoorPlacesM
namespace Go.Proofs.YtfbjedcfppghgacDoor
/-! WHERE THE PLACES STAND: their number below i; bits laid at them; bits read at them. -/

theorem getD_is (l : List Int) {j : Nat} (h : j < l.length) : l.getD j 0 = l[j] := by simp [List.getD, h]
/-- How many places lie below i. -/
def cntM (q : Nat → Bool) (i : Nat) : Nat := ((List.range i).filter q).length
theorem cnt_succ (q : Nat → Bool) (i : Nat) : cntM q (i + 1) = cntM q i + if q i = true then 1 else 0 := by
  unfold cntM
  rw [List.range_succ, List.filter_append, List.length_append]
  cases h : q i <;> simp [h]
theorem range_split {i n : Nat} (h : i < n) : ∃ r : List Nat, List.range n = List.range i ++ i :: r ∧ ∀ x ∈ r, i < x := by
  refine ⟨(List.range n).drop (i + 1), ?_, ?_⟩
  · have h1 := (List.take_append_drop i (List.range n)).symm
    rw [List.take_range, Nat.min_eq_left (by omega), List.drop_eq_getElem_cons (by simpa using h), List.getElem_range] at h1
    exact h1
  · intro x hx
    obtain ⟨j, hj, rfl⟩ := List.getElem_of_mem hx
    rw [List.getElem_drop, List.getElem_range]
    omega
theorem place_at (q : Nat → Bool) {i n : Nat} (h : i < n) (hq : q i = true) : cntM q i < ((List.range n).filter q).length ∧ ((List.range n).filter q).getD (cntM q i) 0 = i := by
  obtain ⟨r, e, _⟩ := range_split h
  rw [e, List.filter_append, List.filter_cons, hq, if_pos rfl]
  constructor
  · rw [List.length_append]; unfold cntM; simp
  · simp [cntM, List.getD]
theorem place_not (q : Nat → Bool) {i n : Nat} (h : i < n) (hq : q i = false) : cntM q i < ((List.range n).filter q).length → ((List.range n).filter q).getD (cntM q i) 0 ≠ i := by
  obtain ⟨r, e, hr⟩ := range_split h
  rw [e, List.filter_append, List.filter_cons, hq]
  simp only [Bool.false_eq_true, if_false]
  intro h1 h2
  rw [List.length_append] at h1
  have h3 : 0 < (r.filter q).length := by unfold cntM at h1; omega
  have h4 : (r.filter q)[0] ∈ r := (List.mem_filter.1 (List.getElem_mem h3)).1
  have h5 := hr _ h4
  have h6 : ((List.range i).filter q ++ r.filter q).getD (cntM q i) 0 = (r.filter q)[0] := by
    simp only [List.getD, cntM]
    rw [List.getElem?_append_right (Nat.le_refl _), Nat.sub_self, List.getElem?_eq_getElem h3]
    rfl
  omega

/-- Bits laid at the places, one by one. -/
def spreadM (n : Nat) (P : List Nat) (b : List Int) : Nat → List Int
  | 0 => List.replicate n 0
  | i + 1 => (spreadM n P b i).set (P.getD i 0) (b.getD i 0)
theorem spread_length (n : Nat) (P : List Nat) (b : List Int) : ∀ i, (spreadM n P b i).length = n
  | 0 => by simp [spreadM]
  | i + 1 => by rw [spreadM, List.length_set, spread_length n P b i]
theorem spread_at (n : Nat) (P : List Nat) (b : List Int) (hP : P.Pairwise (fun x y => x < y)) (hn : ∀ x ∈ P, x < n) : ∀ i, i ≤ P.length → ∀ j, j < i → (spreadM n P b i).getD (P.getD j 0) 0 = b.getD j 0
  | 0, _, j, h => by omega
  | i + 1, hi, j, hj => by
    rw [spreadM]
    have hgi : P.getD i 0 = P[i] := by simp [List.getD, show i < P.length by omega]
    have hgj : P.getD j 0 = P[j] := by simp [List.getD, show j < P.length by omega]
    have hlt : P[i] < n := hn _ (List.getElem_mem _)
    by_cases e : j = i
    · subst e
      rw [hgj]
      simp [List.getD, spread_length, hlt]
    · have ih := spread_at n P b hP hn i (by omega) j (by omega)
      have hne : P[j] < P[i] := (List.pairwise_iff_getElem.1 hP) j i (by omega) (by omega) (by omega)
      rw [hgi, hgj]
      rw [hgj] at ih
      simp only [List.getD, List.getElem?_set]
      rw [if_neg (by omega)]
      exact ih
theorem spread_zero (n : Nat) (P : List Nat) (b : List Int) (p : Nat) (hp : p ∉ P) : ∀ i, i ≤ P.length → (spreadM n P b i).getD p 0 = 0
  | 0, _ => by
    rw [spreadM]
    by_cases h : p < n
    · simp [List.getD, h]
    · simp [List.getD, h]
  | i + 1, hi => by
    rw [spreadM]
    have hgi : P.getD i 0 = P[i] := by simp [List.getD, show i < P.length by omega]
    have hne : P[i] ≠ p := fun e => hp (e ▸ List.getElem_mem _)
    rw [hgi]
    simp only [List.getD, List.getElem?_set]
    rw [if_neg hne]
    exact spread_zero n P b p hp i (by omega)
theorem spread_bits (n : Nat) (P : List Nat) (b : List Int) (hb : ∀ j, 0 ≤ b.getD j 0 ∧ b.getD j 0 ≤ 1) : ∀ i, ∀ x ∈ spreadM n P b i, 0 ≤ x ∧ x ≤ 1
  | 0, x, hx => by
    rw [spreadM] at hx
    have := List.eq_of_mem_replicate hx
    omega
  | i + 1, x, hx => by
    rw [spreadM] at hx
    rcases List.mem_or_eq_of_mem_set hx with h | h
    · exact spread_bits n P b hb i x h
    · subst h; exact hb i

/-- What stands at the places. -/
def readM (P : List Nat) (u : List Int) : List Int := P.map fun p => u.getD p 0
theorem read_spread (n : Nat) (P : List Nat) (b : List Int) (hP : P.Pairwise (fun x y => x < y)) (hn : ∀ x ∈ P, x < n) (hb : b.length = P.length) : readM P (spreadM n P b P.length) = b := by
  refine List.ext_getElem (by simp [readM, hb]) fun j h1 h2 => ?_
  have hj : j < P.length := by omega
  have := spread_at n P b hP hn P.length (Nat.le_refl _) j hj
  have e1 : P.getD j 0 = P[j] := by simp [List.getD, hj]
  have e2 : b.getD j 0 = b[j] := by simp [List.getD, h2]
  rw [e1, e2] at this
  simp only [readM, List.getElem_map]
  exact this
/-- What was found is marked: ones at those of the places from first on that hold 1. -/
def updM (P : List Nat) (fd : List Int) (first : Nat) (u : List Int) : List Int :=
  (List.range fd.length).map fun j => if first ≤ P.getD j 0 ∧ P.getD j 0 < first + u.length ∧ u.getD (P.getD j 0 - first) 0 = 1 then 1 else fd.getD j 0
theorem upd_length (P : List Nat) (fd : List Int) (first : Nat) (u : List Int) : (updM P fd first u).length = fd.length := by simp [updM]
theorem upd_at (P : List Nat) (fd : List Int) (first : Nat) (u : List Int) {j : Nat} (h : j < fd.length) :
    (updM P fd first u).getD j 0 = if first ≤ P.getD j 0 ∧ P.getD j 0 < first + u.length ∧ u.getD (P.getD j 0 - first) 0 = 1 then 1 else fd.getD j 0 := by
  simp [updM, List.getD, h]
theorem upd_append (P : List Nat) (fd : List Int) (first : Nat) (u v : List Int) : updM P (updM P fd first u) (first + u.length) v = updM P fd first (u ++ v) := by
  unfold updM
  rw [List.length_map, List.length_range]
  refine List.map_congr_left fun j hj => ?_
  have hj' : j < fd.length := by simpa using hj
  have e1 := upd_at P fd first u hj'
  unfold updM at e1
  rw [e1, List.length_append]
  generalize P.getD j 0 = p
  by_cases h1 : p < first + u.length
  · by_cases h0 : first ≤ p
    · have e2 : (u ++ v).getD (p - first) 0 = u.getD (p - first) 0 := by simp [List.getD, List.getElem?_append_left (show p - first < u.length by omega)]
      rw [e2, if_neg (by omega)]
      by_cases h2 : u.getD (p - first) 0 = 1
      · rw [if_pos ⟨h0, h1, h2⟩, if_pos ⟨h0, by omega, h2⟩]
      · rw [if_neg (by omega), if_neg (by omega)]
    · rw [if_neg (by omega), if_neg (by omega), if_neg (by omega)]
  · have e2 : (u ++ v).getD (p - first) 0 = v.getD (p - (first + u.length)) 0 := by
      simp only [List.getD]
      rw [List.getElem?_append_right (by omega)]
      congr 2
      omega
    rw [e2]
    by_cases h2 : p < first + u.length + v.length ∧ v.getD (p - (first + u.length)) 0 = 1
    · rw [if_pos ⟨by omega, h2.1, h2.2⟩, if_pos ⟨by omega, by omega, h2.2⟩]
    · rw [if_neg (by omega), if_neg (by omega), if_neg (by omega)]
/-- One place: it is none of P, or what is found there is no 1. -/
theorem upd_none (P : List Nat) (fd : List Int) (first : Nat) (x : Int) (h : x = 0) : updM P fd first [x] = fd := by
  subst h
  refine List.ext_getElem (by simp [updM]) fun j h1 h2 => ?_
  have e1 := upd_at P fd first [0] h2
  have e2 : (updM P fd first [0]).getD j 0 = (updM P fd first [0])[j] := by simp [List.getD, h1]
  have e3 : fd.getD j 0 = fd[j] := by simp [List.getD, h2]
  rw [← e2, e1, if_neg, e3]
  rintro ⟨h1, h2, h3⟩
  have h2' : P.getD j 0 < first + 1 := h2
  have : P.getD j 0 - first = 0 := by omega
  rw [this] at h3
  simp at h3
/-- The place is P's i-th: the i-th is marked. -/
theorem upd_one (P : List Nat) (hP : P.Pairwise (fun x y => x < y)) (fd : List Int) (hl : fd.length = P.length) (i : Nat) (hi : i < P.length) : updM P fd (P.getD i 0) [1] = fd.set i 1 := by
  refine List.ext_getElem (by simp [updM]) fun j h1 h2 => ?_
  have hj : j < fd.length := by simpa using h2
  have e1 := upd_at P fd (P.getD i 0) [1] hj
  have e2 : (updM P fd (P.getD i 0) [1]).getD j 0 = (updM P fd (P.getD i 0) [1])[j] := getD_is _ h1
  have e3 : fd.getD j 0 = fd[j] := by simp [List.getD, hj]
  rw [← e2, e1, List.getElem_set, e3]
  have gi : P.getD i 0 = P[i] := by simp [List.getD, hi]
  have gj : P.getD j 0 = P[j] := by simp [List.getD, show j < P.length by omega]
  by_cases e : i = j
  · subst e
    rw [if_pos rfl, if_pos]
    refine ⟨Nat.le_refl _, by simp, by simp⟩
  · rw [if_neg e, if_neg]
    rintro ⟨a, b, _⟩
    rw [gi, gj] at a b
    simp at b
    rcases Nat.lt_or_gt_of_ne e with h | h
    · have := (List.pairwise_iff_getElem.1 hP) i j hi (by omega) h
      omega
    · have := (List.pairwise_iff_getElem.1 hP) j i (by omega) hi h
      omega
theorem upd_all (P : List Nat) (k : Nat) (hk : P.length = k) (u : List Int) (hu : ∀ j, 0 ≤ u.getD j 0 ∧ u.getD j 0 ≤ 1) (hn : ∀ x ∈ P, x < u.length) : updM P (List.replicate k 0) 0 u = readM P u := by
  refine List.ext_getElem (by simp [updM, readM, hk]) fun j h1 h2 => ?_
  have hj : j < P.length := by simpa [readM] using h2
  have e1 := upd_at P (List.replicate k 0) 0 u (j := j) (by simp; omega)
  have e2 : (updM P (List.replicate k 0) 0 u).getD j 0 = (updM P (List.replicate k 0) 0 u)[j] := by simp [List.getD, h1]
  have e3 : (List.replicate k (0 : Int)).getD j 0 = 0 := by simp [List.getD, show j < k by omega]
  have gj : P.getD j 0 = P[j] := by simp [List.getD, hj]
  rw [← e2, e1, e3, gj]
  simp only [readM, List.getElem_map, Nat.sub_zero]
  have := hu P[j]
  have := hn _ (List.getElem_mem hj)
  by_cases h : u.getD P[j] 0 = 1
  · rw [if_pos ⟨by omega, by omega, h⟩, h]
  · rw [if_neg (by omega)]; omega
end Go.Proofs.YtfbjedcfppghgacDoor
