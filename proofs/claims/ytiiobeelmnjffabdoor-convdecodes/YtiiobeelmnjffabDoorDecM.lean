import Derived.Test.YtiiobeelmnjffabDoorConvM
namespace Go.Proofs.YtiiobeelmnjffabDoor

/-! DECODING FORWARDS: of all beginnings that end in a state the best one is kept. -/

/-- A beginning of i bits; 0 from the place n on. -/
structure Valid (n i : Nat) (p : List Int) : Prop where
  len : p.length = i
  bits : AllBits p
  zero : ∀ j, n ≤ j → p.getD j 0 = 0

/-- Of those that meet S, (b, q) is the best: it scores q, none more, and of several it comes first. -/
structure BestIn (F : List Int → Int) (n : Nat) (S : List Int → Prop) (b : List Int) (q : Int) : Prop where
  here : ∃ p, S p ∧ p.take n = b ∧ F p = q
  most : ∀ p, S p → F p < q ∨ (F p = q ∧ ahead (p.take n) b = false)

/-- What an entry says of those that meet S. -/
def Ent (F : List Int → Int) (n : Nat) (S : List Int → Prop) (t : Bool) (b : List Int) (q : Int) : Prop := (t = false → ∀ p, ¬ S p) ∧ (t = true → BestIn F n S b q)

theorem ent_congr {F : List Int → Int} {n : Nat} {S S' : List Int → Prop} {t : Bool} {b : List Int} {q : Int} (h : ∀ p, S p ↔ S' p) (e : Ent F n S t b q) : Ent F n S' t b q := by
  have : S = S' := funext fun p => propext (h p)
  rwa [← this]

theorem ahead_asymm : ∀ (a b : List Int), ahead a b = true → ahead b a = false
  | [], _, h => by simp [ahead] at h
  | _ :: _, [], h => by simp [ahead] at h
  | x :: a, y :: b, h => by
    simp only [ahead] at h ⊢
    by_cases e : x = y
    · subst e
      simp only [if_true] at h ⊢
      exact ahead_asymm a b h
    · rw [if_neg e] at h
      rw [if_neg (fun h => e h.symm)]
      simp at h ⊢
      omega

/-- Is a new candidate taken? -/
def taken (t : Bool) (q q' : Int) (b b' : List Int) : Bool := !t || decide (q < q') || (decide (q' = q) && ahead b' b)

theorem ent_take {F : List Int → Int} {n m : Nat} {S S' : List Int → Prop} {t : Bool} {b b' : List Int} {q q' : Int} (hl : ∀ p, S p ∨ S' p → (p.take n).length = m) (e : Ent F n S t b q) (c : BestIn F n S' b' q') (h : taken t q q' b b' = true) :
    Ent F n (fun p => S p ∨ S' p) true b' q' := by
  refine ⟨fun h => by simp at h, fun _ => ?_⟩
  obtain ⟨p', hp', hb', hq'⟩ := c.here
  refine ⟨⟨p', .inr hp', hb', hq'⟩, fun p hp => ?_⟩
  rcases hp with hp | hp
  · cases t with
    | false => exact absurd hp (e.1 rfl p)
    | true =>
      obtain ⟨p0, hp0, hb0, hq0⟩ := (e.2 rfl).here
      have lb : b.length = m := by rw [← hb0]; exact hl p0 (.inl hp0)
      have lb' : b'.length = m := by rw [← hb']; exact hl p' (.inr hp')
      have lp := hl p (.inl hp)
      unfold taken at h
      simp at h
      rcases (e.2 rfl).most p hp with h1 | ⟨h1, h2⟩
      · rcases h with h | ⟨h, _⟩ <;> (left; omega)
      · rcases h with h | ⟨h, h3⟩
        · left; omega
        · right
          refine ⟨by omega, ?_⟩
          exact ahead_trans _ _ _ (by omega) (by omega) h2 (ahead_asymm _ _ h3)
  · exact c.most p hp

theorem ent_keep {F : List Int → Int} {n m : Nat} {S S' : List Int → Prop} {t : Bool} {b b' : List Int} {q q' : Int} (hl : ∀ p, S p ∨ S' p → (p.take n).length = m) (e : Ent F n S t b q) (c : BestIn F n S' b' q') (h : taken t q q' b b' = false) :
    Ent F n (fun p => S p ∨ S' p) t b q := by
  unfold taken at h
  simp at h
  obtain ⟨⟨ht, h1⟩, h2⟩ := h
  subst ht
  refine ⟨fun h => by simp at h, fun _ => ?_⟩
  obtain ⟨p0, hp0, hb0, hq0⟩ := (e.2 rfl).here
  obtain ⟨p', hp', hb', hq'⟩ := c.here
  have lb : b.length = m := by rw [← hb0]; exact hl p0 (.inl hp0)
  have lb' : b'.length = m := by rw [← hb']; exact hl p' (.inr hp')
  refine ⟨⟨p0, .inl hp0, hb0, hq0⟩, fun p hp => ?_⟩
  rcases hp with hp | hp
  · exact (e.2 rfl).most p hp
  · have lp := hl p (.inr hp)
    rcases c.most p hp with h3 | ⟨h3, h4⟩
    · left; omega
    · by_cases he : q' = q
      · right
        exact ⟨by omega, ahead_trans _ _ _ (by omega) (by omega) h4 (h2 he)⟩
      · left; omega

/-- The beginnings that end in a state. -/
def At (n i : Nat) (s : Int) (p : List Int) : Prop := Valid n i p ∧ ends 0 p = s
/-- One bit more, from a state. -/
def From (n i : Nat) (s x : Int) (p : List Int) : Prop := ∃ p0, At n i s p0 ∧ p = p0 ++ [x]

theorem take_snoc_lt {p : List Int} {n i : Nat} (hp : p.length = i) (h : i < n) (x : Int) : (p ++ [x]).take n = p.take n ++ [x] := by
  rw [List.take_of_length_le (by simp; omega), List.take_of_length_le (by omega)]
theorem take_snoc_ge {p : List Int} {n i : Nat} (hp : p.length = i) (h : n ≤ i) (x : Int) : (p ++ [x]).take n = p.take n := by
  rw [List.take_append_of_le_length (by omega)]

/-- The best of one bit more: the best, and that bit. -/
theorem from_best {soft : List Int} {n i : Nat} {s x : Int} {b : List Int} {q : Int} (c : BestIn (sc soft 0 0) n (At n i s) b q) :
    BestIn (sc soft 0 0) n (From n i s x) (if i < n then b ++ [x] else b) (q + gain soft i s x) := by
  have hF : ∀ p0, At n i s p0 → sc soft 0 0 (p0 ++ [x]) = sc soft 0 0 p0 + gain soft i s x := fun p0 h => by
    rw [sc_append, h.1.len, h.2, Nat.zero_add]
    simp [sc]
  obtain ⟨p, hp, hb, hq⟩ := c.here
  refine ⟨⟨p ++ [x], ⟨p, hp, rfl⟩, ?_, by rw [hF p hp, hq]⟩, ?_⟩
  · by_cases hi : i < n
    · rw [if_pos hi, take_snoc_lt hp.1.len hi, hb]
    · rw [if_neg hi, take_snoc_ge hp.1.len (by omega), hb]
  · rintro p' ⟨p0, hp0, rfl⟩
    rw [hF p0 hp0]
    have l0 : (p0.take n).length = b.length := by rw [← hb, List.length_take, List.length_take, hp0.1.len, hp.1.len]
    rcases c.most p0 hp0 with h | ⟨h, h'⟩
    · left; omega
    · right
      refine ⟨by omega, ?_⟩
      by_cases hi : i < n
      · rw [if_pos hi, take_snoc_lt hp0.1.len hi, ahead_snoc _ _ _ l0]; exact h'
      · rw [if_neg hi, take_snoc_ge hp0.1.len (by omega)]; exact h'

/-- What has come to a state when the pairs (s, x) with 2 s + x below M are done. -/
def Sofar (n i : Nat) (M : Int) (to : Int) (p : List Int) : Prop := ∃ p0 x, p = p0 ++ [x] ∧ Valid n i p0 ∧ Valid n (i + 1) p ∧ nxt (ends 0 p0) x = to ∧ 2 * ends 0 p0 + x < M

theorem valid_snoc {n i : Nat} {p : List Int} {x : Int} (h : Valid n i p) (hx : 0 ≤ x ∧ x ≤ 1) (hz : n ≤ i → x = 0) : Valid n (i + 1) (p ++ [x]) := by
  refine ⟨by simp [h.len], ?_, fun j hj => ?_⟩
  · intro y hy
    rcases List.mem_append.1 hy with hy | hy
    · exact h.bits y hy
    · simp at hy; subst hy; exact hx
  · by_cases h1 : j < i
    · have := h.zero j hj
      simp only [List.getD, List.getElem?_append_left (show j < p.length by rw [h.len]; exact h1)]
      exact this
    · by_cases h2 : j = i
      · subst h2
        simp only [List.getD, List.getElem?_append_right (show p.length ≤ j by rw [h.len]; omega), h.len, Nat.sub_self]
        simp [hz hj]
      · simp only [List.getD]
        rw [List.getElem?_eq_none (by simp [h.len]; omega)]
        rfl

theorem valid_parts {n i : Nat} {p : List Int} {x : Int} (h : Valid n (i + 1) (p ++ [x])) : Valid n i p ∧ (0 ≤ x ∧ x ≤ 1) ∧ (n ≤ i → x = 0) := by
  have hl : p.length = i := by have := h.len; simpa using this
  refine ⟨⟨hl, fun y hy => h.bits y (by simp [hy]), fun j hj => ?_⟩, h.bits x (by simp), fun hn => ?_⟩
  · by_cases h1 : j < p.length
    · have := h.zero j hj
      simp only [List.getD, List.getElem?_append_left h1] at this
      exact this
    · simp [List.getD, Nat.le_of_not_lt h1]
  · have := h.zero i hn
    simp only [List.getD, List.getElem?_append_right (show p.length ≤ i by omega), hl, Nat.sub_self] at this
    simpa using this

/-- The pair (s, x) is done. -/
theorem sofar_step {n i : Nat} {s x : Int} (hx : 0 ≤ x ∧ x ≤ 1) (hz : n ≤ i → x = 0) (to : Int) (p : List Int) :
    Sofar n i (2 * s + x + 1) to p ↔ (Sofar n i (2 * s + x) to p ∨ (nxt s x = to ∧ From n i s x p)) := by
  constructor
  · rintro ⟨p0, y, rfl, h1, h2, h3, h4⟩
    have hy := (valid_parts h2).2.1
    by_cases h5 : 2 * ends 0 p0 + y < 2 * s + x
    · exact .inl ⟨p0, y, rfl, h1, h2, h3, h5⟩
    · have e1 : ends 0 p0 = s := by omega
      have e2 : y = x := by omega
      subst e2
      exact .inr ⟨by rw [← e1]; exact h3, p0, ⟨h1, e1⟩, rfl⟩
  · rintro (⟨p0, y, rfl, h1, h2, h3, h4⟩ | ⟨h3, p0, h1, rfl⟩)
    · exact ⟨p0, y, rfl, h1, h2, h3, by omega⟩
    · refine ⟨p0, x, rfl, h1.1, valid_snoc h1.1 hx hz, ?_, ?_⟩
      · rw [h1.2]; exact h3
      · rw [h1.2]; omega

/-- A pair that brings nothing: no beginning ends in s, or the bit may not be 1 any more. -/
theorem sofar_idle {n i : Nat} {s x : Int} (hx : 0 ≤ x ∧ x ≤ 1) (h : (∀ p, ¬ At n i s p) ∨ (n ≤ i ∧ x = 1)) (to : Int) (p : List Int) : Sofar n i (2 * s + x + 1) to p ↔ Sofar n i (2 * s + x) to p := by
  constructor
  · rintro ⟨p0, y, rfl, h1, h2, h3, h4⟩
    have hy := (valid_parts h2).2
    refine ⟨p0, y, rfl, h1, h2, h3, ?_⟩
    by_cases h5 : 2 * ends 0 p0 + y < 2 * s + x
    · exact h5
    · exfalso
      rcases h with h | ⟨h, h'⟩
      · by_cases e1 : ends 0 p0 = s
        · exact h p0 ⟨h1, e1⟩
        · omega
      · have := hy.2 h
        omega
  · rintro ⟨p0, y, rfl, h1, h2, h3, h4⟩
    exact ⟨p0, y, rfl, h1, h2, h3, by omega⟩

theorem sofar_none (n i : Nat) (to : Int) (p : List Int) : ¬ Sofar n i 0 to p := by
  rintro ⟨p0, y, rfl, h1, h2, h3, h4⟩
  have hy := (valid_parts h2).2.1
  have := ends_bd p0 h1.bits 0 (by omega)
  omega

theorem sofar_all (n i : Nat) (to : Int) (p : List Int) : Sofar n i 128 to p ↔ At n (i + 1) to p := by
  constructor
  · rintro ⟨p0, y, rfl, h1, h2, h3, h4⟩
    exact ⟨h2, by rw [ends_append]; exact h3⟩
  · rintro ⟨h1, h2⟩
    obtain ⟨p0, y, rfl⟩ : ∃ p0 y, p = p0 ++ [y] := by
      have hne : p ≠ [] := by intro e; have := h1.len; rw [e] at this; simp at this
      exact ⟨p.dropLast, p.getLast hne, (List.dropLast_concat_getLast hne).symm⟩
    have hp := valid_parts h1
    have hb := ends_bd p0 hp.1.bits 0 (by omega)
    refine ⟨p0, y, rfl, hp.1, h1, ?_, by omega⟩
    rw [← h2, ends_append]
    rfl

theorem take_len {n i : Nat} {M to : Int} {p : List Int} (h : Sofar n i M to p) : (p.take n).length = min n (i + 1) := by
  obtain ⟨p0, y, rfl, _, h2, _⟩ := h
  rw [List.length_take, h2.len]

theorem at_zero (n : Nat) (s : Int) (p : List Int) : At n 0 s p ↔ (p = [] ∧ s = 0) := by
  constructor
  · rintro ⟨h1, h2⟩
    have : p = [] := List.eq_nil_of_length_eq_zero h1.len
    subst this
    exact ⟨rfl, h2.symm⟩
  · rintro ⟨rfl, rfl⟩
    exact ⟨⟨rfl, by intro x hx; simp at hx, by simp⟩, rfl⟩

theorem zeros6_get (r : Nat) (h : r < zeros6.length) : zeros6[r] = 0 := by
  match r, h with
  | 0, _ | 1, _ | 2, _ | 3, _ | 4, _ | 5, _ => rfl

/-- The last entry of the state 0 is what is decoded. -/
theorem last_best {soft : List Int} {n : Nat} {b : List Int} {q : Int} (c : BestIn (sc soft 0 0) n (At n (n + 6) 0) b q) : b = way soft n 0 0 ∧ q = top soft n 0 0 := by
  have hv : ∀ o, o.length = n → AllBits o → At n (n + 6) 0 (o ++ zeros6) := fun o ho hb => by
    refine ⟨⟨by simp [zeros6, ho], ?_, fun j hj => ?_⟩, ?_⟩
    · intro y hy
      rcases List.mem_append.1 hy with hy | hy
      · exact hb y hy
      · simp [zeros6] at hy; omega
    · simp only [List.getD, List.getElem?_append_right (show o.length ≤ j by omega)]
      by_cases h6 : j - o.length < 6
      · match j - o.length, h6 with
        | 0, _ | 1, _ | 2, _ | 3, _ | 4, _ | 5, _ => rfl
      · rw [List.getElem?_eq_none (by simp [zeros6]; omega)]; rfl
    · rw [ends_append]
      have he := ends_bd o hb 0 (by omega)
      simp only [zeros6, ends, nxt]
      omega
  have hs : ∀ p, At n (n + 6) 0 p → p = p.take n ++ zeros6 := fun p hp => by
    refine List.ext_getElem (by simp [zeros6, hp.1.len]) fun j h1 h2 => ?_
    by_cases hj : j < n
    · rw [List.getElem_append_left (by rw [List.length_take, hp.1.len]; omega)]
      simp
    · have h0 := hp.1.zero j (by omega)
      have e : p.getD j 0 = p[j] := by simp [List.getD, h1]
      rw [← e, h0, List.getElem_append_right (by rw [List.length_take, hp.1.len]; omega)]
      exact (zeros6_get _ _).symm
  obtain ⟨p, hp, hb, hq⟩ := c.here
  have hpb := hs p hp
  rw [hb] at hpb
  have hbest : Best (fun o => sc soft 0 0 (o ++ zeros6)) n b := by
    refine ⟨by rw [← hb, List.length_take, hp.1.len]; omega, fun y hy => hp.1.bits y (by rw [← hb] at hy; exact List.mem_of_mem_take hy), fun o ho hob => ?_⟩
    have := c.most _ (hv o ho hob)
    rw [List.take_left' ho, ← hq, hpb] at this
    exact this
  have hw := best_one hbest (way_best soft n 0 0)
  refine ⟨hw, ?_⟩
  rw [← hq, hpb, hw, way_top]

end Go.Proofs.YtiiobeelmnjffabDoor
