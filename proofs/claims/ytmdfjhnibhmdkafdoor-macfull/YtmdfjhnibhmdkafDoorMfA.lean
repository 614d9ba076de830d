import Derived.Test.YtmdfjhnibhmdkafDoorFrame
namespace Go.Proofs.YtmdfjhnibhmdkafDoor

/-! BYTES GIVEN AWAY IN TWO ROUNDS (P23): mathematics, in whatever order the channels are gone through. -/

def sumI (l : List Int) : Int := l.foldr (· + ·) 0
theorem sumI_cons (x : Int) (l : List Int) : sumI (x :: l) = x + sumI l := rfl
theorem sumI_append (l m : List Int) : sumI (l ++ m) = sumI l + sumI m := by
  induction l with
  | nil => simp [sumI]
  | cons x l ih => rw [List.cons_append, sumI_cons, sumI_cons, ih]; omega
theorem sumI_set : ∀ (l : List Int) (i : Nat) (x : Int), i < l.length → sumI (l.set i x) = sumI l - l.getD i 0 + x
  | [], i, x, h => by simp at h
  | y :: l, 0, x, _ => by
    show x + sumI l = y + sumI l - y + x
    omega
  | y :: l, i + 1, x, h => by
    have ih := sumI_set l i x (by simpa using h)
    show y + sumI (l.set i x) = y + sumI l - (y :: l).getD (i + 1) 0 + x
    rw [ih]
    have e : (y :: l).getD (i + 1) 0 = l.getD i 0 := rfl
    rw [e]
    omega
/-- What was given so far, and what is left. -/
structure GiveM where
  out : List Int
  left : Int
/-- How much a channel is given when its turn comes: in the first round no more than its level. -/
def giveN (first : Bool) (lv w left : Int) : Int :=
  let n := if first = true ∧ lv < w then lv else w
  let n := if left < n then left else n
  if 0 < n then n else 0
def GiveM.give (first : Bool) (lv bl : List Int) (g : GiveM) (i : Nat) : GiveM :=
  ⟨g.out.set i (g.out.getD i 0 + giveN first (lv.getD i 0) (bl.getD i 0 - g.out.getD i 0) g.left), g.left - giveN first (lv.getD i 0) (bl.getD i 0 - g.out.getD i 0) g.left⟩
def GiveM.round (first : Bool) (lv bl : List Int) (ord : List Nat) (g : GiveM) : GiveM := ord.foldl (GiveM.give first lv bl) g
def grantM (lv bl : List Int) (bytes : Int) (ord : List Nat) : GiveM := GiveM.round false lv bl ord (GiveM.round true lv bl ord ⟨List.replicate bl.length 0, bytes⟩)

/-- What holds all the while. -/
structure GiveM.Ok (bl : List Int) (bytes : Int) (g : GiveM) : Prop where
  len : g.out.length = bl.length
  some : 0 ≤ g.left
  sum : sumI g.out + g.left = bytes
  each : ∀ i, i < bl.length → 0 ≤ g.out.getD i 0 ∧ g.out.getD i 0 ≤ bl.getD i 0
theorem giveN_le (first : Bool) (lv w left : Int) (hl : 0 ≤ left) (hw : 0 ≤ w) : 0 ≤ giveN first lv w left ∧ giveN first lv w left ≤ w ∧ giveN first lv w left ≤ left := by
  unfold giveN
  simp only
  split <;> split <;> split <;> omega
theorem giveN_all (lv w left : Int) (hl : 0 ≤ left) (hw : 0 ≤ w) : giveN false lv w left = w ∨ giveN false lv w left = left := by
  unfold giveN
  simp only [Bool.false_eq_true, false_and, if_false]
  split <;> split <;> omega
theorem getD_setI (l : List Int) (i j : Nat) (x : Int) (h : i < l.length) : (l.set i x).getD j 0 = if j = i then x else l.getD j 0 := by
  by_cases e : j = i
  · subst e
    simp [List.getD, h]
  · have e' : i ≠ j := fun h => e h.symm
    simp [List.getD, e, e']
theorem GiveM.Ok.give {bl : List Int} {bytes : Int} {g : GiveM} (h : g.Ok bl bytes) (first : Bool) (lv : List Int) {i : Nat} (hi : i < bl.length) : (g.give first lv bl i).Ok bl bytes := by
  have hb := h.each i hi
  obtain ⟨h1, h2, h3⟩ := giveN_le first (lv.getD i 0) (bl.getD i 0 - g.out.getD i 0) g.left h.some (by omega)
  have hil : i < g.out.length := by rw [h.len]; exact hi
  refine ⟨by simp [GiveM.give, h.len], ?_, ?_, ?_⟩
  · show 0 ≤ g.left - giveN first (lv.getD i 0) (bl.getD i 0 - g.out.getD i 0) g.left
    omega
  · show sumI (g.out.set i (g.out.getD i 0 + giveN first (lv.getD i 0) (bl.getD i 0 - g.out.getD i 0) g.left)) + (g.left - giveN first (lv.getD i 0) (bl.getD i 0 - g.out.getD i 0) g.left) = bytes
    rw [sumI_set _ _ _ hil]
    have := h.sum
    omega
  · intro j hj
    show 0 ≤ (g.out.set i (g.out.getD i 0 + giveN first (lv.getD i 0) (bl.getD i 0 - g.out.getD i 0) g.left)).getD j 0 ∧ (g.out.set i (g.out.getD i 0 + giveN first (lv.getD i 0) (bl.getD i 0 - g.out.getD i 0) g.left)).getD j 0 ≤ bl.getD j 0
    rw [getD_setI _ _ _ _ hil]
    by_cases e : j = i
    · rw [if_pos e, e]; omega
    · rw [if_neg e]; exact h.each j hj
theorem GiveM.Ok.round {bl : List Int} {bytes : Int} (first : Bool) (lv : List Int) : ∀ (ord : List Nat) {g : GiveM}, g.Ok bl bytes → (∀ i ∈ ord, i < bl.length) → (g.round first lv bl ord).Ok bl bytes
  | [], _, h, _ => h
  | i :: ord, _, h, ho => GiveM.Ok.round first lv ord (h.give first lv (ho i (by simp))) (fun j hj => ho j (by simp [hj]))
/-- Once all is given away, or a channel has what waits, that stays. -/
theorem give_stays {bl : List Int} {bytes : Int} {g : GiveM} (h : g.Ok bl bytes) (lv : List Int) {i j : Nat} (hi : i < bl.length) (_hj : j < bl.length) (hd : g.left = 0 ∨ g.out.getD j 0 = bl.getD j 0) : (g.give false lv bl i).left = 0 ∨ (g.give false lv bl i).out.getD j 0 = bl.getD j 0 := by
  have hb := h.each i hi
  obtain ⟨h1, h2, h3⟩ := giveN_le false (lv.getD i 0) (bl.getD i 0 - g.out.getD i 0) g.left h.some (by omega)
  have hil : i < g.out.length := by rw [h.len]; exact hi
  rcases hd with hd | hd
  · left
    show g.left - giveN false (lv.getD i 0) (bl.getD i 0 - g.out.getD i 0) g.left = 0
    omega
  · right
    show (g.out.set i (g.out.getD i 0 + giveN false (lv.getD i 0) (bl.getD i 0 - g.out.getD i 0) g.left)).getD j 0 = bl.getD j 0
    rw [getD_setI _ _ _ _ hil]
    by_cases e : j = i
    · rw [if_pos e]
      subst e
      omega
    · rw [if_neg e]; exact hd
theorem give_done {bl : List Int} {bytes : Int} {g : GiveM} (h : g.Ok bl bytes) (lv : List Int) {i : Nat} (hi : i < bl.length) : (g.give false lv bl i).left = 0 ∨ (g.give false lv bl i).out.getD i 0 = bl.getD i 0 := by
  have hb := h.each i hi
  have hil : i < g.out.length := by rw [h.len]; exact hi
  rcases giveN_all (lv.getD i 0) (bl.getD i 0 - g.out.getD i 0) g.left h.some (by omega) with e | e
  · right
    show (g.out.set i (g.out.getD i 0 + giveN false (lv.getD i 0) (bl.getD i 0 - g.out.getD i 0) g.left)).getD i 0 = bl.getD i 0
    rw [getD_setI _ _ _ _ hil, if_pos rfl, e]
    omega
  · left
    show g.left - giveN false (lv.getD i 0) (bl.getD i 0 - g.out.getD i 0) g.left = 0
    rw [e]
    omega
theorem round_stays {bl : List Int} {bytes : Int} (lv : List Int) {j : Nat} (hj : j < bl.length) : ∀ (ord : List Nat) {g : GiveM}, g.Ok bl bytes → (∀ i ∈ ord, i < bl.length) → (g.left = 0 ∨ g.out.getD j 0 = bl.getD j 0) → (g.round false lv bl ord).left = 0 ∨ (g.round false lv bl ord).out.getD j 0 = bl.getD j 0
  | [], _, _, _, hd => hd
  | i :: ord, _, h, ho, hd => round_stays lv hj ord (h.give false lv (ho i (by simp))) (fun k hk => ho k (by simp [hk])) (give_stays h lv (ho i (by simp)) hj hd)
theorem round_done {bl : List Int} {bytes : Int} (lv : List Int) {j : Nat} : ∀ (ord : List Nat) {g : GiveM}, g.Ok bl bytes → (∀ i ∈ ord, i < bl.length) → j ∈ ord → (g.round false lv bl ord).left = 0 ∨ (g.round false lv bl ord).out.getD j 0 = bl.getD j 0
  | [], _, _, _, hj => by simp at hj
  | i :: ord, _, h, ho, hj => by
    have hk : ∀ k ∈ ord, k < bl.length := fun k hk => ho k (by simp [hk])
    rcases List.mem_cons.1 hj with rfl | hj
    · exact round_stays lv (ho j (by simp)) ord (h.give false lv (ho j (by simp))) hk (give_done h lv (ho j (by simp)))
    · exact round_done lv ord (h.give false lv (ho i (by simp))) hk hj
/-- All bytes are given away, or nothing waits; nobody is given more than waits. -/
theorem grant_full (lv bl : List Int) (bytes : Int) (ord : List Nat) (hb : 0 ≤ bytes) (hbl : ∀ i, i < bl.length → 0 ≤ bl.getD i 0) (ho : ∀ i ∈ ord, i < bl.length) (hall : ∀ i, i < bl.length → i ∈ ord) :
    (grantM lv bl bytes ord).Ok bl bytes ∧ ((grantM lv bl bytes ord).left = 0 ∨ ∀ i, i < bl.length → (grantM lv bl bytes ord).out.getD i 0 = bl.getD i 0) := by
  have h0 : (⟨List.replicate bl.length 0, bytes⟩ : GiveM).Ok bl bytes := by
    refine ⟨by simp, hb, ?_, ?_⟩
    · have : ∀ n : Nat, sumI (List.replicate n 0) = 0 := fun n => by
        induction n with
        | zero => rfl
        | succ n ih => rw [List.replicate_succ, sumI_cons, ih]; rfl
      show sumI (List.replicate bl.length 0) + bytes = bytes
      rw [this]
      omega
    · intro i hi
      have e : (List.replicate bl.length (0 : Int)).getD i 0 = 0 := by
        simp only [List.getD, List.getElem?_replicate]
        split <;> rfl
      show 0 ≤ (List.replicate bl.length (0 : Int)).getD i 0 ∧ (List.replicate bl.length (0 : Int)).getD i 0 ≤ bl.getD i 0
      rw [e]
      exact ⟨by omega, hbl i hi⟩
  have h1 := GiveM.Ok.round true lv ord h0 ho
  have h2 := GiveM.Ok.round false lv ord h1 ho
  refine ⟨h2, ?_⟩
  by_cases hl : (grantM lv bl bytes ord).left = 0
  · exact .inl hl
  · refine .inr fun i hi => ?_
    rcases round_done lv ord h1 ho (hall i hi) with h | h
    · exact absurd h hl
    · exact h
end Go.Proofs.YtmdfjhnibhmdkafDoor
