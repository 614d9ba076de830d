import Derived.Test.YtaggbkhpoaacjacDoorPlain
namespace Go.Proofs.YtaggbkhpoaacjacDoor

/-! THE CODE WITH A MEMORY, as mathematics: states, gains, the best way. -/

def AllBits (c : List Int) : Prop := ∀ x ∈ c, 0 ≤ x ∧ x ≤ 1

/-- The state behind a bit: the newest of six bits is worth 32. -/
def nxt (s x : Int) : Int := x * 32 + s / 2
/-- The three coded bits of a bit at a state. -/
def out0 (s x : Int) : Int := (x + s / 32 % 2 + s / 16 % 2 + s / 8 % 2 + s % 2) % 2
def out1 (s x : Int) : Int := (x + s / 16 % 2 + s / 8 % 2 + s / 2 % 2 + s % 2) % 2
def out2 (s x : Int) : Int := (x + s / 32 % 2 + s / 16 % 2 + s / 4 % 2 + s % 2) % 2
def sgn (c y : Int) : Int := if c = 1 then -y else y
/-- What a bit at a state brings at the place i. -/
def gain (soft : List Int) (i : Nat) (s x : Int) : Int := sgn (out0 s x) (soft.getD (3 * i) 0) + sgn (out1 s x) (soft.getD (3 * i + 1) 0) + sgn (out2 s x) (soft.getD (3 * i + 2) 0)
/-- What bits score from a place and a state on. -/
def sc (soft : List Int) : Nat → Int → List Int → Int
  | _, _, [] => 0
  | i, s, x :: c => gain soft i s x + sc soft (i + 1) (nxt s x) c
def ends : Int → List Int → Int
  | s, [] => s
  | s, x :: c => ends (nxt s x) c

theorem sc_append (soft : List Int) : ∀ (c d : List Int) (i : Nat) (s : Int), sc soft i s (c ++ d) = sc soft i s c + sc soft (i + c.length) (ends s c) d
  | [], d, i, s => by simp [sc, ends]
  | x :: c, d, i, s => by
    show gain soft i s x + sc soft (i + 1) (nxt s x) (c ++ d) = gain soft i s x + sc soft (i + 1) (nxt s x) c + sc soft (i + (c.length + 1)) (ends (nxt s x) c) d
    rw [sc_append soft c d (i + 1) (nxt s x), show i + 1 + c.length = i + (c.length + 1) from by omega]
    omega
theorem ends_append : ∀ (c d : List Int) (s : Int), ends s (c ++ d) = ends (ends s c) d
  | [], _, _ => rfl
  | x :: c, d, s => ends_append c d (nxt s x)

theorem nxt_bd {s x : Int} (hs : 0 ≤ s ∧ s < 64) (hx : 0 ≤ x ∧ x ≤ 1) : 0 ≤ nxt s x ∧ nxt s x < 64 := by unfold nxt; omega
theorem ends_bd : ∀ (c : List Int), AllBits c → ∀ s, 0 ≤ s ∧ s < 64 → 0 ≤ ends s c ∧ ends s c < 64
  | [], _, _, h => h
  | x :: c, hc, s, h => ends_bd c (fun y hy => hc y (by simp [hy])) _ (nxt_bd h (hc x (by simp)))

/-- The order of bits: does a list come first? -/
def ahead : List Int → List Int → Bool
  | x :: a, y :: b => if x = y then ahead a b else decide (x < y)
  | _, _ => false

theorem ahead_irr : ∀ a, ahead a a = false
  | [] => rfl
  | x :: a => by simp [ahead, ahead_irr a]
theorem ahead_eq : ∀ (a b : List Int), a.length = b.length → ahead a b = false → ahead b a = false → a = b
  | [], [], _, _, _ => rfl
  | [], _ :: _, h, _, _ => by simp at h
  | _ :: _, [], h, _, _ => by simp at h
  | x :: a, y :: b, h, h1, h2 => by
    simp only [ahead] at h1 h2
    by_cases e : x = y
    · subst e
      simp only [if_true] at h1 h2
      rw [ahead_eq a b (by simpa using h) h1 h2]
    · have e' : ¬ y = x := fun h => e h.symm
      rw [if_neg e] at h1
      rw [if_neg e'] at h2
      simp at h1 h2
      omega
theorem ahead_trans : ∀ (a b c : List Int), a.length = b.length → b.length = c.length → ahead a b = false → ahead b c = false → ahead a c = false
  | [], _, _, _, _, _, _ => rfl
  | x :: a, [], _, h, _, _, _ => by simp at h
  | x :: a, y :: b, [], _, h, _, _ => by simp at h
  | x :: a, y :: b, z :: c, h, h', h1, h2 => by
    simp only [ahead] at h1 h2 ⊢
    by_cases e1 : x = y
    · subst e1
      by_cases e2 : x = z
      · subst e2
        simp only [if_true] at h1 h2 ⊢
        exact ahead_trans a b c (by simpa using h) (by simpa using h') h1 h2
      · rw [if_neg e2] at h2 ⊢
        exact h2
    · rw [if_neg e1] at h1
      by_cases e2 : y = z
      · subst e2
        rw [if_neg e1]
        exact h1
      · rw [if_neg e2] at h2
        simp at h1 h2
        have : ¬ x = z := by omega
        rw [if_neg this]
        simp
        omega
theorem ahead_snoc : ∀ (a b : List Int) (x : Int), a.length = b.length → ahead (a ++ [x]) (b ++ [x]) = ahead a b
  | [], [], x, _ => by simp [ahead]
  | [], _ :: _, _, h => by simp at h
  | _ :: _, [], _, h => by simp at h
  | y :: a, z :: b, x, h => by
    simp only [List.cons_append, ahead]
    rw [ahead_snoc a b x (by simpa using h)]

theorem ahead_drop (a b : List Int) (k : Nat) (ha : k < a.length) (hb : k < b.length) : ahead (a.drop k) (b.drop k) = if a.getD k 0 = b.getD k 0 then ahead (a.drop (k + 1)) (b.drop (k + 1)) else decide (a.getD k 0 < b.getD k 0) := by
  rw [List.drop_eq_getElem_cons ha, List.drop_eq_getElem_cons hb, ahead]
  have e1 : a.getD k 0 = a[k] := by simp [List.getD, ha]
  have e2 : b.getD k 0 = b[k] := by simp [List.getD, hb]
  rw [e1, e2]

/-- d is what is decoded: of those of the length n that meet a test none scores more, and of several it is the first. -/
structure Best (F : List Int → Int) (n : Nat) (d : List Int) : Prop where
  len : d.length = n
  bits : AllBits d
  most : ∀ o, o.length = n → AllBits o → F o < F d ∨ (F o = F d ∧ ahead o d = false)

theorem best_one {F : List Int → Int} {n : Nat} {d d' : List Int} (h : Best F n d) (h' : Best F n d') : d = d' := by
  rcases h.most d' h'.len h'.bits with h1 | ⟨h1, h2⟩
  · rcases h'.most d h.len h.bits with h3 | ⟨h3, _⟩ <;> omega
  · rcases h'.most d h.len h.bits with h3 | ⟨_, h4⟩
    · omega
    · exact ahead_eq d d' (h.len.trans h'.len.symm) h4 h2

def zeros6 : List Int := [0, 0, 0, 0, 0, 0]

/-- The best score from a place and a state on, r bits being left. -/
def top (soft : List Int) : Nat → Nat → Int → Int
  | 0, i, s => sc soft i s zeros6
  | r + 1, i, s => max (gain soft i s 0 + top soft r (i + 1) (nxt s 0)) (gain soft i s 1 + top soft r (i + 1) (nxt s 1))
/-- The first of the best ways. -/
def way (soft : List Int) : Nat → Nat → Int → List Int
  | 0, _, _ => []
  | r + 1, i, s => if gain soft i s 0 + top soft r (i + 1) (nxt s 0) < gain soft i s 1 + top soft r (i + 1) (nxt s 1) then 1 :: way soft r (i + 1) (nxt s 1) else 0 :: way soft r (i + 1) (nxt s 0)

theorem way_top (soft : List Int) : ∀ (r i : Nat) (s : Int), sc soft i s (way soft r i s ++ zeros6) = top soft r i s := by
  intro r
  induction r with
  | zero => intro i s; rfl
  | succ r ih =>
    intro i s
    rw [way, top]
    by_cases h : gain soft i s 0 + top soft r (i + 1) (nxt s 0) < gain soft i s 1 + top soft r (i + 1) (nxt s 1)
    · rw [if_pos h]
      show gain soft i s 1 + sc soft (i + 1) (nxt s 1) (way soft r (i + 1) (nxt s 1) ++ zeros6) = _
      rw [ih]; omega
    · rw [if_neg h]
      show gain soft i s 0 + sc soft (i + 1) (nxt s 0) (way soft r (i + 1) (nxt s 0) ++ zeros6) = _
      rw [ih]; omega

/-- VITERBI: no way scores more than the one that is decoded. -/
theorem way_best (soft : List Int) : ∀ (r i : Nat) (s : Int), Best (fun o => sc soft i s (o ++ zeros6)) r (way soft r i s)
  | 0, i, s => ⟨rfl, by intro x hx; simp [way] at hx, fun o ho _ => by
      have : o = [] := List.eq_nil_of_length_eq_zero ho
      subst this
      exact .inr ⟨rfl, rfl⟩⟩
  | r + 1, i, s => by
    have b0 := way_best soft r (i + 1) (nxt s 0)
    have b1 := way_best soft r (i + 1) (nxt s 1)
    have t0 := way_top soft r (i + 1) (nxt s 0)
    have t1 := way_top soft r (i + 1) (nxt s 1)
    have hw := way_top soft (r + 1) i s
    refine ⟨?_, ?_, fun o ho hob => ?_⟩
    · unfold way; split
      · simp [b1.len]
      · simp [b0.len]
    · unfold way; split
      · intro x hx
        rcases List.mem_cons.1 hx with rfl | hx
        · omega
        · exact b1.bits x hx
      · intro x hx
        rcases List.mem_cons.1 hx with rfl | hx
        · omega
        · exact b0.bits x hx
    · cases o with
      | nil => simp at ho
      | cons x o =>
        have hx := hob x (by simp)
        have hol : o.length = r := by simpa using ho
        have hoa : AllBits o := fun y hy => hob y (by simp [hy])
        show gain soft i s x + sc soft (i + 1) (nxt s x) (o ++ zeros6) < sc soft i s (way soft (r + 1) i s ++ zeros6) ∨ (gain soft i s x + sc soft (i + 1) (nxt s x) (o ++ zeros6) = sc soft i s (way soft (r + 1) i s ++ zeros6) ∧ ahead (x :: o) (way soft (r + 1) i s) = false)
        rw [hw]
        unfold top way
        rcases (show x = 0 ∨ x = 1 by omega) with rfl | rfl
        · rcases b0.most o hol hoa with h | ⟨h, h'⟩
          · rw [t0] at h
            left; omega
          · rw [t0] at h
            split
            · left; omega
            · rename_i hlt
              right
              refine ⟨by omega, ?_⟩
              simp [ahead, h']
        · rcases b1.most o hol hoa with h | ⟨h, h'⟩
          · rw [t1] at h
            left; omega
          · rw [t1] at h
            split
            · right
              refine ⟨by omega, ?_⟩
              simp [ahead, h']
            · rename_i hlt
              by_cases he : gain soft i s 1 + top soft r (i + 1) (nxt s 1) = gain soft i s 0 + top soft r (i + 1) (nxt s 0)
              · right
                refine ⟨by omega, ?_⟩
                simp [ahead]
              · left; omega

end Go.Proofs.YtaggbkhpoaacjacDoor
