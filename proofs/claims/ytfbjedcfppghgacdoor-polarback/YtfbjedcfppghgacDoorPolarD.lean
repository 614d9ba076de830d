import Derived.Test.YtfbjedcfppghgacDoorPolarM
namespace Go.Proofs.YtfbjedcfppghgacDoor

/-! DECODING BY HALVES, as mathematics. -/

def absI (a : Int) : Int := if a < 0 then -a else a
/-- The sight of the first half: the lesser size, below 0 if just one is below 0. -/
def fI (a b : Int) : Int := if (a < 0 ∧ 0 ≤ b) ∨ (0 ≤ a ∧ b < 0) then -(min (absI a) (absI b)) else min (absI a) (absI b)
/-- The sight of the second half, x being what was found of the first. -/
def gI (x a b : Int) : Int := if x = 1 then b - a else b + a
def fL (a b : List Int) : List Int := List.zipWith fI a b
def gL : List Int → List Int → List Int → List Int
  | x :: xs, a :: l, b :: r => gI x a b :: gL xs l r
  | _, _, _ => []
/-- The bits that are found of 2^m numbers; what is not open is 0. -/
def decP : Nat → List Int → List Bool → List Int
  | 0, l, o => [if o.getD 0 false && decide (l.getD 0 0 < 0) then 1 else 0]
  | m + 1, l, o =>
    let u := decP m (fL (l.take (2 ^ m)) (l.drop (2 ^ m))) (o.take (2 ^ m))
    u ++ decP m (gL (turnM m u) (l.take (2 ^ m)) (l.drop (2 ^ m))) (o.drop (2 ^ m))

/-- Each number has the sign of its bit. -/
def Signs : List Int → List Int → Prop
  | [], [] => True
  | x :: l, c :: cs => (c = 0 → 0 < x) ∧ (c = 1 → x < 0) ∧ Signs l cs
  | _, _ => False

theorem Signs.take : ∀ {l c : List Int}, Signs l c → ∀ k, Signs (l.take k) (c.take k)
  | [], [], _, k => by simp [Signs]
  | [], _ :: _, h, _ => h.elim
  | _ :: _, [], h, _ => h.elim
  | _ :: _, _ :: _, _, 0 => trivial
  | _ :: _, _ :: _, h, k + 1 => ⟨h.1, h.2.1, Signs.take h.2.2 k⟩
theorem Signs.drop : ∀ {l c : List Int}, Signs l c → ∀ k, Signs (l.drop k) (c.drop k)
  | [], [], _, k => by simp [Signs]
  | [], _ :: _, h, _ => h.elim
  | _ :: _, [], h, _ => h.elim
  | _ :: _, _ :: _, h, 0 => h
  | _ :: _, _ :: _, h, k + 1 => Signs.drop h.2.2 k

theorem signs_f : ∀ {a b x y : List Int}, AllBits x → AllBits y → Signs a (addL x y) → Signs b y → x.length = y.length → Signs (fL a b) x
  | [], b, [], _, _, _, _, _, _ => by simp [fL, Signs]
  | [], _, _ :: x, [], _, _, _, _, h => by simp at h
  | [], _, _ :: x, _ :: y, _, _, h, _, _ => by simp [addL, Signs] at h
  | _ :: a, _, [], _, _, _, h, _, _ => by simp [addL, Signs] at h
  | _ :: a, _, _ :: x, [], _, _, _, _, h => by simp at h
  | _ :: _, [], _ :: _, _ :: _, _, _, _, h, _ => h.elim
  | a0 :: a, b0 :: b, x0 :: x, y0 :: y, hx, hy, ha, hb, hl => by
    have ha' : Signs (a0 :: a) ((x0 + y0) % 2 :: addL x y) := ha
    obtain ⟨p0, p1, ta⟩ := ha'
    obtain ⟨q0, q1, tb⟩ := hb
    · · have bx := hx x0 (by simp)
        have bY := hy y0 (by simp)
        refine ⟨fun e => ?_, fun e => ?_, signs_f (fun z hz => hx z (by simp [hz])) (fun z hz => hy z (by simp [hz])) ta tb (by simpa using hl)⟩
        · subst e
          rcases (show y0 = 0 ∨ y0 = 1 by omega) with rfl | rfl
          · have := p0 (by decide); have := q0 rfl
            unfold fI absI
            rw [if_neg (by omega), if_neg (by omega), if_neg (by omega)]
            omega
          · have := p1 (by decide); have := q1 rfl
            unfold fI absI
            rw [if_neg (by omega), if_pos (by omega), if_pos (by omega)]
            omega
        · subst e
          rcases (show y0 = 0 ∨ y0 = 1 by omega) with rfl | rfl
          · have := p1 (by decide); have := q0 rfl
            unfold fI absI
            rw [if_pos (by omega), if_pos (by omega), if_neg (by omega)]
            omega
          · have := p0 (by decide); have := q1 rfl
            unfold fI absI
            rw [if_pos (by omega), if_neg (by omega), if_pos (by omega)]
            omega

theorem signs_g : ∀ {a b x y : List Int}, AllBits x → AllBits y → Signs a (addL x y) → Signs b y → x.length = y.length → Signs (gL x a b) y
  | [], _, [], [], _, _, _, _, _ => trivial
  | _, _, [], _ :: y, _, _, _, _, h => by simp at h
  | [], _, _ :: x, [], _, _, _, _, h => by simp at h
  | [], _, _ :: x, _ :: y, _, _, h, _, _ => by simp [addL, Signs] at h
  | _ :: a, _, [], _, _, _, h, _, _ => by simp [addL, Signs] at h
  | _ :: a, _, _ :: x, [], _, _, _, _, h => by simp at h
  | _ :: _, [], _ :: _, _ :: _, _, _, _, h, _ => h.elim
  | a0 :: a, b0 :: b, x0 :: x, y0 :: y, hx, hy, ha, hb, hl => by
    have ha' : Signs (a0 :: a) ((x0 + y0) % 2 :: addL x y) := ha
    obtain ⟨p0, p1, ta⟩ := ha'
    obtain ⟨q0, q1, tb⟩ := hb
    · · have bx := hx x0 (by simp)
        have bY := hy y0 (by simp)
        refine ⟨fun e => ?_, fun e => ?_, signs_g (fun z hz => hx z (by simp [hz])) (fun z hz => hy z (by simp [hz])) ta tb (by simpa using hl)⟩
        · subst e
          have := q0 rfl
          unfold gI
          rcases (show x0 = 0 ∨ x0 = 1 by omega) with rfl | rfl
          · have := p0 (by decide)
            rw [if_neg (by omega)]
            omega
          · have := p1 (by decide)
            rw [if_pos rfl]
            omega
        · subst e
          have := q1 rfl
          unfold gI
          rcases (show x0 = 0 ∨ x0 = 1 by omega) with rfl | rfl
          · have := p1 (by decide)
            rw [if_neg (by omega)]
            omega
          · have := p0 (by decide)
            rw [if_pos rfl]
            omega

/-- WHAT IS TURNED AND HEARD WITH ITS SIGNS IS FOUND AS IT WAS. -/
theorem dec_back : ∀ (m : Nat) (l u : List Int) (o : List Bool), u.length = 2 ^ m → AllBits u → (∀ j, j < 2 ^ m → o.getD j false = false → u.getD j 0 = 0) → Signs l (turnM m u) → decP m l o = u
  | 0, l, [u0], o, _, hu, ho, hs => by
    have hs' : Signs l [u0] := hs
    match l, hs' with
    | [x], ⟨h0, h1, _⟩ =>
      have bu := hu u0 (by simp)
      have h := ho 0 (by simp)
      simp only [decP, List.getD_cons_zero] at h ⊢
      rcases (show u0 = 0 ∨ u0 = 1 by omega) with rfl | rfl
      · have := h0 rfl
        rw [if_neg]
        simp
        intro _
        omega
      · have := h1 rfl
        cases hb : o.getD 0 false with
        | false => exact absurd (h hb) (by decide)
        | true => simp [this]
  | 0, _, [], _, h, _, _, _ => by simp at h
  | 0, _, _ :: _ :: _, _, h, _, _, _ => by simp at h
  | m + 1, l, u, o, h, hu, ho, hs => by
    have h2 : (2 : Nat) ^ (m + 1) = 2 ^ m + 2 ^ m := by rw [Nat.pow_succ]; omega
    have l1 : (u.take (2 ^ m)).length = 2 ^ m := by simp; omega
    have l2 : (u.drop (2 ^ m)).length = 2 ^ m := by simp; omega
    have e1 := turn_length m _ l1
    have e2 := turn_length m _ l2
    have b1 : AllBits (u.take (2 ^ m)) := fun y hy => hu y (List.mem_of_mem_take hy)
    have b2 : AllBits (u.drop (2 ^ m)) := fun y hy => hu y (List.mem_of_mem_drop hy)
    have eX : (addL (turnM m (u.take (2 ^ m))) (turnM m (u.drop (2 ^ m)))).length = 2 ^ m := by rw [addL_length (e1.trans e2.symm), e2]
    have hs' : Signs l (addL (turnM m (u.take (2 ^ m))) (turnM m (u.drop (2 ^ m))) ++ turnM m (u.drop (2 ^ m))) := hs
    have s1 := hs'.take (2 ^ m)
    have s2 := hs'.drop (2 ^ m)
    rw [List.take_left' eX] at s1
    rw [List.drop_left' eX] at s2
    have t1 := turn_bits m _ b1
    have t2 := turn_bits m _ b2
    have f := signs_f t1 t2 s1 s2 (e1.trans e2.symm)
    have g := signs_g t1 t2 s1 s2 (e1.trans e2.symm)
    have r1 := dec_back m _ (u.take (2 ^ m)) (o.take (2 ^ m)) l1 b1 (fun j hj hz => by
      have := ho j (by omega) (by simpa [List.getD, hj] using hz)
      simpa [List.getD, hj] using this) f
    have r2 := dec_back m _ (u.drop (2 ^ m)) (o.drop (2 ^ m)) l2 b2 (fun j hj hz => by
      have := ho (2 ^ m + j) (by omega) (by simpa [List.getD] using hz)
      simpa [List.getD] using this) g
    rw [decP]
    rw [r1, r2, List.take_append_drop]
end Go.Proofs.YtfbjedcfppghgacDoor
