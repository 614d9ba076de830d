import Derived.Test.YtdndeegpbjlibadGreatDoorK06
namespace Go.Proofs.YtdndeegpbjlibadGreatDoor

/-! THE CODE OF HALVES, as mathematics: Arikan's transform. -/

/-- Place by place, 1 and 1 are 0. -/
def addL (x y : List Int) : List Int := List.zipWith (fun a b => (a + b) % 2) x y
/-- Turn of 2^m bits. -/
def turnM : Nat → List Int → List Int
  | 0, b => b
  | m + 1, b => addL (turnM m (b.take (2 ^ m))) (turnM m (b.drop (2 ^ m))) ++ turnM m (b.drop (2 ^ m))

theorem addL_length {x y : List Int} (h : x.length = y.length) : (addL x y).length = y.length := by simp [addL, h]
theorem addL_bits (x y : List Int) : AllBits (addL x y) := fun z hz => by
  unfold addL at hz
  obtain ⟨i, hi, rfl⟩ := List.getElem_of_mem hz
  rw [List.getElem_zipWith]
  omega
theorem addL_back : ∀ {x y : List Int}, x.length = y.length → AllBits x → AllBits y → addL (addL x y) y = x
  | [], [], _, _, _ => rfl
  | [], _ :: _, h, _, _ => by simp at h
  | _ :: _, [], h, _, _ => by simp at h
  | a :: x, b :: y, h, hx, hy => by
    have ih := addL_back (x := x) (y := y) (by simpa using h) (fun z hz => hx z (by simp [hz])) (fun z hz => hy z (by simp [hz]))
    have ha := hx a (by simp)
    have hb := hy b (by simp)
    unfold addL at ih ⊢
    simp only [List.zipWith_cons_cons, ih]
    congr 1
    omega
theorem addL_four : ∀ (a b c d : List Int), addL (addL a b) (addL c d) = addL (addL a c) (addL b d)
  | a :: a', b :: b', c :: c', d :: d' => by
    have ih := addL_four a' b' c' d'
    unfold addL at ih ⊢
    simp only [List.zipWith_cons_cons, ih]
    congr 1
    omega
  | [], b, c, d => by simp [addL]
  | _ :: _, [], c, d => by simp [addL]
  | _ :: _, _ :: _, [], d => by simp [addL]
  | _ :: _, _ :: _, _ :: _, [] => by simp [addL]
theorem addL_append {a b c d : List Int} (h : a.length = c.length) : addL (a ++ b) (c ++ d) = addL a c ++ addL b d := List.zipWith_append h
theorem addL_take (x y : List Int) (k : Nat) : (addL x y).take k = addL (x.take k) (y.take k) := List.take_zipWith
theorem addL_drop (x y : List Int) (k : Nat) : (addL x y).drop k = addL (x.drop k) (y.drop k) := List.drop_zipWith

theorem turn_length : ∀ (m : Nat) (b : List Int), b.length = 2 ^ m → (turnM m b).length = 2 ^ m
  | 0, b, h => h
  | m + 1, b, h => by
    have h2 : (2 : Nat) ^ (m + 1) = 2 ^ m + 2 ^ m := by rw [Nat.pow_succ]; omega
    have h0 := turn_length m (b.take (2 ^ m)) (by simp; omega)
    have h1 := turn_length m (b.drop (2 ^ m)) (by simp; omega)
    rw [turnM, List.length_append, addL_length (h0.trans h1.symm), h1, h2]
theorem turn_bits : ∀ (m : Nat) (b : List Int), AllBits b → AllBits (turnM m b)
  | 0, _, h => h
  | m + 1, b, h => fun x hx => by
    rw [turnM] at hx
    rcases List.mem_append.1 hx with h1 | h1
    · exact addL_bits _ _ x h1
    · exact turn_bits m _ (fun y hy => h y (List.mem_of_mem_drop hy)) x h1
/-- Turn is linear. -/
theorem turn_add : ∀ (m : Nat) (a b : List Int), a.length = 2 ^ m → b.length = 2 ^ m → turnM m (addL a b) = addL (turnM m a) (turnM m b)
  | 0, _, _, _, _ => rfl
  | m + 1, a, b, ha, hb => by
    have h2 : (2 : Nat) ^ (m + 1) = 2 ^ m + 2 ^ m := by rw [Nat.pow_succ]; omega
    have la : (a.take (2 ^ m)).length = 2 ^ m := by simp; omega
    have lb : (b.take (2 ^ m)).length = 2 ^ m := by simp; omega
    have la' : (a.drop (2 ^ m)).length = 2 ^ m := by simp; omega
    have lb' : (b.drop (2 ^ m)).length = 2 ^ m := by simp; omega
    have e1 := turn_length m _ la
    have e2 := turn_length m _ lb
    have e3 := turn_length m _ la'
    have e4 := turn_length m _ lb'
    rw [turnM, turnM, turnM, addL_take, addL_drop, turn_add m _ _ la lb, turn_add m _ _ la' lb', addL_append (by rw [addL_length (e1.trans e3.symm), addL_length (e2.trans e4.symm), e3, e4]), addL_four]
/-- WHAT IS TURNED TWICE IS AS IT WAS. -/
theorem turn_twice : ∀ (m : Nat) (b : List Int), b.length = 2 ^ m → AllBits b → turnM m (turnM m b) = b
  | 0, _, _, _ => rfl
  | m + 1, b, h, hb => by
    have h2 : (2 : Nat) ^ (m + 1) = 2 ^ m + 2 ^ m := by rw [Nat.pow_succ]; omega
    have l1 : (b.take (2 ^ m)).length = 2 ^ m := by simp; omega
    have l2 : (b.drop (2 ^ m)).length = 2 ^ m := by simp; omega
    have e1 := turn_length m _ l1
    have e2 := turn_length m _ l2
    have b1 : AllBits (b.take (2 ^ m)) := fun y hy => hb y (List.mem_of_mem_take hy)
    have b2 : AllBits (b.drop (2 ^ m)) := fun y hy => hb y (List.mem_of_mem_drop hy)
    have eX : (addL (turnM m (b.take (2 ^ m))) (turnM m (b.drop (2 ^ m)))).length = 2 ^ m := by rw [addL_length (e1.trans e2.symm), e2]
    rw [turnM, turnM, List.take_left' eX, List.drop_left' eX, turn_add m _ _ e1 e2, turn_twice m _ l1 b1, turn_twice m _ l2 b2, addL_back (l1.trans l2.symm) b1 b2, List.take_append_drop]
end Go.Proofs.YtdndeegpbjlibadGreatDoor

namespace Go.Proofs.YtdndeegpbjlibadGreatDoor

/-! DECODING BY HALVES, as mathematics. -/

def absI (a : Int) : Int := if a < 0 then -a else a
/-- The sight of the first half: the lesser size, below 0 if just one is below 0. -/
def fI (a b : Int) : Int := if (a < 0 ∧ 0 ≤ b) ∨ (0 ≤ a ∧ b < 0) then -(min (absI a) (absI b)) else min (absI a) (absI b)
/-- The sight of the second half, x being what was found of the first. -/
def gI (x a b : Int) : Int := if x = 1 then b - a else b + a
def fL (a b : List Int) : List Int := List.zipWith fI a b
def gL : List Int → List Int → List Int → List Int
  | x :: xs, a :: l, b :: r => gI x a b :: gL xs l r
  | _, _, _ => []
/-- The bits that are found of 2^m numbers; what is not open is 0. -/
def decP : Nat → List Int → List Bool → List Int
  | 0, l, o => [if o.getD 0 false && decide (l.getD 0 0 < 0) then 1 else 0]
  | m + 1, l, o =>
    let u := decP m (fL (l.take (2 ^ m)) (l.drop (2 ^ m))) (o.take (2 ^ m))
    u ++ decP m (gL (turnM m u) (l.take (2 ^ m)) (l.drop (2 ^ m))) (o.drop (2 ^ m))

/-- Each number has the sign of its bit. -/
def Signs : List Int → List Int → Prop
  | [], [] => True
  | x :: l, c :: cs => (c = 0 → 0 < x) ∧ (c = 1 → x < 0) ∧ Signs l cs
  | _, _ => False

theorem Signs.take : ∀ {l c : List Int}, Signs l c → ∀ k, Signs (l.take k) (c.take k)
  | [], [], _, k => by simp [Signs]
  | [], _ :: _, h, _ => h.elim
  | _ :: _, [], h, _ => h.elim
  | _ :: _, _ :: _, _, 0 => trivial
  | _ :: _, _ :: _, h, k + 1 => ⟨h.1, h.2.1, Signs.take h.2.2 k⟩
theorem Signs.drop : ∀ {l c : List Int}, Signs l c → ∀ k, Signs (l.drop k) (c.drop k)
  | [], [], _, k => by simp [Signs]
  | [], _ :: _, h, _ => h.elim
  | _ :: _, [], h, _ => h.elim
  | _ :: _, _ :: _, h, 0 => h
  | _ :: _, _ :: _, h, k + 1 => Signs.drop h.2.2 k

theorem signs_f : ∀ {a b x y : List Int}, AllBits x → AllBits y → Signs a (addL x y) → Signs b y → x.length = y.length → Signs (fL a b) x
  | [], b, [], _, _, _, _, _, _ => by simp [fL, Signs]
  | [], _, _ :: x, [], _, _, _, _, h => by simp at h
  | [], _, _ :: x, _ :: y, _, _, h, _, _ => by simp [addL, Signs] at h
  | _ :: a, _, [], _, _, _, h, _, _ => by simp [addL, Signs] at h
  | _ :: a, _, _ :: x, [], _, _, _, _, h => by simp at h
  | _ :: _, [], _ :: _, _ :: _, _, _, _, h, _ => h.elim
  | a0 :: a, b0 :: b, x0 :: x, y0 :: y, hx, hy, ha, hb, hl => by
    have ha' : Signs (a0 :: a) ((x0 + y0) % 2 :: addL x y) := ha
    obtain ⟨p0, p1, ta⟩ := ha'
    obtain ⟨q0, q1, tb⟩ := hb
    · · have bx := hx x0 (by simp)
        have bY := hy y0 (by simp)
        refine ⟨fun e => ?_, fun e => ?_, signs_f (fun z hz => hx z (by simp [hz])) (fun z hz => hy z (by simp [hz])) ta tb (by simpa using hl)⟩
        · subst e
          rcases (show y0 = 0 ∨ y0 = 1 by omega) with rfl | rfl
          · have := p0 (by decide); have := q0 rfl
            unfold fI absI
            rw [if_neg (by omega), if_neg (by omega), if_neg (by omega)]
            omega
          · have := p1 (by decide); have := q1 rfl
            unfold fI absI
            rw [if_neg (by omega), if_pos (by omega), if_pos (by omega)]
            omega
        · subst e
          rcases (show y0 = 0 ∨ y0 = 1 by omega) with rfl | rfl
          · have := p1 (by decide); have := q0 rfl
            unfold fI absI
            rw [if_pos (by omega), if_pos (by omega), if_neg (by omega)]
            omega
          · have := p0 (by decide); have := q1 rfl
            unfold fI absI
            rw [if_pos (by omega), if_neg (by omega), if_pos (by omega)]
            omega

theorem signs_g : ∀ {a b x y : List Int}, AllBits x → AllBits y → Signs a (addL x y) → Signs b y → x.length = y.length → Signs (gL x a b) y
  | [], _, [], [], _, _, _, _, _ => trivial
  | _, _, [], _ :: y, _, _, _, _, h => by simp at h
  | [], _, _ :: x, [], _, _, _, _, h => by simp at h
  | [], _, _ :: x, _ :: y, _, _, h, _, _ => by simp [addL, Signs] at h
  | _ :: a, _, [], _, _, _, h, _, _ => by simp [addL, Signs] at h
  | _ :: a, _, _ :: x, [], _, _, _, _, h => by simp at h
  | _ :: _, [], _ :: _, _ :: _, _, _, _, h, _ => h.elim
  | a0 :: a, b0 :: b, x0 :: x, y0 :: y, hx, hy, ha, hb, hl => by
    have ha' : Signs (a0 :: a) ((x0 + y0) % 2 :: addL x y) := ha
    obtain ⟨p0, p1, ta⟩ := ha'
    obtain ⟨q0, q1, tb⟩ := hb
    · · have bx := hx x0 (by simp)
        have bY := hy y0 (by simp)
        refine ⟨fun e => ?_, fun e => ?_, signs_g (fun z hz => hx z (by simp [hz])) (fun z hz => hy z (by simp [hz])) ta tb (by simpa using hl)⟩
        · subst e
          have := q0 rfl
          unfold gI
          rcases (show x0 = 0 ∨ x0 = 1 by omega) with rfl | rfl
          · have := p0 (by decide)
            rw [if_neg (by omega)]
            omega
          · have := p1 (by decide)
            rw [if_pos rfl]
            omega
        · subst e
          have := q1 rfl
          unfold gI
          rcases (show x0 = 0 ∨ x0 = 1 by omega) with rfl | rfl
          · have := p1 (by decide)
            rw [if_neg (by omega)]
            omega
          · have := p0 (by decide)
            rw [if_pos rfl]
            omega

/-- WHAT IS TURNED AND HEARD WITH ITS SIGNS IS FOUND AS IT WAS. -/
theorem dec_back : ∀ (m : Nat) (l u : List Int) (o : List Bool), u.length = 2 ^ m → AllBits u → (∀ j, j < 2 ^ m → o.getD j false = false → u.getD j 0 = 0) → Signs l (turnM m u) → decP m l o = u
  | 0, l, [u0], o, _, hu, ho, hs => by
    have hs' : Signs l [u0] := hs
    match l, hs' with
    | [x], ⟨h0, h1, _⟩ =>
      have bu := hu u0 (by simp)
      have h := ho 0 (by simp)
      simp only [decP, List.getD_cons_zero] at h ⊢
      rcases (show u0 = 0 ∨ u0 = 1 by omega) with rfl | rfl
      · have := h0 rfl
        rw [if_neg]
        simp
        intro _
        omega
      · have := h1 rfl
        cases hb : o.getD 0 false with
        | false => exact absurd (h hb) (by decide)
        | true => simp [this]
  | 0, _, [], _, h, _, _, _ => by simp at h
  | 0, _, _ :: _ :: _, _, h, _, _, _ => by simp at h
  | m + 1, l, u, o, h, hu, ho, hs => by
    have h2 : (2 : Nat) ^ (m + 1) = 2 ^ m + 2 ^ m := by rw [Nat.pow_succ]; omega
    have l1 : (u.take (2 ^ m)).length = 2 ^ m := by simp; omega
    have l2 : (u.drop (2 ^ m)).length = 2 ^ m := by simp; omega
    have e1 := turn_length m _ l1
    have e2 := turn_length m _ l2
    have b1 : AllBits (u.take (2 ^ m)) := fun y hy => hu y (List.mem_of_mem_take hy)
    have b2 : AllBits (u.drop (2 ^ m)) := fun y hy => hu y (List.mem_of_mem_drop hy)
    have eX : (addL (turnM m (u.take (2 ^ m))) (turnM m (u.drop (2 ^ m)))).length = 2 ^ m := by rw [addL_length (e1.trans e2.symm), e2]
    have hs' : Signs l (addL (turnM m (u.take (2 ^ m))) (turnM m (u.drop (2 ^ m))) ++ turnM m (u.drop (2 ^ m))) := hs
    have s1 := hs'.take (2 ^ m)
    have s2 := hs'.drop (2 ^ m)
    rw [List.take_left' eX] at s1
    rw [List.drop_left' eX] at s2
    have t1 := turn_bits m _ b1
    have t2 := turn_bits m _ b2
    have f := signs_f t1 t2 s1 s2 (e1.trans e2.symm)
    have g := signs_g t1 t2 s1 s2 (e1.trans e2.symm)
    have r1 := dec_back m _ (u.take (2 ^ m)) (o.take (2 ^ m)) l1 b1 (fun j hj hz => by
      have := ho j (by omega) (by simpa [List.getD, hj] using hz)
      simpa [List.getD, hj] using this) f
    have r2 := dec_back m _ (u.drop (2 ^ m)) (o.drop (2 ^ m)) l2 b2 (fun j hj hz => by
      have := ho (2 ^ m + j) (by omega) (by simpa [List.getD] using hz)
      simpa [List.getD] using this) g
    rw [decP]
    rw [r1, r2, List.take_append_drop]
end Go.Proofs.YtdndeegpbjlibadGreatDoor

namespace Go.Proofs.YtdndeegpbjlibadGreatDoor

/-! A PLACE'S SIGHT by the bits that were found ahead of it, and that decoding by halves finds each bit by it. -/

def sightM : Nat → List Int → List Int → Int
  | 0, l, _ => l.getD 0 0
  | m + 1, l, f => if f.length < 2 ^ m then sightM m (fL (l.take (2 ^ m)) (l.drop (2 ^ m))) f else sightM m (gL (turnM m (f.take (2 ^ m))) (l.take (2 ^ m)) (l.drop (2 ^ m))) (f.drop (2 ^ m))

theorem decP_length : ∀ (m : Nat) (l : List Int) (o : List Bool), (decP m l o).length = 2 ^ m
  | 0, _, _ => rfl
  | m + 1, l, o => by
    rw [decP, List.length_append, decP_length m, decP_length m, Nat.pow_succ]
    omega
theorem decP_bits : ∀ (m : Nat) (l : List Int) (o : List Bool), AllBits (decP m l o)
  | 0, l, o => fun x hx => by
    simp only [decP, List.mem_singleton] at hx
    subst hx
    split <;> omega
  | m + 1, l, o => fun x hx => by
    rw [decP] at hx
    rcases List.mem_append.1 hx with h | h
    · exact decP_bits m _ _ x h
    · exact decP_bits m _ _ x h

theorem decP_sight : ∀ (m : Nat) (l : List Int) (o : List Bool) (i : Nat), i < 2 ^ m →
    (decP m l o).getD i 0 = if o.getD i false && decide (sightM m l ((decP m l o).take i) < 0) then 1 else 0
  | 0, l, o, i, h => by
    obtain rfl : i = 0 := by simp at h; exact h
    rfl
  | m + 1, l, o, i, h => by
    have h2 : (2 : Nat) ^ (m + 1) = 2 ^ m + 2 ^ m := by rw [Nat.pow_succ]; omega
    rw [decP]
    generalize hu : decP m (fL (l.take (2 ^ m)) (l.drop (2 ^ m))) (o.take (2 ^ m)) = u
    generalize hv : decP m (gL (turnM m u) (l.take (2 ^ m)) (l.drop (2 ^ m))) (o.drop (2 ^ m)) = v
    have lu : u.length = 2 ^ m := by rw [← hu]; exact decP_length m _ _
    by_cases hi : i < 2 ^ m
    · have ih := decP_sight m (fL (l.take (2 ^ m)) (l.drop (2 ^ m))) (o.take (2 ^ m)) i hi
      rw [hu] at ih
      have e1 : (u ++ v).getD i 0 = u.getD i 0 := by simp [List.getD, List.getElem?_append_left (show i < u.length by omega)]
      have e2 : (u ++ v).take i = u.take i := List.take_append_of_le_length (by omega)
      have e3 : (o.take (2 ^ m)).getD i false = o.getD i false := by simp [List.getD, hi]
      have e4 : (u.take i).length < 2 ^ m := by simp; omega
      rw [e1, e2, ih, e3, sightM, if_pos e4]
    · obtain ⟨j, rfl⟩ : ∃ j, i = 2 ^ m + j := ⟨i - 2 ^ m, by omega⟩
      have ih := decP_sight m (gL (turnM m u) (l.take (2 ^ m)) (l.drop (2 ^ m))) (o.drop (2 ^ m)) j (by omega)
      rw [hv] at ih
      have e1 : (u ++ v).getD (2 ^ m + j) 0 = v.getD j 0 := by rw [← lu]; simp only [List.getD]; rw [List.getElem?_append_right (by omega), Nat.add_sub_cancel_left]
      have e2 : (u ++ v).take (2 ^ m + j) = u ++ v.take j := by rw [← lu, List.take_append, List.take_of_length_le (by omega), Nat.add_sub_cancel_left]
      have e3 : (o.drop (2 ^ m)).getD j false = o.getD (2 ^ m + j) false := by simp [List.getD]
      have e4 : ¬ (u ++ v.take j).length < 2 ^ m := by rw [List.length_append]; omega
      rw [e1, e2, ih, e3, sightM, if_neg e4, List.take_left' lu, List.drop_left' lu]
end Go.Proofs.YtdndeegpbjlibadGreatDoor

namespace Go.Proofs.YtdndeegpbjlibadGreatDoor

/-! THE PLACES, as mathematics: what a place is worth, which are better, the best k of n. -/

def wTab : List Int := [1000, 1189, 1414, 1681, 2000, 2378, 2828, 3363, 4000]
/-- What the lowest k bits of a place's number are worth. -/
def worthTo (p : Nat) : Nat → Int
  | 0 => 0
  | k + 1 => worthTo p k + if p / 2 ^ k % 2 = 1 then wTab.getD k 0 else 0
def worthI (p : Nat) : Int := worthTo p 9
/-- Is the first place the better one? -/
def btr (i j : Nat) : Bool := decide (worthI j < worthI i ∨ worthI i = worthI j ∧ j < i)
/-- How many of the first m places are better. -/
def betterTo (i m : Nat) : Nat := ((List.range m).filter (fun j => btr j i)).length
/-- Is a place one of the k best of n? -/
def isPlace (n k i : Nat) : Bool := decide (betterTo i n < k)
def placesM (n k : Nat) : List Nat := (List.range n).filter (isPlace n k)

theorem btr_irrefl (i : Nat) : btr i i = false := by simp [btr]
theorem btr_asymm {i j : Nat} (h : btr i j = true) : btr j i = false := by
  simp only [btr, decide_eq_true_eq, decide_eq_false_iff_not] at *
  omega
theorem btr_trans {i j k : Nat} (h : btr i j = true) (h' : btr j k = true) : btr i k = true := by
  simp only [btr, decide_eq_true_eq] at *
  omega
theorem btr_total {i j : Nat} (h : i ≠ j) : btr i j = true ∨ btr j i = true := by
  simp only [btr, decide_eq_true_eq] at *
  omega
theorem btr_neg {i j k : Nat} (h : btr i j = false) (h' : btr j k = false) : btr i k = false := by
  simp only [btr, decide_eq_false_iff_not] at *
  omega
theorem betterTo_succ (i m : Nat) : betterTo i (m + 1) = betterTo i m + if btr m i = true then 1 else 0 := by
  unfold betterTo
  rw [List.range_succ, List.filter_append, List.length_append]
  cases h : btr m i <;> simp [h]

theorem filter_take {α : Type} (p : α → Bool) : ∀ (l : List α) (k : Nat), (∀ i (h : i < l.length), p l[i] = decide (i < k)) → l.filter p = l.take k
  | [], _, _ => by simp
  | x :: l, 0, h => by
    have h0 : p x = false := h 0 (by simp)
    rw [List.filter_cons, h0, List.take_zero]
    simp only [Bool.false_eq_true, if_false, List.filter_eq_nil_iff]
    intro y hy
    obtain ⟨i, hi, rfl⟩ := List.getElem_of_mem hy
    have := h (i + 1) (by simp; omega)
    simpa using this
  | x :: l, k + 1, h => by
    have h0 : p x = true := (h 0 (by simp)).trans (by simp)
    rw [List.filter_cons, h0, if_pos rfl, List.take_succ_cons, filter_take p l k]
    intro i hi
    have := h (i + 1) (by simp; omega)
    simpa using this

/-- In a list in the order of worth, as many are better than one as stand ahead of it. -/
theorem rank_of : ∀ (l : List Nat) (i : Nat) (h : i < l.length), l.Pairwise (fun a b => btr a b = true) → (l.filter (fun j => btr j l[i])).length = i
  | x :: l, 0, _, hp => by
    rw [List.pairwise_cons] at hp
    rw [List.getElem_cons_zero, List.filter_cons, btr_irrefl]
    simp only [Bool.false_eq_true, if_false, List.length_eq_zero_iff, List.filter_eq_nil_iff]
    intro y hy
    simp [btr_asymm (hp.1 y hy)]
  | x :: l, i + 1, h, hp => by
    rw [List.pairwise_cons] at hp
    have hi : i < l.length := by simpa using h
    have ih := rank_of l i hi hp.2
    rw [List.getElem_cons_succ, List.filter_cons, hp.1 _ (List.getElem_mem hi), if_pos rfl, List.length_cons, ih]

/-- All places in the order of worth. -/
def orderM (n : Nat) : List Nat := (List.range n).mergeSort fun x y => !btr y x
theorem order_perm (n : Nat) : (orderM n).Perm (List.range n) := List.mergeSort_perm _ _
theorem order_sorted (n : Nat) : (orderM n).Pairwise (fun a b => btr a b = true) := by
  have h1 : (orderM n).Pairwise (fun a b => (!btr b a) = true) := List.pairwise_mergeSort (le := fun x y => !btr y x)
    (fun a b c h h' => by simp only [Bool.not_eq_true'] at *; exact btr_neg h' h)
    (fun a b => by
      cases h : btr b a with
      | false => rfl
      | true => simp [btr_asymm h]) _
  have h2 : (orderM n).Nodup := (order_perm n).nodup_iff.2 List.nodup_range
  refine (h1.and h2).imp ?_
  rintro a b ⟨h, hn⟩
  simp only [Bool.not_eq_true'] at h
  rcases btr_total hn with h' | h'
  · exact h'
  · rw [h] at h'; cases h'
theorem order_take (n k : Nat) : (orderM n).take k = (orderM n).filter (isPlace n k) := by
  refine (filter_take _ _ _ fun i hi => ?_).symm
  have hr := rank_of (orderM n) i hi (order_sorted n)
  have hp : ((orderM n).filter (fun j => btr j (orderM n)[i])).length = betterTo (orderM n)[i] n := ((order_perm n).filter _).length_eq
  unfold isPlace
  rw [← hp, hr]
theorem places_sorted (n k : Nat) : (placesM n k).Pairwise (fun a b => a < b) := List.pairwise_lt_range.filter _
def ints (l : List Nat) : List Int := l.map fun x : Nat => (x : Int)
theorem ints_length (l : List Nat) : (ints l).length = l.length := by simp [ints]
theorem ints_at (l : List Nat) (j : Nat) : (ints l).getD j 0 = ((l.getD j 0 : Nat) : Int) := by
  unfold ints List.getD
  rw [List.getElem?_map]
  cases l[j]? <;> rfl
/-- THE BEST k, RISING. -/
theorem order_best (n k : Nat) : (ints ((orderM n).take k)).mergeSort (fun x y => decide (x ≤ y)) = ints (placesM n k) := by
  unfold ints
  refine List.Perm.eq_of_pairwise (le := fun x y => x ≤ y) (fun a b _ _ h h' => by omega) ?_ ?_ ((List.mergeSort_perm _ _).trans ?_)
  · have := List.pairwise_mergeSort (le := fun x y : Int => decide (x ≤ y)) (fun a b c h h' => by simp at *; omega) (fun a b => by simp; omega) (((orderM n).take k).map fun x : Nat => (x : Int))
    simpa using this
  · rw [List.pairwise_map]
    exact (places_sorted n k).imp fun h => by omega
  · rw [order_take]
    exact ((order_perm n).filter _).map _
theorem order_length (n : Nat) : (orderM n).length = n := by rw [(order_perm n).length_eq, List.length_range]
theorem places_length {n k : Nat} (h : k ≤ n) : (placesM n k).length = k := by
  have := congrArg List.length (order_best n k)
  rw [List.length_mergeSort, ints_length, ints_length, List.length_take, order_length] at this
  omega
theorem places_lt {n k x : Nat} (h : x ∈ placesM n k) : x < n := by
  have := (List.mem_filter.1 h).1
  simpa using this
end Go.Proofs.YtdndeegpbjlibadGreatDoor

namespace Go.Proofs.YtdndeegpbjlibadGreatDoor
/-! WHERE THE PLACES STAND: their number below i; bits laid at them; bits read at them. -/

theorem getD_is (l : List Int) {j : Nat} (h : j < l.length) : l.getD j 0 = l[j] := by simp [List.getD, h]
/-- How many places lie below i. -/
def cntM (q : Nat → Bool) (i : Nat) : Nat := ((List.range i).filter q).length
theorem cnt_succ (q : Nat → Bool) (i : Nat) : cntM q (i + 1) = cntM q i + if q i = true then 1 else 0 := by
  unfold cntM
  rw [List.range_succ, List.filter_append, List.length_append]
  cases h : q i <;> simp [h]
theorem range_split {i n : Nat} (h : i < n) : ∃ r : List Nat, List.range n = List.range i ++ i :: r ∧ ∀ x ∈ r, i < x := by
  refine ⟨(List.range n).drop (i + 1), ?_, ?_⟩
  · have h1 := (List.take_append_drop i (List.range n)).symm
    rw [List.take_range, Nat.min_eq_left (by omega), List.drop_eq_getElem_cons (by simpa using h), List.getElem_range] at h1
    exact h1
  · intro x hx
    obtain ⟨j, hj, rfl⟩ := List.getElem_of_mem hx
    rw [List.getElem_drop, List.getElem_range]
    omega
theorem place_at (q : Nat → Bool) {i n : Nat} (h : i < n) (hq : q i = true) : cntM q i < ((List.range n).filter q).length ∧ ((List.range n).filter q).getD (cntM q i) 0 = i := by
  obtain ⟨r, e, _⟩ := range_split h
  rw [e, List.filter_append, List.filter_cons, hq, if_pos rfl]
  constructor
  · rw [List.length_append]; unfold cntM; simp
  · simp [cntM, List.getD]
theorem place_not (q : Nat → Bool) {i n : Nat} (h : i < n) (hq : q i = false) : cntM q i < ((List.range n).filter q).length → ((List.range n).filter q).getD (cntM q i) 0 ≠ i := by
  obtain ⟨r, e, hr⟩ := range_split h
  rw [e, List.filter_append, List.filter_cons, hq]
  simp only [Bool.false_eq_true, if_false]
  intro h1 h2
  rw [List.length_append] at h1
  have h3 : 0 < (r.filter q).length := by unfold cntM at h1; omega
  have h4 : (r.filter q)[0] ∈ r := (List.mem_filter.1 (List.getElem_mem h3)).1
  have h5 := hr _ h4
  have h6 : ((List.range i).filter q ++ r.filter q).getD (cntM q i) 0 = (r.filter q)[0] := by
    simp only [List.getD, cntM]
    rw [List.getElem?_append_right (Nat.le_refl _), Nat.sub_self, List.getElem?_eq_getElem h3]
    rfl
  omega

/-- Bits laid at the places, one by one. -/
def spreadM (n : Nat) (P : List Nat) (b : List Int) : Nat → List Int
  | 0 => List.replicate n 0
  | i + 1 => (spreadM n P b i).set (P.getD i 0) (b.getD i 0)
theorem spread_length (n : Nat) (P : List Nat) (b : List Int) : ∀ i, (spreadM n P b i).length = n
  | 0 => by simp [spreadM]
  | i + 1 => by rw [spreadM, List.length_set, spread_length n P b i]
theorem spread_at (n : Nat) (P : List Nat) (b : List Int) (hP : P.Pairwise (fun x y => x < y)) (hn : ∀ x ∈ P, x < n) : ∀ i, i ≤ P.length → ∀ j, j < i → (spreadM n P b i).getD (P.getD j 0) 0 = b.getD j 0
  | 0, _, j, h => by omega
  | i + 1, hi, j, hj => by
    rw [spreadM]
    have hgi : P.getD i 0 = P[i] := by simp [List.getD, show i < P.length by omega]
    have hgj : P.getD j 0 = P[j] := by simp [List.getD, show j < P.length by omega]
    have hlt : P[i] < n := hn _ (List.getElem_mem _)
    by_cases e : j = i
    · subst e
      rw [hgj]
      simp [List.getD, spread_length, hlt]
    · have ih := spread_at n P b hP hn i (by omega) j (by omega)
      have hne : P[j] < P[i] := (List.pairwise_iff_getElem.1 hP) j i (by omega) (by omega) (by omega)
      rw [hgi, hgj]
      rw [hgj] at ih
      simp only [List.getD, List.getElem?_set]
      rw [if_neg (by omega)]
      exact ih
theorem spread_zero (n : Nat) (P : List Nat) (b : List Int) (p : Nat) (hp : p ∉ P) : ∀ i, i ≤ P.length → (spreadM n P b i).getD p 0 = 0
  | 0, _ => by
    rw [spreadM]
    by_cases h : p < n
    · simp [List.getD, h]
    · simp [List.getD, h]
  | i + 1, hi => by
    rw [spreadM]
    have hgi : P.getD i 0 = P[i] := by simp [List.getD, show i < P.length by omega]
    have hne : P[i] ≠ p := fun e => hp (e ▸ List.getElem_mem _)
    rw [hgi]
    simp only [List.getD, List.getElem?_set]
    rw [if_neg hne]
    exact spread_zero n P b p hp i (by omega)
theorem spread_bits (n : Nat) (P : List Nat) (b : List Int) (hb : ∀ j, 0 ≤ b.getD j 0 ∧ b.getD j 0 ≤ 1) : ∀ i, ∀ x ∈ spreadM n P b i, 0 ≤ x ∧ x ≤ 1
  | 0, x, hx => by
    rw [spreadM] at hx
    have := List.eq_of_mem_replicate hx
    omega
  | i + 1, x, hx => by
    rw [spreadM] at hx
    rcases List.mem_or_eq_of_mem_set hx with h | h
    · exact spread_bits n P b hb i x h
    · subst h; exact hb i

/-- What stands at the places. -/
def readM (P : List Nat) (u : List Int) : List Int := P.map fun p => u.getD p 0
theorem read_spread (n : Nat) (P : List Nat) (b : List Int) (hP : P.Pairwise (fun x y => x < y)) (hn : ∀ x ∈ P, x < n) (hb : b.length = P.length) : readM P (spreadM n P b P.length) = b := by
  refine List.ext_getElem (by simp [readM, hb]) fun j h1 h2 => ?_
  have hj : j < P.length := by omega
  have := spread_at n P b hP hn P.length (Nat.le_refl _) j hj
  have e1 : P.getD j 0 = P[j] := by simp [List.getD, hj]
  have e2 : b.getD j 0 = b[j] := by simp [List.getD, h2]
  rw [e1, e2] at this
  simp only [readM, List.getElem_map]
  exact this
/-- What was found is marked: ones at those of the places from first on that hold 1. -/
def updM (P : List Nat) (fd : List Int) (first : Nat) (u : List Int) : List Int :=
  (List.range fd.length).map fun j => if first ≤ P.getD j 0 ∧ P.getD j 0 < first + u.length ∧ u.getD (P.getD j 0 - first) 0 = 1 then 1 else fd.getD j 0
theorem upd_length (P : List Nat) (fd : List Int) (first : Nat) (u : List Int) : (updM P fd first u).length = fd.length := by simp [updM]
theorem upd_at (P : List Nat) (fd : List Int) (first : Nat) (u : List Int) {j : Nat} (h : j < fd.length) :
    (updM P fd first u).getD j 0 = if first ≤ P.getD j 0 ∧ P.getD j 0 < first + u.length ∧ u.getD (P.getD j 0 - first) 0 = 1 then 1 else fd.getD j 0 := by
  simp [updM, List.getD, h]
theorem upd_append (P : List Nat) (fd : List Int) (first : Nat) (u v : List Int) : updM P (updM P fd first u) (first + u.length) v = updM P fd first (u ++ v) := by
  unfold updM
  rw [List.length_map, List.length_range]
  refine List.map_congr_left fun j hj => ?_
  have hj' : j < fd.length := by simpa using hj
  have e1 := upd_at P fd first u hj'
  unfold updM at e1
  rw [e1, List.length_append]
  generalize P.getD j 0 = p
  by_cases h1 : p < first + u.length
  · by_cases h0 : first ≤ p
    · have e2 : (u ++ v).getD (p - first) 0 = u.getD (p - first) 0 := by simp [List.getD, List.getElem?_append_left (show p - first < u.length by omega)]
      rw [e2, if_neg (by omega)]
      by_cases h2 : u.getD (p - first) 0 = 1
      · rw [if_pos ⟨h0, h1, h2⟩, if_pos ⟨h0, by omega, h2⟩]
      · rw [if_neg (by omega), if_neg (by omega)]
    · rw [if_neg (by omega), if_neg (by omega), if_neg (by omega)]
  · have e2 : (u ++ v).getD (p - first) 0 = v.getD (p - (first + u.length)) 0 := by
      simp only [List.getD]
      rw [List.getElem?_append_right (by omega)]
      congr 2
      omega
    rw [e2]
    by_cases h2 : p < first + u.length + v.length ∧ v.getD (p - (first + u.length)) 0 = 1
    · rw [if_pos ⟨by omega, h2.1, h2.2⟩, if_pos ⟨by omega, by omega, h2.2⟩]
    · rw [if_neg (by omega), if_neg (by omega), if_neg (by omega)]
/-- One place: it is none of P, or what is found there is no 1. -/
theorem upd_none (P : List Nat) (fd : List Int) (first : Nat) (x : Int) (h : x = 0) : updM P fd first [x] = fd := by
  subst h
  refine List.ext_getElem (by simp [updM]) fun j h1 h2 => ?_
  have e1 := upd_at P fd first [0] h2
  have e2 : (updM P fd first [0]).getD j 0 = (updM P fd first [0])[j] := by simp [List.getD, h1]
  have e3 : fd.getD j 0 = fd[j] := by simp [List.getD, h2]
  rw [← e2, e1, if_neg, e3]
  rintro ⟨h1, h2, h3⟩
  have h2' : P.getD j 0 < first + 1 := h2
  have : P.getD j 0 - first = 0 := by omega
  rw [this] at h3
  simp at h3
/-- The place is P's i-th: the i-th is marked. -/
theorem upd_one (P : List Nat) (hP : P.Pairwise (fun x y => x < y)) (fd : List Int) (hl : fd.length = P.length) (i : Nat) (hi : i < P.length) : updM P fd (P.getD i 0) [1] = fd.set i 1 := by
  refine List.ext_getElem (by simp [updM]) fun j h1 h2 => ?_
  have hj : j < fd.length := by simpa using h2
  have e1 := upd_at P fd (P.getD i 0) [1] hj
  have e2 : (updM P fd (P.getD i 0) [1]).getD j 0 = (updM P fd (P.getD i 0) [1])[j] := getD_is _ h1
  have e3 : fd.getD j 0 = fd[j] := by simp [List.getD, hj]
  rw [← e2, e1, List.getElem_set, e3]
  have gi : P.getD i 0 = P[i] := by simp [List.getD, hi]
  have gj : P.getD j 0 = P[j] := by simp [List.getD, show j < P.length by omega]
  by_cases e : i = j
  · subst e
    rw [if_pos rfl, if_pos]
    refine ⟨Nat.le_refl _, by simp, by simp⟩
  · rw [if_neg e, if_neg]
    rintro ⟨a, b, _⟩
    rw [gi, gj] at a b
    simp at b
    rcases Nat.lt_or_gt_of_ne e with h | h
    · have := (List.pairwise_iff_getElem.1 hP) i j hi (by omega) h
      omega
    · have := (List.pairwise_iff_getElem.1 hP) j i (by omega) hi h
      omega
theorem upd_all (P : List Nat) (k : Nat) (hk : P.length = k) (u : List Int) (hu : ∀ j, 0 ≤ u.getD j 0 ∧ u.getD j 0 ≤ 1) (hn : ∀ x ∈ P, x < u.length) : updM P (List.replicate k 0) 0 u = readM P u := by
  refine List.ext_getElem (by simp [updM, readM, hk]) fun j h1 h2 => ?_
  have hj : j < P.length := by simpa [readM] using h2
  have e1 := upd_at P (List.replicate k 0) 0 u (j := j) (by simp; omega)
  have e2 : (updM P (List.replicate k 0) 0 u).getD j 0 = (updM P (List.replicate k 0) 0 u)[j] := by simp [List.getD, h1]
  have e3 : (List.replicate k (0 : Int)).getD j 0 = 0 := by simp [List.getD, show j < k by omega]
  have gj : P.getD j 0 = P[j] := by simp [List.getD, hj]
  rw [← e2, e1, e3, gj]
  simp only [readM, List.getElem_map, Nat.sub_zero]
  have := hu P[j]
  have := hn _ (List.getElem_mem hj)
  by_cases h : u.getD P[j] 0 = 1
  · rw [if_pos ⟨by omega, by omega, h⟩, h]
  · rw [if_neg (by omega)]; omega
end Go.Proofs.YtdndeegpbjlibadGreatDoor
