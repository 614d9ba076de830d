import Derived.Test.YtfbjedcfppghgacDoorConvM
namespace Go.Proofs.YtfbjedcfppghgacDoor

/-! THE CODE OF HALVES, as mathematics: Arikan's transform. -/

/-- Place by place, 1 and 1 are 0. -/
def addL (x y : List Int) : List Int := List.zipWith (fun a b => (a + b) % 2) x y
/-- Turn of 2^m bits. -/
def turnM : Nat → List Int → List Int
  | 0, b => b
  | m + 1, b => addL (turnM m (b.take (2 ^ m))) (turnM m (b.drop (2 ^ m))) ++ turnM m (b.drop (2 ^ m))

theorem addL_length {x y : List Int} (h : x.length = y.length) : (addL x y).length = y.length := by simp [addL, h]
theorem addL_bits (x y : List Int) : AllBits (addL x y) := fun z hz => by
  unfold addL at hz
  obtain ⟨i, hi, rfl⟩ := List.getElem_of_mem hz
  rw [List.getElem_zipWith]
  omega
theorem addL_back : ∀ {x y : List Int}, x.length = y.length → AllBits x → AllBits y → addL (addL x y) y = x
  | [], [], _, _, _ => rfl
  | [], _ :: _, h, _, _ => by simp at h
  | _ :: _, [], h, _, _ => by simp at h
  | a :: x, b :: y, h, hx, hy => by
    have ih := addL_back (x := x) (y := y) (by simpa using h) (fun z hz => hx z (by simp [hz])) (fun z hz => hy z (by simp [hz]))
    have ha := hx a (by simp)
    have hb := hy b (by simp)
    unfold addL at ih ⊢
    simp only [List.zipWith_cons_cons, ih]
    congr 1
    omega
theorem addL_four : ∀ (a b c d : List Int), addL (addL a b) (addL c d) = addL (addL a c) (addL b d)
  | a :: a', b :: b', c :: c', d :: d' => by
    have ih := addL_four a' b' c' d'
    unfold addL at ih ⊢
    simp only [List.zipWith_cons_cons, ih]
    congr 1
    omega
  | [], b, c, d => by simp [addL]
  | _ :: _, [], c, d => by simp [addL]
  | _ :: _, _ :: _, [], d => by simp [addL]
  | _ :: _, _ :: _, _ :: _, [] => by simp [addL]
theorem addL_append {a b c d : List Int} (h : a.length = c.length) : addL (a ++ b) (c ++ d) = addL a c ++ addL b d := List.zipWith_append h
theorem addL_take (x y : List Int) (k : Nat) : (addL x y).take k = addL (x.take k) (y.take k) := List.take_zipWith
theorem addL_drop (x y : List Int) (k : Nat) : (addL x y).drop k = addL (x.drop k) (y.drop k) := List.drop_zipWith

theorem turn_length : ∀ (m : Nat) (b : List Int), b.length = 2 ^ m → (turnM m b).length = 2 ^ m
  | 0, b, h => h
  | m + 1, b, h => by
    have h2 : (2 : Nat) ^ (m + 1) = 2 ^ m + 2 ^ m := by rw [Nat.pow_succ]; omega
    have h0 := turn_length m (b.take (2 ^ m)) (by simp; omega)
    have h1 := turn_length m (b.drop (2 ^ m)) (by simp; omega)
    rw [turnM, List.length_append, addL_length (h0.trans h1.symm), h1, h2]
theorem turn_bits : ∀ (m : Nat) (b : List Int), AllBits b → AllBits (turnM m b)
  | 0, _, h => h
  | m + 1, b, h => fun x hx => by
    rw [turnM] at hx
    rcases List.mem_append.1 hx with h1 | h1
    · exact addL_bits _ _ x h1
    · exact turn_bits m _ (fun y hy => h y (List.mem_of_mem_drop hy)) x h1
/-- Turn is linear. -/
theorem turn_add : ∀ (m : Nat) (a b : List Int), a.length = 2 ^ m → b.length = 2 ^ m → turnM m (addL a b) = addL (turnM m a) (turnM m b)
  | 0, _, _, _, _ => rfl
  | m + 1, a, b, ha, hb => by
    have h2 : (2 : Nat) ^ (m + 1) = 2 ^ m + 2 ^ m := by rw [Nat.pow_succ]; omega
    have la : (a.take (2 ^ m)).length = 2 ^ m := by simp; omega
    have lb : (b.take (2 ^ m)).length = 2 ^ m := by simp; omega
    have la' : (a.drop (2 ^ m)).length = 2 ^ m := by simp; omega
    have lb' : (b.drop (2 ^ m)).length = 2 ^ m := by simp; omega
    have e1 := turn_length m _ la
    have e2 := turn_length m _ lb
    have e3 := turn_length m _ la'
    have e4 := turn_length m _ lb'
    rw [turnM, turnM, turnM, addL_take, addL_drop, turn_add m _ _ la lb, turn_add m _ _ la' lb', addL_append (by rw [addL_length (e1.trans e3.symm), addL_length (e2.trans e4.symm), e3, e4]), addL_four]
/-- WHAT IS TURNED TWICE IS AS IT WAS. -/
theorem turn_twice : ∀ (m : Nat) (b : List Int), b.length = 2 ^ m → AllBits b → turnM m (turnM m b) = b
  | 0, _, _, _ => rfl
  | m + 1, b, h, hb => by
    have h2 : (2 : Nat) ^ (m + 1) = 2 ^ m + 2 ^ m := by rw [Nat.pow_succ]; omega
    have l1 : (b.take (2 ^ m)).length = 2 ^ m := by simp; omega
    have l2 : (b.drop (2 ^ m)).length = 2 ^ m := by simp; omega
    have e1 := turn_length m _ l1
    have e2 := turn_length m _ l2
    have b1 : AllBits (b.take (2 ^ m)) := fun y hy => hb y (List.mem_of_mem_take hy)
    have b2 : AllBits (b.drop (2 ^ m)) := fun y hy => hb y (List.mem_of_mem_drop hy)
    have eX : (addL (turnM m (b.take (2 ^ m))) (turnM m (b.drop (2 ^ m)))).length = 2 ^ m := by rw [addL_length (e1.trans e2.symm), e2]
    rw [turnM, turnM, List.take_left' eX, List.drop_left' eX, turn_add m _ _ e1 e2, turn_twice m _ l1 b1, turn_twice m _ l2 b2, addL_back (l1.trans l2.symm) b1 b2, List.take_append_drop]
end Go.Proofs.YtfbjedcfppghgacDoor
