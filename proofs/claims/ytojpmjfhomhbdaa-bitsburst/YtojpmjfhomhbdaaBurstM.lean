import Derived.Test.YtojpmjfhomhbdaaLinM
namespace Go.Proofs.Ytojpmjfhomhbdaa

/-- The register moved on by a bit 0. -/
def mov (W P r : Nat) : Nat := step W P r 0

theorem mov_bit {W P : Nat} (hD : Div W P) (r p : Nat) : (mov W P r).testBit p = ((decide (0 < p) && r.testBit (p - 1)) ^^ (r.testBit (W - 1) && P.testBit p)) := by
  unfold mov
  rw [step_bit hD r 0 p (by omega), fed_bit _ _ _ _ (by omega)]
  simp [topBit]

theorem step_mov {W P : Nat} (hD : Div W P) (r x : Nat) (hx : x ≤ 1) : step W P r x = mov W P (r ^^^ x * 2 ^ (W - 1)) := by
  have hW := hD.pos
  apply Nat.eq_of_testBit_eq
  intro p
  rw [step_bit hD r x p hx, fed_bit _ _ _ _ hx, mov_bit hD]
  unfold topBit
  rw [Nat.testBit_xor, Nat.testBit_xor, testBit_up x (W - 1) _ hx, testBit_up x (W - 1) _ hx]
  have e1 : decide (W - 1 = W - 1) = true := by simp
  rw [e1, Bool.true_and]
  cases p with
  | zero =>
    have : decide (0 = W) = false := by simp; omega
    rw [this]; simp
  | succ p =>
    have : decide (p + 1 - 1 = W - 1) = decide (p + 1 = W) := by rw [decide_eq_decide]; omega
    rw [this]; simp

theorem mov_lt {W P : Nat} (hD : Div W P) (r : Nat) (hr : r < 2 ^ W) : mov W P r < 2 ^ W := step_lt hD r 0 hr (by omega)

theorem mov_xor {W P : Nat} (hD : Div W P) (u v : Nat) : mov W P (u ^^^ v) = mov W P u ^^^ mov W P v := step_xor hD u v 0 0 0 (by omega) (by omega) (by omega)

theorem mov_small {W P : Nat} (hD : Div W P) (u : Nat) (hu : u < 2 ^ (W - 1)) : mov W P u = u * 2 := by
  apply Nat.eq_of_testBit_eq
  intro p
  rw [mov_bit hD, testBit_twice, Nat.testBit_lt_two_pow hu]
  simp

theorem mov_zero {W P : Nat} (hD : Div W P) : mov W P 0 = 0 := by
  have := mov_small hD 0 (Nat.pow_pos (by decide))
  simpa using this

theorem mov_ne {W P : Nat} (hD : Div W P) (z : Nat) (hz : z < 2 ^ W) (h : mov W P z = 0) : z = 0 := by
  have hW := hD.pos
  have h0 : (mov W P z).testBit 0 = false := by rw [h]; simp
  rw [mov_bit hD, hD.low] at h0
  have ht : z.testBit (W - 1) = false := by simpa using h0
  have hs : z < 2 ^ (W - 1) := by
    apply Nat.lt_pow_two_of_testBit
    intro p hp
    rcases Nat.eq_or_lt_of_le hp with rfl | h'
    · exact ht
    · exact Nat.testBit_lt_two_pow (Nat.lt_of_lt_of_le hz (Nat.pow_le_pow_right (by decide) (by omega)))
  have := mov_small hD z hs
  omega

def movs (W P : Nat) : Nat → Nat → Nat
  | 0, r => r
  | n + 1, r => movs W P n (mov W P r)

theorem movs_ne {W P : Nat} (hD : Div W P) : ∀ (n z : Nat), z < 2 ^ W → movs W P n z = 0 → z = 0
  | 0, _, _, h => h
  | n + 1, z, hz, h => mov_ne hD z hz (movs_ne hD n _ (mov_lt hD z hz) h)

theorem movs_lt {W P : Nat} (hD : Div W P) : ∀ (n z : Nat), z < 2 ^ W → movs W P n z < 2 ^ W
  | 0, _, hz => hz
  | n + 1, z, hz => movs_lt hD n _ (mov_lt hD z hz)

theorem movs_zero {W P : Nat} (hD : Div W P) : ∀ n, movs W P n 0 = 0
  | 0 => rfl
  | n + 1 => by rw [movs, mov_zero hD, movs_zero hD n]

/-- The register behind bits, from a register on. -/
def feed (W P r : Nat) (c : List Int) : Nat := c.foldl (fun r x => step W P r x.toNat) r
theorem feed_append (W P r : Nat) (c d : List Int) : feed W P r (c ++ d) = feed W P (feed W P r c) d := by simp [feed]
theorem crc_feed (W P : Nat) (c : List Int) : crc W P c = feed W P 0 c := rfl

/-- The number of bits, the first one the highest. -/
def val : List Int → Nat
  | [] => 0
  | x :: c => x.toNat * 2 ^ c.length + val c

def AllBits (c : List Int) : Prop := ∀ x ∈ c, 0 ≤ x ∧ x ≤ 1

theorem val_lt : ∀ (c : List Int), AllBits c → val c < 2 ^ c.length
  | [], _ => by simp [val]
  | x :: c, h => by
    have h1 := val_lt c (fun y hy => h y (by simp [hy]))
    have h2 := h x (by simp)
    rw [val, List.length_cons, Nat.pow_succ]
    have : x.toNat * 2 ^ c.length ≤ 1 * 2 ^ c.length := Nat.mul_le_mul_right _ (by omega)
    omega

theorem xor_add (a b m : Nat) (hb : b < 2 ^ m) : (a * 2 ^ m) ^^^ b = a * 2 ^ m + b := by
  rw [Nat.mul_comm a, Nat.two_pow_add_eq_or_of_lt hb a]
  apply Nat.eq_of_testBit_eq
  intro p
  rw [Nat.testBit_xor, Nat.testBit_or, Nat.testBit_two_pow_mul]
  by_cases hp : p ≥ m
  · rw [Nat.testBit_lt_two_pow (Nat.lt_of_lt_of_le hb (Nat.pow_le_pow_right (by decide) hp))]
    simp
  · simp [hp]

theorem xor_up (a b k : Nat) : (a ^^^ b) * 2 ^ k = a * 2 ^ k ^^^ b * 2 ^ k := by
  apply Nat.eq_of_testBit_eq
  intro p
  rw [Nat.testBit_xor, Nat.mul_comm, Nat.mul_comm a, Nat.mul_comm b, Nat.testBit_two_pow_mul, Nat.testBit_two_pow_mul, Nat.testBit_two_pow_mul, Nat.testBit_xor]
  cases decide (p ≥ k) <;> simp

theorem feed_val {W P : Nat} (hD : Div W P) : ∀ (c : List Int), AllBits c → c.length ≤ W → ∀ r, r < 2 ^ W → feed W P r c = movs W P c.length (r ^^^ val c * 2 ^ (W - c.length))
  | [], _, _, r, _ => by simp [feed, movs, val]
  | x :: c, h, hl, r, hr => by
    have hc : AllBits c := fun y hy => h y (by simp [hy])
    have hx := h x (by simp)
    have hW := hD.pos
    rw [List.length_cons] at hl
    have ih := feed_val hD c hc (by omega) (step W P r x.toNat) (step_lt hD _ _ hr (by omega))
    show feed W P (step W P r x.toNat) c = _
    rw [ih, step_mov hD _ _ (by omega), List.length_cons, movs]
    congr 1
    have hv := val_lt c hc
    have hsm : val c * 2 ^ (W - (c.length + 1)) < 2 ^ (W - 1) := by
      have h1 : val c * 2 ^ (W - (c.length + 1)) < 2 ^ c.length * 2 ^ (W - (c.length + 1)) := Nat.mul_lt_mul_of_pos_right hv (Nat.pow_pos (by decide))
      rwa [← Nat.pow_add, show c.length + (W - (c.length + 1)) = W - 1 from by omega] at h1
    have e1 : val c * 2 ^ (W - c.length) = mov W P (val c * 2 ^ (W - (c.length + 1))) := by
      rw [mov_small hD _ hsm, show W - c.length = (W - (c.length + 1)) + 1 from by omega, Nat.pow_succ, Nat.mul_assoc]
    have e2 : x.toNat * 2 ^ (W - 1) ^^^ val c * 2 ^ (W - (c.length + 1)) = val (x :: c) * 2 ^ (W - (c.length + 1)) := by
      rw [val, ← xor_add _ _ _ hv, xor_up, Nat.mul_assoc, ← Nat.pow_add, show c.length + (W - (c.length + 1)) = W - 1 from by omega]
    rw [e1, ← mov_xor hD, Nat.xor_assoc, e2]

theorem val_bit : ∀ (c : List Int), AllBits c → ∀ p, p < c.length → (val c).testBit p = decide (c.getD (c.length - 1 - p) 0 = 1)
  | [], _, p, hp => by simp at hp
  | x :: c, h, p, hp => by
    have hc : AllBits c := fun y hy => h y (by simp [hy])
    have hx := h x (by simp)
    have hv := val_lt c hc
    rw [List.length_cons] at hp
    rw [val, ← xor_add _ _ _ hv, Nat.testBit_xor, testBit_up _ _ _ (by omega : x.toNat ≤ 1)]
    by_cases hpe : p = c.length
    · subst hpe
      rw [Nat.testBit_lt_two_pow hv]
      have : (x :: c).length - 1 - c.length = 0 := by simp
      rw [this]
      simp
      omega
    · have ih := val_bit c hc p (by omega)
      rw [ih]
      have e : (x :: c).length - 1 - p = (c.length - 1 - p) + 1 := by rw [List.length_cons]; omega
      rw [e]
      simp [hpe]

theorem val_zero (c : List Int) (h : AllBits c) (hv : val c = 0) : ∀ j, c.getD j 0 = 0 := fun j => by
  by_cases hj : j < c.length
  · have hb := val_bit c h (c.length - 1 - j) (by omega)
    rw [hv, show c.length - 1 - (c.length - 1 - j) = j from by omega] at hb
    have hm : c.getD j 0 ∈ c := by
      have e : c.getD j 0 = c[j] := by simp [List.getD, hj]
      rw [e]; exact List.getElem_mem hj
    have := h _ hm
    have hne : ¬ c.getD j 0 = 1 := by
      intro e1
      rw [decide_eq_true e1] at hb
      simp at hb
    omega
  · simp [List.getD, Nat.le_of_not_lt hj]

theorem all_of_bits {zs : List Int} (h : Bits zs) : AllBits zs := fun x hx => by
  obtain ⟨k, hk, rfl⟩ := List.getElem_of_mem hx
  have := h k
  have e : zs.getD k 0 = zs[k] := by simp [List.getD, hk]
  rwa [e] at this

/-- The last W bits are the others' sum just where nothing is left of them all. -/
theorem sum_iff {W P : Nat} (hD : Div W P) {zs : List Int} (h : Bits zs) (n : Nat) (hl : zs.length = n + W) : sumL W P (zs.take n) = zs.drop n ↔ crc W P zs = 0 := by
  have hW := hD.pos
  have hsplit : crc W P zs = feed W P (crc W P (zs.take n)) (zs.drop n) := by
    rw [crc_feed, crc_feed, ← feed_append, List.take_append_drop]
  have hdl : (zs.drop n).length = W := by rw [List.length_drop]; omega
  have hda : AllBits (zs.drop n) := fun x hx => all_of_bits h x (List.mem_of_mem_drop hx)
  have hr := crc_lt hD h n
  have hv := val_lt _ hda
  rw [hdl] at hv
  rw [hsplit, feed_val hD _ hda (by omega) _ hr, hdl, Nat.sub_self, Nat.pow_zero, Nat.mul_one]
  constructor
  · intro hs
    have : crc W P (zs.take n) = val (zs.drop n) := by
      apply Nat.eq_of_testBit_eq
      intro p
      by_cases hp : p < W
      · rw [val_bit _ hda p (by omega), hdl, ← hs]
        have : (sumL W P (zs.take n)).getD (W - 1 - p) 0 = b2i ((crc W P (zs.take n)).testBit p) := by
          have hj : W - 1 - p < W := by omega
          simp [sumL, sumTo, List.getD, hj]
          rw [show W - 1 - (W - 1 - p) = p from by omega]
        rw [this]
        cases (crc W P (zs.take n)).testBit p <;> rfl
      · rw [Nat.testBit_lt_two_pow (Nat.lt_of_lt_of_le hr (Nat.pow_le_pow_right (by decide) (by omega))), Nat.testBit_lt_two_pow (Nat.lt_of_lt_of_le hv (Nat.pow_le_pow_right (by decide) (by omega)))]
    rw [this, Nat.xor_self]
    exact movs_zero hD _
  · intro h0
    have hx := movs_ne hD W _ (Nat.xor_lt_two_pow hr hv) h0
    have he : crc W P (zs.take n) = val (zs.drop n) := by
      apply Nat.eq_of_testBit_eq
      intro p
      have := congrArg (fun z => z.testBit p) hx
      simp only [Nat.testBit_xor, Nat.zero_testBit] at this
      generalize (crc W P (zs.take n)).testBit p = a at *
      generalize (val (zs.drop n)).testBit p = b at *
      revert this
      revert a b
      decide
    refine List.ext_getElem (by rw [sumL_length, hdl]) fun j h1 h2 => ?_
    have hj : j < W := by rw [sumL_length] at h1; exact h1
    have e1 : (sumL W P (zs.take n))[j] = b2i ((crc W P (zs.take n)).testBit (W - 1 - j)) := by simp [sumL, sumTo]
    rw [e1, he, val_bit _ hda _ (by omega), hdl, show W - 1 - (W - 1 - j) = j from by omega]
    have e2 : (zs.drop n).getD j 0 = (zs.drop n)[j] := by simp only [List.getD, List.getElem?_eq_getElem h2]; rfl
    have hb := hda _ (List.getElem_mem h2)
    rw [e2]
    rcases (show (zs.drop n)[j] = 0 ∨ (zs.drop n)[j] = 1 by omega) with e | e <;> rw [e] <;> rfl

theorem feed_zeros {W P : Nat} (hD : Div W P) : ∀ (c : List Int) (r : Nat), (∀ x ∈ c, x = 0) → feed W P r c = movs W P c.length r
  | [], _, _ => rfl
  | x :: c, r, h => by
    have hx := h x (by simp)
    subst hx
    show feed W P (step W P r 0) c = _
    rw [feed_zeros hD c _ (fun y hy => h y (by simp [hy]))]
    rfl

/-- A change within W places is seen: what is left of it is not 0. -/
theorem burst_seen {W P : Nat} (hD : Div W P) (z c y : List Int) (hz : ∀ x ∈ z, x = 0) (hy : ∀ x ∈ y, x = 0) (hc : AllBits c) (hl : c.length ≤ W) (h : crc W P (z ++ (c ++ y)) = 0) : ∀ j, c.getD j 0 = 0 := by
  rw [crc_feed, feed_append, feed_zeros hD z _ hz, movs_zero hD, feed_append, feed_zeros hD y _ hy] at h
  have hv := val_lt c hc
  have hlt : val c * 2 ^ (W - c.length) < 2 ^ W := by
    have h1 : val c * 2 ^ (W - c.length) < 2 ^ c.length * 2 ^ (W - c.length) := Nat.mul_lt_mul_of_pos_right hv (Nat.pow_pos (by decide))
    rwa [← Nat.pow_add, show c.length + (W - c.length) = W from by omega] at h1
  have hf := feed_val hD c hc hl 0 (Nat.pow_pos (by decide))
  rw [Nat.zero_xor] at hf
  have hfl : feed W P 0 c < 2 ^ W := by
    rw [hf]
    exact movs_lt hD _ _ hlt
  have h1 := movs_ne hD _ _ hfl h
  rw [hf] at h1
  have h2 := movs_ne hD _ _ hlt h1
  have h3 : val c = 0 := by
    rcases Nat.mul_eq_zero.1 h2 with h' | h'
    · exact h'
    · exact absurd h' (Nat.ne_of_gt (Nat.pow_pos (by decide)))
  exact val_zero c hc h3

end Go.Proofs.Ytojpmjfhomhbdaa
