import Derived.Test.YtplkmkbambbemadGreatDoorB01
import Derived.Deep.MidRow
import Derived.Test.YtplkmkbambbemadGreatDoorB03
import Derived.Deep.WholeRow
namespace Go.Proofs.YtplkmkbambbemadGreatDoor
open Go.ChangeShapes Go.WideShapes Go.ChangeAt Go.RowKit
theorem run_index_arr {P : Program} (w : World) (ty e : TypeId) (cs : Array Value) (n k : Nat) (v : Value) (d : TypeDesc) (hu : P.underlying ty = some (.array n e)) (he : P.underlying e = some d) (hd : d.isRow = false) (hs : (P.info? e).map (·.size) = some 1) (hk : k < n) (hv : cs[k]? = some v) (ik : IntKind) :
    (Instr.index ty (.agg cs) (.int ik k)).run P w = .ok v w := by
  cases hq : P.info? e with
  | none => simp [hq] at hs
  | some i =>
    have hsz : i.size = 1 := by simpa [hq] using hs
    have hagg : (isAgg e).run P w = .ok false w := by
      unfold isAgg
      rw [Sem.run_bind, run_underlying he w]
      cases d <;> simp_all
    have hlt : 0 ≤ (k : Int) ∧ (k : Int) < (n : Int) := ⟨by omega, by omega⟩
    simp [Instr.index, asIntOf, Sem.run_bind, run_underlying hu w, hlt, sizeOf, typeInfo, hq, hsz, part, hagg, hv]
    intro h
    omega
/-- 'x := a[k]', a an array in a slot. -/
theorem wpList_index {P : Program} {ops : Array Oper} {rest : List Oper} {o : Oper} {a : Act} {w : World} {Q : Exit → Act → World → Prop} (hgd : o.guard = none) (ty : TypeId) (x i : Operand) (ho : o.op = .index ty x i)
    (e : TypeId) (cs : Array Value) (n k : Nat) (v : Value) (d : TypeDesc) (ik : IntKind) (hx : a.eval x = .agg cs) (hi : a.eval i = .int ik k) (hu : P.underlying ty = some (.array n e)) (he : P.underlying e = some d)
    (hd : d.isRow = false) (hs : (P.info? e).map (·.size) = some 1) (hk : k < n) (hv : cs[k]? = some v)
    (h : wpList P ops Q rest (a.put o.dst v) w) : wpList P ops Q (o :: rest) a w :=
  wpList_plain hgd fun _ hK => by
    unfold Oper.wp execOp
    simp only [ho, hx, hi, Sem.run_bind, run_index_arr w ty e cs n k v d hu he hd hs hk hv ik, Result.andThen_ok]
    exact hK _ _ h
theorem wpList_store_row {P : Program} {ops : Array Oper} {rest : List Oper} {o : Oper} {a : Act} {w : World} {Q : Exit → Act → World → Prop} (hgd : o.guard = none) (ty : TypeId) (x y : Operand) (ho : o.op = .store ty x y)
    (g : Nat) (t : TypeId) (old cells : Array Value) (hx : a.eval x = .pointer (some ⟨g, 0, none⟩)) (hy : a.eval y = .agg cells) (hg : w.heap[g]? = some (.cells old t (0, 0))) (hi : (P.info? ty).map (·.size) = some cells.size)
    (hs : old.size = cells.size) (h1 : cells.all (·.oneCell') = true) (h : wpList P ops Q rest (a.put o.dst undef) (w.setRow g cells)) : wpList P ops Q (o :: rest) a w :=
  wpList_plain hgd fun _ hK => by
    unfold Oper.wp execOp
    simp only [ho, hx, hy, Instr.storeAt, Instr.sureAddr, Sem.run_bind, Sem.run_pure, Result.andThen_ok, run_storeVar_row w g t ty old cells hg hi hs h1]
    exact hK _ _ h
end Go.Proofs.YtplkmkbambbemadGreatDoor
namespace Go.Proofs.YtplkmkbambbemadGreatDoor
open Go.RowKit
/-- The state ahead of the place i. -/
def stI (zs : List Int) (i : Nat) : Int := bitI zs (i - 1) * 32 + bitI zs (i - 2) * 16 + bitI zs (i - 3) * 8 + bitI zs (i - 4) * 4 + bitI zs (i - 5) * 2 + bitI zs (i - 6)
theorem stI_zero (zs : List Int) : stI zs 0 = 0 := by simp [stI, bitI]
theorem stI_next {zs : List Int} (h : Bits zs) (i : Nat) : nxt (stI zs i) (bitI zs i) = stI zs (i + 1) := by
  have e : ∀ k : Nat, bitI zs (((i + 1 : Nat) : Int) - ((k + 1 : Nat) : Int)) = bitI zs ((i : Int) - (k : Int)) := fun k => by congr 1; omega
  have e0 := e 0
  have e1 := e 1
  have e2 := e 2
  have e3 := e 3
  have e4 := e 4
  have e5 := e 5
  simp at e0 e1 e2 e3 e4 e5
  unfold nxt stI
  have b1 := bitI_bd h ((i : Int) - 1)
  have b2 := bitI_bd h ((i : Int) - 2)
  have b3 := bitI_bd h ((i : Int) - 3)
  have b4 := bitI_bd h ((i : Int) - 4)
  have b5 := bitI_bd h ((i : Int) - 5)
  have b6 := bitI_bd h ((i : Int) - 6)
  rw [show ((i + 1 : Nat) : Int) - 1 = (i : Int) from by omega, show ((i + 1 : Nat) : Int) - 2 = (i : Int) - 1 from by omega, show ((i + 1 : Nat) : Int) - 3 = (i : Int) - 2 from by omega, show ((i + 1 : Nat) : Int) - 4 = (i : Int) - 3 from by omega, show ((i + 1 : Nat) : Int) - 5 = (i : Int) - 4 from by omega, show ((i + 1 : Nat) : Int) - 6 = (i : Int) - 5 from by omega]
  omega
theorem st_parts (a b c d e f : Int) (ha : 0 ≤ a ∧ a ≤ 1) (hb : 0 ≤ b ∧ b ≤ 1) (hc : 0 ≤ c ∧ c ≤ 1) (hd : 0 ≤ d ∧ d ≤ 1) (he : 0 ≤ e ∧ e ≤ 1) (hf : 0 ≤ f ∧ f ≤ 1) :
    (a * 32 + b * 16 + c * 8 + d * 4 + e * 2 + f) / 32 % 2 = a ∧ (a * 32 + b * 16 + c * 8 + d * 4 + e * 2 + f) / 16 % 2 = b ∧ (a * 32 + b * 16 + c * 8 + d * 4 + e * 2 + f) / 8 % 2 = c ∧
    (a * 32 + b * 16 + c * 8 + d * 4 + e * 2 + f) / 4 % 2 = d ∧ (a * 32 + b * 16 + c * 8 + d * 4 + e * 2 + f) / 2 % 2 = e ∧ (a * 32 + b * 16 + c * 8 + d * 4 + e * 2 + f) % 2 = f := by omega
theorem trip_out {zs : List Int} (h : Bits zs) (i : Nat) : trip zs i = [out0 (stI zs i) (bitI zs i), out1 (stI zs i) (bitI zs i), out2 (stI zs i) (bitI zs i)] := by
  obtain ⟨p1, p2, p3, p4, p5, p6⟩ := st_parts _ _ _ _ _ _ (bitI_bd h ((i : Int) - 1)) (bitI_bd h ((i : Int) - 2)) (bitI_bd h ((i : Int) - 3)) (bitI_bd h ((i : Int) - 4)) (bitI_bd h ((i : Int) - 5)) (bitI_bd h ((i : Int) - 6))
  unfold trip out0 out1 out2 stI
  rw [p1, p2, p3, p4, p5, p6]
theorem codedTo_at (zs : List Int) : ∀ (K i r : Nat), i < K → r < 3 → (codedTo zs K).getD (3 * i + r) 0 = (trip zs i).getD r 0
  | 0, i, r, h, _ => by omega
  | K + 1, i, r, h, hr => by
    rw [codedTo]
    by_cases hi : i < K
    · rw [← codedTo_at zs K i r hi hr]
      have hl := codedTo_length zs K
      simp only [List.getD, List.getElem?_append_left (show 3 * i + r < (codedTo zs K).length by omega)]
    · obtain rfl : i = K := by omega
      have hl := codedTo_length zs i
      simp only [List.getD, List.getElem?_append_right (show (codedTo zs i).length ≤ 3 * i + r by omega)]
      rw [show 3 * i + r - (codedTo zs i).length = r from by omega]
/-- What the first k bits score. -/
def gainTo (soft zs : List Int) : Nat → Int
  | 0 => 0
  | k + 1 => gainTo soft zs k + gain soft k (stI zs k) (bitI zs k)
theorem score_gain {zs : List Int} (h : Bits zs) (soft : List Int) (K : Nat) : ∀ k, k ≤ K → scoreTo (codedTo zs K) soft (3 * k) = gainTo soft zs k
  | 0, _ => rfl
  | k + 1, hk => by
    have ih := score_gain h soft K k (by omega)
    have c0 := codedTo_at zs K k 0 (by omega) (by omega)
    have c1 := codedTo_at zs K k 1 (by omega) (by omega)
    have c2 := codedTo_at zs K k 2 (by omega) (by omega)
    rw [trip_out h k] at c0 c1 c2
    rw [show 3 * (k + 1) = 3 * k + 1 + 1 + 1 from by omega, scoreTo, scoreTo, scoreTo, ih, gainTo]
    rw [show 3 * k + 1 + 1 = 3 * k + 2 from by omega, c1, c2]
    rw [Nat.add_zero] at c0
    rw [c0]
    unfold gain
    show _ + sgn (out0 (stI zs k) (bitI zs k)) _ + sgn (out1 (stI zs k) (bitI zs k)) _ + sgn (out2 (stI zs k) (bitI zs k)) _ = _
    omega
theorem sc_gain {zs : List Int} (h : Bits zs) (soft : List Int) : ∀ (c : List Int) (i : Nat), (∀ j, j < c.length → c.getD j 0 = bitI zs ((i + j : Nat) : Int)) → sc soft i (stI zs i) c = gainTo soft zs (i + c.length) - gainTo soft zs i
  | [], i, _ => by simp [sc]
  | x :: c, i, hc => by
    have h0 : x = bitI zs i := by have := hc 0 (by simp); simpa using this
    have ih := sc_gain h soft c (i + 1) (fun j hj => by
      have := hc (j + 1) (by simpa using hj)
      rw [show i + 1 + j = i + (j + 1) from by omega, ← this]
      simp)
    rw [sc, h0, stI_next h i, ih, List.length_cons, show i + 1 + c.length = i + (c.length + 1) from by omega]
    show _ = gainTo soft zs (i + (c.length + 1)) - gainTo soft zs i
    rw [show gainTo soft zs (i + 1) = gainTo soft zs i + gain soft i (stI zs i) (bitI zs i) from rfl]
    omega
/-- What the document's coded bits score is what the way scores. -/
theorem score_sc {zs : List Int} (h : Bits zs) (soft : List Int) : scoreTo (codedTo zs (zs.length + 6)) soft (3 * (zs.length + 6)) = sc soft 0 0 (zs ++ zeros6) := by
  have hs := sc_gain h soft (zs ++ zeros6) 0 (fun j hj => by
    rw [Nat.zero_add]
    unfold bitI
    rw [if_neg (by omega), Int.toNat_natCast]
    by_cases hj' : j < zs.length
    · simp only [List.getD, List.getElem?_append_left hj']
    · simp only [List.getD, List.getElem?_append_right (Nat.le_of_not_lt hj'), List.getElem?_eq_none (Nat.le_of_not_lt hj')]
      have hj6 : j - zs.length < 6 := by simp [zeros6] at hj; omega
      match j - zs.length, hj6 with
      | 0, _ | 1, _ | 2, _ | 3, _ | 4, _ | 5, _ => rfl)
  rw [stI_zero] at hs
  rw [score_gain h soft (zs.length + 6) (zs.length + 6) (Nat.le_refl _), hs]
  simp [zeros6, gainTo]
end Go.Proofs.YtplkmkbambbemadGreatDoor
namespace Go.Proofs.YtplkmkbambbemadGreatDoor
/-- The document's state of a state of the program. -/
def rev6 (S : Int) : Int := S % 2 * 32 + S / 2 % 2 * 16 + S / 4 % 2 * 8 + S / 8 % 2 * 4 + S / 16 % 2 * 2 + S / 32 % 2
/-- The word of a window. -/
def wordI (W : Int) : Int :=
  (W % 2 + W / 2 % 2 + W / 4 % 2 + W / 8 % 2 + W / 64 % 2) % 2 * 4 + (W % 2 + W / 4 % 2 + W / 8 % 2 + W / 32 % 2 + W / 64 % 2) % 2 * 2 + (W % 2 + W / 2 % 2 + W / 4 % 2 + W / 16 % 2 + W / 64 % 2) % 2
theorem wordI_bd (W : Int) : 0 ≤ wordI W ∧ wordI W < 8 := by unfold wordI; omega
theorem wordI_mod (W V : Int) (h : W % 128 = V % 128) : wordI W = wordI V := by
  have h0 : W % 2 = V % 2 := by omega
  have h1 : W / 2 % 2 = V / 2 % 2 := by omega
  have h2 : W / 4 % 2 = V / 4 % 2 := by omega
  have h3 : W / 8 % 2 = V / 8 % 2 := by omega
  have h4 : W / 16 % 2 = V / 16 % 2 := by omega
  have h5 : W / 32 % 2 = V / 32 % 2 := by omega
  have h6 : W / 64 % 2 = V / 64 % 2 := by omega
  unfold wordI
  rw [h0, h1, h2, h3, h4, h5, h6]
theorem rev_all : ∀ S : Fin 64, ∀ x : Fin 2,
    (nxt (rev6 (S.val : Int)) (x.val : Int) = rev6 ((2 * (S.val : Int) + (x.val : Int)) % 64) ∧
    out0 (rev6 (S.val : Int)) (x.val : Int) = wordI (2 * (S.val : Int) + (x.val : Int)) / 4 % 2 ∧
    out1 (rev6 (S.val : Int)) (x.val : Int) = wordI (2 * (S.val : Int) + (x.val : Int)) / 2 % 2 ∧
    out2 (rev6 (S.val : Int)) (x.val : Int) = wordI (2 * (S.val : Int) + (x.val : Int)) % 2 ∧
    wordI (2 * (S.val : Int) + 1) = 7 - wordI (2 * (S.val : Int))) := by decide +kernel
theorem rev_at (S : Nat) (hS : S < 64) (x : Nat) (hx : x < 2) :
    nxt (rev6 (S : Int)) (x : Int) = rev6 ((2 * (S : Int) + (x : Int)) % 64) ∧
    out0 (rev6 (S : Int)) (x : Int) = wordI (2 * (S : Int) + (x : Int)) / 4 % 2 ∧
    out1 (rev6 (S : Int)) (x : Int) = wordI (2 * (S : Int) + (x : Int)) / 2 % 2 ∧
    out2 (rev6 (S : Int)) (x : Int) = wordI (2 * (S : Int) + (x : Int)) % 2 ∧
    wordI (2 * (S : Int) + 1) = 7 - wordI (2 * (S : Int)) := rev_all ⟨S, hS⟩ ⟨x, hx⟩
/-- What a word scores of what is heard at the place i. -/
def gw (soft : List Int) (i : Nat) (w : Int) : Int :=
  sgn (w / 4 % 2) (soft.getD (3 * i) 0) + sgn (w / 2 % 2) (soft.getD (3 * i + 1) 0) + sgn (w % 2) (soft.getD (3 * i + 2) 0)
theorem gw_gain (soft : List Int) (i S x : Nat) (hS : S < 64) (hx : x < 2) : gw soft i (wordI (2 * (S : Int) + (x : Int))) = gain soft i (rev6 (S : Int)) (x : Int) := by
  obtain ⟨_, h0, h1, h2, _⟩ := rev_at S hS x hx
  unfold gw gain
  rw [h0, h1, h2]
/-- The best from a place and a state on, k places being left; from the place n on only 0 is said. -/
def val (soft : List Int) (n : Nat) : Nat → Nat → Int
  | 0, _ => 0
  | k + 1, S =>
    let i := n + 6 - (k + 1)
    let z := gw soft i (wordI (2 * (S : Int))) + val soft n k (2 * S % 64)
    let o := gw soft i (7 - wordI (2 * (S : Int))) + val soft n k (2 * S % 64 + 1)
    if k < 6 then z else if z < o then o else z
/-- Does only a 1 bring the most, k places being left behind this one? -/
def one (soft : List Int) (n k S : Nat) : Bool :=
  decide (gw soft (n + 6 - (k + 1)) (wordI (2 * (S : Int))) + val soft n k (2 * S % 64) < gw soft (n + 6 - (k + 1)) (7 - wordI (2 * (S : Int))) + val soft n k (2 * S % 64 + 1))
theorem rev_next0 (S : Nat) (hS : S < 64) : nxt (rev6 (S : Int)) 0 = rev6 ((2 * S % 64 : Nat) : Int) := by
  have := (rev_at S hS 0 (by omega)).1
  rw [show ((2 * S % 64 : Nat) : Int) = (2 * (S : Int) + ((0 : Nat) : Int)) % 64 by omega]
  exact this
theorem rev_next1 (S : Nat) (hS : S < 64) : nxt (rev6 (S : Int)) 1 = rev6 ((2 * S % 64 + 1 : Nat) : Int) := by
  have := (rev_at S hS 1 (by omega)).1
  rw [show ((2 * S % 64 + 1 : Nat) : Int) = (2 * (S : Int) + ((1 : Nat) : Int)) % 64 by omega]
  exact this
theorem gw_gain0 (soft : List Int) (i S : Nat) (hS : S < 64) : gw soft i (wordI (2 * (S : Int))) = gain soft i (rev6 (S : Int)) 0 := by
  have := gw_gain soft i S 0 hS (by omega)
  simpa using this
theorem gw_gain1 (soft : List Int) (i S : Nat) (hS : S < 64) : gw soft i (7 - wordI (2 * (S : Int))) = gain soft i (rev6 (S : Int)) 1 := by
  have h := gw_gain soft i S 1 hS (by omega)
  have h' := (rev_at S hS 1 (by omega)).2.2.2.2
  rw [← h']
  simpa using h
theorem val_tail (soft : List Int) (n : Nat) : ∀ k, k ≤ 6 → ∀ S, S < 64 → val soft n k S = sc soft (n + 6 - k) (rev6 (S : Int)) (List.replicate k 0)
  | 0, _, _, _ => rfl
  | k + 1, hk, S, hS => by
    rw [val]
    simp only [if_pos (show k < 6 by omega)]
    rw [gw_gain0 soft _ S hS, val_tail soft n k (by omega) _ (Nat.mod_lt _ (by omega)), List.replicate_succ, sc, rev_next0 S hS, show n + 6 - (k + 1) + 1 = n + 6 - k by omega]
theorem val_top (soft : List Int) (n : Nat) : ∀ r, r ≤ n → ∀ S, S < 64 → val soft n (r + 6) S = top soft r (n - r) (rev6 (S : Int))
  | 0, _, S, hS => by
    rw [Nat.zero_add, val_tail soft n 6 (by omega) S hS]
    show _ = sc soft (n - 0) _ zeros6
    rw [show n + 6 - 6 = n - 0 by omega]
    rfl
  | r + 1, hr, S, hS => by
    rw [show r + 1 + 6 = (r + 6) + 1 by omega, val]
    simp only [if_neg (show ¬ r + 6 < 6 by omega)]
    rw [gw_gain0 soft _ S hS, gw_gain1 soft _ S hS, val_top soft n r (by omega) _ (Nat.mod_lt _ (by omega)), val_top soft n r (by omega) _ (by omega), show n + 6 - (r + 6 + 1) = n - (r + 1) by omega]
    rw [top, rev_next0 S hS, rev_next1 S hS, show n - (r + 1) + 1 = n - r by omega]
    split <;> omega
theorem one_way (soft : List Int) (n r S : Nat) (hr : r < n) (hS : S < 64) :
    way soft (r + 1) (n - (r + 1)) (rev6 (S : Int)) = if one soft n (r + 6) S then 1 :: way soft r (n - r) (rev6 ((2 * S % 64 + 1 : Nat) : Int)) else 0 :: way soft r (n - r) (rev6 ((2 * S % 64 : Nat) : Int)) := by
  rw [way]
  unfold one
  rw [gw_gain0 soft _ S hS, gw_gain1 soft _ S hS, val_top soft n r (by omega) _ (Nat.mod_lt _ (by omega)), val_top soft n r (by omega) _ (by omega), show n + 6 - (r + 6 + 1) = n - (r + 1) by omega, rev_next0 S hS, rev_next1 S hS, show n - (r + 1) + 1 = n - r by omega]
  simp only [decide_eq_true_eq]
/-- The marks of a place: a place a state. -/
def marks (soft : List Int) (n k : Nat) : Nat → Nat
  | 0 => 0
  | S + 1 => marks soft n k S + if one soft n k S then 2 ^ S else 0
theorem marks_lt (soft : List Int) (n k : Nat) : ∀ S, marks soft n k S < 2 ^ S
  | 0 => by simp [marks]
  | S + 1 => by
    have := marks_lt soft n k S
    have h2 : 2 ^ (S + 1) = 2 ^ S + 2 ^ S := by rw [Nat.pow_succ]; omega
    unfold marks
    split <;> omega
theorem marks_or (soft : List Int) (n k S : Nat) : marks soft n k S ||| 2 ^ S = marks soft n k S + 2 ^ S := by
  have h := marks_lt soft n k S
  have := Nat.two_pow_add_eq_or_of_lt h 1
  rw [Nat.mul_one] at this
  rw [Nat.or_comm, ← this, Nat.add_comm]
theorem marks_above (soft : List Int) (n k S : Nat) : ∀ d, marks soft n k (S + d) / 2 ^ S % 2 = (marks soft n k S + if d = 0 then 0 else if one soft n k S then 2 ^ S else 0) / 2 ^ S % 2
  | 0 => by simp
  | 1 => by simp [marks]
  | d + 2 => by
    have ih := marks_above soft n k S (d + 1)
    rw [show S + (d + 2) = (S + (d + 1)) + 1 by omega, marks]
    split
    · have e : 2 ^ (S + (d + 1)) = 2 ^ S * (2 * 2 ^ d) := by rw [Nat.pow_add, Nat.pow_succ, Nat.mul_comm (2 ^ d) 2]
      rw [e, Nat.add_mul_div_left _ _ (Nat.two_pow_pos S), Nat.add_mul_mod_self_left, ih]
      simp
    · rw [Nat.add_zero, ih]
      simp
theorem marks_bit (soft : List Int) (n k S : Nat) (hS : S < 64) : marks soft n k 64 / 2 ^ S % 2 = if one soft n k S then 1 else 0 := by
  obtain ⟨d, hd⟩ : ∃ d, 64 = S + (d + 1) := ⟨63 - S, by omega⟩
  have := marks_above soft n k S (d + 1)
  rw [← hd] at this
  rw [this]
  have hl := marks_lt soft n k S
  simp only [Nat.succ_ne_zero, if_false]
  split
  · rw [Nat.add_div_right _ (Nat.two_pow_pos S), Nat.div_eq_of_lt hl]
  · rw [Nat.add_zero, Nat.div_eq_of_lt hl]
end Go.Proofs.YtplkmkbambbemadGreatDoor
namespace Go.Proofs.YtplkmkbambbemadGreatDoor
open Go.ChangeShapes Go.WideShapes Go.ChangeAt Go.RowKit
/-- How many places of a number below 128 are 1. -/
def pop (x : Nat) : Nat := x % 2 + x / 2 % 2 + x / 4 % 2 + x / 8 % 2 + x / 16 % 2 + x / 32 % 2 + x / 64 % 2
def popA (x : Int) : Int := IntKind.u64.wrap (bits .and .u64 (x / 2) 6148914691236517205 + bits .and .u64 x 6148914691236517205)
def popB (x : Int) : Int := IntKind.u64.wrap (bits .and .u64 (x / 4) 3689348814741910323 + bits .and .u64 x 3689348814741910323)
def popC (x : Int) : Int := bits .and .u64 (x / 16 + x) 1085102592571150095
def popD (x : Int) : Int := x + x / 256
def popE (x : Int) : Int := x + x / 65536
def popF (x : Int) : Int := x + x / 4294967296
theorem pop_all : ∀ x : Fin 128, bits .and .i64 (popF (popE (popD (popC (popB (popA (x.val : Int))))))) 127 = (pop x.val : Int) := by decide +kernel
theorem popA_pos : ∀ x : Fin 128, ((popA (x.val : Int)).toNat : Int) = popA (x.val : Int) ∧ (popA (x.val : Int)).toNat < 256 := by decide +kernel
theorem popB_pos : ∀ x : Fin 256, ((popB (x.val : Int)).toNat : Int) = popB (x.val : Int) ∧ (popB (x.val : Int)).toNat < 128 := by decide +kernel
theorem popC_pos : ∀ x : Fin 128, ((popC (x.val : Int)).toNat : Int) = popC (x.val : Int) ∧ (popC (x.val : Int)).toNat < 256 := by decide +kernel
theorem popD_pos : ∀ x : Fin 256, ((popD (x.val : Int)).toNat : Int) = popD (x.val : Int) ∧ (popD (x.val : Int)).toNat < 256 := by decide +kernel
theorem popE_pos : ∀ x : Fin 256, ((popE (x.val : Int)).toNat : Int) = popE (x.val : Int) ∧ (popE (x.val : Int)).toNat < 256 := by decide +kernel
theorem popF_pos : ∀ x : Fin 256, ((popF (x.val : Int)).toNat : Int) = popF (x.val : Int) ∧ (popF (x.val : Int)).toNat < 256 := by decide +kernel
set_option maxHeartbeats 400000 in
theorem ones64 (x : Nat) (hx : x < 128) (w : World) :
    Calls Tryz.prog 123 #[.int .u64 x] w fun e w' => e = .returned (.int .i64 (pop x)) ∧ w = w' := by
  have h := hid (pop_all ⟨x, hx⟩)
  obtain ⟨A, hA, lA⟩ : ∃ A : Nat, popA x = A ∧ A < 256 := ⟨_, (popA_pos ⟨x, hx⟩).1.symm, (popA_pos ⟨x, hx⟩).2⟩
  obtain ⟨B, hB, lB⟩ : ∃ B : Nat, popB A = B ∧ B < 128 := ⟨_, (popB_pos ⟨A, lA⟩).1.symm, (popB_pos ⟨A, lA⟩).2⟩
  obtain ⟨C, hC, lC⟩ : ∃ C : Nat, popC B = C ∧ C < 256 := ⟨_, (popC_pos ⟨B, lB⟩).1.symm, (popC_pos ⟨B, lB⟩).2⟩
  obtain ⟨D, hD, lD⟩ : ∃ D : Nat, popD C = D ∧ D < 256 := ⟨_, (popD_pos ⟨C, lC⟩).1.symm, (popD_pos ⟨C, lC⟩).2⟩
  obtain ⟨E, hE, lE⟩ : ∃ E : Nat, popE D = E ∧ E < 256 := ⟨_, (popE_pos ⟨D, lD⟩).1.symm, (popE_pos ⟨D, lD⟩).2⟩
  obtain ⟨F, hF, lF⟩ : ∃ F : Nat, popF E = F ∧ F < 256 := ⟨_, (popF_pos ⟨E, lE⟩).1.symm, (popF_pos ⟨E, lE⟩).2⟩
  have h2 : Hid (bits .and .i64 (F : Int) 127 = (pop x : Int)) := by
    have := h.out
    rw [hA, hB, hC, hD, hE, hF] at this
    exact this
  unfold popA at hA
  unfold popB at hB
  unfold popC at hC
  unfold popD at hD
  unfold popE at hE
  unfold popF at hF
  clear h
  go_enter Tryz.func123, Tryz.ntmps123
  go_wp2
  go_ret
  exact ⟨ret_int h2.out, rfl⟩
end Go.Proofs.YtplkmkbambbemadGreatDoor
namespace Go.Proofs.YtplkmkbambbemadGreatDoor
open Go.ChangeShapes Go.WideShapes Go.ChangeAt Go.RowKit
theorem ones (x : Nat) (hx : x < 128) (w : World) :
    Calls Tryz.prog 93 #[.int .u64 x] w fun e w' => e = .returned (.int .i64 (pop x)) ∧ w = w' := by
  go_enter Tryz.func93, Tryz.ntmps93
  go_wp2_with (go_at_call 123; refine (ones64 x hx _).mono ?_; rintro e w' ⟨rfl, rfl⟩)
  go_ret
  exact ⟨rfl, rfl⟩
theorem tap_all : ∀ r : Fin 128, ((2 * (2 * (2 * 0 + pop (r.val &&& 79) % 2) + pop (r.val &&& 109) % 2) + pop (r.val &&& 87) % 2 : Nat) : Int) = wordI (r.val : Int) := by decide +kernel
theorem and_low (V t : Nat) (ht : 127 &&& t = t) : V &&& t = (V % 128) &&& t := by
  have e : V % 128 = V &&& 127 := (nat_mask7 V).symm
  rw [e, Nat.and_assoc, ht]
def tapV (k : Nat) : Nat := if k = 0 then 79 else if k = 1 then 109 else 87
/-- What word has made of the window behind k taps. -/
def accW (V : Nat) : Nat → Nat
  | 0 => 0
  | k + 1 => 2 * accW V k + pop (V &&& tapV k) % 2
theorem accW_bd (V : Nat) : ∀ k, accW V k < 2 ^ k
  | 0 => by simp [accW]
  | k + 1 => by
    have := accW_bd V k
    rw [accW, Nat.pow_succ]
    omega
theorem accW_word (V : Nat) : ((accW V 3 : Nat) : Int) = wordI (V : Int) := by
  have h := tap_all ⟨V % 128, Nat.mod_lt _ (by omega)⟩
  have e0 : accW V 3 = 2 * (2 * (2 * 0 + pop (V &&& 79) % 2) + pop (V &&& 109) % 2) + pop (V &&& 87) % 2 := rfl
  rw [e0, and_low V 79 (by decide), and_low V 109 (by decide), and_low V 87 (by decide), wordI_mod (V : Int) ((V % 128 : Nat) : Int) (by omega)]
  exact h
/-- The table of taps lies where it was laid. -/
def Taps (w : World) : Prop := ∃ T fr, w.heap[0]? = some (.cells #[.int .u64 79, .int .u64 109, .int .u64 87] T fr)
theorem Taps.cells {w : World} (h : Taps w) : w.cell? ⟨0, 0, none⟩ = some (.int .u64 79) ∧ w.cell? ⟨0, 1, none⟩ = some (.int .u64 109) ∧ w.cell? ⟨0, 2, none⟩ = some (.int .u64 87) := by
  obtain ⟨T, fr, h⟩ := h
  exact ⟨by rw [cell_of_row w 0 0 _ T fr h]; rfl, by rw [cell_of_row w 0 1 _ T fr h]; rfl, by rw [cell_of_row w 0 2 _ T fr h]; rfl⟩
theorem orw_all : ∀ a : Fin 4, ∀ b : Fin 2, bits .or .u64 ((a.val : Int) * 2) (b.val : Int) = ((2 * a.val + b.val : Nat) : Int) := by decide +kernel
theorem and1_all : ∀ p : Fin 128, bits .and .i64 ((pop p.val : Nat) : Int) 1 = ((pop p.val % 2 : Nat) : Int) := by decide +kernel
theorem step_word (V k : Nat) (hk : k < 3) : bits .and .i64 ((pop (V &&& tapV k) : Nat) : Int) 1 = ((pop (V &&& tapV k) % 2 : Nat) : Int) ∧
    bits .or .u64 ((accW V k : Int) * 2) (((pop (V &&& tapV k) : Nat) : Int) % 2) = ((accW V (k + 1) : Nat) : Int) ∧ accW V k < 4 := by
  have hb := accW_bd V k
  have h4 : accW V k < 4 := by
    have : 2 ^ k ≤ 2 ^ 2 := Nat.pow_le_pow_right (by omega) (by omega)
    omega
  have hl : V &&& tapV k < 128 := Nat.lt_of_le_of_lt Nat.and_le_right (by unfold tapV; split <;> (try split) <;> omega)
  exact ⟨and1_all ⟨_, hl⟩, orw_all ⟨_, h4⟩ ⟨_, Nat.mod_lt _ (by omega)⟩, h4⟩
set_option maxHeartbeats 1000000 in
theorem word_any (V : Nat) (hV : V < 18446744073709551616) (w : World) (hT : Taps w) :
    Calls Tryz.prog 44 #[.int .u64 V] w fun e w' => e = .returned (.int .u64 (wordI V)) ∧ w = w' := by
  obtain ⟨c0, c1, c2⟩ := hT.cells
  have HW := hid (accW_word V)
  go_enter Tryz.func44, Tryz.ntmps44
  go_wp2
  go_loop [3, 7] (fun a q => ∃ k : Nat, k ≤ 3 ∧ q = .int .i64 k ∧ a = .int .u64 (accW V k)) (fun _ q => 3 - (intOf q).toNat)
  case atStart => exact ⟨0, by omega, rfl, rfl⟩
  case round =>
    obtain ⟨k, hk, rfl, rfl⟩ := hrel
    rcases (show k = 0 ∨ k = 1 ∨ k = 2 ∨ k = 3 by omega) with rfl | rfl | rfl | rfl
    · have f1 : bits .and .u64 (V : Int) 79 = ((V &&& 79 : Nat) : Int) := u64_and_nat V 79 hV (by omega)
      have l1 : V &&& 79 < 128 := Nat.lt_of_le_of_lt Nat.and_le_right (by omega)
      have f2 := step_word V 0 (by omega)
      rw [show tapV 0 = 79 from rfl] at f2
      obtain ⟨f2, f3, l3⟩ := f2
      have F3 := hid f3
      clear f3
      generalize V &&& 79 = X at *
      generalize accW V 0 = a0 at *
      go_wp2_with (first | (go_at_call 93; refine (ones X l1 _).mono ?_; rintro e w' ⟨rfl, rfl⟩) | (refine wpList_index rfl 142 (.tmp 6) (.tmp 7) rfl 83 #[.int .u64 79, .int .u64 109, .int .u64 87] 3 0 (.int .u64 79) _ .i64 rfl rfl Tryz.underlying142 Tryz.underlying83 rfl (by kernel_rfl) (by omega) rfl ?_))
      go_round
      case rel => exact ⟨0 + 1, by omega, by go_num, congrArg (Value.int .u64) F3.out⟩
      case measure => simp [intOf]
    · have f1 : bits .and .u64 (V : Int) 109 = ((V &&& 109 : Nat) : Int) := u64_and_nat V 109 hV (by omega)
      have l1 : V &&& 109 < 128 := Nat.lt_of_le_of_lt Nat.and_le_right (by omega)
      have f2 := step_word V 1 (by omega)
      rw [show tapV 1 = 109 from rfl] at f2
      obtain ⟨f2, f3, l3⟩ := f2
      have F3 := hid f3
      clear f3
      generalize V &&& 109 = X at *
      generalize accW V 1 = a0 at *
      go_wp2_with (first | (go_at_call 93; refine (ones X l1 _).mono ?_; rintro e w' ⟨rfl, rfl⟩) | (refine wpList_index rfl 142 (.tmp 6) (.tmp 7) rfl 83 #[.int .u64 79, .int .u64 109, .int .u64 87] 3 1 (.int .u64 109) _ .i64 rfl rfl Tryz.underlying142 Tryz.underlying83 rfl (by kernel_rfl) (by omega) rfl ?_))
      go_round
      case rel => exact ⟨1 + 1, by omega, by go_num, congrArg (Value.int .u64) F3.out⟩
      case measure => simp [intOf]
    · have f1 : bits .and .u64 (V : Int) 87 = ((V &&& 87 : Nat) : Int) := u64_and_nat V 87 hV (by omega)
      have l1 : V &&& 87 < 128 := Nat.lt_of_le_of_lt Nat.and_le_right (by omega)
      have f2 := step_word V 2 (by omega)
      rw [show tapV 2 = 87 from rfl] at f2
      obtain ⟨f2, f3, l3⟩ := f2
      have F3 := hid f3
      clear f3
      generalize V &&& 87 = X at *
      generalize accW V 2 = a0 at *
      go_wp2_with (first | (go_at_call 93; refine (ones X l1 _).mono ?_; rintro e w' ⟨rfl, rfl⟩) | (refine wpList_index rfl 142 (.tmp 6) (.tmp 7) rfl 83 #[.int .u64 79, .int .u64 109, .int .u64 87] 3 2 (.int .u64 87) _ .i64 rfl rfl Tryz.underlying142 Tryz.underlying83 rfl (by kernel_rfl) (by omega) rfl ?_))
      go_round
      case rel => exact ⟨2 + 1, by omega, by go_num, congrArg (Value.int .u64) F3.out⟩
      case measure => simp [intOf]
    · go_wp2
      go_ret
      exact ⟨ret_int HW.out, rfl⟩
end Go.Proofs.YtplkmkbambbemadGreatDoor
namespace Go.Proofs.YtplkmkbambbemadGreatDoor
open Go.ChangeShapes Go.WideShapes Go.ChangeAt Go.RowKit
/-- A row that is filled from its head on. -/
def fillE (L : List Int) (k : Nat) : List Int := L.take k ++ List.replicate (L.length - k) 0
theorem fillE_zero (L : List Int) : fillE L 0 = List.replicate L.length 0 := by simp [fillE]
theorem fillE_all (L : List Int) : fillE L L.length = L := by simp [fillE]
theorem fillE_length (L : List Int) (k : Nat) (h : k ≤ L.length) : (fillE L k).length = L.length := by simp [fillE]; omega
theorem fillE_set (L : List Int) (k : Nat) (h : k < L.length) (x : Int) (hx : x = L.getD k 0) : (fillE L k).set k x = fillE L (k + 1) := by
  unfold fillE
  obtain ⟨m, hm⟩ : ∃ m, L.length - k = m + 1 := ⟨L.length - k - 1, by omega⟩
  rw [hm, set_fill _ k m x (by simp; omega), show L.length - (k + 1) = m by omega, hx]
  congr 1
  rw [List.take_add_one]
  simp [List.getD, h]
theorem seven (x0 x1 x2 x3 x4 x5 x6 : Int) (h0 : 0 ≤ x0 ∧ x0 ≤ 1) (h1 : 0 ≤ x1 ∧ x1 ≤ 1) (h2 : 0 ≤ x2 ∧ x2 ≤ 1) (h3 : 0 ≤ x3 ∧ x3 ≤ 1) (h4 : 0 ≤ x4 ∧ x4 ≤ 1) (h5 : 0 ≤ x5 ∧ x5 ≤ 1) (h6 : 0 ≤ x6 ∧ x6 ≤ 1) :
    (x6 * 64 + x5 * 32 + x4 * 16 + x3 * 8 + x2 * 4 + x1 * 2 + x0) % 2 = x0 ∧ (x6 * 64 + x5 * 32 + x4 * 16 + x3 * 8 + x2 * 4 + x1 * 2 + x0) / 2 % 2 = x1 ∧ (x6 * 64 + x5 * 32 + x4 * 16 + x3 * 8 + x2 * 4 + x1 * 2 + x0) / 4 % 2 = x2 ∧
    (x6 * 64 + x5 * 32 + x4 * 16 + x3 * 8 + x2 * 4 + x1 * 2 + x0) / 8 % 2 = x3 ∧ (x6 * 64 + x5 * 32 + x4 * 16 + x3 * 8 + x2 * 4 + x1 * 2 + x0) / 16 % 2 = x4 ∧ (x6 * 64 + x5 * 32 + x4 * 16 + x3 * 8 + x2 * 4 + x1 * 2 + x0) / 32 % 2 = x5 ∧
    (x6 * 64 + x5 * 32 + x4 * 16 + x3 * 8 + x2 * 4 + x1 * 2 + x0) / 64 % 2 = x6 := by omega
/-- Twice the state at the place i, the newest bit lowest. -/
def preI (zs : List Int) (i : Nat) : Int :=
  bitI zs ((i : Int) - 6) * 64 + bitI zs ((i : Int) - 5) * 32 + bitI zs ((i : Int) - 4) * 16 + bitI zs ((i : Int) - 3) * 8 + bitI zs ((i : Int) - 2) * 4 + bitI zs ((i : Int) - 1) * 2
theorem preI_bd {zs : List Int} (h : Bits zs) (i : Nat) : 0 ≤ preI zs i ∧ preI zs i < 128 := by
  have h1 := bitI_bd h ((i : Int) - 1)
  have h2 := bitI_bd h ((i : Int) - 2)
  have h3 := bitI_bd h ((i : Int) - 3)
  have h4 := bitI_bd h ((i : Int) - 4)
  have h5 := bitI_bd h ((i : Int) - 5)
  have h6 := bitI_bd h ((i : Int) - 6)
  unfold preI
  omega
theorem preI_zero (zs : List Int) : preI zs 0 = 0 := by simp [preI, bitI]
theorem preI_next {zs : List Int} (h : Bits zs) (i : Nat) : preI zs (i + 1) = 2 * ((preI zs i + bitI zs i) % 64) := by
  have e : ∀ k : Nat, bitI zs (((i + 1 : Nat) : Int) - ((k + 1 : Nat) : Int)) = bitI zs ((i : Int) - (k : Int)) := fun k => by congr 1; omega
  have e0 := e 0
  have e1 := e 1
  have e2 := e 2
  have e3 := e 3
  have e4 := e 4
  have e5 := e 5
  simp only [Nat.zero_add, Nat.reduceAdd, Int.cast_ofNat_Int, Int.sub_zero] at e0 e1 e2 e3 e4 e5
  have h0 := bitI_bd h (i : Int)
  have h1 := bitI_bd h ((i : Int) - 1)
  have h2 := bitI_bd h ((i : Int) - 2)
  have h3 := bitI_bd h ((i : Int) - 3)
  have h4 := bitI_bd h ((i : Int) - 4)
  have h5 := bitI_bd h ((i : Int) - 5)
  have h6 := bitI_bd h ((i : Int) - 6)
  unfold preI
  rw [e1, e2, e3, e4, e5]
  have e0' : bitI zs (((i + 1 : Nat) : Int) - 1) = bitI zs i := e0
  rw [e0']
  omega
/-- The three coded bits of a place are the word of its window. -/
theorem trip_word {zs : List Int} (h : Bits zs) (i : Nat) (V : Int) (hV : V % 128 = preI zs i + bitI zs i) : trip zs i = [wordI V / 4 % 2, wordI V / 2 % 2, wordI V % 2] := by
  have h0 := bitI_bd h (i : Int)
  have h1 := bitI_bd h ((i : Int) - 1)
  have h2 := bitI_bd h ((i : Int) - 2)
  have h3 := bitI_bd h ((i : Int) - 3)
  have h4 := bitI_bd h ((i : Int) - 4)
  have h5 := bitI_bd h ((i : Int) - 5)
  have h6 := bitI_bd h ((i : Int) - 6)
  have hp := preI_bd h i
  rw [wordI_mod V (preI zs i + bitI zs i) (by omega)]
  obtain ⟨p0, p1, p2, p3, p4, p5, p6⟩ := seven _ _ _ _ _ _ _ h0 h1 h2 h3 h4 h5 h6
  unfold preI wordI trip
  rw [p0, p1, p2, p3, p4, p5, p6]
  generalize bitI zs (i : Int) = x0 at *
  generalize bitI zs ((i : Int) - 1) = x1 at *
  generalize bitI zs ((i : Int) - 2) = x2 at *
  generalize bitI zs ((i : Int) - 3) = x3 at *
  generalize bitI zs ((i : Int) - 4) = x4 at *
  generalize bitI zs ((i : Int) - 5) = x5 at *
  generalize bitI zs ((i : Int) - 6) = x6 at *
  clear p0 p1 p2 p3 p4 p5 p6 hp hV
  have q0 := Int.emod_two_eq (x0 + x1 + x2 + x3 + x6)
  have q1 := Int.emod_two_eq (x0 + x2 + x3 + x5 + x6)
  have q2 := Int.emod_two_eq (x0 + x1 + x2 + x4 + x6)
  generalize (x0 + x1 + x2 + x3 + x6) % 2 = y0 at *
  generalize (x0 + x2 + x3 + x5 + x6) % 2 = y1 at *
  generalize (x0 + x1 + x2 + x4 + x6) % 2 = y2 at *
  rcases q0 with rfl | rfl <;> rcases q1 with rfl | rfl <;> rcases q2 with rfl | rfl <;> rfl
theorem win_next {zs : List Int} (h : Bits zs) (i : Nat) (V : Int) (hV : V % 128 = preI zs i + bitI zs i) : 2 * V % 128 = preI zs (i + 1) := by
  rw [preI_next h i, ← hV]
  omega
/-- What is wrong with bits that are to be coded. -/
def encErr (zs : List Int) : Int := if errOf zs = 0 then (if 400 < zs.length then 2 else 0) else errOf zs
def encL (zs : List Int) : List Int := if encErr zs = 0 then codedTo zs (zs.length + 6) else []
theorem codedTo_trip (zs : List Int) (K i : Nat) (hi : i < K) (j : Nat) (hj : j < 3) : (codedTo zs K).getD (3 * i + j) 0 = (trip zs i).getD j 0 := codedTo_at zs K i j hi hj
theorem codedTo_trip0 (zs : List Int) (K i : Nat) (hi : i < K) : (codedTo zs K).getD (3 * i) 0 = (trip zs i).getD 0 0 := codedTo_at zs K i 0 hi (by omega)
end Go.Proofs.YtplkmkbambbemadGreatDoor
