import Derived.Test.YtplkmkbambbemadGreatDoorK01
import Derived.Test.YtplkmkbambbemadGreatDoorK17
import Derived.Test.YtplkmkbambbemadGreatDoorK19
import Derived.Test.YtplkmkbambbemadGreatDoorK02
import Derived.Deep.MidRow
namespace Go.Proofs.YtplkmkbambbemadGreatDoor
/-- A beginning of i bits; 0 from the place n on. -/
structure Valid (n i : Nat) (p : List Int) : Prop where
  len : p.length = i
  bits : AllBits p
  zero : ∀ j, n ≤ j → p.getD j 0 = 0
/-- Of those that meet S, (b, q) is the best: it scores q, none more, and of several it comes first. -/
structure BestIn (F : List Int → Int) (n : Nat) (S : List Int → Prop) (b : List Int) (q : Int) : Prop where
  here : ∃ p, S p ∧ p.take n = b ∧ F p = q
  most : ∀ p, S p → F p < q ∨ (F p = q ∧ ahead (p.take n) b = false)
/-- What an entry says of those that meet S. -/
def Ent (F : List Int → Int) (n : Nat) (S : List Int → Prop) (t : Bool) (b : List Int) (q : Int) : Prop := (t = false → ∀ p, ¬ S p) ∧ (t = true → BestIn F n S b q)
theorem ent_congr {F : List Int → Int} {n : Nat} {S S' : List Int → Prop} {t : Bool} {b : List Int} {q : Int} (h : ∀ p, S p ↔ S' p) (e : Ent F n S t b q) : Ent F n S' t b q := by
  have : S = S' := funext fun p => propext (h p)
  rwa [← this]
theorem ahead_asymm : ∀ (a b : List Int), ahead a b = true → ahead b a = false
  | [], _, h => by simp [ahead] at h
  | _ :: _, [], h => by simp [ahead] at h
  | x :: a, y :: b, h => by
    simp only [ahead] at h ⊢
    by_cases e : x = y
    · subst e
      simp only [if_true] at h ⊢
      exact ahead_asymm a b h
    · rw [if_neg e] at h
      rw [if_neg (fun h => e h.symm)]
      simp at h ⊢
      omega
/-- Is a new candidate taken? -/
def taken (t : Bool) (q q' : Int) (b b' : List Int) : Bool := !t || decide (q < q') || (decide (q' = q) && ahead b' b)
theorem ent_take {F : List Int → Int} {n m : Nat} {S S' : List Int → Prop} {t : Bool} {b b' : List Int} {q q' : Int} (hl : ∀ p, S p ∨ S' p → (p.take n).length = m) (e : Ent F n S t b q) (c : BestIn F n S' b' q') (h : taken t q q' b b' = true) :
    Ent F n (fun p => S p ∨ S' p) true b' q' := by
  refine ⟨fun h => by simp at h, fun _ => ?_⟩
  obtain ⟨p', hp', hb', hq'⟩ := c.here
  refine ⟨⟨p', .inr hp', hb', hq'⟩, fun p hp => ?_⟩
  rcases hp with hp | hp
  · cases t with
    | false => exact absurd hp (e.1 rfl p)
    | true =>
      obtain ⟨p0, hp0, hb0, hq0⟩ := (e.2 rfl).here
      have lb : b.length = m := by rw [← hb0]; exact hl p0 (.inl hp0)
      have lb' : b'.length = m := by rw [← hb']; exact hl p' (.inr hp')
      have lp := hl p (.inl hp)
      unfold taken at h
      simp at h
      rcases (e.2 rfl).most p hp with h1 | ⟨h1, h2⟩
      · rcases h with h | ⟨h, _⟩ <;> (left; omega)
      · rcases h with h | ⟨h, h3⟩
        · left; omega
        · right
          refine ⟨by omega, ?_⟩
          exact ahead_trans _ _ _ (by omega) (by omega) h2 (ahead_asymm _ _ h3)
  · exact c.most p hp
theorem ent_keep {F : List Int → Int} {n m : Nat} {S S' : List Int → Prop} {t : Bool} {b b' : List Int} {q q' : Int} (hl : ∀ p, S p ∨ S' p → (p.take n).length = m) (e : Ent F n S t b q) (c : BestIn F n S' b' q') (h : taken t q q' b b' = false) :
    Ent F n (fun p => S p ∨ S' p) t b q := by
  unfold taken at h
  simp at h
  obtain ⟨⟨ht, h1⟩, h2⟩ := h
  subst ht
  refine ⟨fun h => by simp at h, fun _ => ?_⟩
  obtain ⟨p0, hp0, hb0, hq0⟩ := (e.2 rfl).here
  obtain ⟨p', hp', hb', hq'⟩ := c.here
  have lb : b.length = m := by rw [← hb0]; exact hl p0 (.inl hp0)
  have lb' : b'.length = m := by rw [← hb']; exact hl p' (.inr hp')
  refine ⟨⟨p0, .inl hp0, hb0, hq0⟩, fun p hp => ?_⟩
  rcases hp with hp | hp
  · exact (e.2 rfl).most p hp
  · have lp := hl p (.inr hp)
    rcases c.most p hp with h3 | ⟨h3, h4⟩
    · left; omega
    · by_cases he : q' = q
      · right
        exact ⟨by omega, ahead_trans _ _ _ (by omega) (by omega) h4 (h2 he)⟩
      · left; omega
/-- The beginnings that end in a state. -/
def At (n i : Nat) (s : Int) (p : List Int) : Prop := Valid n i p ∧ ends 0 p = s
/-- One bit more, from a state. -/
def From (n i : Nat) (s x : Int) (p : List Int) : Prop := ∃ p0, At n i s p0 ∧ p = p0 ++ [x]
theorem take_snoc_lt {p : List Int} {n i : Nat} (hp : p.length = i) (h : i < n) (x : Int) : (p ++ [x]).take n = p.take n ++ [x] := by
  rw [List.take_of_length_le (by simp; omega), List.take_of_length_le (by omega)]
theorem take_snoc_ge {p : List Int} {n i : Nat} (hp : p.length = i) (h : n ≤ i) (x : Int) : (p ++ [x]).take n = p.take n := by
  rw [List.take_append_of_le_length (by omega)]
/-- The best of one bit more: the best, and that bit. -/
theorem from_best {soft : List Int} {n i : Nat} {s x : Int} {b : List Int} {q : Int} (c : BestIn (sc soft 0 0) n (At n i s) b q) :
    BestIn (sc soft 0 0) n (From n i s x) (if i < n then b ++ [x] else b) (q + gain soft i s x) := by
  have hF : ∀ p0, At n i s p0 → sc soft 0 0 (p0 ++ [x]) = sc soft 0 0 p0 + gain soft i s x := fun p0 h => by
    rw [sc_append, h.1.len, h.2, Nat.zero_add]
    simp [sc]
  obtain ⟨p, hp, hb, hq⟩ := c.here
  refine ⟨⟨p ++ [x], ⟨p, hp, rfl⟩, ?_, by rw [hF p hp, hq]⟩, ?_⟩
  · by_cases hi : i < n
    · rw [if_pos hi, take_snoc_lt hp.1.len hi, hb]
    · rw [if_neg hi, take_snoc_ge hp.1.len (by omega), hb]
  · rintro p' ⟨p0, hp0, rfl⟩
    rw [hF p0 hp0]
    have l0 : (p0.take n).length = b.length := by rw [← hb, List.length_take, List.length_take, hp0.1.len, hp.1.len]
    rcases c.most p0 hp0 with h | ⟨h, h'⟩
    · left; omega
    · right
      refine ⟨by omega, ?_⟩
      by_cases hi : i < n
      · rw [if_pos hi, take_snoc_lt hp0.1.len hi, ahead_snoc _ _ _ l0]; exact h'
      · rw [if_neg hi, take_snoc_ge hp0.1.len (by omega)]; exact h'
/-- What has come to a state when the pairs (s, x) with 2 s + x below M are done. -/
def Sofar (n i : Nat) (M : Int) (tq : Int) (p : List Int) : Prop := ∃ p0 x, p = p0 ++ [x] ∧ Valid n i p0 ∧ Valid n (i + 1) p ∧ nxt (ends 0 p0) x = tq ∧ 2 * ends 0 p0 + x < M
theorem valid_snoc {n i : Nat} {p : List Int} {x : Int} (h : Valid n i p) (hx : 0 ≤ x ∧ x ≤ 1) (hz : n ≤ i → x = 0) : Valid n (i + 1) (p ++ [x]) := by
  refine ⟨by simp [h.len], ?_, fun j hj => ?_⟩
  · intro y hy
    rcases List.mem_append.1 hy with hy | hy
    · exact h.bits y hy
    · simp at hy; subst hy; exact hx
  · by_cases h1 : j < i
    · have := h.zero j hj
      simp only [List.getD, List.getElem?_append_left (show j < p.length by rw [h.len]; exact h1)]
      exact this
    · by_cases h2 : j = i
      · subst h2
        simp only [List.getD, List.getElem?_append_right (show p.length ≤ j by rw [h.len]; omega), h.len, Nat.sub_self]
        simp [hz hj]
      · simp only [List.getD]
        rw [List.getElem?_eq_none (by simp [h.len]; omega)]
        rfl
theorem valid_parts {n i : Nat} {p : List Int} {x : Int} (h : Valid n (i + 1) (p ++ [x])) : Valid n i p ∧ (0 ≤ x ∧ x ≤ 1) ∧ (n ≤ i → x = 0) := by
  have hl : p.length = i := by have := h.len; simpa using this
  refine ⟨⟨hl, fun y hy => h.bits y (by simp [hy]), fun j hj => ?_⟩, h.bits x (by simp), fun hn => ?_⟩
  · by_cases h1 : j < p.length
    · have := h.zero j hj
      simp only [List.getD, List.getElem?_append_left h1] at this
      exact this
    · simp [List.getD, Nat.le_of_not_lt h1]
  · have := h.zero i hn
    simp only [List.getD, List.getElem?_append_right (show p.length ≤ i by omega), hl, Nat.sub_self] at this
    simpa using this
/-- The pair (s, x) is done. -/
theorem sofar_step {n i : Nat} {s x : Int} (hx : 0 ≤ x ∧ x ≤ 1) (hz : n ≤ i → x = 0) (tq : Int) (p : List Int) :
    Sofar n i (2 * s + x + 1) tq p ↔ (Sofar n i (2 * s + x) tq p ∨ (nxt s x = tq ∧ From n i s x p)) := by
  constructor
  · rintro ⟨p0, y, rfl, h1, h2, h3, h4⟩
    have hy := (valid_parts h2).2.1
    by_cases h5 : 2 * ends 0 p0 + y < 2 * s + x
    · exact .inl ⟨p0, y, rfl, h1, h2, h3, h5⟩
    · have e1 : ends 0 p0 = s := by omega
      have e2 : y = x := by omega
      subst e2
      exact .inr ⟨by rw [← e1]; exact h3, p0, ⟨h1, e1⟩, rfl⟩
  · rintro (⟨p0, y, rfl, h1, h2, h3, h4⟩ | ⟨h3, p0, h1, rfl⟩)
    · exact ⟨p0, y, rfl, h1, h2, h3, by omega⟩
    · refine ⟨p0, x, rfl, h1.1, valid_snoc h1.1 hx hz, ?_, ?_⟩
      · rw [h1.2]; exact h3
      · rw [h1.2]; omega
/-- A pair that brings nothing: no beginning ends in s, or the bit may not be 1 any more. -/
theorem sofar_idle {n i : Nat} {s x : Int} (hx : 0 ≤ x ∧ x ≤ 1) (h : (∀ p, ¬ At n i s p) ∨ (n ≤ i ∧ x = 1)) (tq : Int) (p : List Int) : Sofar n i (2 * s + x + 1) tq p ↔ Sofar n i (2 * s + x) tq p := by
  constructor
  · rintro ⟨p0, y, rfl, h1, h2, h3, h4⟩
    have hy := (valid_parts h2).2
    refine ⟨p0, y, rfl, h1, h2, h3, ?_⟩
    by_cases h5 : 2 * ends 0 p0 + y < 2 * s + x
    · exact h5
    · exfalso
      rcases h with h | ⟨h, h'⟩
      · by_cases e1 : ends 0 p0 = s
        · exact h p0 ⟨h1, e1⟩
        · omega
      · have := hy.2 h
        omega
  · rintro ⟨p0, y, rfl, h1, h2, h3, h4⟩
    exact ⟨p0, y, rfl, h1, h2, h3, by omega⟩
theorem sofar_none (n i : Nat) (tq : Int) (p : List Int) : ¬ Sofar n i 0 tq p := by
  rintro ⟨p0, y, rfl, h1, h2, h3, h4⟩
  have hy := (valid_parts h2).2.1
  have := ends_bd p0 h1.bits 0 (by omega)
  omega
theorem sofar_all (n i : Nat) (tq : Int) (p : List Int) : Sofar n i 128 tq p ↔ At n (i + 1) tq p := by
  constructor
  · rintro ⟨p0, y, rfl, h1, h2, h3, h4⟩
    exact ⟨h2, by rw [ends_append]; exact h3⟩
  · rintro ⟨h1, h2⟩
    obtain ⟨p0, y, rfl⟩ : ∃ p0 y, p = p0 ++ [y] := by
      have hne : p ≠ [] := by intro e; have := h1.len; rw [e] at this; simp at this
      exact ⟨p.dropLast, p.getLast hne, (List.dropLast_concat_getLast hne).symm⟩
    have hp := valid_parts h1
    have hb := ends_bd p0 hp.1.bits 0 (by omega)
    refine ⟨p0, y, rfl, hp.1, h1, ?_, by omega⟩
    rw [← h2, ends_append]
    rfl
theorem take_len {n i : Nat} {M tq : Int} {p : List Int} (h : Sofar n i M tq p) : (p.take n).length = min n (i + 1) := by
  obtain ⟨p0, y, rfl, _, h2, _⟩ := h
  rw [List.length_take, h2.len]
theorem at_zero (n : Nat) (s : Int) (p : List Int) : At n 0 s p ↔ (p = [] ∧ s = 0) := by
  constructor
  · rintro ⟨h1, h2⟩
    have : p = [] := List.eq_nil_of_length_eq_zero h1.len
    subst this
    exact ⟨rfl, h2.symm⟩
  · rintro ⟨rfl, rfl⟩
    exact ⟨⟨rfl, by intro x hx; simp at hx, by simp⟩, rfl⟩
theorem zeros6_get (r : Nat) (h : r < zeros6.length) : zeros6[r] = 0 := by
  match r, h with
  | 0, _ | 1, _ | 2, _ | 3, _ | 4, _ | 5, _ => rfl
/-- The last entry of the state 0 is what is decoded. -/
theorem last_best {soft : List Int} {n : Nat} {b : List Int} {q : Int} (c : BestIn (sc soft 0 0) n (At n (n + 6) 0) b q) : b = way soft n 0 0 ∧ q = top soft n 0 0 := by
  have hv : ∀ o, o.length = n → AllBits o → At n (n + 6) 0 (o ++ zeros6) := fun o ho hb => by
    refine ⟨⟨by simp [zeros6, ho], ?_, fun j hj => ?_⟩, ?_⟩
    · intro y hy
      rcases List.mem_append.1 hy with hy | hy
      · exact hb y hy
      · simp [zeros6] at hy; omega
    · simp only [List.getD, List.getElem?_append_right (show o.length ≤ j by omega)]
      by_cases h6 : j - o.length < 6
      · match j - o.length, h6 with
        | 0, _ | 1, _ | 2, _ | 3, _ | 4, _ | 5, _ => rfl
      · rw [List.getElem?_eq_none (by simp [zeros6]; omega)]; rfl
    · rw [ends_append]
      have he := ends_bd o hb 0 (by omega)
      simp only [zeros6, ends, nxt]
      omega
  have hs : ∀ p, At n (n + 6) 0 p → p = p.take n ++ zeros6 := fun p hp => by
    refine List.ext_getElem (by simp [zeros6, hp.1.len]) fun j h1 h2 => ?_
    by_cases hj : j < n
    · rw [List.getElem_append_left (by rw [List.length_take, hp.1.len]; omega)]
      simp
    · have h0 := hp.1.zero j (by omega)
      have e : p.getD j 0 = p[j] := by simp [List.getD, h1]
      rw [← e, h0, List.getElem_append_right (by rw [List.length_take, hp.1.len]; omega)]
      exact (zeros6_get _ _).symm
  obtain ⟨p, hp, hb, hq⟩ := c.here
  have hpb := hs p hp
  rw [hb] at hpb
  have hbest : Best (fun o => sc soft 0 0 (o ++ zeros6)) n b := by
    refine ⟨by rw [← hb, List.length_take, hp.1.len]; omega, fun y hy => hp.1.bits y (by rw [← hb] at hy; exact List.mem_of_mem_take hy), fun o ho hob => ?_⟩
    have := c.most _ (hv o ho hob)
    rw [List.take_left' ho, ← hq, hpb] at this
    exact this
  have hw := best_one hbest (way_best soft n 0 0)
  refine ⟨hw, ?_⟩
  rw [← hq, hpb, hw, way_top]
end Go.Proofs.YtplkmkbambbemadGreatDoor
namespace Go.Proofs.YtplkmkbambbemadGreatDoor
open Go.ChangeShapes Go.WideShapes Go.ChangeAt Go.RowKit
theorem Tryz.info166 : (Tryz.prog.info? 166).map (fun i => (i.zero, i.size, i.bytes)) = some (some (.agg #[.slice none 0 0, .int .i64 0, .bool false]), 3, 40) := by kernel_rfl
/-- The cells of 64 ways. -/
def rowC (vv : Nat → Value) (qq : Nat → Int) (tt : Nat → Bool) : List Value := (List.range 64).flatMap fun s => [vv s, .int .i64 (qq s), .bool (tt s)]
def Row (w : World) (g : Nat) (vv : Nat → Value) (qq : Nat → Int) (tt : Nat → Bool) : Prop := w.heap[g]? = some (.cells (rowC vv qq tt).toArray 166 (0, 0))
theorem flat_len (f : Nat → List Value) (hf : ∀ s, (f s).length = 3) (N : Nat) : ((List.range N).flatMap f).length = 3 * N := by
  rw [List.length_flatMap]
  have : (List.map (fun a => (f a).length) (List.range N)) = List.replicate N 3 := by
    rw [List.eq_replicate_iff]
    refine ⟨by simp, fun x hx => ?_⟩
    obtain ⟨y, _, rfl⟩ := List.mem_map.1 hx
    exact hf y
  rw [this]
  simp
  omega
theorem rowC_length (vv : Nat → Value) (qq : Nat → Int) (tt : Nat → Bool) : (rowC vv qq tt).length = 192 := flat_len _ (fun _ => rfl) 64
theorem flat_get (f : Nat → List Value) (hf : ∀ s, (f s).length = 3) : ∀ (N s r : Nat), s < N → r < 3 → ((List.range N).flatMap f)[3 * s + r]? = (f s)[r]?
  | 0, s, r, h, _ => by omega
  | N + 1, s, r, h, hr => by
    rw [List.range_succ, List.flatMap_append]
    have hl := flat_len f hf N
    by_cases hs : s < N
    · rw [List.getElem?_append_left (by omega)]
      exact flat_get f hf N s r hs hr
    · obtain rfl : s = N := by omega
      rw [List.getElem?_append_right (by omega), hl, show 3 * s + r - 3 * s = r from by omega]
      simp
theorem Row.cell {w : World} {g : Nat} {vv : Nat → Value} {qq : Nat → Int} {tt : Nat → Bool} (h : Row w g vv qq tt) {s : Nat} (hs : s < 64) :
    w.cell? ⟨g, 3 * s, none⟩ = some (vv s) ∧ w.cell? ⟨g, 3 * s + 1, none⟩ = some (.int .i64 (qq s)) ∧ w.cell? ⟨g, 3 * s + 2, none⟩ = some (.bool (tt s)) := by
  have e : ∀ r, r < 3 → (rowC vv qq tt)[3 * s + r]? = ([vv s, .int .i64 (qq s), .bool (tt s)] : List Value)[r]? := fun r hr => flat_get _ (fun _ => rfl) 64 s r hs hr
  refine ⟨?_, ?_, ?_⟩
  · rw [cell_of_row w g _ _ 166 (0, 0) h]
    have := e 0 (by omega)
    simpa using this
  · rw [cell_of_row w g _ _ 166 (0, 0) h]
    have := e 1 (by omega)
    simpa using this
  · rw [cell_of_row w g _ _ 166 (0, 0) h]
    have := e 2 (by omega)
    simpa using this
theorem made_ways : (madeCells (Value.cells (.agg #[.slice none 0 0, .int .i64 0, .bool false])) (64 * 3)).toList = rowC (fun _ => .slice none 0 0) (fun _ => 0) (fun _ => false) := by kernel_rfl
/-- 'make([]way, 64)'. -/
theorem wpList_makeWays {w : World} {ops : Array Oper} {rest : List Oper} {o : Oper} {a : Act} {Q : Exit → Act → World → Prop} (hgd : o.guard = none) (l c : Operand)
    (ho : o.op = Op.makeSlice 164 l c) (hl : a.eval l = .int .i64 64) (hc : a.eval c = .int .i64 64)
    (h : ∀ w', Row w' w.heap.size (fun _ => .slice none 0 0) (fun _ => 0) (fun _ => false) → Below w.heap.size w w' → w.heap.size < w'.heap.size → wpList Tryz.prog ops Q rest (a.put o.dst (.slice (some ⟨w.heap.size, 0, none⟩) 64 64)) w') :
    wpList Tryz.prog ops Q (o :: rest) a w := by
  obtain ⟨i0, hi, hz0, hz1, hz2⟩ := info_parts Tryz.info166
  refine wpList_make_full w hgd l c 164 ho w.heap.size 166 i0 (.agg #[.slice none 0 0, .int .i64 0, .bool false]) 3 Tryz.underlying164 hi hz0 hz1 .i64 .i64 64 64 64 hl hc rfl rfl (by rw [hz2]; omega) (by unfold maxLen; omega) (Nat.le_refl _) fun w' h1 h2 => ?_
  rw [made_ways] at h1
  have hlt := (h1.lt w.heap.size rfl).2
  refine h w' ?_ ((Below.refl _ _).grown h2 (Nat.le_refl _) (by intro k hk; cases hk)) hlt
  rcases h1.2 with ⟨h', _⟩ | ⟨g', cap, cur, h', _, hg, _, _, hcs, ht⟩
  · simp at h'
  · simp only [Value.slice.injEq, Option.some.injEq, Addr.mk.injEq, and_true, true_and] at h'
    obtain ⟨rfl, rfl⟩ := h'
    unfold Row
    rw [hg, ← ht, List.take_of_length_le (by simp; omega)]
end Go.Proofs.YtplkmkbambbemadGreatDoor
namespace Go.Proofs.YtplkmkbambbemadGreatDoor
open Go.ChangeShapes Go.WideShapes Go.ChangeAt Go.RowKit
/-- One entry anew. -/
def updT {α : Type} (f : Nat → α) (s : Nat) (x : α) : Nat → α := fun j => if j = s then x else f j
theorem upd_sameT {α : Type} (f : Nat → α) (s : Nat) (x : α) : updT f s x s = x := by simp [updT]
theorem upd_otherT {α : Type} (f : Nat → α) {s j : Nat} (x : α) (h : j ≠ s) : updT f s x j = f j := by simp [updT, h]
theorem flat_ext (A : List Value) (f : Nat → List Value) (hf : ∀ s, (f s).length = 3) (N : Nat) (hA : A.length = 3 * N) (h : ∀ s r, s < N → r < 3 → A[3 * s + r]? = (f s)[r]?) : A = (List.range N).flatMap f := by
  refine List.ext_getElem? fun k => ?_
  by_cases hk : k < 3 * N
  · have e : k = 3 * (k / 3) + k % 3 := by omega
    rw [e, h _ _ (by omega) (by omega), flat_get f hf N _ _ (by omega) (by omega)]
  · rw [List.getElem?_eq_none (by omega), List.getElem?_eq_none (by rw [flat_len f hf]; omega)]
theorem rowC_get (vv : Nat → Value) (qq : Nat → Int) (tt : Nat → Bool) {s r : Nat} (hs : s < 64) (hr : r < 3) : (rowC vv qq tt)[3 * s + r]? = ([vv s, .int .i64 (qq s), .bool (tt s)] : List Value)[r]? := flat_get _ (fun _ => rfl) 64 s r hs hr
theorem rowC_set0 (vv : Nat → Value) (qq : Nat → Int) (tt : Nat → Bool) {s : Nat} (hs : s < 64) (x : Value) : (rowC vv qq tt).set (3 * s) x = rowC (updT vv s x) qq tt := by
  refine flat_ext _ _ (fun _ => rfl) 64 (by rw [List.length_set, rowC_length]) fun j r hj hr => ?_
  rw [List.getElem?_set, rowC_length]
  by_cases h : 3 * s = 3 * j + r
  · obtain rfl : r = 0 := by omega
    obtain rfl : j = s := by omega
    rw [if_pos h, if_pos (by omega), upd_sameT]; rfl
  · rw [if_neg h, rowC_get _ _ _ hj hr]
    by_cases e : j = s
    · subst e
      match r, hr, h with
      | 0, _, h => omega
      | 1, _, _ | 2, _, _ => rfl
    · rw [upd_otherT _ _ e]
theorem rowC_set1 (vv : Nat → Value) (qq : Nat → Int) (tt : Nat → Bool) {s : Nat} (hs : s < 64) (x : Int) : (rowC vv qq tt).set (3 * s + 1) (.int .i64 x) = rowC vv (updT qq s x) tt := by
  refine flat_ext _ _ (fun _ => rfl) 64 (by rw [List.length_set, rowC_length]) fun j r hj hr => ?_
  rw [List.getElem?_set, rowC_length]
  by_cases h : 3 * s + 1 = 3 * j + r
  · obtain rfl : r = 1 := by omega
    obtain rfl : j = s := by omega
    rw [if_pos h, if_pos (by omega), upd_sameT]; rfl
  · rw [if_neg h, rowC_get _ _ _ hj hr]
    by_cases e : j = s
    · subst e
      match r, hr, h with
      | 1, _, h => omega
      | 0, _, _ | 2, _, _ => rfl
    · rw [upd_otherT _ _ e]
theorem rowC_set2 (vv : Nat → Value) (qq : Nat → Int) (tt : Nat → Bool) {s : Nat} (hs : s < 64) (x : Bool) : (rowC vv qq tt).set (3 * s + 2) (.bool x) = rowC vv qq (updT tt s x) := by
  refine flat_ext _ _ (fun _ => rfl) 64 (by rw [List.length_set, rowC_length]) fun j r hj hr => ?_
  rw [List.getElem?_set, rowC_length]
  by_cases h : 3 * s + 2 = 3 * j + r
  · obtain rfl : r = 2 := by omega
    obtain rfl : j = s := by omega
    rw [if_pos h, if_pos (by omega), upd_sameT]; rfl
  · rw [if_neg h, rowC_get _ _ _ hj hr]
    by_cases e : j = s
    · subst e
      match r, hr, h with
      | 2, _, h => omega
      | 0, _, _ | 1, _, _ => rfl
    · rw [upd_otherT _ _ e]
theorem Row.free {w : World} {g : Nat} {vv : Nat → Value} {qq : Nat → Int} {tt : Nat → Bool} (h : Row w g vv qq tt) (i : Nat) : w.frozen? ⟨g, i, none⟩ = false := frozen_of_row w g i _ 166 h
theorem Row.lt {w : World} {g : Nat} {vv : Nat → Value} {qq : Nat → Int} {tt : Nat → Bool} (h : Row w g vv qq tt) : g < w.heap.size := by
  rcases Nat.lt_or_ge g w.heap.size with hl | hl
  · exact hl
  · unfold Row at h; rw [Array.getElem?_eq_none hl] at h; cases h
theorem Row.below {w w' : World} {g : Nat} {vv : Nat → Value} {qq : Nat → Int} {tt : Nat → Bool} (h : Row w g vv qq tt) (hb : Below w.heap.size w w') : Row w' g vv qq tt := (hb.block g h.lt).trans h
theorem Row.set0 {w : World} {g : Nat} {vv : Nat → Value} {qq : Nat → Int} {tt : Nat → Bool} (h : Row w g vv qq tt) {s : Nat} (hs : s < 64) (x : Value) : Row (w.setCell ⟨g, 3 * s, none⟩ x) g (updT vv s x) qq tt := by
  unfold Row
  rw [heap_setCell_same w g _ _ 166 _ h, ← rowC_set0 vv qq tt hs x]
  simp
theorem Row.set1 {w : World} {g : Nat} {vv : Nat → Value} {qq : Nat → Int} {tt : Nat → Bool} (h : Row w g vv qq tt) {s : Nat} (hs : s < 64) (x : Int) : Row (w.setCell ⟨g, 3 * s + 1, none⟩ (.int .i64 x)) g vv (updT qq s x) tt := by
  unfold Row
  rw [heap_setCell_same w g _ _ 166 _ h, ← rowC_set1 vv qq tt hs x]
  simp
theorem Row.set2 {w : World} {g : Nat} {vv : Nat → Value} {qq : Nat → Int} {tt : Nat → Bool} (h : Row w g vv qq tt) {s : Nat} (hs : s < 64) (x : Bool) : Row (w.setCell ⟨g, 3 * s + 2, none⟩ (.bool x)) g vv qq (updT tt s x) := by
  unfold Row
  rw [heap_setCell_same w g _ _ 166 _ h, ← rowC_set2 vv qq tt hs x]
  simp
theorem Row.apart {w : World} {g g' : Nat} {vv : Nat → Value} {qq : Nat → Int} {tt : Nat → Bool} (h : Row w g vv qq tt) (hne : g ≠ g') (i : Nat) (x : Value) : Row (w.setCell ⟨g', i, none⟩ x) g vv qq tt := (heap_setCell_other w ⟨g', i, none⟩ g x hne).trans h
/-- What is written into a row of ways is no way's list of bits. -/
theorem Own.apart {w : World} {B g : Nat} {v : Value} {L : List Int} {vv : Nat → Value} {qq : Nat → Int} {tt : Nat → Bool} (h : Own w B v L) (hr : Row w g vv qq tt) (i : Nat) (x : Value) : Own (w.setCell ⟨g, i, none⟩ x) B v L := by
  refine ⟨h.1, ?_⟩
  rcases h.2 with h' | ⟨g', cap, cur, h1, h2, h3, h4⟩
  · exact .inl h'
  · have hne : g' ≠ g := by
      rintro rfl
      unfold Row at hr
      rw [hr] at h3
      simp at h3
    exact .inr ⟨g', cap, cur, h1, h2, (heap_setCell_other w ⟨g, i, none⟩ g' x hne).trans h3, h4⟩
end Go.Proofs.YtplkmkbambbemadGreatDoor
namespace Go.Proofs.YtplkmkbambbemadGreatDoor
open Go.ChangeShapes Go.WideShapes Go.ChangeAt Go.RowKit
/-- A table of ways: the best of those that meet S s, for each state s. -/
structure Table (w : World) (B g n : Nat) (soft : List Int) (S : Nat → List Int → Prop) (vv : Nat → Value) (qq : Nat → Int) (tt : Nat → Bool) (bb : Nat → List Int) : Prop where
  row : Row w g vv qq tt
  low : B ≤ g
  own : ∀ s, s < 64 → Own w B (vv s) (bb s)
  ent : ∀ s, s < 64 → Ent (sc soft 0 0) n (S s) (tt s) (bb s) (qq s)
theorem Table.below {w w' : World} {B g n : Nat} {soft : List Int} {S : Nat → List Int → Prop} {vv : Nat → Value} {qq : Nat → Int} {tt : Nat → Bool} {bb : Nat → List Int} (h : Table w B g n soft S vv qq tt bb) (hb : Below w.heap.size w w') : Table w' B g n soft S vv qq tt bb :=
  ⟨h.row.below hb, h.low, fun s hs => (h.own s hs).below hb, h.ent⟩
theorem Table.congr {w : World} {B g n : Nat} {soft : List Int} {S S' : Nat → List Int → Prop} {vv : Nat → Value} {qq : Nat → Int} {tt : Nat → Bool} {bb : Nat → List Int} (h : Table w B g n soft S vv qq tt bb) (hS : ∀ s, s < 64 → ∀ p, S s p ↔ S' s p) : Table w B g n soft S' vv qq tt bb :=
  ⟨h.row, h.low, h.own, fun s hs => ent_congr (hS s hs) (h.ent s hs)⟩
/-- The other table is written. -/
theorem Table.apart {w : World} {B g g' n : Nat} {soft : List Int} {S : Nat → List Int → Prop} {vv : Nat → Value} {qq : Nat → Int} {tt : Nat → Bool} {bb : Nat → List Int} {vv' : Nat → Value} {qq' : Nat → Int} {tt' : Nat → Bool} (h : Table w B g n soft S vv qq tt bb) (hr : Row w g' vv' qq' tt') (hne : g ≠ g') (i : Nat) (x : Value) :
    Table (w.setCell ⟨g', i, none⟩ x) B g n soft S vv qq tt bb :=
  ⟨h.row.apart hne i x, h.low, fun s hs => (h.own s hs).apart hr i x, h.ent⟩
theorem table_first {w : World} {B n : Nat} {soft : List Int} (h : Row w B (fun _ => .slice none 0 0) (fun _ => 0) (updT (fun _ => false) 0 true)) : Table w B B n soft (fun s => At n 0 s) (fun _ => .slice none 0 0) (fun _ => 0) (updT (fun _ => false) 0 true) (fun _ => []) := by
  refine ⟨h, Nat.le_refl _, fun s _ => Own.nil _ _, fun s _ => ?_⟩
  by_cases e : s = 0
  · subst e
    rw [upd_sameT]
    refine ⟨fun h => by simp at h, fun _ => ⟨⟨[], (at_zero n 0 []).2 ⟨rfl, rfl⟩, by simp, rfl⟩, fun p hp => ?_⟩⟩
    obtain ⟨rfl, _⟩ := (at_zero n 0 p).1 hp
    exact .inr ⟨rfl, by simp [ahead]⟩
  · rw [upd_otherT _ _ e]
    refine ⟨fun _ p hp => ?_, fun h => by simp at h⟩
    have := (at_zero n s p).1 hp
    omega
theorem table_new {w : World} {B g n i : Nat} {soft : List Int} (h : Row w g (fun _ => .slice none 0 0) (fun _ => 0) (fun _ => false)) (hB : B ≤ g) : Table w B g n soft (fun t => Sofar n i ((2 * 0 : Nat) + (0 : Nat)) t) (fun _ => .slice none 0 0) (fun _ => 0) (fun _ => false) (fun _ => []) :=
  ⟨h, hB, fun s _ => Own.nil _ _, fun s _ => ⟨fun _ p hp => sofar_none n i s p (by simpa using hp), fun h => by simp at h⟩⟩
theorem table_idle {w : World} {B g n i s x : Nat} {soft : List Int} {vv : Nat → Value} {qq : Nat → Int} {tt : Nat → Bool} {bb : Nat → List Int} (h : Table w B g n soft (fun t => Sofar n i ((2 * s : Nat) + (x : Nat)) t) vv qq tt bb) (hx : x ≤ 1) (hi : (∀ p, ¬ At n i s p) ∨ (n ≤ i ∧ x = 1)) :
    Table w B g n soft (fun t => Sofar n i ((2 * s : Nat) + (x + 1 : Nat)) t) vv qq tt bb := by
  refine h.congr fun t _ p => ?_
  have := (sofar_idle (n := n) (i := i) (s := (s : Int)) (x := (x : Int)) (by omega) (by rcases hi with hi | hi; exact .inl hi; exact .inr ⟨hi.1, by omega⟩) t p).symm
  have e1 : ((2 * s : Nat) : Int) + (x : Nat) = 2 * (s : Int) + (x : Int) := by omega
  have e2 : ((2 * s : Nat) : Int) + ((x + 1 : Nat) : Int) = 2 * (s : Int) + (x : Int) + 1 := by omega
  rw [e1, e2]
  exact this
theorem table_turn {w : World} {B g n i s : Nat} {soft : List Int} {vv : Nat → Value} {qq : Nat → Int} {tt : Nat → Bool} {bb : Nat → List Int} (h : Table w B g n soft (fun t => Sofar n i ((2 * s : Nat) + (2 : Nat)) t) vv qq tt bb) :
    Table w B g n soft (fun t => Sofar n i ((2 * (s + 1) : Nat) + (0 : Nat)) t) vv qq tt bb := by
  have e : ((2 * s : Nat) : Int) + ((2 : Nat) : Int) = ((2 * (s + 1) : Nat) : Int) + ((0 : Nat) : Int) := by omega
  rw [e] at h
  exact h
/-- A state that nothing ends in. -/
theorem table_skip {w : World} {B g n i s : Nat} {soft : List Int} {vv : Nat → Value} {qq : Nat → Int} {tt : Nat → Bool} {bb : Nat → List Int} (h : Table w B g n soft (fun t => Sofar n i ((2 * s : Nat) + (0 : Nat)) t) vv qq tt bb) (hi : ∀ p, ¬ At n i s p) :
    Table w B g n soft (fun t => Sofar n i ((2 * (s + 1) : Nat) + (0 : Nat)) t) vv qq tt bb :=
  table_turn (table_idle (x := 1) (table_idle (x := 0) h (by omega) (.inl hi)) (by omega) (.inl hi))
theorem table_end {w : World} {B g n i : Nat} {soft : List Int} {vv : Nat → Value} {qq : Nat → Int} {tt : Nat → Bool} {bb : Nat → List Int} (h : Table w B g n soft (fun t => Sofar n i ((2 * 64 : Nat) + (0 : Nat)) t) vv qq tt bb) :
    Table w B g n soft (fun t => At n (i + 1) t) vv qq tt bb :=
  h.congr fun t _ p => sofar_all n i t p
/-- The candidate. -/
def newB (n i x : Nat) (b : List Int) : List Int := if i < n then b ++ [(x : Int)] else b
def newQ (soft : List Int) (i s x : Nat) (q : Int) : Int := q + gain soft i s x
theorem cand {w : World} {B g n i s x : Nat} {soft : List Int} {vv : Nat → Value} {qq : Nat → Int} {tt : Nat → Bool} {bb : Nat → List Int} (h : Table w B g n soft (fun s => At n i s) vv qq tt bb) (hs : s < 64) (ht : tt s = true) :
    BestIn (sc soft 0 0) n (From n i s x) (newB n i x (bb s)) (newQ soft i s x (qq s)) := from_best ((h.ent s hs).2 ht)
theorem sofar_more {n i s x : Nat} (hx : x ≤ 1) (hz : ¬ (x = 1 ∧ n ≤ i)) (t : Nat) (p : List Int) :
    Sofar n i ((2 * s : Nat) + (x + 1 : Nat)) t p ↔ (Sofar n i ((2 * s : Nat) + (x : Nat)) t p ∨ (x * 32 + s / 2 = t ∧ From n i s x p)) := by
  have := sofar_step (n := n) (i := i) (s := (s : Int)) (x := (x : Int)) (by omega) (by omega) t p
  have e1 : ((2 * s : Nat) : Int) + (x : Nat) = 2 * (s : Int) + (x : Int) := by omega
  have e2 : ((2 * s : Nat) : Int) + ((x + 1 : Nat) : Int) = 2 * (s : Int) + (x : Int) + 1 := by omega
  have e3 : (nxt (s : Int) (x : Int) = (t : Int)) ↔ (x * 32 + s / 2 = t) := by unfold nxt; omega
  rw [e1, e2, this, e3]
theorem more_len {n i s x t : Nat} {M : Int} (p : List Int) (h : Sofar n i M t p ∨ From n i s x p) : (p.take n).length = min n (i + 1) := by
  rcases h with h | ⟨p0, h, rfl⟩
  · exact take_len h
  · rw [List.length_take]
    simp [h.1.len]
theorem table_keep {w : World} {B g g' n i s x : Nat} {soft : List Int} {vv vv' : Nat → Value} {qq qq' : Nat → Int} {tt tt' : Nat → Bool} {bb bb' : Nat → List Int} (h : Table w B g n soft (fun s => At n i s) vv qq tt bb) (hs : s < 64) (ht : tt s = true) (hx : x ≤ 1) (hz : ¬ (x = 1 ∧ n ≤ i))
    (h' : Table w B g' n soft (fun t => Sofar n i ((2 * s : Nat) + (x : Nat)) t) vv' qq' tt' bb') (hk : taken (tt' (x * 32 + s / 2)) (qq' (x * 32 + s / 2)) (newQ soft i s x (qq s)) (bb' (x * 32 + s / 2)) (newB n i x (bb s)) = false) :
    Table w B g' n soft (fun t => Sofar n i ((2 * s : Nat) + (x + 1 : Nat)) t) vv' qq' tt' bb' := by
  refine ⟨h'.row, h'.low, h'.own, fun t ht' => ?_⟩
  by_cases e : x * 32 + s / 2 = t
  · subst e
    refine ent_congr (S := fun p => Sofar n i ((2 * s : Nat) + (x : Nat)) ((x * 32 + s / 2 : Nat) : Int) p ∨ From n i s x p) (fun p => ?_) (ent_keep (more_len) (h'.ent _ ht') (cand h hs ht) hk)
    rw [sofar_more hx hz]
    simp
  · refine ent_congr (fun p => ?_) (h'.ent t ht')
    rw [sofar_more hx hz]
    simp [e]
theorem table_take {w : World} {B g g' n i s x : Nat} {soft : List Int} {vv vv' : Nat → Value} {qq qq' : Nat → Int} {tt tt' : Nat → Bool} {bb bb' : Nat → List Int} {v : Value} (h : Table w B g n soft (fun s => At n i s) vv qq tt bb) (hs : s < 64) (ht : tt s = true) (hx : x ≤ 1) (hz : ¬ (x = 1 ∧ n ≤ i))
    (h' : Table w B g' n soft (fun t => Sofar n i ((2 * s : Nat) + (x : Nat)) t) vv' qq' tt' bb') (hk : taken (tt' (x * 32 + s / 2)) (qq' (x * 32 + s / 2)) (newQ soft i s x (qq s)) (bb' (x * 32 + s / 2)) (newB n i x (bb s)) = true) (hv : Own w B v (newB n i x (bb s))) :
    Table (((w.setCell ⟨g', 3 * (x * 32 + s / 2), none⟩ v).setCell ⟨g', 3 * (x * 32 + s / 2) + 1, none⟩ (.int .i64 (newQ soft i s x (qq s)))).setCell ⟨g', 3 * (x * 32 + s / 2) + 2, none⟩ (.bool true)) B g' n soft (fun t => Sofar n i ((2 * s : Nat) + (x + 1 : Nat)) t)
      (updT vv' (x * 32 + s / 2) v) (updT qq' (x * 32 + s / 2) (newQ soft i s x (qq s))) (updT tt' (x * 32 + s / 2) true) (updT bb' (x * 32 + s / 2) (newB n i x (bb s))) := by
  have hto : x * 32 + s / 2 < 64 := by omega
  have r0 := h'.row
  have r1 := r0.set0 hto v
  have r2 := r1.set1 hto (newQ soft i s x (qq s))
  have r3 := r2.set2 hto true
  refine ⟨r3, h'.low, fun t ht' => ?_, fun t ht' => ?_⟩
  · refine Own.apart (Own.apart (Own.apart ?_ r0 _ _) r1 _ _) r2 _ _
    by_cases e : t = x * 32 + s / 2
    · subst e; rw [upd_sameT, upd_sameT]; exact hv
    · rw [upd_otherT _ _ e, upd_otherT _ _ e]; exact h'.own t ht'
  · by_cases e : t = x * 32 + s / 2
    · subst e
      rw [upd_sameT, upd_sameT, upd_sameT]
      refine ent_congr (S := fun p => Sofar n i ((2 * s : Nat) + (x : Nat)) ((x * 32 + s / 2 : Nat) : Int) p ∨ From n i s x p) (fun p => ?_) (ent_take (more_len) (h'.ent _ ht') (cand h hs ht) hk)
      rw [sofar_more hx hz]
      simp
    · rw [upd_otherT _ _ e, upd_otherT _ _ e, upd_otherT _ _ e]
      refine ent_congr (fun p => ?_) (h'.ent t ht')
      rw [sofar_more hx hz]
      simp [Ne.symm e]
/-- What is decoded. -/
theorem table_last {w : World} {B g n : Nat} {soft : List Int} {vv : Nat → Value} {qq : Nat → Int} {tt : Nat → Bool} {bb : Nat → List Int} (h : Table w B g n soft (fun s => At n (n + 6) s) vv qq tt bb) :
    Own w B (vv 0) (way soft n 0 0) ∧ qq 0 = top soft n 0 0 := by
  have he := h.ent 0 (by omega)
  have ht : tt 0 = true := by
    cases e : tt 0 with
    | true => rfl
    | false =>
      exfalso
      refine he.1 e (List.replicate (n + 6) 0) ⟨⟨by simp, fun y hy => ?_, fun j _ => ?_⟩, ?_⟩
      · rw [List.eq_of_mem_replicate hy]; omega
      · simp only [List.getD, List.getElem?_replicate]
        split <;> rfl
      · have : ∀ m, ends 0 (List.replicate m 0) = 0 := fun m => by
          induction m with
          | zero => rfl
          | succ m ih => rw [List.replicate_succ]; simpa [ends, nxt] using ih
        simpa using this (n + 6)
  obtain ⟨e1, e2⟩ := last_best (he.2 ht)
  have := h.own 0 (by omega)
  rw [e1] at this
  exact ⟨this, e2⟩
end Go.Proofs.YtplkmkbambbemadGreatDoor
namespace Go.Proofs.YtplkmkbambbemadGreatDoor
open Go.ChangeShapes Go.WideShapes Go.ChangeAt Go.RowKit
/-- The bodies of the loops that lie open in a code, in their order. -/
def loopsIn : Code → List Code
  | .loop b => [b]
  | .seq p q => loopsIn p ++ loopsIn q
  | .cond _ p q => loopsIn p ++ loopsIn q
  | .block _ b => loopsIn b
  | .scope b => loopsIn b
  | _ => []
/-- The regions of a number that lie in a code. -/
def regionsIn (k : Nat) : Code → List Code
  | .region j ops d => if j = k then [.region j ops d] else []
  | .seq p q => regionsIn k p ++ regionsIn k q
  | .cond _ p q => regionsIn k p ++ regionsIn k q
  | .block _ b => regionsIn k b
  | .scope b => regionsIn k b
  | .loop b => regionsIn k b
  | _ => []
def inside (c : Code) : Code := (loopsIn c).headD .skip
theorem gain_bd (l : List Int) (h : ∀ k, -100000 ≤ l.getD k 0 ∧ l.getD k 0 ≤ 100000) (i : Nat) (s x : Int) : -300000 ≤ gain l i s x ∧ gain l i s x ≤ 300000 := by
  have h0 := h (3 * i)
  have h1 := h (3 * i + 1)
  have h2 := h (3 * i + 2)
  unfold gain sgn
  split <;> split <;> split <;> omega
theorem sc_bd (l : List Int) (h : ∀ k, -100000 ≤ l.getD k 0 ∧ l.getD k 0 ≤ 100000) : ∀ (c : List Int) (i : Nat) (s : Int), -(300000 * (c.length : Int)) ≤ sc l i s c ∧ sc l i s c ≤ 300000 * (c.length : Int)
  | [], _, _ => by simp [sc]
  | x :: c, i, s => by
    have a := sc_bd l h c (i + 1) (nxt s x)
    have b := gain_bd l h i s x
    simp only [sc, List.length_cons]
    omega
theorem table_q {w : World} {B g n i : Nat} {l : List Int} {vv : Nat → Value} {qq : Nat → Int} {tt : Nat → Bool} {bb : Nat → List Int} (h : Table w B g n l (fun s => At n i s) vv qq tt bb) (hb : ∀ k, -100000 ≤ l.getD k 0 ∧ l.getD k 0 ≤ 100000) {s : Nat} (hs : s < 64) (ht : tt s = true) :
    -(300000 * (i : Int)) ≤ qq s ∧ qq s ≤ 300000 * (i : Int) ∧ (bb s).length = min n i := by
  obtain ⟨p, hp, hb', hq⟩ := ((h.ent s hs).2 ht).here
  have hl := hp.1.len
  have := sc_bd l hb p 0 0
  rw [hl, hq] at this
  exact ⟨this.1, this.2, by rw [← hb', List.length_take, hl]⟩
theorem table_len {w : World} {B g n i : Nat} {M : Int} {l : List Int} {vv : Nat → Value} {qq : Nat → Int} {tt : Nat → Bool} {bb : Nat → List Int} (h : Table w B g n l (fun t => Sofar n i M t) vv qq tt bb) {t : Nat} (ht64 : t < 64) (ht : tt t = true) : (bb t).length = min n (i + 1) := by
  obtain ⟨p, hp, hb', _⟩ := ((h.ent t ht64).2 ht).here
  rw [← hb']
  exact take_len hp
theorem newB_len (n i x : Nat) (b : List Int) (h : b.length = min n i) : (newB n i x b).length = min n (i + 1) := by
  unfold newB
  split
  · simp; omega
  · omega
/-- The score of three. -/
theorem three_any (l : List Int) (i : Nat) (s x : Int) (A Bx : Option Addr) (ca cb : Nat) (w : World) (hA : Rd .u8 w A [out0 s x, out1 s x, out2 s x]) (hB : Rd .i64 w Bx [l.getD (3 * i) 0, l.getD (3 * i + 1) 0, l.getD (3 * i + 2) 0]) (hs : ∀ k, -100000 ≤ l.getD k 0 ∧ l.getD k 0 ≤ 100000) :
    Calls Tryz.prog 119 #[.slice A 3 ca, .slice Bx 3 cb] w fun e w' => e = .returned (.int .i64 (gain l i s x)) ∧ w = w' := by
  have h := rscore_any [out0 s x, out1 s x, out2 s x] [l.getD (3 * i) 0, l.getD (3 * i + 1) 0, l.getD (3 * i + 2) 0] A Bx ca cb 3 w hA hB rfl (by simp) (by simp) (fun k => by
    rcases k with _ | _ | _ | k
    · exact hs (3 * i)
    · exact hs (3 * i + 1)
    · exact hs (3 * i + 2)
    · simp)
  have e : scoreTo [out0 s x, out1 s x, out2 s x] [l.getD (3 * i) 0, l.getD (3 * i + 1) 0, l.getD (3 * i + 2) 0] 3 = gain l i s x := by
    show 0 + sgn (out0 s x) (l.getD (3 * i) 0) + sgn (out1 s x) (l.getD (3 * i + 1) 0) + sgn (out2 s x) (l.getD (3 * i + 2) 0) = _
    unfold gain
    omega
  rw [← e]
  exact h
theorem ArrAt.rd0 {k : IntKind} {T : TypeId} {w : World} {g : Nat} {L : List Int} (h : ArrAt k T w g L) : Rd k w (some ⟨g, 0, none⟩) L := rd_block h
theorem Own.off {w : World} {B : Nat} {v : Value} {L : List Int} (h : Own w B v L) {p : Addr} (hp : p.block < B) (x : Value) : Own (w.setCell p x) B v L := by
  refine ⟨h.1, ?_⟩
  rcases h.2 with h' | ⟨g, cap, cur, h1, h2, h3, h4⟩
  · exact .inl h'
  · exact .inr ⟨g, cap, cur, h1, h2, (heap_setCell_other w p g x (by omega)).trans h3, h4⟩
set_option maxHeartbeats 400000 in
theorem rahead_quiet (xs ys : List Int) (a b : Option Addr) (ca cb n m : Nat) (w : World) (ha : Rd .u8 w a xs) (hb : Rd .u8 w b ys) (hx : xs.length ≤ maxLen) (hl : ys.length = xs.length) (hn : xs.length = n) (hm : ys.length = m) :
    Calls Tryz.prog 120 #[.slice a n ca, .slice b m cb] w fun e w' => e = .returned (.bool (ahead xs ys)) ∧ ∃ m, w' = w.drewN m := by
  obtain rfl : m = n := by omega
  obtain rfl : xs.length = m := hn
  unfold maxLen at hx
  have HL := hid hl
  clear hl hm
  go_enter Tryz.func120, Tryz.ntmps120
  go_wp2
  go_loopw [5] (fun i wr => ∃ k t : Nat, k ≤ xs.length ∧ i = .int .i64 k ∧ Hid (ahead xs ys = ahead (xs.drop k) (ys.drop k)) ∧ wr = w.drewN t) (fun i _ => xs.length - (intOf i).toNat)
  case atStart => exact ⟨0, 0, Nat.zero_le _, rfl, rfl, rfl⟩
  case round =>
    obtain ⟨k, t, hk, rfl, HA, rfl⟩ := hrel
    by_cases hlt : k < xs.length
    · obtain ⟨b1, o1, rfl, hc1⟩ := ha.at hlt
      obtain ⟨b2, o2, rfl, hc2⟩ := hb.at (i := k) (by rw [HL.out]; exact hlt)
      have g1 := hc1 k hlt
      have g2 := hc2 k (by rw [HL.out]; exact hlt)
      have hsp := hid (ahead_drop xs ys k hlt (by rw [HL.out]; exact hlt))
      clear hc1 hc2
      obtain ⟨x, ex⟩ : ∃ x, x = xs.getD k 0 := ⟨_, rfl⟩
      obtain ⟨y, ey⟩ : ∃ y, y = ys.getD k 0 := ⟨_, rfl⟩
      rw [← ex] at g1
      rw [← ey] at g2
      have EX := hid ex
      have EY := hid ey
      clear ex ey
      by_cases h1 : x = y
      · have c1 : (x != y) = false := by simpa using h1
        have hv := hid (show ahead xs ys = ahead (xs.drop (k + 1)) (ys.drop (k + 1)) by rw [HA.out, hsp.out, ← EX.out, ← EY.out, if_pos h1])
        clear h1
        go_wp2_with fail
        go_quiet (fail)
        go_wp2
        go_roundw
        case rel => exact ⟨k + 1, _, by omega, by go_num, hv.out, by first | rfl | exact World.drewN_drewN _ _ _⟩
        case measure => simp [intOf]; omega
      · have c1 : (x != y) = true := by simpa using h1
        have hv := hid (show ahead xs ys = decide (x < y) by rw [HA.out, hsp.out, ← EX.out, ← EY.out, if_neg h1])
        clear h1
        go_wp2_with fail
        go_quiet (fail)
        go_wp2_with fail
        go_quiet (fail)
        go_wp2
        go_ret
        exact ⟨ret_bool hv.out.symm, _, by first | rfl | rw [World.drewN_drewN, World.drewN_drewN]⟩
    · have hv := hid (show ahead xs ys = false by rw [HA.out, List.drop_eq_nil_of_le (by omega)]; rfl)
      go_wp2
      go_ret
      exact ⟨ret_bool hv.out.symm, _, rfl⟩
/-- The candidate is written into the next table. -/
theorem take_all {w w00 : World} {B g g' n i s x T0 : Nat} {soft : List Int} {vv vv' : Nat → Value} {qq qq' : Nat → Int} {tt tt' : Nat → Bool} {bb bb' : Nat → List Int} {v : Value} {Q : Int} (h : Table w B g n soft (fun s => At n i s) vv qq tt bb) (hs : s < 64) (ht : tt s = true) (hx : x ≤ 1) (hz : ¬ (x = 1 ∧ n ≤ i))
    (h' : Table w B g' n soft (fun t => Sofar n i ((2 * s : Nat) + (x : Nat)) t) vv' qq' tt' bb') (hne : g ≠ g') (hT : T0 = x * 32 + s / 2) (hQ : Q = newQ soft i s x (qq s)) (hk : taken (tt' T0) (qq' T0) Q (bb' T0) (newB n i x (bb s)) = true) (hv : Own w B v (newB n i x (bb s))) (hb : Below B w00 w) :
    ∃ vv2 qq2 tt2 bb2, Table (w.setCells g' (T0 * 3) [v, .int .i64 Q, .bool true]) B g n soft (fun s => At n i s) vv qq tt bb ∧
      Table (w.setCells g' (T0 * 3) [v, .int .i64 Q, .bool true]) B g' n soft (fun t => Sofar n i ((2 * s : Nat) + (x + 1 : Nat)) t) vv2 qq2 tt2 bb2 ∧ Below B w00 (w.setCells g' (T0 * 3) [v, .int .i64 Q, .bool true]) := by
  subst hT hQ
  have e : w.setCells g' ((x * 32 + s / 2) * 3) [v, .int .i64 (newQ soft i s x (qq s)), .bool true] = ((w.setCell ⟨g', 3 * (x * 32 + s / 2), none⟩ v).setCell ⟨g', 3 * (x * 32 + s / 2) + 1, none⟩ (.int .i64 (newQ soft i s x (qq s)))).setCell ⟨g', 3 * (x * 32 + s / 2) + 2, none⟩ (.bool true) := by
    rw [Nat.mul_comm _ 3]
    rfl
  rw [e]
  have hto : x * 32 + s / 2 < 64 := by omega
  have r0 := h'.row
  have r1 := r0.set0 hto v
  have r2 := r1.set1 hto (newQ soft i s x (qq s))
  exact ⟨_, _, _, _, ((h.apart r0 hne _ _).apart r1 hne _ _).apart r2 hne _ _, table_take h hs ht hx hz h' hk hv,
    ((hb.setCell (p := ⟨g', 3 * (x * 32 + s / 2), none⟩) h'.low _).setCell (p := ⟨g', 3 * (x * 32 + s / 2) + 1, none⟩) h'.low _).setCell (p := ⟨g', 3 * (x * 32 + s / 2) + 2, none⟩) h'.low _⟩
theorem Tryz.size54 : (Tryz.prog.info? 166).map (·.size) = some 3 := by kernel_rfl
theorem sum5 (a b c d e : Int) : (IntKind.u8.wrap (IntKind.u8.wrap (IntKind.u8.wrap (IntKind.u8.wrap (a + b) + c) + d) + e)).tmod 2 = (a + b + c + d + e) % 2 := by
  simp only [IntKind.wrap_u8']
  rw [Int.tmod_eq_emod_of_nonneg (by omega)]
  omega
end Go.Proofs.YtplkmkbambbemadGreatDoor
