import Derived.Test.YtbjgfoiikhbonafK01
import Derived.Test.YtbjgfoiikhbonafK11
set_option linter.unusedVariables false
set_option linter.unusedSimpArgs false
namespace Go.Proofs.Ytbjgfoiikhbonaf
abbrev Sps := List (Nat × Nat)
def inS (l : Sps) (i : Nat) : Prop := ∃ q ∈ l, q.1 ≤ i ∧ i < q.2
def Srt (l : Sps) : Prop := (∀ q ∈ l, q.1 < q.2) ∧ l.Pairwise fun p q => p.2 < q.1
def EndLe (l : Sps) (e : Nat) : Prop := ∀ q ∈ l, q.2 ≤ e
theorem Srt.nil : Srt [] := ⟨fun _ h => absurd h List.not_mem_nil, .nil⟩
theorem inS_nil (i : Nat) : ¬ inS [] i := fun ⟨_, h, _⟩ => absurd h List.not_mem_nil
theorem inS_cons (q : Nat × Nat) (l : Sps) (i : Nat) : inS (q :: l) i ↔ (q.1 ≤ i ∧ i < q.2) ∨ inS l i := by simp [inS]
theorem inS_app (l r : Sps) (i : Nat) : inS (l ++ r) i ↔ inS l i ∨ inS r i := by
  simp only [inS, List.mem_append]
  constructor
  · rintro ⟨q, h | h, h'⟩
    · exact .inl ⟨q, h, h'⟩
    · exact .inr ⟨q, h, h'⟩
  · rintro (⟨q, h, h'⟩ | ⟨q, h, h'⟩)
    · exact ⟨q, .inl h, h'⟩
    · exact ⟨q, .inr h, h'⟩
theorem Srt.tail {q : Nat × Nat} {l : Sps} (h : Srt (q :: l)) : Srt l := ⟨fun p hp => h.1 p (List.mem_cons_of_mem _ hp), (List.pairwise_cons.1 h.2).2⟩
theorem Srt.head {q : Nat × Nat} {l : Sps} (h : Srt (q :: l)) : q.1 < q.2 ∧ ∀ p ∈ l, q.2 < p.1 := ⟨h.1 q List.mem_cons_self, (List.pairwise_cons.1 h.2).1⟩
theorem Srt.len {l : Sps} (h : Srt l) : ∀ {lo e : Nat}, (∀ q ∈ l, lo ≤ q.1) → EndLe l e → lo ≤ e → l.length ≤ e - lo := by
  induction l with
  | nil => intros; simp
  | cons q l ih =>
    intro lo e h1 h2 h3
    have hq := h.head
    have hlo := h1 q List.mem_cons_self
    have hhi := h2 q List.mem_cons_self
    have := ih h.tail (lo := q.2) (e := e) (fun p hp => by have := hq.2 p hp; omega) (fun p hp => h2 p (List.mem_cons_of_mem _ hp)) hhi
    rw [List.length_cons]
    omega
theorem Srt.few {l : Sps} (h : Srt l) {e : Nat} (h2 : EndLe l e) : l.length ≤ e := by
  have := h.len (lo := 0) (e := e) (fun _ _ => Nat.zero_le _) h2 (Nat.zero_le _)
  omega
theorem Srt.getLt {l : Sps} (h : Srt l) {i j : Nat} (hij : i < j) (hj : j < l.length) : (l.getD i (0, 0)).2 < (l.getD j (0, 0)).1 := by
  have := List.pairwise_iff_getElem.1 h.2 i j (by omega) hj hij
  rw [List.getD_eq_getElem?_getD, List.getD_eq_getElem?_getD, List.getElem?_eq_getElem (by omega), List.getElem?_eq_getElem hj]
  exact this
theorem Srt.getPos {l : Sps} (h : Srt l) {j : Nat} (hj : j < l.length) : (l.getD j (0, 0)).1 < (l.getD j (0, 0)).2 := by
  rw [List.getD_eq_getElem?_getD, List.getElem?_eq_getElem hj]
  exact h.1 _ (List.getElem_mem hj)
theorem getD_memS {l : Sps} {j : Nat} (hj : j < l.length) : l.getD j (0, 0) ∈ l := by
  rw [List.getD_eq_getElem?_getD, List.getElem?_eq_getElem hj]
  exact List.getElem_mem hj
theorem mem_takeS {l : Sps} {b : Nat} {q : Nat × Nat} (h : q ∈ l.take b) : ∃ k, k < b ∧ k < l.length ∧ q = l.getD k (0, 0) := by
  obtain ⟨k, hk, e⟩ := List.mem_iff_getElem.1 h
  rw [List.length_take] at hk
  rw [List.getElem_take] at e
  refine ⟨k, by omega, by omega, ?_⟩
  rw [List.getD_eq_getElem?_getD, List.getElem?_eq_getElem (by omega)]
  exact e.symm
theorem mem_dropS {l : Sps} {b : Nat} {q : Nat × Nat} (h : q ∈ l.drop b) : ∃ k, b ≤ k ∧ k < l.length ∧ q = l.getD k (0, 0) := by
  obtain ⟨k, hk, e⟩ := List.mem_iff_getElem.1 h
  rw [List.length_drop] at hk
  rw [List.getElem_drop] at e
  refine ⟨b + k, by omega, by omega, ?_⟩
  rw [List.getD_eq_getElem?_getD, List.getElem?_eq_getElem (by omega)]
  exact e.symm
/-- What holds while spans are joined: those ahead of b lie ahead, those from b up to e are joined to (x, y). -/
structure Joins (l : Sps) (a z b e x y : Nat) : Prop where
  be : b ≤ e
  el : e ≤ l.length
  ahead : ∀ k, k < b → (l.getD k (0, 0)).2 < a
  from_ : ∀ k, b ≤ k → k < l.length → a ≤ (l.getD k (0, 0)).2
  lo : x ≤ a
  hi : z ≤ y
  aheadX : ∀ k, k < b → (l.getD k (0, 0)).2 < x
  mem : ∀ i, (x ≤ i ∧ i < y) ↔ ((a ≤ i ∧ i < z) ∨ inS ((l.drop b).take (e - b)) i)
theorem Joins.start {l : Sps} {a z b : Nat} (hb : b ≤ l.length) (h1 : ∀ k, k < b → (l.getD k (0, 0)).2 < a) (hs : Srt l) (h2 : b < l.length → a ≤ (l.getD b (0, 0)).2) : Joins l a z b b a z := by
  refine ⟨Nat.le_refl _, hb, h1, fun k hk hl => ?_, Nat.le_refl _, Nat.le_refl _, h1, fun i => ?_⟩
  · rcases Nat.eq_or_lt_of_le hk with e | e
    · subst e; exact h2 hl
    · have := h2 (by omega)
      have h3 := hs.getLt e hl
      have h4 := hs.getPos hl
      omega
  · rw [Nat.sub_self, List.take_zero]
    constructor
    · exact .inl
    · rintro (h | h)
      · exact h
      · exact absurd h (inS_nil i)
theorem Joins.step {l : Sps} {a z b e x y : Nat} (h : Joins l a z b e x y) (hs : Srt l) (_haz : a < z) (he : e < l.length) (hy : (l.getD e (0, 0)).1 ≤ y) : Joins l a z b (e + 1) (min x (l.getD e (0, 0)).1) (max y (l.getD e (0, 0)).2) := by
  have hbe := h.be
  have hp := hs.getPos he
  have hf := h.from_ e h.be he
  have hlo := h.lo
  have hhi := h.hi
  refine ⟨by omega, by omega, h.ahead, h.from_, by omega, by omega, fun k hk => ?_, fun i => ?_⟩
  · have h1 := h.aheadX k hk
    have h2 := hs.getLt (show k < e by omega) he
    omega
  · have e1 : (l.drop b).take (e + 1 - b) = (l.drop b).take (e - b) ++ [l.getD e (0, 0)] := by
      rw [show e + 1 - b = (e - b) + 1 by omega, List.take_add_one, List.getElem?_drop, show b + (e - b) = e by omega, List.getElem?_eq_getElem he, List.getD_eq_getElem?_getD, List.getElem?_eq_getElem he]
      rfl
    have e2 : inS [l.getD e (0, 0)] i ↔ (l.getD e (0, 0)).1 ≤ i ∧ i < (l.getD e (0, 0)).2 := by
      rw [inS_cons]
      constructor
      · rintro (h | h)
        · exact h
        · exact absurd h (inS_nil i)
      · exact .inl
    rw [e1, inS_app, ← or_assoc, ← h.mem i, e2]
    omega
theorem Joins.done {l : Sps} {a z b e x y : Nat} (h : Joins l a z b e x y) (hs : Srt l) (haz : a < z) (hy : e < l.length → y < (l.getD e (0, 0)).1) : Srt (l.take b ++ (x, y) :: l.drop e) ∧ (∀ i, inS (l.take b ++ (x, y) :: l.drop e) i ↔ inS l i ∨ (a ≤ i ∧ i < z)) ∧ (l.take b ++ (x, y) :: l.drop e).length = b + 1 + (l.length - e) := by
  have hbe := h.be
  have hel := h.el
  have hlo := h.lo
  have hhi := h.hi
  have hC : ∀ q ∈ l.drop e, y < q.1 := fun q hq => by
    obtain ⟨k, h1, h2, rfl⟩ := mem_dropS hq
    rcases Nat.eq_or_lt_of_le h1 with e' | e'
    · subst e'; exact hy h2
    · have h3 := hs.getLt e' h2
      have h4 := hs.getPos (show e < l.length by omega)
      have h5 := hy (by omega)
      omega
  have hA : ∀ q ∈ l.take b, q.2 < x := fun q hq => by
    obtain ⟨k, h1, h2, rfl⟩ := mem_takeS hq
    exact h.aheadX k h1
  refine ⟨⟨fun q hq => ?_, ?_⟩, fun i => ?_, ?_⟩
  · rw [List.mem_append, List.mem_cons] at hq
    rcases hq with hq | rfl | hq
    · exact hs.1 q (List.mem_of_mem_take hq)
    · show x < y
      omega
    · exact hs.1 q (List.mem_of_mem_drop hq)
  · rw [List.pairwise_append, List.pairwise_cons]
    refine ⟨hs.2.sublist (List.take_sublist _ _), ⟨hC, hs.2.sublist (List.drop_sublist _ _)⟩, fun p hp q hq => ?_⟩
    rw [List.mem_cons] at hq
    have h1 := hA p hp
    rcases hq with rfl | hq
    · exact h1
    · have := hC q hq
      omega
  · have e1 : l = l.take b ++ ((l.drop b).take (e - b) ++ l.drop e) := by
      have h1 : l.drop b = (l.drop b).take (e - b) ++ l.drop e := by
        have := (List.take_append_drop (e - b) (l.drop b)).symm
        rwa [List.drop_drop, show b + (e - b) = e by omega] at this
      rw [← h1, List.take_append_drop]
    have e2 : inS l i ↔ inS (l.take b) i ∨ (inS ((l.drop b).take (e - b)) i ∨ inS (l.drop e) i) := by
      conv => lhs; rw [e1]
      rw [inS_app, inS_app]
    rw [e2, inS_app, inS_cons]
    have hm := h.mem i
    show _ ∨ ((x ≤ i ∧ i < y) ∨ _) ↔ _
    rw [hm]
    constructor
    · rintro (h | (h | h) | h)
      · exact .inl (.inl h)
      · exact .inr h
      · exact .inl (.inr (.inl h))
      · exact .inl (.inr (.inr h))
    · rintro ((h | h | h) | h)
      · exact .inl h
      · exact .inr (.inl (.inr h))
      · exact .inr (.inr h)
      · exact .inr (.inl (.inl h))
  · simp only [List.length_append, List.length_take, List.length_cons, List.length_drop]
    omega
def gapsM (hi : Nat) : Nat → Sps → Sps
  | lo, [] => if lo < hi then [(lo, hi)] else []
  | lo, y :: r => (if lo < min hi y.1 then [(lo, min hi y.1)] else []) ++ gapsM hi (max lo y.2) r
theorem gapsM_nil {hi lo : Nat} (h : hi ≤ lo) : ∀ r, gapsM hi lo r = []
  | [] => by unfold gapsM; rw [if_neg (by omega)]
  | y :: r => by
    unfold gapsM
    rw [if_neg (by omega), gapsM_nil (by omega : hi ≤ max lo y.2) r]
    rfl
theorem gapsM_mem {hi : Nat} : ∀ {l : Sps} {lo : Nat}, Srt l → ∀ i, inS (gapsM hi lo l) i ↔ lo ≤ i ∧ i < hi ∧ ¬ inS l i
  | [], lo, _, i => by
    unfold gapsM
    split
    · rw [inS_cons]
      constructor
      · rintro (h | h)
        · exact ⟨h.1, h.2, inS_nil i⟩
        · exact absurd h (inS_nil i)
      · rintro ⟨h1, h2, _⟩
        exact .inl ⟨h1, h2⟩
    · constructor
      · intro h; exact absurd h (inS_nil i)
      · rintro ⟨h1, h2, _⟩; omega
  | y :: r, lo, hs, i => by
    unfold gapsM
    have hy := hs.head
    have ih := gapsM_mem (hi := hi) (l := r) (lo := max lo y.2) hs.tail i
    have e1 : inS (if lo < min hi y.1 then [(lo, min hi y.1)] else []) i ↔ lo ≤ i ∧ i < min hi y.1 := by
      split
      · rw [inS_cons]
        constructor
        · rintro (h | h)
          · exact h
          · exact absurd h (inS_nil i)
        · exact .inl
      · constructor
        · intro h; exact absurd h (inS_nil i)
        · rintro ⟨h1, h2⟩; omega
    rw [inS_app, e1, ih, inS_cons]
    constructor
    · rintro (⟨h1, h2⟩ | ⟨h1, h2, h3⟩)
      · refine ⟨h1, by omega, ?_⟩
        rintro (h | ⟨q, hq, h4, h5⟩)
        · omega
        · have := hy.2 q hq
          omega
      · refine ⟨by omega, h2, ?_⟩
        rintro (h | h)
        · omega
        · exact h3 h
    · rintro ⟨h1, h2, h3⟩
      by_cases h4 : i < y.1
      · exact .inl ⟨h1, by omega⟩
      · refine .inr ⟨?_, h2, fun h => h3 (.inr h)⟩
        by_cases h5 : i < y.2
        · exact absurd (.inl ⟨by omega, h5⟩) h3
        · omega
theorem gapsM_pos {hi : Nat} : ∀ {l : Sps} {lo : Nat} (q : Nat × Nat), q ∈ gapsM hi lo l → lo ≤ q.1 ∧ q.1 < q.2 ∧ q.2 ≤ hi
  | [], lo, q, h => by
    unfold gapsM at h
    split at h
    · simp at h; subst h; exact ⟨Nat.le_refl _, by assumption, Nat.le_refl _⟩
    · simp at h
  | y :: r, lo, q, h => by
    unfold gapsM at h
    rw [List.mem_append] at h
    rcases h with h | h
    · split at h
      · simp at h; subst h; refine ⟨Nat.le_refl _, by assumption, ?_⟩; show min hi y.1 ≤ hi; omega
      · simp at h
    · have := gapsM_pos q h
      omega
theorem gapsM_len {hi : Nat} : ∀ {l : Sps} {lo : Nat}, (gapsM hi lo l).length ≤ l.length + 1
  | [], lo => by unfold gapsM; split <;> simp
  | y :: r, lo => by
    unfold gapsM
    have := gapsM_len (hi := hi) (l := r) (lo := max lo y.2)
    rw [List.length_append, List.length_cons]
    split <;> simp <;> omega
theorem firstIn_self {p : Nat → Bool} (e : Nat) : firstIn p e e = e := firstIn_none (Nat.le_refl _) (fun k h1 h2 => by omega)
/-- The gaps are the runs. -/
theorem runs_gaps {p : Nat → Bool} {e : Nat} : ∀ {l : Sps} {f i : Nat}, Srt l → l.length < f → i ≤ e → (∀ k, i ≤ k → k < e → (p k = true ↔ ¬ inS l k)) → runsN p e f i = gapsM e i l
  | [], f, i, _, hf, hie, hp => by
    obtain ⟨f, rfl⟩ : ∃ f', f = f' + 1 := ⟨f - 1, by simp at hf; omega⟩
    have hall : ∀ k, i ≤ k → k < e → p k = true := fun k h1 h2 => (hp k h1 h2).2 (inS_nil k)
    unfold runsN gapsM
    by_cases h : i < e
    · have e1 : firstIn p i e = i := firstIn_eq (Nat.le_refl _) hie (fun j h1 h2 => by omega) (fun h => hall i (Nat.le_refl _) h)
      have e2 : firstIn (fun k => !p k) i e = e := firstIn_none hie (fun k h1 h2 => by rw [hall k h1 h2]; rfl)
      rw [e1, e2, if_pos h, if_pos h]
      cases f with
      | zero => rfl
      | succ f => unfold runsN; rw [firstIn_self, if_neg (Nat.lt_irrefl _)]
    · have : i = e := by omega
      subst this
      rw [firstIn_self, if_neg (Nat.lt_irrefl _), if_neg (Nat.lt_irrefl _)]
  | y :: r, f, i, hs, hf, hie, hp => by
    obtain ⟨f, rfl⟩ : ∃ f', f = f' + 1 := ⟨f - 1, by simp at hf; omega⟩
    have hy := hs.head
    have hf' : r.length < f := by simp at hf; omega
    have hrest : ∀ k, y.2 ≤ k → (inS (y :: r) k ↔ inS r k) := fun k hk => by
      rw [inS_cons]
      constructor
      · rintro (h | h)
        · omega
        · exact h
      · exact .inr
    have skip : ∀ f, r.length < f → ∀ i', i ≤ i' → y.1 ≤ i' → i' ≤ e → runsN p e f i' = gapsM e (max i' y.2) r := by
      intro f hf i' hii hyi hie'
      by_cases h2 : e ≤ y.2
      · rw [gapsM_nil (by omega)]
        obtain ⟨f, rfl⟩ : ∃ f', f = f' + 1 := ⟨f - 1, by omega⟩
        have e1 : firstIn p i' e = e := firstIn_none hie' (fun k h3 h4 => by
          rw [← Bool.not_eq_true, hp k (by omega) h4, Classical.not_not, inS_cons]
          exact .inl ⟨by omega, by omega⟩)
        unfold runsN
        rw [e1, if_neg (Nat.lt_irrefl _)]
      · have ih := runs_gaps (p := p) (e := e) (l := r) (f := f) (i := max i' y.2) hs.tail hf (by omega) (fun k h3 h4 => by rw [hp k (by omega) h4, hrest k (by omega)])
        rw [← ih]
        obtain ⟨f, rfl⟩ : ∃ f', f = f' + 1 := ⟨f - 1, by omega⟩
        have e1 : firstIn p i' e = firstIn p (max i' y.2) e := by
          refine firstIn_eq ?_ ?_ ?_ ?_
          · have := firstIn_ge p (max i' y.2) e; omega
          · exact firstIn_le p (by omega)
          · intro j h3 h4
            by_cases h5 : j < max i' y.2
            · rw [← Bool.not_eq_true, hp j (by omega) (by omega), Classical.not_not, inS_cons]
              exact .inl ⟨by omega, by omega⟩
            · exact firstIn_not (by omega) h4
          · intro h3
            exact firstIn_at h3
        unfold runsN
        rw [e1]
    unfold gapsM
    by_cases h : i < min e y.1
    · rw [if_pos h]
      have hni : ∀ k, i ≤ k → k < min e y.1 → p k = true := fun k h1 h2 => (hp k h1 (by omega)).2 (by
        rw [inS_cons]
        rintro (h | ⟨q, hq, h4, h5⟩)
        · omega
        · have := hy.2 q hq
          omega)
      have e1 : firstIn p i e = i := firstIn_eq (Nat.le_refl _) hie (fun j h1 h2 => by omega) (fun _ => hni i (Nat.le_refl _) h)
      have e2 : firstIn (fun k => !p k) i e = min e y.1 := firstIn_eq (by omega) (by omega) (fun j h1 h2 => by rw [hni j h1 h2]; rfl) (fun h3 => by
        have : min e y.1 = y.1 := by omega
        rw [this]
        show (!p y.1) = true
        rw [Bool.not_eq_true', ← Bool.not_eq_true, hp y.1 (by omega) (by omega), Classical.not_not, inS_cons]
        exact .inl ⟨Nat.le_refl _, hy.1⟩)
      unfold runsN
      rw [e1, e2, if_pos (by omega)]
      show _ :: _ = _ :: _
      congr 1
      by_cases h3 : y.1 < e
      · rw [show min e y.1 = y.1 by omega, skip f hf' y.1 (by omega) (Nat.le_refl _) (by omega)]
        congr 1
        omega
      · rw [show min e y.1 = e by omega, gapsM_nil (by omega)]
        cases f with
        | zero => rfl
        | succ f => unfold runsN; rw [firstIn_self, if_neg (Nat.lt_irrefl _)]; rfl
    · rw [if_neg h]
      show _ = [] ++ _
      rw [List.nil_append]
      by_cases h3 : e ≤ y.1
      · have : i = e := by omega
        subst this
        rw [gapsM_nil (by omega)]
        unfold runsN
        rw [firstIn_self, if_neg (Nat.lt_irrefl _)]
      · exact skip (f + 1) (by omega) i (Nat.le_refl _) (by omega) hie
def endS (l : Sps) : Nat := (l.getLastD (0, 0)).2
theorem endS_at {l : Sps} (_h : l ≠ []) : endS l = (l.getD (l.length - 1) (0, 0)).2 := by
  unfold endS
  rw [List.getLastD_eq_getLast?, List.getLast?_eq_getElem?, List.getD_eq_getElem?_getD]
theorem Srt.endLe {l : Sps} (h : Srt l) : EndLe l (endS l) := fun q hq => by
  have hne : l ≠ [] := by rintro rfl; cases hq
  obtain ⟨k, hk, e⟩ := List.mem_iff_getElem.1 hq
  have e' : q = l.getD k (0, 0) := by rw [List.getD_eq_getElem?_getD, List.getElem?_eq_getElem hk]; exact e.symm
  rw [endS_at hne]
  rcases Nat.lt_or_ge k (l.length - 1) with h1 | h1
  · have h2 := h.getLt h1 (by omega)
    have h3 := h.getPos (show l.length - 1 < l.length by omega)
    rw [e']
    omega
  · rw [e', show k = l.length - 1 by omega]
    omega
theorem Srt.endIn {l : Sps} (h : Srt l) (h0 : 0 < endS l) : inS l (endS l - 1) := by
  have hne : l ≠ [] := by rintro rfl; simp [endS] at h0
  have hl : 0 < l.length := List.length_pos_iff.2 hne
  have h3 := h.getPos (show l.length - 1 < l.length by omega)
  refine ⟨_, getD_memS (show l.length - 1 < l.length by omega), ?_, ?_⟩
  · rw [endS_at hne]; omega
  · rw [endS_at hne]; omega
theorem inS_lt {l : Sps} (h : Srt l) {i : Nat} (hi : inS l i) : i < endS l := by
  obtain ⟨q, hq, h1, h2⟩ := hi
  have := h.endLe q hq
  omega
/-- The end, told by the bytes. -/
theorem endS_eq {l : Sps} (h : Srt l) {e : Nat} (h1 : ∀ i, inS l i → i < e) (h2 : 0 < e → inS l (e - 1)) : endS l = e := by
  rcases Nat.lt_trichotomy (endS l) e with h3 | h3 | h3
  · have := inS_lt h (h2 (by omega))
    omega
  · exact h3
  · have := h1 _ (h.endIn (by omega))
    omega
end Go.Proofs.Ytbjgfoiikhbonaf
namespace Go.Proofs.Ytbjgfoiikhbonaf
open Go.ChangeShapes Go.WideShapes Go.ChangeAt Go.RowKit
def cellsSp (l : Sps) : List Value := l.flatMap fun q => [.int .i64 (q.1 : Int), .int .i64 (q.2 : Int)]
theorem cellsSp_len (l : Sps) : (cellsSp l).length = l.length * 2 := by
  induction l with
  | nil => rfl
  | cons q l ih => simp only [cellsSp, List.flatMap_cons, List.length_append, List.length_cons, List.length_nil] at ih ⊢; omega
theorem cellsSp_one (l : Sps) : ∀ u ∈ cellsSp l, u.oneCell' = true := by
  intro u hu
  simp only [cellsSp, List.mem_flatMap] at hu
  obtain ⟨q, _, h⟩ := hu
  simp at h
  rcases h with rfl | rfl <;> rfl
theorem cellsSp_app (l r : Sps) : cellsSp (l ++ r) = cellsSp l ++ cellsSp r := by simp [cellsSp]
theorem cellsSp_take (l : Sps) : ∀ i, (cellsSp l).take (i * 2) = cellsSp (l.take i) := by
  induction l with
  | nil => intro i; simp [cellsSp]
  | cons q l ih =>
    intro i
    cases i with
    | zero => simp [cellsSp]
    | succ i =>
      have e : cellsSp (q :: l) = .int .i64 (q.1 : Int) :: .int .i64 (q.2 : Int) :: cellsSp l := rfl
      have e' : cellsSp (q :: l.take i) = .int .i64 (q.1 : Int) :: .int .i64 (q.2 : Int) :: cellsSp (l.take i) := rfl
      rw [e, List.take_succ_cons, e', show (i + 1) * 2 = i * 2 + 1 + 1 by omega, List.take_succ_cons, List.take_succ_cons, ih]
theorem cellsSp_drop (l : Sps) : ∀ i, (cellsSp l).drop (i * 2) = cellsSp (l.drop i) := by
  induction l with
  | nil => intro i; simp [cellsSp]
  | cons q l ih =>
    intro i
    cases i with
    | zero => simp
    | succ i =>
      have e : cellsSp (q :: l) = .int .i64 (q.1 : Int) :: .int .i64 (q.2 : Int) :: cellsSp l := rfl
      rw [e, List.drop_succ_cons, show (i + 1) * 2 = i * 2 + 1 + 1 by omega, List.drop_succ_cons, List.drop_succ_cons, ih]
theorem cellsSp_at (l : Sps) : ∀ i, i < l.length → (cellsSp l)[i * 2]? = some (.int .i64 ((l.getD i (0, 0)).1 : Int)) ∧ (cellsSp l)[i * 2 + 1]? = some (.int .i64 ((l.getD i (0, 0)).2 : Int)) := by
  induction l with
  | nil => intro i h; simp at h
  | cons q l ih =>
    intro i h
    have e : cellsSp (q :: l) = .int .i64 (q.1 : Int) :: .int .i64 (q.2 : Int) :: cellsSp l := rfl
    cases i with
    | zero => exact ⟨rfl, rfl⟩
    | succ i =>
      have h' : i < l.length := by simpa using h
      have := ih i h'
      rw [e, show (i + 1) * 2 = i * 2 + 1 + 1 by omega, List.getElem?_cons_succ, List.getElem?_cons_succ, List.getElem?_cons_succ]
      exact this
/-- Spans of one's own. -/
def OwnSp (w : World) (v : Value) (l : Sps) : Prop := w.ownsRow 0 114 2 v l.length (cellsSp l)
theorem OwnSp.nil (w : World) : OwnSp w (.slice none 0 0) [] := World.ownsRow_nil _ _ _ _
theorem OwnSp.kept {w w' : World} {v : Value} {l : Sps} {S : List Nat} (h : OwnSp w v l) (hk : Kept S w w') (hs : ∀ g, v.ownBlock = some g → g ∉ S) : OwnSp w' v l := keptRow h hk hs
theorem OwnSp.shape {w : World} {v : Value} {l : Sps} (h : OwnSp w v l) : ∃ a c, v = .slice a l.length c ∧ l.length ≤ c ∧ c ≤ maxLen ∧ (∀ x, a = some x → ∃ g, x = ⟨g, 0, none⟩ ∧ v.ownBlock = some g) := row_shape h
theorem OwnSp.lt {w : World} {v : Value} {l : Sps} (h : OwnSp w v l) {g : Nat} (hg : v.ownBlock = some g) : g < w.heap.size := (World.ownsRow.lt h g hg).2
theorem OwnSp.at {w : World} {a : Option Addr} {c n : Nat} {l : Sps} (h : OwnSp w (.slice a n c) l) {i : Nat} (hi : i < l.length) : ∃ g, a = some ⟨g, 0, none⟩ ∧ g < w.heap.size ∧ ∀ k, k < l.length → w.cell? ⟨g, k * 2, none⟩ = some (.int .i64 ((l.getD k (0, 0)).1 : Int)) ∧ w.cell? ⟨g, k * 2 + 1, none⟩ = some (.int .i64 ((l.getD k (0, 0)).2 : Int)) := by
  have hn := row_len h
  subst hn
  obtain ⟨g, rfl⟩ := row_some h (by omega)
  obtain ⟨cur, hA, -, -, -, -, hct, hxl⟩ := row_at h
  refine ⟨g, rfl, hA.lt, fun k hk => ?_⟩
  have h2 := cellsSp_at l k hk
  rw [hA.cell, hA.cell, ← h2.1, ← h2.2, ← hct, List.getElem?_take_of_lt (by omega), List.getElem?_take_of_lt (by omega)]
  exact ⟨rfl, rfl⟩
theorem OwnSp.free {w : World} {g c n : Nat} {l : Sps} (h : OwnSp w (.slice (some ⟨g, 0, none⟩) n c) l) (j : Nat) : w.frozen? ⟨g, j, none⟩ = false := by
  obtain ⟨cur, hA, -⟩ := row_at h
  exact hA.free j
set_option maxHeartbeats 1000000 in
theorem spEnd_any {w : World} {a : Option Addr} {n c : Nat} {l : Sps} (h : OwnSp w (.slice a n c) l) (hn : l.length ≤ 4000) :
    Calls Try.prog 60 #[.slice a n c] w fun e w' => e = .returned (.int .i64 ((endS l : Nat) : Int)) ∧ w' = w := by
  have hl := row_len h
  subst hl
  by_cases h0 : l.length = 0
  · have e : l = [] := List.eq_nil_of_length_eq_zero h0
    subst e
    clear h hn h0
    go_enter Try.func60, Try.ntmps60
    go_wp2
    all_goals (go_ret; exact ⟨rfl, rfl⟩)
  · obtain ⟨g, rfl, -, hC⟩ := h.at (i := 0) (by omega)
    have hc1 := (hC (l.length - 1) (by omega)).2
    have he := hid (endS_at (l := l) (by rintro rfl; simp at h0))
    obtain ⟨N, hN⟩ : ∃ N, l.length = N + 1 := ⟨l.length - 1, by omega⟩
    rw [hN, Nat.add_sub_cancel] at hc1
    rw [hN] at hn h0 ⊢
    have he2 : Hid (endS l = (l.getD N (0, 0)).2) := by
      have := he.out
      rw [hN, Nat.add_sub_cancel] at this
      exact this
    have hw : IntKind.i64.wrap ((N : Int) + 1 - 1) = (N : Int) := by rw [IntKind.wrap_i64]; omega
    have hx : ¬ ((N : Int) + 1 = 0) := by omega
    generalize (l.getD N (0, 0)).2 = E at *
    clear h he hC hN
    go_enter Try.func60, Try.ntmps60
    go_wp2
    all_goals (go_ret; exact ⟨by rw [he2.out]; rfl, rfl⟩)
end Go.Proofs.Ytbjgfoiikhbonaf
