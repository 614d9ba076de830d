import Derived.Test.YtbjgfoiikhbonafK28
import Derived.Test.YtbjgfoiikhbonafK13
import Derived.Test.YtbjgfoiikhbonafK04
set_option linter.unusedVariables false
set_option linter.unusedSimpArgs false
namespace Go.Proofs.Ytbjgfoiikhbonaf
open Go.ChangeShapes Go.WideShapes Go.ChangeAt Go.RowKit
def tailWp (P : Program) (ops : Array Oper) (Q : Exit → Act → World → Prop) : List Nat → Act → World → Prop
  | [], a, w => Q .normal a w
  | i :: is, a, w => wpOp P ops Q i (fun a' w' => tailWp P ops Q is a' w') a w
theorem lkp_mid {l0 : List Value} (su : Nat) (post : List (Nat × Value)) (x x' : Value) : ∀ (pre : List (Nat × Value)) (s : Nat), s ≠ su → lkp l0 (pre ++ (su, x) :: post) s = lkp l0 (pre ++ (su, x') :: post) s
  | [], s, h => by
    have h1 : Nat.beq su s = false := beq_ne (fun e => h e.symm)
    rw [List.nil_append, List.nil_append, lkp, lkp]
    simp only [h1]
  | q :: pre, s, h => by
    rw [List.cons_append, List.cons_append, lkp, lkp, lkp_mid su post x x' pre s h]
theorem getD_atQ {α : Type} (l : List α) (d : α) {i : Nat} (h : i < l.length) : l.getD i d = l[i] := by simp [List.getD, h]
set_option maxHeartbeats 1000000 in
theorem region_grow {P : Program} {ops : Array Oper} {id : Nat} {l0 : List Value} {Q : Exit → Act → World → Prop} (n k u : Nat) (pre : List (Nat × Value)) (su : Nat) (post : List (Nat × Value)) (reads : List (List Nat)) (par : List Nat) (U : Value → World → Prop) (wr : World) (hm : P.follows .mixedOrders = true) (hn : ops.size = n) (hkn : k < n)
    (hu : pre.length = u) (hdk : pre.length + 1 + post.length = k) (hnd : ((pre ++ (su, undef) :: post).map (·.1)).Nodup) (hdN : ((pre ++ (su, undef) :: post).all fun q => decide (q.1 < l0.length)) = true)
    (havail : ((List.range k).all fun i => (reads.getD i []).all fun s => (List.range k).all fun j => (((pre ++ (su, undef) :: post).getD j (0, undef)).1 != s) || waitsFor ops i j) = true) (htopo : ((List.range n).all fun i => laterNone ops i) = true)
    (hrN : ((List.range k).all fun i => (reads.getD i []).all fun s => decide (s < l0.length)) = true)
    (hpar : ((List.range k).all fun j => decide (j < par.getD j 0) && (decide (par.getD j 0 ≤ k) && waitsFor ops (par.getD j 0) j)) = true) (htail : ((List.range n).all fun i => decide (i ≤ k) || waitsFor ops i (i - 1)) = true)
    (hU : ∀ x w w', U x w → w.grownBy w' none → U x w')
    (hstep : ∀ i, i < k → ∀ (x : Value) (a : Act) (w : World), Below wr.heap.size wr w → (∀ s ∈ reads.getD i [], a.eval (.tmp s) = lkp l0 (pre ++ (su, x) :: post) s) → ∀ (Q : Exit → Act → World → Prop) (K : Act → World → Prop), (i = u → ∀ x' w', w.grownBy w' none → U x' w' → K (a.put (some su) x') w') → (i ≠ u → ∀ w', w.grownBy w' none → K (a.put (some ((pre ++ (su, undef) :: post).getD i (0, undef)).1) ((pre ++ (su, undef) :: post).getD i (0, undef)).2) w') → wpOp P ops Q i K a w)
    (hlast : ∀ x w, Below wr.heap.size wr w → U x w → tailWp P ops Q (List.range' k (n - k)) { tmps := (setAll l0 (pre ++ (su, x) :: post)).toArray, defers := [] } w) :
    (Code.region id ops true).wp P Q { tmps := l0.toArray, defers := [] } wr := by
  subst hu
  have key : ∀ x : Value, (pre ++ (su, x) :: post).map (·.1) = (pre ++ (su, undef) :: post).map (·.1) := fun x => by simp
  have hlen : ∀ x : Value, (pre ++ (su, x) :: post).length = k := fun x => by simp; omega
  have hkey : ∀ (x : Value) (j : Nat), ((pre ++ (su, x) :: post).getD j (0, undef)).1 = ((pre ++ (su, undef) :: post).getD j (0, undef)).1 := fun x j => by
    have e : ∀ l : List (Nat × Value), (l.getD j (0, undef)).1 = (l.map (·.1)).getD j 0 := fun l => by
      simp only [List.getD, List.getElem?_map]
      cases l[j]? <;> rfl
    rw [e, e, key x]
  have hmid : ∀ x : Value, (pre ++ (su, x) :: post).getD pre.length (0, undef) = (su, x) := fun x => by simp [List.getD]
  have hoth : ∀ (x : Value) (j : Nat), j ≠ pre.length → (pre ++ (su, x) :: post).getD j (0, undef) = (pre ++ (su, undef) :: post).getD j (0, undef) := fun x j hj => by
    simp only [List.getD]
    rcases Nat.lt_or_ge j pre.length with h | h
    · rw [List.getElem?_append_left h, List.getElem?_append_left h]
    · rw [List.getElem?_append_right h, List.getElem?_append_right h]
      obtain ⟨m, hm'⟩ : ∃ m, j - pre.length = m + 1 := ⟨j - pre.length - 1, by omega⟩
      rw [hm', List.getElem?_cons_succ, List.getElem?_cons_succ]
  have hdN' : ∀ x : Value, ∀ q ∈ pre ++ (su, x) :: post, q.1 < l0.length := fun x q hq => by
    have h1 : q.1 ∈ (pre ++ (su, x) :: post).map (·.1) := List.mem_map_of_mem hq
    rw [key x] at h1
    obtain ⟨p, hp, e⟩ := List.mem_map.1 h1
    rw [← e]
    exact of_decide_eq_true (List.all_eq_true.1 hdN p hp)
  have hlt : ∀ (x : Value) (j : Nat), j < k → ((pre ++ (su, x) :: post).getD j (0, undef)).1 < l0.length := fun x j hj => by
    have e : (pre ++ (su, x) :: post).getD j (0, undef) = (pre ++ (su, x) :: post)[j]'(by rw [hlen]; exact hj) := getD_atQ _ _ (by rw [hlen]; exact hj)
    rw [e]
    exact hdN' x _ (List.getElem_mem _)
  have hnd' : ∀ x : Value, ((pre ++ (su, x) :: post).map (·.1)).Nodup := fun x => by rw [key x]; exact hnd
  have hP : ∀ j, j < k → j < par.getD j 0 ∧ par.getD j 0 ≤ k ∧ waitsFor ops (par.getD j 0) j = true := fun j hj => by
    have := List.all_eq_true.1 hpar j (List.mem_range.2 hj)
    rw [Bool.and_eq_true, Bool.and_eq_true, decide_eq_true_eq, decide_eq_true_eq] at this
    exact this
  have hT : ∀ i, i < n → k < i → waitsFor ops i (i - 1) = true := fun i hi hk => by
    have := List.all_eq_true.1 htail i (List.mem_range.2 hi)
    rw [Bool.or_eq_true, decide_eq_true_eq] at this
    rcases this with h | h
    · omega
    · exact h
  have hchain : ∀ (L : Nat → Bool), (∀ i j, L i = true → waitsFor ops i j = true → L j = true) → (∀ j, waitsFor ops k j = true → L j = true) → ∀ m j, j < k → k - j ≤ m → L j = true := by
    intro L hcl hk0 m
    induction m with
    | zero => intro j hj hm'; omega
    | succ m ih =>
      intro j hj hm'
      obtain ⟨p1, p2, p3⟩ := hP j hj
      by_cases hpk : par.getD j 0 = k
      · rw [hpk] at p3; exact hk0 j p3
      · exact hcl _ _ (ih _ (by omega) (by omega)) p3
  refine region_inv n (fun L a w => ((∀ j, k ≤ j → L j = false) ∧ (∀ i j, L i = true → waitsFor ops i j = true → L j = true) ∧ ∃ x, (L pre.length = true → U x w) ∧ a.tmps.size = l0.length ∧ a.defers = [] ∧ Below wr.heap.size wr w ∧ ∀ s, s < l0.length → (∀ i, i < k → ((pre ++ (su, undef) :: post).getD i (0, undef)).1 = s → L i = true) → a.eval (.tmp s) = lkp l0 (pre ++ (su, x) :: post) s) ∨ ∃ t, k ≤ t ∧ t ≤ n ∧ (∀ j, j < t → L j = true) ∧ (∀ j, t ≤ j → L j = false) ∧ tailWp P ops Q (List.range' t (n - t)) a w) _ wr hm hn htopo ?_ ?_ ?_
  · refine .inl ⟨fun _ _ => rfl, fun i j h => (by cases h), undef, fun h => (by cases h), by simp, rfl, (Below.refl _ wr).drew, fun s hs h => ?_⟩
    rw [lkp_none _ s (fun q hq e => ?_)]
    · simp [Act.eval, List.getD]
    · obtain ⟨i, hi, rfl⟩ := List.getElem_of_mem hq
      rw [hlen] at hi
      have := h i hi (by rw [← e, getD_atQ _ _ (by rw [hlen]; exact hi)])
      cases this
  · intro L a w i hI hi hLi hw
    rcases hI with ⟨hA1, hcl, x, hUx, hsz, hdf, hbel, hev⟩ | ⟨t, ht1, ht2, hB1, hB2, hB3⟩
    · rcases Nat.lt_or_ge i k with hik | hik
      · have hcl' : ∀ p j, (if p = i then true else L p) = true → waitsFor ops p j = true → (if j = i then true else L j) = true := fun p j hp hpj => by
          by_cases hji : j = i
          · rw [if_pos hji]
          · rw [if_neg hji]
            by_cases hpi : p = i
            · subst hpi; exact hw j hpj
            · rw [if_neg hpi] at hp; exact hcl p j hp hpj
        have hA1' : ∀ j, k ≤ j → (if j = i then true else L j) = false := fun j hj => by
          rw [if_neg (by omega)]; exact hA1 j hj
        refine hstep i hik x a w hbel (fun s hs => hev s ?_ (fun j hj e => hw j ?_)) Q _ (fun hiu x' w' hg hu => .inl ⟨hA1', hcl', x', fun _ => hu, by simp [Act.put, hsz], hdf, hbel.grown hg hbel.size (fun g e => by cases e), fun s hs h => ?_⟩) (fun hiu w' hg => .inl ⟨hA1', hcl', x, fun hL => hU x w w' (hUx ?_) hg, by simp [Act.put, hsz], hdf, hbel.grown hg hbel.size (fun g e => by cases e), fun s hs h => ?_⟩)
        · exact of_decide_eq_true (List.all_eq_true.1 (List.all_eq_true.1 hrN i (List.mem_range.2 hik)) s hs)
        · have := List.all_eq_true.1 (List.all_eq_true.1 (List.all_eq_true.1 havail i (List.mem_range.2 hik)) s hs) j (List.mem_range.2 hj)
          rw [e] at this
          simpa using this
        · by_cases e : su = s
          · subst e
            rw [Act.eval_put_same a _ _ (by rw [hsz]; exact hs)]
            have := lkp_at l0 _ (hnd' x') pre.length (by rw [hlen]; omega)
            rw [hmid] at this
            exact this.symm
          · rw [Act.eval_put_ne a _ _ _ e, lkp_mid su post x' x pre s (fun h => e h.symm)]
            refine hev s hs (fun j hj ej => ?_)
            have h3 : (if j = i then true else L j) = true := h j hj ej
            by_cases hji : j = i
            · subst hji; subst hiu
              rw [hmid] at ej
              exact absurd ej e
            · rw [if_neg hji] at h3; exact h3
        · have h3 : (if pre.length = i then true else L pre.length) = true := hL
          rw [if_neg (fun h => hiu h.symm)] at h3
          exact h3
        · by_cases e : ((pre ++ (su, undef) :: post).getD i (0, undef)).1 = s
          · subst e
            rw [Act.eval_put_same a _ _ (by rw [hsz]; exact hs), ← hoth x i hiu]
            exact (lkp_at l0 _ (hnd' x) i (by rw [hlen]; exact hik)).symm
          · rw [Act.eval_put_ne a _ _ _ e]
            refine hev s hs (fun j hj ej => ?_)
            have h3 : (if j = i then true else L j) = true := h j hj ej
            by_cases hji : j = i
            · subst hji; exact absurd ej e
            · rw [if_neg hji] at h3; exact h3
      · have hik' : i = k := by
          apply Nat.le_antisymm _ hik
          apply Nat.le_of_not_lt
          intro hc
          have h1 := hw _ (hT i hi hc)
          rw [hA1 (i - 1) (by omega)] at h1
          cases h1
        subst hik'
        have hall : ∀ j, j < i → L j = true := fun j hj => hchain L hcl hw _ j hj (Nat.le_refl _)
        have ha : a = { tmps := (setAll l0 (pre ++ (su, x) :: post)).toArray, defers := [] } := act_known a _ (by rw [setAll_length]; exact hsz) hdf (fun s hs => by
          rw [setAll_length] at hs
          rw [setAll_lkp _ l0 s (hnd' x) (hdN' x)]
          exact hev s hs (fun j hj _ => hall j hj))
        have h1 := hlast x w hbel (hUx (hall _ (by omega)))
        obtain ⟨m, hm'⟩ : ∃ m, n - i = m + 1 := ⟨n - i - 1, by omega⟩
        rw [hm', List.range'_succ, tailWp, ← ha] at h1
        refine wpOp_mono (fun a' w' h => .inr ⟨i + 1, by omega, by omega, fun j hj => ?_, fun j hj => ?_, ?_⟩) h1
        · show (if j = i then true else L j) = true
          by_cases hji : j = i
          · rw [if_pos hji]
          · rw [if_neg hji]; exact hall j (by omega)
        · show (if j = i then true else L j) = false
          rw [if_neg (by omega)]; exact hA1 j (by omega)
        · rw [show n - (i + 1) = m by omega]; exact h
    · have hti : t ≤ i := by
        apply Nat.le_of_not_lt
        intro hc
        rw [hB1 i hc] at hLi
        cases hLi
      have hti' : i = t := by
        apply Nat.le_antisymm _ hti
        apply Nat.le_of_not_lt
        intro hc
        have h1 := hw _ (hT i hi (by omega))
        rw [hB2 (i - 1) (by omega)] at h1
        cases h1
      subst hti'
      obtain ⟨m, hm'⟩ : ∃ m, n - i = m + 1 := ⟨n - i - 1, by omega⟩
      rw [hm', List.range'_succ, tailWp] at hB3
      refine wpOp_mono (fun a' w' h => .inr ⟨i + 1, by omega, by omega, fun j hj => ?_, fun j hj => ?_, ?_⟩) hB3
      · show (if j = i then true else L j) = true
        by_cases hji : j = i
        · rw [if_pos hji]
        · rw [if_neg hji]; exact hB1 j (by omega)
      · show (if j = i then true else L j) = false
        rw [if_neg (by omega)]; exact hB2 j (by omega)
      · rw [show n - (i + 1) = m by omega]; exact h
  · rintro L a w hL (⟨hA1, _⟩ | ⟨t, ht1, ht2, hB1, hB2, hB3⟩)
    · have := hL k hkn
      rw [hA1 k (Nat.le_refl _)] at this
      cases this
    · have htn : t = n := by
        apply Nat.le_antisymm ht2
        apply Nat.le_of_not_lt
        intro hc
        have := hL t hc
        rw [hB2 t (Nat.le_refl _)] at this
        cases this
      subst htn
      rw [Nat.sub_self] at hB3
      exact hB3
theorem eval_setAll {l0 : List Value} {t : List (Nat × Value)} (s : Nat) (hn : (t.map (·.1)).Nodup) (hl : (t.all fun q => decide (q.1 < l0.length)) = true) : ({ tmps := (setAll l0 t).toArray, defers := [] } : Act).eval (.tmp s) = lkp l0 t s := by
  rw [← setAll_lkp t l0 s hn (fun q hq => of_decide_eq_true (List.all_eq_true.1 hl q hq))]
  simp [Act.eval, List.getD]
end Go.Proofs.Ytbjgfoiikhbonaf
namespace Go.Proofs.Ytbjgfoiikhbonaf
open Go.ChangeShapes Go.WideShapes Go.ChangeAt Go.RowKit
set_option maxHeartbeats 1000000 in
theorem region_growU {P : Program} {ops : Array Oper} {id : Nat} {l0 : List Value} {Q : Exit → Act → World → Prop} (n k u : Nat) (pre : List (Nat × Value)) (su : Nat) (post : List (Nat × Value)) (reads : List (List Nat)) (par : List Nat) (U : Value → World → Prop) (wr : World) (hm : P.follows .mixedOrders = true) (hn : ops.size = n) (hkn : k < n)
    (hu : pre.length = u) (hdk : pre.length + 1 + post.length = k) (hnd : ((pre ++ (su, undef) :: post).map (·.1)).Nodup) (hdN : ((pre ++ (su, undef) :: post).all fun q => decide (q.1 < l0.length)) = true)
    (havail : ((List.range k).all fun i => (reads.getD i []).all fun s => (List.range k).all fun j => (((pre ++ (su, undef) :: post).getD j (0, undef)).1 != s) || waitsFor ops i j) = true) (htopo : ((List.range n).all fun i => laterNone ops i) = true)
    (hrN : ((List.range k).all fun i => (reads.getD i []).all fun s => decide (s < l0.length)) = true)
    (hpar : ((List.range k).all fun j => decide (j < par.getD j 0) && (decide (par.getD j 0 ≤ k) && waitsFor ops (par.getD j 0) j)) = true) (htail : ((List.range n).all fun i => decide (i ≤ k) || waitsFor ops i (i - 1)) = true)
    (hU : ∀ x w w', U x w → w.grownBy w' none → U x w')
    (hstep : ∀ i, i < k → ∀ (x : Value) (a : Act) (w : World), Below wr.heap.size wr w → (su ∈ reads.getD i [] → U x w) → (∀ s ∈ reads.getD i [], a.eval (.tmp s) = lkp l0 (pre ++ (su, x) :: post) s) → ∀ (Q : Exit → Act → World → Prop) (K : Act → World → Prop), (i = u → ∀ x' w', w.grownBy w' none → U x' w' → K (a.put (some su) x') w') → (i ≠ u → ∀ w', w.grownBy w' none → K (a.put (some ((pre ++ (su, undef) :: post).getD i (0, undef)).1) ((pre ++ (su, undef) :: post).getD i (0, undef)).2) w') → wpOp P ops Q i K a w)
    (hlast : ∀ x w, Below wr.heap.size wr w → U x w → tailWp P ops Q (List.range' k (n - k)) { tmps := (setAll l0 (pre ++ (su, x) :: post)).toArray, defers := [] } w) :
    (Code.region id ops true).wp P Q { tmps := l0.toArray, defers := [] } wr := by
  subst hu
  have key : ∀ x : Value, (pre ++ (su, x) :: post).map (·.1) = (pre ++ (su, undef) :: post).map (·.1) := fun x => by simp
  have hlen : ∀ x : Value, (pre ++ (su, x) :: post).length = k := fun x => by simp; omega
  have hkey : ∀ (x : Value) (j : Nat), ((pre ++ (su, x) :: post).getD j (0, undef)).1 = ((pre ++ (su, undef) :: post).getD j (0, undef)).1 := fun x j => by
    have e : ∀ l : List (Nat × Value), (l.getD j (0, undef)).1 = (l.map (·.1)).getD j 0 := fun l => by
      simp only [List.getD, List.getElem?_map]
      cases l[j]? <;> rfl
    rw [e, e, key x]
  have hmid : ∀ x : Value, (pre ++ (su, x) :: post).getD pre.length (0, undef) = (su, x) := fun x => by simp [List.getD]
  have hoth : ∀ (x : Value) (j : Nat), j ≠ pre.length → (pre ++ (su, x) :: post).getD j (0, undef) = (pre ++ (su, undef) :: post).getD j (0, undef) := fun x j hj => by
    simp only [List.getD]
    rcases Nat.lt_or_ge j pre.length with h | h
    · rw [List.getElem?_append_left h, List.getElem?_append_left h]
    · rw [List.getElem?_append_right h, List.getElem?_append_right h]
      obtain ⟨m, hm'⟩ : ∃ m, j - pre.length = m + 1 := ⟨j - pre.length - 1, by omega⟩
      rw [hm', List.getElem?_cons_succ, List.getElem?_cons_succ]
  have hdN' : ∀ x : Value, ∀ q ∈ pre ++ (su, x) :: post, q.1 < l0.length := fun x q hq => by
    have h1 : q.1 ∈ (pre ++ (su, x) :: post).map (·.1) := List.mem_map_of_mem hq
    rw [key x] at h1
    obtain ⟨p, hp, e⟩ := List.mem_map.1 h1
    rw [← e]
    exact of_decide_eq_true (List.all_eq_true.1 hdN p hp)
  have hlt : ∀ (x : Value) (j : Nat), j < k → ((pre ++ (su, x) :: post).getD j (0, undef)).1 < l0.length := fun x j hj => by
    have e : (pre ++ (su, x) :: post).getD j (0, undef) = (pre ++ (su, x) :: post)[j]'(by rw [hlen]; exact hj) := getD_atQ _ _ (by rw [hlen]; exact hj)
    rw [e]
    exact hdN' x _ (List.getElem_mem _)
  have hnd' : ∀ x : Value, ((pre ++ (su, x) :: post).map (·.1)).Nodup := fun x => by rw [key x]; exact hnd
  have hP : ∀ j, j < k → j < par.getD j 0 ∧ par.getD j 0 ≤ k ∧ waitsFor ops (par.getD j 0) j = true := fun j hj => by
    have := List.all_eq_true.1 hpar j (List.mem_range.2 hj)
    rw [Bool.and_eq_true, Bool.and_eq_true, decide_eq_true_eq, decide_eq_true_eq] at this
    exact this
  have hT : ∀ i, i < n → k < i → waitsFor ops i (i - 1) = true := fun i hi hk => by
    have := List.all_eq_true.1 htail i (List.mem_range.2 hi)
    rw [Bool.or_eq_true, decide_eq_true_eq] at this
    rcases this with h | h
    · omega
    · exact h
  have hchain : ∀ (L : Nat → Bool), (∀ i j, L i = true → waitsFor ops i j = true → L j = true) → (∀ j, waitsFor ops k j = true → L j = true) → ∀ m j, j < k → k - j ≤ m → L j = true := by
    intro L hcl hk0 m
    induction m with
    | zero => intro j hj hm'; omega
    | succ m ih =>
      intro j hj hm'
      obtain ⟨p1, p2, p3⟩ := hP j hj
      by_cases hpk : par.getD j 0 = k
      · rw [hpk] at p3; exact hk0 j p3
      · exact hcl _ _ (ih _ (by omega) (by omega)) p3
  refine region_inv n (fun L a w => ((∀ j, k ≤ j → L j = false) ∧ (∀ i j, L i = true → waitsFor ops i j = true → L j = true) ∧ ∃ x, (L pre.length = true → U x w) ∧ a.tmps.size = l0.length ∧ a.defers = [] ∧ Below wr.heap.size wr w ∧ ∀ s, s < l0.length → (∀ i, i < k → ((pre ++ (su, undef) :: post).getD i (0, undef)).1 = s → L i = true) → a.eval (.tmp s) = lkp l0 (pre ++ (su, x) :: post) s) ∨ ∃ t, k ≤ t ∧ t ≤ n ∧ (∀ j, j < t → L j = true) ∧ (∀ j, t ≤ j → L j = false) ∧ tailWp P ops Q (List.range' t (n - t)) a w) _ wr hm hn htopo ?_ ?_ ?_
  · refine .inl ⟨fun _ _ => rfl, fun i j h => (by cases h), undef, fun h => (by cases h), by simp, rfl, (Below.refl _ wr).drew, fun s hs h => ?_⟩
    rw [lkp_none _ s (fun q hq e => ?_)]
    · simp [Act.eval, List.getD]
    · obtain ⟨i, hi, rfl⟩ := List.getElem_of_mem hq
      rw [hlen] at hi
      have := h i hi (by rw [← e, getD_atQ _ _ (by rw [hlen]; exact hi)])
      cases this
  · intro L a w i hI hi hLi hw
    rcases hI with ⟨hA1, hcl, x, hUx, hsz, hdf, hbel, hev⟩ | ⟨t, ht1, ht2, hB1, hB2, hB3⟩
    · rcases Nat.lt_or_ge i k with hik | hik
      · have hcl' : ∀ p j, (if p = i then true else L p) = true → waitsFor ops p j = true → (if j = i then true else L j) = true := fun p j hp hpj => by
          by_cases hji : j = i
          · rw [if_pos hji]
          · rw [if_neg hji]
            by_cases hpi : p = i
            · subst hpi; exact hw j hpj
            · rw [if_neg hpi] at hp; exact hcl p j hp hpj
        have hA1' : ∀ j, k ≤ j → (if j = i then true else L j) = false := fun j hj => by
          rw [if_neg (by omega)]; exact hA1 j hj
        refine hstep i hik x a w hbel (fun hs => hUx (hw _ ?_)) (fun s hs => hev s ?_ (fun j hj e => hw j ?_)) Q _ (fun hiu x' w' hg hu => .inl ⟨hA1', hcl', x', fun _ => hu, by simp [Act.put, hsz], hdf, hbel.grown hg hbel.size (fun g e => by cases e), fun s hs h => ?_⟩) (fun hiu w' hg => .inl ⟨hA1', hcl', x, fun hL => hU x w w' (hUx ?_) hg, by simp [Act.put, hsz], hdf, hbel.grown hg hbel.size (fun g e => by cases e), fun s hs h => ?_⟩)
        · have := List.all_eq_true.1 (List.all_eq_true.1 (List.all_eq_true.1 havail i (List.mem_range.2 hik)) su hs) pre.length (List.mem_range.2 (by omega))
          rw [hmid] at this
          simpa using this
        · exact of_decide_eq_true (List.all_eq_true.1 (List.all_eq_true.1 hrN i (List.mem_range.2 hik)) s hs)
        · have := List.all_eq_true.1 (List.all_eq_true.1 (List.all_eq_true.1 havail i (List.mem_range.2 hik)) s hs) j (List.mem_range.2 hj)
          rw [e] at this
          simpa using this
        · by_cases e : su = s
          · subst e
            rw [Act.eval_put_same a _ _ (by rw [hsz]; exact hs)]
            have := lkp_at l0 _ (hnd' x') pre.length (by rw [hlen]; omega)
            rw [hmid] at this
            exact this.symm
          · rw [Act.eval_put_ne a _ _ _ e, lkp_mid su post x' x pre s (fun h => e h.symm)]
            refine hev s hs (fun j hj ej => ?_)
            have h3 : (if j = i then true else L j) = true := h j hj ej
            by_cases hji : j = i
            · subst hji; subst hiu
              rw [hmid] at ej
              exact absurd ej e
            · rw [if_neg hji] at h3; exact h3
        · have h3 : (if pre.length = i then true else L pre.length) = true := hL
          rw [if_neg (fun h => hiu h.symm)] at h3
          exact h3
        · by_cases e : ((pre ++ (su, undef) :: post).getD i (0, undef)).1 = s
          · subst e
            rw [Act.eval_put_same a _ _ (by rw [hsz]; exact hs), ← hoth x i hiu]
            exact (lkp_at l0 _ (hnd' x) i (by rw [hlen]; exact hik)).symm
          · rw [Act.eval_put_ne a _ _ _ e]
            refine hev s hs (fun j hj ej => ?_)
            have h3 : (if j = i then true else L j) = true := h j hj ej
            by_cases hji : j = i
            · subst hji; exact absurd ej e
            · rw [if_neg hji] at h3; exact h3
      · have hik' : i = k := by
          apply Nat.le_antisymm _ hik
          apply Nat.le_of_not_lt
          intro hc
          have h1 := hw _ (hT i hi hc)
          rw [hA1 (i - 1) (by omega)] at h1
          cases h1
        subst hik'
        have hall : ∀ j, j < i → L j = true := fun j hj => hchain L hcl hw _ j hj (Nat.le_refl _)
        have ha : a = { tmps := (setAll l0 (pre ++ (su, x) :: post)).toArray, defers := [] } := act_known a _ (by rw [setAll_length]; exact hsz) hdf (fun s hs => by
          rw [setAll_length] at hs
          rw [setAll_lkp _ l0 s (hnd' x) (hdN' x)]
          exact hev s hs (fun j hj _ => hall j hj))
        have h1 := hlast x w hbel (hUx (hall _ (by omega)))
        obtain ⟨m, hm'⟩ : ∃ m, n - i = m + 1 := ⟨n - i - 1, by omega⟩
        rw [hm', List.range'_succ, tailWp, ← ha] at h1
        refine wpOp_mono (fun a' w' h => .inr ⟨i + 1, by omega, by omega, fun j hj => ?_, fun j hj => ?_, ?_⟩) h1
        · show (if j = i then true else L j) = true
          by_cases hji : j = i
          · rw [if_pos hji]
          · rw [if_neg hji]; exact hall j (by omega)
        · show (if j = i then true else L j) = false
          rw [if_neg (by omega)]; exact hA1 j (by omega)
        · rw [show n - (i + 1) = m by omega]; exact h
    · have hti : t ≤ i := by
        apply Nat.le_of_not_lt
        intro hc
        rw [hB1 i hc] at hLi
        cases hLi
      have hti' : i = t := by
        apply Nat.le_antisymm _ hti
        apply Nat.le_of_not_lt
        intro hc
        have h1 := hw _ (hT i hi (by omega))
        rw [hB2 (i - 1) (by omega)] at h1
        cases h1
      subst hti'
      obtain ⟨m, hm'⟩ : ∃ m, n - i = m + 1 := ⟨n - i - 1, by omega⟩
      rw [hm', List.range'_succ, tailWp] at hB3
      refine wpOp_mono (fun a' w' h => .inr ⟨i + 1, by omega, by omega, fun j hj => ?_, fun j hj => ?_, ?_⟩) hB3
      · show (if j = i then true else L j) = true
        by_cases hji : j = i
        · rw [if_pos hji]
        · rw [if_neg hji]; exact hB1 j (by omega)
      · show (if j = i then true else L j) = false
        rw [if_neg (by omega)]; exact hB2 j (by omega)
      · rw [show n - (i + 1) = m by omega]; exact h
  · rintro L a w hL (⟨hA1, _⟩ | ⟨t, ht1, ht2, hB1, hB2, hB3⟩)
    · have := hL k hkn
      rw [hA1 k (Nat.le_refl _)] at this
      cases this
    · have htn : t = n := by
        apply Nat.le_antisymm ht2
        apply Nat.le_of_not_lt
        intro hc
        have := hL t hc
        rw [hB2 t (Nat.le_refl _)] at this
        cases this
      subst htn
      rw [Nat.sub_self] at hB3
      exact hB3
end Go.Proofs.Ytbjgfoiikhbonaf
namespace Go.Proofs.Ytbjgfoiikhbonaf
open Go.ChangeShapes Go.WideShapes Go.ChangeAt Go.RowKit
theorem run_moveQ {ρ : Operand → Value} {P : Program} (w : World) {o : Oper} {x : Operand} {v : Value} (ho : o.op = .move x) (h : ρ x = v) : (execOp ρ o).run P w = .ok (.value v) w := by
  unfold execOp
  simp only [ho, h]
  simp [go_sem]
end Go.Proofs.Ytbjgfoiikhbonaf
