import Derived.Test.YtbjgfoiikhbonafK29
import Derived.Test.YtbjgfoiikhbonafK04
set_option linter.unusedVariables false
set_option linter.unusedSimpArgs false
namespace Go.Proofs.Ytbjgfoiikhbonaf
open Go.ChangeShapes Go.WideShapes Go.ChangeAt Go.RowKit
def tbS (dst : List Nat) (k : Nat) (σ : Nat → Value) : List (Nat × Value) := (List.range k).map fun i => (dst.getD i 0, σ i)
theorem tbS_length (dst : List Nat) (k : Nat) (σ : Nat → Value) : (tbS dst k σ).length = k := by simp [tbS]
theorem tbS_at (dst : List Nat) (k : Nat) (σ : Nat → Value) {i : Nat} (hi : i < k) : (tbS dst k σ).getD i (0, undef) = (dst.getD i 0, σ i) := by simp [tbS, List.getD, hi]
theorem tbS_keys (dst : List Nat) (k : Nat) (σ : Nat → Value) (hk : dst.length = k) : (tbS dst k σ).map (·.1) = dst := by
  refine List.ext_getElem (by simp [tbS, hk]) fun i h1 h2 => ?_
  simp [tbS, List.getD, h2]
theorem lkp_tbS {l0 : List Value} {dst : List Nat} {k : Nat} (σ : Nat → Value) (hk : dst.length = k) (hnd : dst.Nodup) {i : Nat} (hi : i < k) : lkp l0 (tbS dst k σ) (dst.getD i 0) = σ i := by
  have := lkp_at l0 (tbS dst k σ) (by rw [tbS_keys _ _ _ hk]; exact hnd) i (by rw [tbS_length]; exact hi)
  rwa [tbS_at _ _ _ hi] at this
theorem lkp_tbS_none {l0 : List Value} {dst : List Nat} {k : Nat} (σ : Nat → Value) {s : Nat} (h : ∀ i, i < k → dst.getD i 0 ≠ s) : lkp l0 (tbS dst k σ) s = l0.getD s undef :=
  lkp_none _ s fun q hq => by
    unfold tbS at hq
    obtain ⟨i, hi, rfl⟩ := List.mem_map.1 hq
    exact h i (List.mem_range.1 hi)
set_option maxHeartbeats 1000000 in
theorem region_sig {P : Program} {ops : Array Oper} {id : Nat} {l0 : List Value} {Q : Exit → Act → World → Prop} (n k : Nat) (dst : List Nat) (reads : List (List Nat)) (par : List Nat) (Pr : Nat → (Nat → Value) → World → Prop) (wr : World) (hm : P.follows .mixedOrders = true) (hn : ops.size = n) (hkn : k < n)
    (hdk : dst.length = k) (hnd : dst.Nodup) (hdN : (dst.all fun s => decide (s < l0.length)) = true)
    (havail : ((List.range k).all fun i => (reads.getD i []).all fun s => (List.range k).all fun j => (dst.getD j 0 != s) || waitsFor ops i j) = true) (htopo : ((List.range n).all fun i => laterNone ops i) = true)
    (hrN : ((List.range k).all fun i => (reads.getD i []).all fun s => decide (s < l0.length)) = true)
    (hpar : ((List.range k).all fun j => decide (j < par.getD j 0) && (decide (par.getD j 0 ≤ k) && waitsFor ops (par.getD j 0) j)) = true) (htail : ((List.range n).all fun i => decide (i ≤ k) || waitsFor ops i (i - 1)) = true)
    (hcong : ∀ j, j < k → ∀ σ σ' w, (∀ j', j' = j ∨ waitsFor ops j j' = true → σ j' = σ' j') → Pr j σ w → Pr j σ' w)
    (hmono : ∀ j σ w w', Pr j σ w → w.grownBy w' none → Pr j σ w')
    (hstep : ∀ i, i < k → ∀ (σ : Nat → Value) (a : Act) (w : World), Below wr.heap.size wr w → (∀ j, j < k → waitsFor ops i j = true → Pr j σ w) → (∀ s ∈ reads.getD i [], a.eval (.tmp s) = lkp l0 (tbS dst k σ) s) → ∀ (Q : Exit → Act → World → Prop) (K : Act → World → Prop), (∀ x w', w.grownBy w' none → (∀ σ' : Nat → Value, (∀ j, j ≠ i → σ' j = σ j) → σ' i = x → Pr i σ' w') → K (a.put (some (dst.getD i 0)) x) w') → wpOp P ops Q i K a w)
    (hlast : ∀ (σ : Nat → Value) w, Below wr.heap.size wr w → (∀ j, j < k → Pr j σ w) → tailWp P ops Q (List.range' k (n - k)) { tmps := (setAll l0 (tbS dst k σ)).toArray, defers := [] } w) :
    (Code.region id ops true).wp P Q { tmps := l0.toArray, defers := [] } wr := by
  have hlt : ∀ j, j < k → dst.getD j 0 < l0.length := fun j hj => by
    have hj' : j < dst.length := by omega
    have e : dst.getD j 0 = dst[j] := by simp [List.getD, hj']
    rw [e]
    exact of_decide_eq_true (List.all_eq_true.1 hdN _ (List.getElem_mem hj'))
  have hP : ∀ j, j < k → j < par.getD j 0 ∧ par.getD j 0 ≤ k ∧ waitsFor ops (par.getD j 0) j = true := fun j hj => by
    have := List.all_eq_true.1 hpar j (List.mem_range.2 hj)
    rw [Bool.and_eq_true, Bool.and_eq_true, decide_eq_true_eq, decide_eq_true_eq] at this
    exact this
  have hT : ∀ i, i < n → k < i → waitsFor ops i (i - 1) = true := fun i hi hk => by
    have := List.all_eq_true.1 htail i (List.mem_range.2 hi)
    rw [Bool.or_eq_true, decide_eq_true_eq] at this
    rcases this with h | h
    · omega
    · exact h
  have hchain : ∀ (L : Nat → Bool), (∀ i j, L i = true → waitsFor ops i j = true → L j = true) → (∀ j, waitsFor ops k j = true → L j = true) → ∀ m j, j < k → k - j ≤ m → L j = true := by
    intro L hcl hk0 m
    induction m with
    | zero => intro j hj hm'; omega
    | succ m ih =>
      intro j hj hm'
      obtain ⟨p1, p2, p3⟩ := hP j hj
      by_cases hpk : par.getD j 0 = k
      · rw [hpk] at p3; exact hk0 j p3
      · exact hcl _ _ (ih _ (by omega) (by omega)) p3
  refine region_inv n (fun L a w => ((∀ j, k ≤ j → L j = false) ∧ (∀ i j, L i = true → waitsFor ops i j = true → L j = true) ∧ ∃ σ : Nat → Value, (∀ j, j < k → L j = true → Pr j σ w) ∧ a.tmps.size = l0.length ∧ a.defers = [] ∧ Below wr.heap.size wr w ∧ ∀ s, s < l0.length → (∀ i, i < k → dst.getD i 0 = s → L i = true) → a.eval (.tmp s) = lkp l0 (tbS dst k σ) s) ∨ ∃ t, k ≤ t ∧ t ≤ n ∧ (∀ j, j < t → L j = true) ∧ (∀ j, t ≤ j → L j = false) ∧ tailWp P ops Q (List.range' t (n - t)) a w) _ wr hm hn htopo ?_ ?_ ?_
  · refine .inl ⟨fun _ _ => rfl, fun i j h => (by cases h), fun _ => undef, fun j _ h => (by cases h), by simp, rfl, (Below.refl _ wr).drew, fun s hs h => ?_⟩
    rw [lkp_tbS_none _ (fun i hi e => by have := h i hi e; cases this)]
    simp [Act.eval, List.getD]
  · intro L a w i hI hi hLi hw
    rcases hI with ⟨hA1, hcl, σ, hPr, hsz, hdf, hbel, hev⟩ | ⟨t, ht1, ht2, hB1, hB2, hB3⟩
    · rcases Nat.lt_or_ge i k with hik | hik
      · refine hstep i hik σ a w hbel (fun j hj hwj => hPr j hj (hw j hwj)) (fun s hs => hev s ?_ (fun j hj e => hw j ?_)) Q _ (fun x w' hg hx => .inl ⟨fun j hj => ?_, fun p j hp hpj => ?_, fun j => if j = i then x else σ j, fun j hj hLj => ?_, by simp [Act.put, hsz], hdf, hbel.grown hg hbel.size (fun g e => by cases e), fun s hs h => ?_⟩)
        · exact of_decide_eq_true (List.all_eq_true.1 (List.all_eq_true.1 hrN i (List.mem_range.2 hik)) s hs)
        · have := List.all_eq_true.1 (List.all_eq_true.1 (List.all_eq_true.1 havail i (List.mem_range.2 hik)) s hs) j (List.mem_range.2 hj)
          rw [e] at this
          simpa using this
        · show (if j = i then true else L j) = false
          rw [if_neg (by omega)]; exact hA1 j hj
        · show (if j = i then true else L j) = true
          have hp' : (if p = i then true else L p) = true := hp
          by_cases hji : j = i
          · rw [if_pos hji]
          · rw [if_neg hji]
            by_cases hpi : p = i
            · subst hpi; exact hw j hpj
            · rw [if_neg hpi] at hp'; exact hcl p j hp' hpj
        · have hLj' : (if j = i then true else L j) = true := hLj
          by_cases hji : j = i
          · subst hji
            exact hx _ (fun j' hj' => by simp [hj']) (by simp)
          · rw [if_neg hji] at hLj'
            refine hmono j _ w w' (hcong j hj σ _ w (fun j' hj' => ?_) (hPr j hj hLj')) hg
            have hne : j' ≠ i := by
              rintro rfl
              rcases hj' with rfl | hw'
              · exact hji rfl
              · rw [hcl j _ hLj' hw'] at hLi; cases hLi
            simp [hne]
        · by_cases e : dst.getD i 0 = s
          · subst e
            rw [Act.eval_put_same a _ _ (by rw [hsz]; exact hs), lkp_tbS _ hdk hnd hik]
            simp
          · rw [Act.eval_put_ne a _ _ _ e]
            have h3 := hev s hs (fun j hj ej => by
              have h3 : (if j = i then true else L j) = true := h j hj ej
              by_cases hji : j = i
              · subst hji; exact absurd ej e
              · rw [if_neg hji] at h3; exact h3)
            rw [h3]
            by_cases hex : ∃ j, j < k ∧ dst.getD j 0 = s
            · obtain ⟨j, hj, rfl⟩ := hex
              rw [lkp_tbS _ hdk hnd hj, lkp_tbS _ hdk hnd hj]
              have hne : j ≠ i := fun h => e (by rw [h])
              simp [hne]
            · rw [lkp_tbS_none _ (fun j hj ej => hex ⟨j, hj, ej⟩), lkp_tbS_none _ (fun j hj ej => hex ⟨j, hj, ej⟩)]
      · have hik' : i = k := by
          apply Nat.le_antisymm _ hik
          apply Nat.le_of_not_lt
          intro hc
          have h1 := hw _ (hT i hi hc)
          rw [hA1 (i - 1) (by omega)] at h1
          cases h1
        subst hik'
        have hall : ∀ j, j < i → L j = true := fun j hj => hchain L hcl hw _ j hj (Nat.le_refl _)
        have ha : a = { tmps := (setAll l0 (tbS dst i σ)).toArray, defers := [] } := act_known a _ (by rw [setAll_length]; exact hsz) hdf (fun s hs => by
          rw [setAll_length] at hs
          rw [setAll_lkp _ l0 s (by rw [tbS_keys _ _ _ hdk]; exact hnd) (fun q hq => by
            unfold tbS at hq
            obtain ⟨j, hj, rfl⟩ := List.mem_map.1 hq
            exact hlt j (List.mem_range.1 hj))]
          exact hev s hs (fun j hj _ => hall j hj))
        have h1 := hlast σ w hbel (fun j hj => hPr j hj (hall j hj))
        obtain ⟨m, hm'⟩ : ∃ m, n - i = m + 1 := ⟨n - i - 1, by omega⟩
        rw [hm', List.range'_succ, tailWp, ← ha] at h1
        refine wpOp_mono (fun a' w' h => .inr ⟨i + 1, by omega, by omega, fun j hj => ?_, fun j hj => ?_, ?_⟩) h1
        · show (if j = i then true else L j) = true
          by_cases hji : j = i
          · rw [if_pos hji]
          · rw [if_neg hji]; exact hall j (by omega)
        · show (if j = i then true else L j) = false
          rw [if_neg (by omega)]; exact hA1 j (by omega)
        · rw [show n - (i + 1) = m by omega]; exact h
    · have hti : t ≤ i := by
        apply Nat.le_of_not_lt
        intro hc
        rw [hB1 i hc] at hLi
        cases hLi
      have hti' : i = t := by
        apply Nat.le_antisymm _ hti
        apply Nat.le_of_not_lt
        intro hc
        have h1 := hw _ (hT i hi (by omega))
        rw [hB2 (i - 1) (by omega)] at h1
        cases h1
      subst hti'
      obtain ⟨m, hm'⟩ : ∃ m, n - i = m + 1 := ⟨n - i - 1, by omega⟩
      rw [hm', List.range'_succ, tailWp] at hB3
      refine wpOp_mono (fun a' w' h => .inr ⟨i + 1, by omega, by omega, fun j hj => ?_, fun j hj => ?_, ?_⟩) hB3
      · show (if j = i then true else L j) = true
        by_cases hji : j = i
        · rw [if_pos hji]
        · rw [if_neg hji]; exact hB1 j (by omega)
      · show (if j = i then true else L j) = false
        rw [if_neg (by omega)]; exact hB2 j (by omega)
      · rw [show n - (i + 1) = m by omega]; exact h
  · rintro L a w hL (⟨hA1, _⟩ | ⟨t, ht1, ht2, hB1, hB2, hB3⟩)
    · have := hL k hkn
      rw [hA1 k (Nat.le_refl _)] at this
      cases this
    · have htn : t = n := by
        apply Nat.le_antisymm ht2
        apply Nat.le_of_not_lt
        intro hc
        have := hL t hc
        rw [hB2 t (Nat.le_refl _)] at this
        cases this
      subst htn
      rw [Nat.sub_self] at hB3
      exact hB3
set_option maxHeartbeats 1000000 in
theorem region_sigU {P : Program} {ops : Array Oper} {id : Nat} {l0 : List Value} {Q : Exit → Act → World → Prop} (n k u : Nat) (S : List Nat) (dst : List Nat) (reads : List (List Nat)) (par : List Nat) (Pr : Nat → (Nat → Value) → World → Prop) (wr : World) (hm : P.follows .mixedOrders = true) (hn : ops.size = n) (hkn : k < n)
    (hdk : dst.length = k) (hnd : dst.Nodup) (hdN : (dst.all fun s => decide (s < l0.length)) = true)
    (havail : ((List.range k).all fun i => (reads.getD i []).all fun s => (List.range k).all fun j => (dst.getD j 0 != s) || waitsFor ops i j) = true) (htopo : ((List.range n).all fun i => laterNone ops i) = true)
    (hrN : ((List.range k).all fun i => (reads.getD i []).all fun s => decide (s < l0.length)) = true)
    (hpar : ((List.range k).all fun j => decide (j < par.getD j 0) && (decide (par.getD j 0 ≤ k) && waitsFor ops (par.getD j 0) j)) = true) (htail : ((List.range n).all fun i => decide (i ≤ k) || waitsFor ops i (i - 1)) = true)
    (hcong : ∀ j, j < k → ∀ σ σ' w, (∀ j', j' = j ∨ waitsFor ops j j' = true → σ j' = σ' j') → Pr j σ w → Pr j σ' w)
    (hmono : ∀ j σ w w', Pr j σ w → Kept [] w w' → Pr j σ w') (hmonoS : ∀ j σ w w', j ≠ u → Pr j σ w → Kept S w w' → Pr j σ w')
    (hstep : ∀ i, i < k → ∀ (σ : Nat → Value) (a : Act) (w : World), Kept S wr w → (i = u → Below wr.heap.size wr w) → (∀ j, j < k → waitsFor ops i j = true → Pr j σ w) → (∀ s ∈ reads.getD i [], a.eval (.tmp s) = lkp l0 (tbS dst k σ) s) → ∀ (Q : Exit → Act → World → Prop) (K : Act → World → Prop), (∀ x w', Kept (if i = u then S else []) w w' → (∀ σ' : Nat → Value, (∀ j, j ≠ i → σ' j = σ j) → σ' i = x → Pr i σ' w') → K (a.put (some (dst.getD i 0)) x) w') → wpOp P ops Q i K a w)
    (hlast : ∀ (σ : Nat → Value) w, Kept S wr w → (∀ j, j < k → Pr j σ w) → tailWp P ops Q (List.range' k (n - k)) { tmps := (setAll l0 (tbS dst k σ)).toArray, defers := [] } w) :
    (Code.region id ops true).wp P Q { tmps := l0.toArray, defers := [] } wr := by
  have hlt : ∀ j, j < k → dst.getD j 0 < l0.length := fun j hj => by
    have hj' : j < dst.length := by omega
    have e : dst.getD j 0 = dst[j] := by simp [List.getD, hj']
    rw [e]
    exact of_decide_eq_true (List.all_eq_true.1 hdN _ (List.getElem_mem hj'))
  have hP : ∀ j, j < k → j < par.getD j 0 ∧ par.getD j 0 ≤ k ∧ waitsFor ops (par.getD j 0) j = true := fun j hj => by
    have := List.all_eq_true.1 hpar j (List.mem_range.2 hj)
    rw [Bool.and_eq_true, Bool.and_eq_true, decide_eq_true_eq, decide_eq_true_eq] at this
    exact this
  have hT : ∀ i, i < n → k < i → waitsFor ops i (i - 1) = true := fun i hi hk => by
    have := List.all_eq_true.1 htail i (List.mem_range.2 hi)
    rw [Bool.or_eq_true, decide_eq_true_eq] at this
    rcases this with h | h
    · omega
    · exact h
  have hchain : ∀ (L : Nat → Bool), (∀ i j, L i = true → waitsFor ops i j = true → L j = true) → (∀ j, waitsFor ops k j = true → L j = true) → ∀ m j, j < k → k - j ≤ m → L j = true := by
    intro L hcl hk0 m
    induction m with
    | zero => intro j hj hm'; omega
    | succ m ih =>
      intro j hj hm'
      obtain ⟨p1, p2, p3⟩ := hP j hj
      by_cases hpk : par.getD j 0 = k
      · rw [hpk] at p3; exact hk0 j p3
      · exact hcl _ _ (ih _ (by omega) (by omega)) p3
  refine region_inv n (fun L a w => ((∀ j, k ≤ j → L j = false) ∧ (∀ i j, L i = true → waitsFor ops i j = true → L j = true) ∧ ∃ σ : Nat → Value, (∀ j, j < k → L j = true → Pr j σ w) ∧ a.tmps.size = l0.length ∧ a.defers = [] ∧ (Kept S wr w ∧ (L u = false → Below wr.heap.size wr w)) ∧ ∀ s, s < l0.length → (∀ i, i < k → dst.getD i 0 = s → L i = true) → a.eval (.tmp s) = lkp l0 (tbS dst k σ) s) ∨ ∃ t, k ≤ t ∧ t ≤ n ∧ (∀ j, j < t → L j = true) ∧ (∀ j, t ≤ j → L j = false) ∧ tailWp P ops Q (List.range' t (n - t)) a w) _ wr hm hn htopo ?_ ?_ ?_
  · refine .inl ⟨fun _ _ => rfl, fun i j h => (by cases h), fun _ => undef, fun j _ h => (by cases h), by simp, rfl, ⟨(Kept.refl _ wr).drew, fun _ => (Below.refl _ wr).drew⟩, fun s hs h => ?_⟩
    rw [lkp_tbS_none _ (fun i hi e => by have := h i hi e; cases this)]
    simp [Act.eval, List.getD]
  · intro L a w i hI hi hLi hw
    rcases hI with ⟨hA1, hcl, σ, hPr, hsz, hdf, hbel, hev⟩ | ⟨t, ht1, ht2, hB1, hB2, hB3⟩
    · rcases Nat.lt_or_ge i k with hik | hik
      · refine hstep i hik σ a w hbel.1 (fun hiu => hbel.2 (by rw [← hiu]; exact hLi)) (fun j hj hwj => hPr j hj (hw j hwj)) (fun s hs => hev s ?_ (fun j hj e => hw j ?_)) Q _ (fun x w' hg hx => .inl ⟨fun j hj => ?_, fun p j hp hpj => ?_, fun j => if j = i then x else σ j, fun j hj hLj => ?_, by simp [Act.put, hsz], hdf, ⟨?_, fun hLu => ?_⟩, fun s hs h => ?_⟩)
        · exact of_decide_eq_true (List.all_eq_true.1 (List.all_eq_true.1 hrN i (List.mem_range.2 hik)) s hs)
        · have := List.all_eq_true.1 (List.all_eq_true.1 (List.all_eq_true.1 havail i (List.mem_range.2 hik)) s hs) j (List.mem_range.2 hj)
          rw [e] at this
          simpa using this
        · show (if j = i then true else L j) = false
          rw [if_neg (by omega)]; exact hA1 j hj
        · show (if j = i then true else L j) = true
          have hp' : (if p = i then true else L p) = true := hp
          by_cases hji : j = i
          · rw [if_pos hji]
          · rw [if_neg hji]
            by_cases hpi : p = i
            · subst hpi; exact hw j hpj
            · rw [if_neg hpi] at hp'; exact hcl p j hp' hpj
        · have hLj' : (if j = i then true else L j) = true := hLj
          by_cases hji : j = i
          · subst hji
            exact hx _ (fun j' hj' => by simp [hj']) (by simp)
          · rw [if_neg hji] at hLj'
            have hcg : ∀ j', j' = j ∨ waitsFor ops j j' = true → σ j' = (fun j => if j = i then x else σ j) j' := fun j' hj' => by
              have hne : j' ≠ i := by
                rintro rfl
                rcases hj' with rfl | hw'
                · exact hji rfl
                · rw [hcl j _ hLj' hw'] at hLi; cases hLi
              simp [hne]
            have hp' := hcong j hj σ _ w hcg (hPr j hj hLj')
            by_cases hiu : i = u
            · rw [if_pos hiu] at hg
              exact hmonoS j _ w w' (fun h => hji (h.trans hiu.symm)) hp' hg
            · rw [if_neg hiu] at hg
              exact hmono j _ w w' hp' hg
        · by_cases hiu : i = u
          · rw [if_pos hiu] at hg; exact hbel.1.trans hg
          · rw [if_neg hiu] at hg; exact hbel.1.trans (hg.wider (by simp))
        · have hLu' : (if u = i then true else L u) = false := hLu
          by_cases hiu : u = i
          · rw [if_pos hiu] at hLu'; cases hLu'
          · rw [if_neg hiu] at hLu'
            rw [if_neg (fun h => hiu h.symm)] at hg
            have hb := hbel.2 hLu'
            exact hb.trans (hg.below hb.size (by simp))
        · by_cases e : dst.getD i 0 = s
          · subst e
            rw [Act.eval_put_same a _ _ (by rw [hsz]; exact hs), lkp_tbS _ hdk hnd hik]
            simp
          · rw [Act.eval_put_ne a _ _ _ e]
            have h3 := hev s hs (fun j hj ej => by
              have h3 : (if j = i then true else L j) = true := h j hj ej
              by_cases hji : j = i
              · subst hji; exact absurd ej e
              · rw [if_neg hji] at h3; exact h3)
            rw [h3]
            by_cases hex : ∃ j, j < k ∧ dst.getD j 0 = s
            · obtain ⟨j, hj, rfl⟩ := hex
              rw [lkp_tbS _ hdk hnd hj, lkp_tbS _ hdk hnd hj]
              have hne : j ≠ i := fun h => e (by rw [h])
              simp [hne]
            · rw [lkp_tbS_none _ (fun j hj ej => hex ⟨j, hj, ej⟩), lkp_tbS_none _ (fun j hj ej => hex ⟨j, hj, ej⟩)]
      · have hik' : i = k := by
          apply Nat.le_antisymm _ hik
          apply Nat.le_of_not_lt
          intro hc
          have h1 := hw _ (hT i hi hc)
          rw [hA1 (i - 1) (by omega)] at h1
          cases h1
        subst hik'
        have hall : ∀ j, j < i → L j = true := fun j hj => hchain L hcl hw _ j hj (Nat.le_refl _)
        have ha : a = { tmps := (setAll l0 (tbS dst i σ)).toArray, defers := [] } := act_known a _ (by rw [setAll_length]; exact hsz) hdf (fun s hs => by
          rw [setAll_length] at hs
          rw [setAll_lkp _ l0 s (by rw [tbS_keys _ _ _ hdk]; exact hnd) (fun q hq => by
            unfold tbS at hq
            obtain ⟨j, hj, rfl⟩ := List.mem_map.1 hq
            exact hlt j (List.mem_range.1 hj))]
          exact hev s hs (fun j hj _ => hall j hj))
        have h1 := hlast σ w hbel.1 (fun j hj => hPr j hj (hall j hj))
        obtain ⟨m, hm'⟩ : ∃ m, n - i = m + 1 := ⟨n - i - 1, by omega⟩
        rw [hm', List.range'_succ, tailWp, ← ha] at h1
        refine wpOp_mono (fun a' w' h => .inr ⟨i + 1, by omega, by omega, fun j hj => ?_, fun j hj => ?_, ?_⟩) h1
        · show (if j = i then true else L j) = true
          by_cases hji : j = i
          · rw [if_pos hji]
          · rw [if_neg hji]; exact hall j (by omega)
        · show (if j = i then true else L j) = false
          rw [if_neg (by omega)]; exact hA1 j (by omega)
        · rw [show n - (i + 1) = m by omega]; exact h
    · have hti : t ≤ i := by
        apply Nat.le_of_not_lt
        intro hc
        rw [hB1 i hc] at hLi
        cases hLi
      have hti' : i = t := by
        apply Nat.le_antisymm _ hti
        apply Nat.le_of_not_lt
        intro hc
        have h1 := hw _ (hT i hi (by omega))
        rw [hB2 (i - 1) (by omega)] at h1
        cases h1
      subst hti'
      obtain ⟨m, hm'⟩ : ∃ m, n - i = m + 1 := ⟨n - i - 1, by omega⟩
      rw [hm', List.range'_succ, tailWp] at hB3
      refine wpOp_mono (fun a' w' h => .inr ⟨i + 1, by omega, by omega, fun j hj => ?_, fun j hj => ?_, ?_⟩) hB3
      · show (if j = i then true else L j) = true
        by_cases hji : j = i
        · rw [if_pos hji]
        · rw [if_neg hji]; exact hB1 j (by omega)
      · show (if j = i then true else L j) = false
        rw [if_neg (by omega)]; exact hB2 j (by omega)
      · rw [show n - (i + 1) = m by omega]; exact h
  · rintro L a w hL (⟨hA1, _⟩ | ⟨t, ht1, ht2, hB1, hB2, hB3⟩)
    · have := hL k hkn
      rw [hA1 k (Nat.le_refl _)] at this
      cases this
    · have htn : t = n := by
        apply Nat.le_antisymm ht2
        apply Nat.le_of_not_lt
        intro hc
        have := hL t hc
        rw [hB2 t (Nat.le_refl _)] at this
        cases this
      subst htn
      rw [Nat.sub_self] at hB3
      exact hB3
end Go.Proofs.Ytbjgfoiikhbonaf
