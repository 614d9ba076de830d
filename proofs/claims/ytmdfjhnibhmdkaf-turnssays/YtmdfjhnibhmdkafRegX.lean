import Derived.Test.YtmdfjhnibhmdkafRegU
namespace Go.Proofs.Ytmdfjhnibhmdkaf
open Go.ChangeShapes Go.WideShapes Go.ChangeAt Go.RowKit

/-! A REGION THAT DRAWS ITS ORDER: one operation changes blocks of S and hands back a value x of which something is known; all other values are known, as functions of x. -/

theorem tbS_of {tb : List (Nat × Value)} {dst : List Nat} {k : Nat} {σ : Nat → Value} (hd : tb.map (·.1) = dst) (hk : dst.length = k) (h : ∀ j, j < k → σ j = (tb.getD j (0, undef)).2) : tbS dst k σ = tb := by
  subst hd
  exact tbS_known (by simpa using hk) h

/-- What an operation waits for, and what that waits for. -/
def reach (ops : Array Oper) : Nat → Nat → Nat → Bool
  | 0, j, j' => decide (j = j')
  | f + 1, j, j' => decide (j = j') || (List.range j).any fun i => waitsFor ops j i && reach ops f i j'
theorem reach_in {ops : Array Oper} {L : Nat → Bool} (hcl : ∀ i j, L i = true → waitsFor ops i j = true → L j = true) : ∀ (f j j' : Nat), L j = true → reach ops f j j' = true → L j' = true
  | 0, j, j', h, hr => by
    have : j = j' := by simpa [reach] using hr
    rw [← this]; exact h
  | f + 1, j, j', h, hr => by
    unfold reach at hr
    rw [Bool.or_eq_true, decide_eq_true_eq] at hr
    rcases hr with rfl | hr
    · exact h
    · obtain ⟨i, _, hi⟩ := List.any_eq_true.1 hr
      rw [Bool.and_eq_true] at hi
      exact reach_in hcl f i j' (hcl j i h hi.1) hi.2
theorem reach_ahead {ops : Array Oper} {L : Nat → Bool} {i j n : Nat} (hcl : ∀ i j, L i = true → waitsFor ops i j = true → L j = true) (hw : ∀ j, waitsFor ops i j = true → L j = true) (hji : j ≠ i) (hr : reach ops n i j = true) : L j = true := by
  cases n with
  | zero => exact absurd (by simpa [reach] using hr : i = j).symm hji
  | succ f =>
    unfold reach at hr
    rw [Bool.or_eq_true, decide_eq_true_eq] at hr
    rcases hr with rfl | hr
    · exact absurd rfl hji
    · obtain ⟨p, _, hp⟩ := List.any_eq_true.1 hr
      rw [Bool.and_eq_true] at hp
      exact reach_in hcl f p j (hw p hp.1) hp.2

set_option maxHeartbeats 1000000 in
theorem region_sigT {P : Program} {ops : Array Oper} {id : Nat} {l0 : List Value} {Q : Exit → Act → World → Prop} (n k u : Nat) (S : List Nat) (dst : List Nat) (reads : List (List Nat)) (par : List Nat) (Pr : Nat → (Nat → Value) → World → Prop) (wr : World) (hm : P.follows .mixedOrders = true) (hn : ops.size = n) (hkn : k < n)
    (hdk : dst.length = k) (hnd : dst.Nodup) (hdN : (dst.all fun s => decide (s < l0.length)) = true)
    (havail : ((List.range k).all fun i => (reads.getD i []).all fun s => (List.range k).all fun j => (dst.getD j 0 != s) || waitsFor ops i j) = true) (htopo : ((List.range n).all fun i => laterNone ops i) = true)
    (hrN : ((List.range k).all fun i => (reads.getD i []).all fun s => decide (s < l0.length)) = true)
    (hpar : ((List.range k).all fun j => decide (j < par.getD j 0) && (decide (par.getD j 0 ≤ k) && waitsFor ops (par.getD j 0) j)) = true) (htail : ((List.range n).all fun i => decide (i ≤ k) || waitsFor ops i (i - 1)) = true)
    (hcong : ∀ j, j < k → ∀ σ σ' w, (∀ j', reach ops n j j' = true → σ j' = σ' j') → Pr j σ w → Pr j σ' w)
    (hmono : ∀ j σ w w', Pr j σ w → Kept [] w w' → Pr j σ w') (hmonoS : ∀ j σ w w', j ≠ u → Pr j σ w → Kept S w w' → Pr j σ w')
    (hstep : ∀ i, i < k → ∀ (σ : Nat → Value) (a : Act) (w : World), Kept S wr w → (i = u → Below wr.heap.size wr w) → (∀ j, j < k → j ≠ i → reach ops n i j = true → Pr j σ w) → (∀ s ∈ reads.getD i [], a.eval (.tmp s) = lkp l0 (tbS dst k σ) s) → ∀ (Q : Exit → Act → World → Prop) (K : Act → World → Prop), (∀ x w', Kept (if i = u then S else []) w w' → (∀ σ' : Nat → Value, (∀ j, j ≠ i → σ' j = σ j) → σ' i = x → Pr i σ' w') → K (a.put (some (dst.getD i 0)) x) w') → wpOp P ops Q i K a w)
    (hlast : ∀ (σ : Nat → Value) w, Kept S wr w → (∀ j, j < k → Pr j σ w) → tailWp P ops Q (List.range' k (n - k)) { tmps := (setAll l0 (tbS dst k σ)).toArray, defers := [] } w) :
    (Code.region id ops true).wp P Q { tmps := l0.toArray, defers := [] } wr := by
  have hlt : ∀ j, j < k → dst.getD j 0 < l0.length := fun j hj => by
    have hj' : j < dst.length := by omega
    have e : dst.getD j 0 = dst[j] := by simp [List.getD, hj']
    rw [e]
    exact of_decide_eq_true (List.all_eq_true.1 hdN _ (List.getElem_mem hj'))
  have hP : ∀ j, j < k → j < par.getD j 0 ∧ par.getD j 0 ≤ k ∧ waitsFor ops (par.getD j 0) j = true := fun j hj => by
    have := List.all_eq_true.1 hpar j (List.mem_range.2 hj)
    rw [Bool.and_eq_true, Bool.and_eq_true, decide_eq_true_eq, decide_eq_true_eq] at this
    exact this
  have hT : ∀ i, i < n → k < i → waitsFor ops i (i - 1) = true := fun i hi hk => by
    have := List.all_eq_true.1 htail i (List.mem_range.2 hi)
    rw [Bool.or_eq_true, decide_eq_true_eq] at this
    rcases this with h | h
    · omega
    · exact h
  have hchain : ∀ (L : Nat → Bool), (∀ i j, L i = true → waitsFor ops i j = true → L j = true) → (∀ j, waitsFor ops k j = true → L j = true) → ∀ m j, j < k → k - j ≤ m → L j = true := by
    intro L hcl hk0 m
    induction m with
    | zero => intro j hj hm'; omega
    | succ m ih =>
      intro j hj hm'
      obtain ⟨p1, p2, p3⟩ := hP j hj
      by_cases hpk : par.getD j 0 = k
      · rw [hpk] at p3; exact hk0 j p3
      · exact hcl _ _ (ih _ (by omega) (by omega)) p3
  refine region_inv n (fun L a w => ((∀ j, k ≤ j → L j = false) ∧ (∀ i j, L i = true → waitsFor ops i j = true → L j = true) ∧ ∃ σ : Nat → Value, (∀ j, j < k → L j = true → Pr j σ w) ∧ a.tmps.size = l0.length ∧ a.defers = [] ∧ (Kept S wr w ∧ (L u = false → Below wr.heap.size wr w)) ∧ ∀ s, s < l0.length → (∀ i, i < k → dst.getD i 0 = s → L i = true) → a.eval (.tmp s) = lkp l0 (tbS dst k σ) s) ∨ ∃ t, k ≤ t ∧ t ≤ n ∧ (∀ j, j < t → L j = true) ∧ (∀ j, t ≤ j → L j = false) ∧ tailWp P ops Q (List.range' t (n - t)) a w) _ wr hm hn htopo ?_ ?_ ?_
  · refine .inl ⟨fun _ _ => rfl, fun i j h => (by cases h), fun _ => undef, fun j _ h => (by cases h), by simp, rfl, ⟨(Kept.refl _ wr).drew, fun _ => (Below.refl _ wr).drew⟩, fun s hs h => ?_⟩
    rw [lkp_tbS_none _ (fun i hi e => by have := h i hi e; cases this)]
    simp [Act.eval, List.getD]
  · intro L a w i hI hi hLi hw
    rcases hI with ⟨hA1, hcl, σ, hPr, hsz, hdf, hbel, hev⟩ | ⟨t, ht1, ht2, hB1, hB2, hB3⟩
    · rcases Nat.lt_or_ge i k with hik | hik
      · refine hstep i hik σ a w hbel.1 (fun hiu => hbel.2 (by rw [← hiu]; exact hLi)) (fun j hj hji hwj => hPr j hj (reach_ahead hcl hw hji hwj)) (fun s hs => hev s ?_ (fun j hj e => hw j ?_)) Q _ (fun x w' hg hx => .inl ⟨fun j hj => ?_, fun p j hp hpj => ?_, fun j => if j = i then x else σ j, fun j hj hLj => ?_, by simp [Act.put, hsz], hdf, ⟨?_, fun hLu => ?_⟩, fun s hs h => ?_⟩)
        · exact of_decide_eq_true (List.all_eq_true.1 (List.all_eq_true.1 hrN i (List.mem_range.2 hik)) s hs)
        · have := List.all_eq_true.1 (List.all_eq_true.1 (List.all_eq_true.1 havail i (List.mem_range.2 hik)) s hs) j (List.mem_range.2 hj)
          rw [e] at this
          simpa using this
        · show (if j = i then true else L j) = false
          rw [if_neg (by omega)]; exact hA1 j hj
        · show (if j = i then true else L j) = true
          have hp' : (if p = i then true else L p) = true := hp
          by_cases hji : j = i
          · rw [if_pos hji]
          · rw [if_neg hji]
            by_cases hpi : p = i
            · subst hpi; exact hw j hpj
            · rw [if_neg hpi] at hp'; exact hcl p j hp' hpj
        · have hLj' : (if j = i then true else L j) = true := hLj
          by_cases hji : j = i
          · subst hji
            exact hx _ (fun j' hj' => by simp [hj']) (by simp)
          · rw [if_neg hji] at hLj'
            have hcg : ∀ j', reach ops n j j' = true → σ j' = (fun j => if j = i then x else σ j) j' := fun j' hj' => by
              have hne : j' ≠ i := by
                rintro rfl
                rw [reach_in hcl n j _ hLj' hj'] at hLi; cases hLi
              simp [hne]
            have hp' := hcong j hj σ _ w hcg (hPr j hj hLj')
            by_cases hiu : i = u
            · rw [if_pos hiu] at hg
              exact hmonoS j _ w w' (fun h => hji (h.trans hiu.symm)) hp' hg
            · rw [if_neg hiu] at hg
              exact hmono j _ w w' hp' hg
        · by_cases hiu : i = u
          · rw [if_pos hiu] at hg; exact hbel.1.trans hg
          · rw [if_neg hiu] at hg; exact hbel.1.trans (hg.wider (by simp))
        · have hLu' : (if u = i then true else L u) = false := hLu
          by_cases hiu : u = i
          · rw [if_pos hiu] at hLu'; cases hLu'
          · rw [if_neg hiu] at hLu'
            rw [if_neg (fun h => hiu h.symm)] at hg
            have hb := hbel.2 hLu'
            exact hb.trans (hg.below hb.size (by simp))
        · by_cases e : dst.getD i 0 = s
          · subst e
            rw [Act.eval_put_same a _ _ (by rw [hsz]; exact hs), lkp_tbS _ hdk hnd hik]
            simp
          · rw [Act.eval_put_ne a _ _ _ e]
            have h3 := hev s hs (fun j hj ej => by
              have h3 : (if j = i then true else L j) = true := h j hj ej
              by_cases hji : j = i
              · subst hji; exact absurd ej e
              · rw [if_neg hji] at h3; exact h3)
            rw [h3]
            by_cases hex : ∃ j, j < k ∧ dst.getD j 0 = s
            · obtain ⟨j, hj, rfl⟩ := hex
              rw [lkp_tbS _ hdk hnd hj, lkp_tbS _ hdk hnd hj]
              have hne : j ≠ i := fun h => e (by rw [h])
              simp [hne]
            · rw [lkp_tbS_none _ (fun j hj ej => hex ⟨j, hj, ej⟩), lkp_tbS_none _ (fun j hj ej => hex ⟨j, hj, ej⟩)]
      · have hik' : i = k := by
          apply Nat.le_antisymm _ hik
          apply Nat.le_of_not_lt
          intro hc
          have h1 := hw _ (hT i hi hc)
          rw [hA1 (i - 1) (by omega)] at h1
          cases h1
        subst hik'
        have hall : ∀ j, j < i → L j = true := fun j hj => hchain L hcl hw _ j hj (Nat.le_refl _)
        have ha : a = { tmps := (setAll l0 (tbS dst i σ)).toArray, defers := [] } := act_known a _ (by rw [setAll_length]; exact hsz) hdf (fun s hs => by
          rw [setAll_length] at hs
          rw [setAll_lkp _ l0 s (by rw [tbS_keys _ _ _ hdk]; exact hnd) (fun q hq => by
            unfold tbS at hq
            obtain ⟨j, hj, rfl⟩ := List.mem_map.1 hq
            exact hlt j (List.mem_range.1 hj))]
          exact hev s hs (fun j hj _ => hall j hj))
        have h1 := hlast σ w hbel.1 (fun j hj => hPr j hj (hall j hj))
        obtain ⟨m, hm'⟩ : ∃ m, n - i = m + 1 := ⟨n - i - 1, by omega⟩
        rw [hm', List.range'_succ, tailWp, ← ha] at h1
        refine wpOp_mono (fun a' w' h => .inr ⟨i + 1, by omega, by omega, fun j hj => ?_, fun j hj => ?_, ?_⟩) h1
        · show (if j = i then true else L j) = true
          by_cases hji : j = i
          · rw [if_pos hji]
          · rw [if_neg hji]; exact hall j (by omega)
        · show (if j = i then true else L j) = false
          rw [if_neg (by omega)]; exact hA1 j (by omega)
        · rw [show n - (i + 1) = m by omega]; exact h
    · have hti : t ≤ i := by
        apply Nat.le_of_not_lt
        intro hc
        rw [hB1 i hc] at hLi
        cases hLi
      have hti' : i = t := by
        apply Nat.le_antisymm _ hti
        apply Nat.le_of_not_lt
        intro hc
        have h1 := hw _ (hT i hi (by omega))
        rw [hB2 (i - 1) (by omega)] at h1
        cases h1
      subst hti'
      obtain ⟨m, hm'⟩ : ∃ m, n - i = m + 1 := ⟨n - i - 1, by omega⟩
      rw [hm', List.range'_succ, tailWp] at hB3
      refine wpOp_mono (fun a' w' h => .inr ⟨i + 1, by omega, by omega, fun j hj => ?_, fun j hj => ?_, ?_⟩) hB3
      · show (if j = i then true else L j) = true
        by_cases hji : j = i
        · rw [if_pos hji]
        · rw [if_neg hji]; exact hB1 j (by omega)
      · show (if j = i then true else L j) = false
        rw [if_neg (by omega)]; exact hB2 j (by omega)
      · rw [show n - (i + 1) = m by omega]; exact h
  · rintro L a w hL (⟨hA1, _⟩ | ⟨t, ht1, ht2, hB1, hB2, hB3⟩)
    · have := hL k hkn
      rw [hA1 k (Nat.le_refl _)] at this
      cases this
    · have htn : t = n := by
        apply Nat.le_antisymm ht2
        apply Nat.le_of_not_lt
        intro hc
        have := hL t hc
        rw [hB2 t (Nat.le_refl _)] at this
        cases this
      subst htn
      rw [Nat.sub_self] at hB3
      exact hB3

theorem reach_self {ops : Array Oper} (n j : Nat) : reach ops n j j = true := by
  cases n with
  | zero => simp [reach]
  | succ f => simp [reach]
theorem waits_lt {ops : Array Oper} {n i j : Nat} (htopo : ((List.range n).all fun i => laterNone ops i) = true) (hi : i < n) (h : waitsFor ops i j = true) : j < i := by
  have h1 := List.all_eq_true.1 htopo i (List.mem_range.2 hi)
  unfold laterNone at h1
  unfold waitsFor at h
  cases ho : ops[i]? with
  | none => rw [ho] at h; simp at h
  | some o =>
    rw [ho] at h h1
    simp only [Option.map_some, Option.getD_some] at h h1
    obtain ⟨e, he, hb⟩ := Array.any_eq_true'.1 h
    have h2 := Array.all_eq_true'.1 h1 e he
    rw [Bool.and_eq_true, beq_iff_eq] at hb
    rw [hb.2] at h2
    have h3 : e.on < i := by simpa using h2
    omega
theorem reach_one {ops : Array Oper} {n i j : Nat} (hn : 0 < n) (hlt : j < i) (hw : waitsFor ops i j = true) : reach ops n i j = true := by
  obtain ⟨f, rfl⟩ : ∃ f, n = f + 1 := ⟨n - 1, by omega⟩
  unfold reach
  rw [Bool.or_eq_true]
  refine .inr (List.any_eq_true.2 ⟨j, List.mem_range.2 hlt, ?_⟩)
  rw [hw, reach_self]
  rfl

set_option maxHeartbeats 1000000 in
theorem region_knownX {P : Program} {ops : Array Oper} {id : Nat} {l0 : List Value} {Q : Exit → Act → World → Prop} (n k u : Nat) (S : List Nat) (U : Value → World → Prop) (tb : Value → List (Nat × Value)) (dst : List Nat) (reads : List (List Nat)) (par : List Nat) (wr : World) (hm : P.follows .mixedOrders = true) (hn : ops.size = n) (hkn : k < n) (huk : u < k)
    (hdst : ∀ x, (tb x).map (·.1) = dst) (hself : ∀ x, ((tb x).getD u (0, undef)).2 = x) (hind : ∀ x y j, j < k → j ≠ u → reach ops n j u = false → (tb x).getD j (0, undef) = (tb y).getD j (0, undef))
    (hdk : dst.length = k) (hnd : dst.Nodup) (hdN : (dst.all fun s => decide (s < l0.length)) = true)
    (havail : ((List.range k).all fun i => (reads.getD i []).all fun s => (List.range k).all fun j => (dst.getD j 0 != s) || waitsFor ops i j) = true) (htopo : ((List.range n).all fun i => laterNone ops i) = true)
    (hrN : ((List.range k).all fun i => (reads.getD i []).all fun s => decide (s < l0.length)) = true)
    (hpar : ((List.range k).all fun j => decide (j < par.getD j 0) && (decide (par.getD j 0 ≤ k) && waitsFor ops (par.getD j 0) j)) = true) (htail : ((List.range n).all fun i => decide (i ≤ k) || waitsFor ops i (i - 1)) = true)
    (hU : ∀ x w w', U x w → Kept [] w w' → U x w')
    (hstep : ∀ i, i < k → i ≠ u → ∀ (x : Value) (a : Act) (w : World), Kept S wr w → (∀ s ∈ reads.getD i [], a.eval (.tmp s) = lkp l0 (tb x) s) → (reach ops n i u = true → U x w) → ∀ (Q : Exit → Act → World → Prop) (K : Act → World → Prop), (∀ w', Kept [] w w' → K (a.put (some (dst.getD i 0)) ((tb x).getD i (0, undef)).2) w') → wpOp P ops Q i K a w)
    (hstepU : ∀ (x0 : Value) (a : Act) (w : World), Below wr.heap.size wr w → (∀ s ∈ reads.getD u [], a.eval (.tmp s) = lkp l0 (tb x0) s) → ∀ (Q : Exit → Act → World → Prop) (K : Act → World → Prop), (∀ x w', Kept S w w' → U x w' → K (a.put (some (dst.getD u 0)) x) w') → wpOp P ops Q u K a w)
    (hlast : ∀ x w, Kept S wr w → U x w → tailWp P ops Q (List.range' k (n - k)) { tmps := (setAll l0 (tb x)).toArray, defers := [] } w) :
    (Code.region id ops true).wp P Q { tmps := l0.toArray, defers := [] } wr := by
  have hlen : ∀ x, (tb x).length = k := fun x => by rw [← hdk, ← hdst x, List.length_map]
  have hfst : ∀ x j, ((tb x).getD j (0, undef)).1 = dst.getD j 0 := fun x j => by
    rw [← hdst x]
    by_cases hj : j < (tb x).length
    · simp [List.getD, hj]
    · simp [List.getD, Nat.le_of_not_lt hj]
  have hrd : ∀ i, i < k → ∀ (σ : Nat → Value), (∀ j, j < k → waitsFor ops i j = true → σ j = ((tb (σ u)).getD j (0, undef)).2) → ∀ s ∈ reads.getD i [], lkp l0 (tbS dst k σ) s = lkp l0 (tb (σ u)) s := by
    intro i hi σ hσ s hs
    by_cases hex : ∃ j, j < k ∧ dst.getD j 0 = s
    · obtain ⟨j, hj, rfl⟩ := hex
      have h1 := List.all_eq_true.1 (List.all_eq_true.1 (List.all_eq_true.1 havail i (List.mem_range.2 hi)) _ hs) j (List.mem_range.2 hj)
      have hw : waitsFor ops i j = true := by simpa using h1
      rw [lkp_tbS σ hdk hnd hj, hσ j hj hw]
      have := lkp_at l0 (tb (σ u)) (by rw [hdst]; exact hnd) j (by rw [hlen]; exact hj)
      rw [hfst] at this
      exact this.symm
    · rw [lkp_tbS_none σ (fun j hj e => hex ⟨j, hj, e⟩)]
      refine (lkp_none (tb (σ u)) s fun q hq e => ?_).symm
      obtain ⟨j, hj, rfl⟩ := List.getElem_of_mem hq
      refine hex ⟨j, by rw [← hlen (σ u)]; exact hj, ?_⟩
      rw [← hfst (σ u) j]
      simp [List.getD, hj]
      exact e
  refine region_sigT n k u S dst reads par (fun j σ w => σ j = ((tb (σ u)).getD j (0, undef)).2 ∧ (j = u → U (σ u) w)) wr hm hn hkn hdk hnd hdN havail htopo hrN hpar htail ?_ ?_ ?_ ?_ ?_
  · intro j hj σ σ' w he h
    by_cases hju : j = u
    · subst hju
      have e := he j (reach_self n j)
      exact ⟨by rw [← e]; exact h.1, fun _ => by rw [← e]; exact h.2 rfl⟩
    · refine ⟨?_, fun e => absurd e hju⟩
      rw [← he j (reach_self n j)]
      cases hw : reach ops n j u with
      | true => rw [← he u hw]; exact h.1
      | false => rw [hind (σ' u) (σ u) j hj hju hw]; exact h.1
  · intro j σ w w' h hk
    exact ⟨h.1, fun e => hU _ w w' (h.2 e) hk⟩
  · intro j σ w w' hju h _
    exact ⟨h.1, fun e => absurd e hju⟩
  · intro i hi σ a w hk hb hp hr Q K hK
    have hr' : ∀ s ∈ reads.getD i [], a.eval (.tmp s) = lkp l0 (tb (σ u)) s := fun s hs => (hr s hs).trans (hrd i hi σ (fun j hj hw => (hp j hj (fun e => by have := waits_lt htopo (by omega) hw; omega) (reach_one (by omega) (waits_lt htopo (by omega) hw) hw)).1) s hs)
    by_cases hiu : i = u
    · subst hiu
      refine hstepU (σ i) a w (hb rfl) hr' Q K (fun x w' hk' hu => ?_)
      exact hK x w' (by rw [if_pos rfl]; exact hk') (fun σ' _ hσ' => ⟨by rw [hself], fun _ => by rw [hσ']; exact hu⟩)
    · refine hstep i hi hiu (σ u) a w hk hr' (fun hw => (hp u huk (fun e => hiu e.symm) hw).2 rfl) Q K (fun w' hk' => ?_)
      exact hK _ w' (by rw [if_neg hiu]; exact hk') (fun σ' hσ hσ' => ⟨by rw [hσ', hσ u (fun e => hiu e.symm)], fun e => absurd e hiu⟩)
  · intro σ w hk hp
    rw [tbS_of (hdst (σ u)) hdk (fun j hj => (hp j hj).1)]
    exact hlast (σ u) w hk ((hp u huk).2 rfl)
end Go.Proofs.Ytmdfjhnibhmdkaf
