import Derived.Test.YtplkmkbambbemaeGreatDoorM05
import Derived.Test.YtplkmkbambbemaeGreatDoorM02
import Derived.Shelf.Abstract
import Derived.Test.YtplkmkbambbemaeGreatDoorM01
import Derived.Maps.AppendAt
import Derived.Deep.SlicePairs
import Derived.Test.YtplkmkbambbemaeGreatDoorM03
import Derived.Deep.Cut
import Derived.Deep.OwnRows
namespace Go.Proofs.YtplkmkbambbemaeGreatDoor
open Go.ChangeShapes Go.WideShapes Go.ChangeAt Go.RowKit
set_option maxHeartbeats 1000000 in
theorem region_lastL {P : Program} {ops : Array Oper} {id : Nat} {l0 : List Value} {Q : Exit → Act → World → Prop} (k : Nat) (s0 : Nat) (v0 : Value) (post : List (Nat × Value)) (reads : List (List Nat)) (par : List Nat) (wr : World) (hm : P.follows .mixedOrders = true) (hn : ops.size = k + 1)
    (hdk : 0 + 1 + post.length = k) (hnd : (((s0, v0) :: post).map (·.1)).Nodup) (hdN : (((s0, v0) :: post).all fun q => decide (q.1 < l0.length)) = true)
    (havail : ((List.range k).all fun i => (reads.getD i []).all fun s => (List.range k).all fun j => ((((s0, undef) :: post).getD j (0, undef)).1 != s) || waitsFor ops i j) = true) (htopo : ((List.range (k + 1)).all fun i => laterNone ops i) = true)
    (hrN : ((List.range k).all fun i => (reads.getD i []).all fun s => decide (s < l0.length)) = true)
    (hpar : ((List.range k).all fun j => decide (j < par.getD j 0) && (decide (par.getD j 0 ≤ k) && waitsFor ops (par.getD j 0) j)) = true)
    (hstep : ∀ i, i < k → ∀ (a : Act) (w : World), Below wr.heap.size wr w → (∀ s ∈ reads.getD i [], a.eval (.tmp s) = lkp l0 ((s0, v0) :: post) s) → ∀ (Q : Exit → Act → World → Prop) (K : Act → World → Prop), (∀ w', w.grownBy w' none → K (a.put (some (((s0, v0) :: post).getD i (0, undef)).1) (((s0, v0) :: post).getD i (0, undef)).2) w') → wpOp P ops Q i K a w)
    (hlast : ∀ w, Below wr.heap.size wr w → tailWp P ops Q [k] { tmps := (setAll l0 ((s0, v0) :: post)).toArray, defers := [] } w) :
    (Code.region id ops true).wp P Q { tmps := l0.toArray, defers := [] } wr := by
  refine region_growU (k + 1) k 0 [] s0 post reads par (fun x _ => x = v0) wr hm hn (by omega) rfl hdk hnd hdN havail htopo hrN hpar ?_ (fun _ _ _ h _ => h) ?_ ?_
  · refine List.all_eq_true.2 fun i hi => ?_
    have := List.mem_range.1 hi
    rw [decide_eq_true (show i ≤ k by omega)]
    rfl
  · intro i hi x a w hb hx hr Q K hK1 hK
    refine hstep i hi a w hb (fun s hs => ?_) Q K (fun w' hg => ?_)
    · rw [hr s hs]
      by_cases e : s = s0
      · subst e
        rw [hx hs]
        rfl
      · exact lkp_mid s0 post x v0 [] s e
    · by_cases e : i = 0
      · subst e
        exact hK1 rfl v0 w' hg rfl
      · have := hK e w' hg
        obtain ⟨j, rfl⟩ : ∃ j, i = j + 1 := ⟨i - 1, by omega⟩
        exact this
  · intro x w hb hx
    subst hx
    rw [show k + 1 - k = 1 by omega]
    exact hlast w hb
theorem grownL (w : World) : w.grownBy w none := ⟨rfl, rfl, rfl, Nat.le_refl _, fun _ _ _ => rfl⟩
theorem op_callL {ops : Array Oper} {Q : Exit → Act → World → Prop} {i f : Nat} {o : Oper} {a : Act} {w : World} {xs : Array Operand} {us : Array Value} {ts : Array TypeId} {K : Act → World → Prop} {R : Ending → World → Prop} (hi : ops[i]? = some o) {oj : Oper} {j s : Nat} {want : Bool} (hg : o.guard = some (j, want)) (hj : ops[j]? = some oj) (hd : oj.dst = some s) (hs : a.eval (.tmp s) = .bool want) (hop : o.op = .call { callee := .value (.func f), args := xs, argTypes := ts })
    (he : Enters Tryz.prog f) (hx : xs.map a.eval = us) (hc : Calls Tryz.prog f us w R) (hR : ∀ e w', R e w' → ∃ r, e = .returned r ∧ K (a.put o.dst r) w') : wpOp Tryz.prog ops Q i K a w := by
  unfold wpOp
  rw [hi]
  have hw := wanted_of hg hj hd hs
  simp only [hw, if_true, Oper.wp]
  left
  have hrun : (execOp a.eval o).run Tryz.prog w = .ok (.enter f us) w := by
    unfold execOp
    simp only [hop]
    have := he us w
    have hfn : a.eval (.func f) = .func (.func f) #[] #[] := rfl
    simp [resolve, invoke, hx, hfn, Deferred.ofValue, this]
  rw [hrun, Oper.upon_enter]
  refine hc.mono fun e w' h => ?_
  obtain ⟨r, rfl, hK⟩ := hR e w' h
  exact hK
theorem run_fldSet {ρ : Operand → Value} (w : World) {o : Oper} {x : Operand} {g s : Nat} (ho : o.op = .fieldAddr 24 x 0) (h : ρ x = .pointer (some ⟨g, s, none⟩)) : (execOp ρ o).run Tryz.prog w = .ok (.value (.pointer (some ⟨g, s, none⟩))) w := by
  unfold execOp
  simp only [ho, h]
  simp [go_sem]
theorem run_fldSet1 {ρ : Operand → Value} (w : World) {o : Oper} {x : Operand} {g s : Nat} (ho : o.op = .fieldAddr 24 x 1) (h : ρ x = .pointer (some ⟨g, s, none⟩)) : (execOp ρ o).run Tryz.prog w = .ok (.value (.pointer (some ⟨g, s + 1, none⟩))) w := by
  unfold execOp
  simp only [ho, h]
  simp [go_sem]
theorem op_callNL {ops : Array Oper} {Q : Exit → Act → World → Prop} {i f : Nat} {o : Oper} {a : Act} {w : World} {xs : Array Operand} {us : Array Value} {ts : Array TypeId} {K : Act → World → Prop} {R : Ending → World → Prop} (hi : ops[i]? = some o) (hg : o.guard = none) (hop : o.op = .call { callee := .value (.func f), args := xs, argTypes := ts })
    (he : Enters Tryz.prog f) (hx : xs.map a.eval = us) (hc : Calls Tryz.prog f us w R) (hR : ∀ e w', R e w' → ∃ r, e = .returned r ∧ K (a.put o.dst r) w') : wpOp Tryz.prog ops Q i K a w := by
  unfold wpOp
  rw [hi]
  have hw : Region.wanted o (yielded ops a.tmps) = true := by simp [Region.wanted, hg]
  simp only [hw, if_true, Oper.wp]
  left
  have hrun : (execOp a.eval o).run Tryz.prog w = .ok (.enter f us) w := by
    unfold execOp
    simp only [hop]
    have := he us w
    have hfn : a.eval (.func f) = .func (.func f) #[] #[] := rfl
    simp [resolve, invoke, hx, hfn, Deferred.ofValue, this]
  rw [hrun, Oper.upon_enter]
  refine hc.mono fun e w' h => ?_
  obtain ⟨r, rfl, hK⟩ := hR e w' h
  exact hK
theorem run_fldSet2 {ρ : Operand → Value} (w : World) {o : Oper} {x : Operand} {g s : Nat} (ho : o.op = .fieldAddr 24 x 2) (h : ρ x = .pointer (some ⟨g, s, none⟩)) : (execOp ρ o).run Tryz.prog w = .ok (.value (.pointer (some ⟨g, s + 2, none⟩))) w := by
  unfold execOp
  simp only [ho, h]
  simp [go_sem]
theorem run_fldSet3 {ρ : Operand → Value} (w : World) {o : Oper} {x : Operand} {g s : Nat} (ho : o.op = .fieldAddr 24 x 3) (h : ρ x = .pointer (some ⟨g, s, none⟩)) : (execOp ρ o).run Tryz.prog w = .ok (.value (.pointer (some ⟨g, s + 3, none⟩))) w := by
  unfold execOp
  simp only [ho, h]
  simp [go_sem]
theorem run_fldSet4 {ρ : Operand → Value} (w : World) {o : Oper} {x : Operand} {g s : Nat} (ho : o.op = .fieldAddr 24 x 4) (h : ρ x = .pointer (some ⟨g, s, none⟩)) : (execOp ρ o).run Tryz.prog w = .ok (.value (.pointer (some ⟨g, s + 4, none⟩))) w := by
  unfold execOp
  simp only [ho, h]
  simp [go_sem]
theorem run_assignL {ρ : Operand → Value} {P : Program} (w : World) {o : Oper} {x : Operand} {v : Value} (ho : o.op = .assign x) (h : ρ x = v) : (execOp ρ o).run P w = .ok (.value v) w := by
  unfold execOp
  simp only [ho, h]
  simp [go_sem]
end Go.Proofs.YtplkmkbambbemaeGreatDoor
namespace Go.Proofs.YtplkmkbambbemaeGreatDoor
open Go.ChangeShapes Go.WideShapes Go.ChangeAt Go.RowKit
def tbS (dst : List Nat) (k : Nat) (σ : Nat → Value) : List (Nat × Value) := (List.range k).map fun i => (dst.getD i 0, σ i)
theorem tbS_length (dst : List Nat) (k : Nat) (σ : Nat → Value) : (tbS dst k σ).length = k := by simp [tbS]
theorem tbS_at (dst : List Nat) (k : Nat) (σ : Nat → Value) {i : Nat} (hi : i < k) : (tbS dst k σ).getD i (0, undef) = (dst.getD i 0, σ i) := by simp [tbS, List.getD, hi]
theorem tbS_keys (dst : List Nat) (k : Nat) (σ : Nat → Value) (hk : dst.length = k) : (tbS dst k σ).map (·.1) = dst := by
  refine List.ext_getElem (by simp [tbS, hk]) fun i h1 h2 => ?_
  simp [tbS, List.getD, h2]
theorem lkp_tbS {l0 : List Value} {dst : List Nat} {k : Nat} (σ : Nat → Value) (hk : dst.length = k) (hnd : dst.Nodup) {i : Nat} (hi : i < k) : lkp l0 (tbS dst k σ) (dst.getD i 0) = σ i := by
  have := lkp_at l0 (tbS dst k σ) (by rw [tbS_keys _ _ _ hk]; exact hnd) i (by rw [tbS_length]; exact hi)
  rwa [tbS_at _ _ _ hi] at this
theorem lkp_tbS_none {l0 : List Value} {dst : List Nat} {k : Nat} (σ : Nat → Value) {s : Nat} (h : ∀ i, i < k → dst.getD i 0 ≠ s) : lkp l0 (tbS dst k σ) s = l0.getD s undef :=
  lkp_none _ s fun q hq => by
    unfold tbS at hq
    obtain ⟨i, hi, rfl⟩ := List.mem_map.1 hq
    exact h i (List.mem_range.1 hi)
set_option maxHeartbeats 1000000 in
theorem region_sig {P : Program} {ops : Array Oper} {id : Nat} {l0 : List Value} {Q : Exit → Act → World → Prop} (n k : Nat) (dst : List Nat) (reads : List (List Nat)) (par : List Nat) (Pr : Nat → (Nat → Value) → World → Prop) (wr : World) (hm : P.follows .mixedOrders = true) (hn : ops.size = n) (hkn : k < n)
    (hdk : dst.length = k) (hnd : dst.Nodup) (hdN : (dst.all fun s => decide (s < l0.length)) = true)
    (havail : ((List.range k).all fun i => (reads.getD i []).all fun s => (List.range k).all fun j => (dst.getD j 0 != s) || waitsFor ops i j) = true) (htopo : ((List.range n).all fun i => laterNone ops i) = true)
    (hrN : ((List.range k).all fun i => (reads.getD i []).all fun s => decide (s < l0.length)) = true)
    (hpar : ((List.range k).all fun j => decide (j < par.getD j 0) && (decide (par.getD j 0 ≤ k) && waitsFor ops (par.getD j 0) j)) = true) (htail : ((List.range n).all fun i => decide (i ≤ k) || waitsFor ops i (i - 1)) = true)
    (hcong : ∀ j, j < k → ∀ σ σ' w, (∀ j', j' = j ∨ waitsFor ops j j' = true → σ j' = σ' j') → Pr j σ w → Pr j σ' w)
    (hmono : ∀ j σ w w', Pr j σ w → w.grownBy w' none → Pr j σ w')
    (hstep : ∀ i, i < k → ∀ (σ : Nat → Value) (a : Act) (w : World), Below wr.heap.size wr w → (∀ j, j < k → waitsFor ops i j = true → Pr j σ w) → (∀ s ∈ reads.getD i [], a.eval (.tmp s) = lkp l0 (tbS dst k σ) s) → ∀ (Q : Exit → Act → World → Prop) (K : Act → World → Prop), (∀ x w', w.grownBy w' none → (∀ σ' : Nat → Value, (∀ j, j ≠ i → σ' j = σ j) → σ' i = x → Pr i σ' w') → K (a.put (some (dst.getD i 0)) x) w') → wpOp P ops Q i K a w)
    (hlast : ∀ (σ : Nat → Value) w, Below wr.heap.size wr w → (∀ j, j < k → Pr j σ w) → tailWp P ops Q (List.range' k (n - k)) { tmps := (setAll l0 (tbS dst k σ)).toArray, defers := [] } w) :
    (Code.region id ops true).wp P Q { tmps := l0.toArray, defers := [] } wr := by
  have hlt : ∀ j, j < k → dst.getD j 0 < l0.length := fun j hj => by
    have hj' : j < dst.length := by omega
    have e : dst.getD j 0 = dst[j] := by simp [List.getD, hj']
    rw [e]
    exact of_decide_eq_true (List.all_eq_true.1 hdN _ (List.getElem_mem hj'))
  have hP : ∀ j, j < k → j < par.getD j 0 ∧ par.getD j 0 ≤ k ∧ waitsFor ops (par.getD j 0) j = true := fun j hj => by
    have := List.all_eq_true.1 hpar j (List.mem_range.2 hj)
    rw [Bool.and_eq_true, Bool.and_eq_true, decide_eq_true_eq, decide_eq_true_eq] at this
    exact this
  have hT : ∀ i, i < n → k < i → waitsFor ops i (i - 1) = true := fun i hi hk => by
    have := List.all_eq_true.1 htail i (List.mem_range.2 hi)
    rw [Bool.or_eq_true, decide_eq_true_eq] at this
    rcases this with h | h
    · omega
    · exact h
  have hchain : ∀ (L : Nat → Bool), (∀ i j, L i = true → waitsFor ops i j = true → L j = true) → (∀ j, waitsFor ops k j = true → L j = true) → ∀ m j, j < k → k - j ≤ m → L j = true := by
    intro L hcl hk0 m
    induction m with
    | zero => intro j hj hm'; omega
    | succ m ih =>
      intro j hj hm'
      obtain ⟨p1, p2, p3⟩ := hP j hj
      by_cases hpk : par.getD j 0 = k
      · rw [hpk] at p3; exact hk0 j p3
      · exact hcl _ _ (ih _ (by omega) (by omega)) p3
  refine region_inv n (fun L a w => ((∀ j, k ≤ j → L j = false) ∧ (∀ i j, L i = true → waitsFor ops i j = true → L j = true) ∧ ∃ σ : Nat → Value, (∀ j, j < k → L j = true → Pr j σ w) ∧ a.tmps.size = l0.length ∧ a.defers = [] ∧ Below wr.heap.size wr w ∧ ∀ s, s < l0.length → (∀ i, i < k → dst.getD i 0 = s → L i = true) → a.eval (.tmp s) = lkp l0 (tbS dst k σ) s) ∨ ∃ t, k ≤ t ∧ t ≤ n ∧ (∀ j, j < t → L j = true) ∧ (∀ j, t ≤ j → L j = false) ∧ tailWp P ops Q (List.range' t (n - t)) a w) _ wr hm hn htopo ?_ ?_ ?_
  · refine .inl ⟨fun _ _ => rfl, fun i j h => (by cases h), fun _ => undef, fun j _ h => (by cases h), by simp, rfl, (Below.refl _ wr).drew, fun s hs h => ?_⟩
    rw [lkp_tbS_none _ (fun i hi e => by have := h i hi e; cases this)]
    simp [Act.eval, List.getD]
  · intro L a w i hI hi hLi hw
    rcases hI with ⟨hA1, hcl, σ, hPr, hsz, hdf, hbel, hev⟩ | ⟨t, ht1, ht2, hB1, hB2, hB3⟩
    · rcases Nat.lt_or_ge i k with hik | hik
      · refine hstep i hik σ a w hbel (fun j hj hwj => hPr j hj (hw j hwj)) (fun s hs => hev s ?_ (fun j hj e => hw j ?_)) Q _ (fun x w' hg hx => .inl ⟨fun j hj => ?_, fun p j hp hpj => ?_, fun j => if j = i then x else σ j, fun j hj hLj => ?_, by simp [Act.put, hsz], hdf, hbel.grown hg hbel.size (fun g e => by cases e), fun s hs h => ?_⟩)
        · exact of_decide_eq_true (List.all_eq_true.1 (List.all_eq_true.1 hrN i (List.mem_range.2 hik)) s hs)
        · have := List.all_eq_true.1 (List.all_eq_true.1 (List.all_eq_true.1 havail i (List.mem_range.2 hik)) s hs) j (List.mem_range.2 hj)
          rw [e] at this
          simpa using this
        · show (if j = i then true else L j) = false
          rw [if_neg (by omega)]; exact hA1 j hj
        · show (if j = i then true else L j) = true
          have hp' : (if p = i then true else L p) = true := hp
          by_cases hji : j = i
          · rw [if_pos hji]
          · rw [if_neg hji]
            by_cases hpi : p = i
            · subst hpi; exact hw j hpj
            · rw [if_neg hpi] at hp'; exact hcl p j hp' hpj
        · have hLj' : (if j = i then true else L j) = true := hLj
          by_cases hji : j = i
          · subst hji
            exact hx _ (fun j' hj' => by simp [hj']) (by simp)
          · rw [if_neg hji] at hLj'
            refine hmono j _ w w' (hcong j hj σ _ w (fun j' hj' => ?_) (hPr j hj hLj')) hg
            have hne : j' ≠ i := by
              rintro rfl
              rcases hj' with rfl | hw'
              · exact hji rfl
              · rw [hcl j _ hLj' hw'] at hLi; cases hLi
            simp [hne]
        · by_cases e : dst.getD i 0 = s
          · subst e
            rw [Act.eval_put_same a _ _ (by rw [hsz]; exact hs), lkp_tbS _ hdk hnd hik]
            simp
          · rw [Act.eval_put_ne a _ _ _ e]
            have h3 := hev s hs (fun j hj ej => by
              have h3 : (if j = i then true else L j) = true := h j hj ej
              by_cases hji : j = i
              · subst hji; exact absurd ej e
              · rw [if_neg hji] at h3; exact h3)
            rw [h3]
            by_cases hex : ∃ j, j < k ∧ dst.getD j 0 = s
            · obtain ⟨j, hj, rfl⟩ := hex
              rw [lkp_tbS _ hdk hnd hj, lkp_tbS _ hdk hnd hj]
              have hne : j ≠ i := fun h => e (by rw [h])
              simp [hne]
            · rw [lkp_tbS_none _ (fun j hj ej => hex ⟨j, hj, ej⟩), lkp_tbS_none _ (fun j hj ej => hex ⟨j, hj, ej⟩)]
      · have hik' : i = k := by
          apply Nat.le_antisymm _ hik
          apply Nat.le_of_not_lt
          intro hc
          have h1 := hw _ (hT i hi hc)
          rw [hA1 (i - 1) (by omega)] at h1
          cases h1
        subst hik'
        have hall : ∀ j, j < i → L j = true := fun j hj => hchain L hcl hw _ j hj (Nat.le_refl _)
        have ha : a = { tmps := (setAll l0 (tbS dst i σ)).toArray, defers := [] } := act_known a _ (by rw [setAll_length]; exact hsz) hdf (fun s hs => by
          rw [setAll_length] at hs
          rw [setAll_lkp _ l0 s (by rw [tbS_keys _ _ _ hdk]; exact hnd) (fun q hq => by
            unfold tbS at hq
            obtain ⟨j, hj, rfl⟩ := List.mem_map.1 hq
            exact hlt j (List.mem_range.1 hj))]
          exact hev s hs (fun j hj _ => hall j hj))
        have h1 := hlast σ w hbel (fun j hj => hPr j hj (hall j hj))
        obtain ⟨m, hm'⟩ : ∃ m, n - i = m + 1 := ⟨n - i - 1, by omega⟩
        rw [hm', List.range'_succ, tailWp, ← ha] at h1
        refine wpOp_mono (fun a' w' h => .inr ⟨i + 1, by omega, by omega, fun j hj => ?_, fun j hj => ?_, ?_⟩) h1
        · show (if j = i then true else L j) = true
          by_cases hji : j = i
          · rw [if_pos hji]
          · rw [if_neg hji]; exact hall j (by omega)
        · show (if j = i then true else L j) = false
          rw [if_neg (by omega)]; exact hA1 j (by omega)
        · rw [show n - (i + 1) = m by omega]; exact h
    · have hti : t ≤ i := by
        apply Nat.le_of_not_lt
        intro hc
        rw [hB1 i hc] at hLi
        cases hLi
      have hti' : i = t := by
        apply Nat.le_antisymm _ hti
        apply Nat.le_of_not_lt
        intro hc
        have h1 := hw _ (hT i hi (by omega))
        rw [hB2 (i - 1) (by omega)] at h1
        cases h1
      subst hti'
      obtain ⟨m, hm'⟩ : ∃ m, n - i = m + 1 := ⟨n - i - 1, by omega⟩
      rw [hm', List.range'_succ, tailWp] at hB3
      refine wpOp_mono (fun a' w' h => .inr ⟨i + 1, by omega, by omega, fun j hj => ?_, fun j hj => ?_, ?_⟩) hB3
      · show (if j = i then true else L j) = true
        by_cases hji : j = i
        · rw [if_pos hji]
        · rw [if_neg hji]; exact hB1 j (by omega)
      · show (if j = i then true else L j) = false
        rw [if_neg (by omega)]; exact hB2 j (by omega)
      · rw [show n - (i + 1) = m by omega]; exact h
  · rintro L a w hL (⟨hA1, _⟩ | ⟨t, ht1, ht2, hB1, hB2, hB3⟩)
    · have := hL k hkn
      rw [hA1 k (Nat.le_refl _)] at this
      cases this
    · have htn : t = n := by
        apply Nat.le_antisymm ht2
        apply Nat.le_of_not_lt
        intro hc
        have := hL t hc
        rw [hB2 t (Nat.le_refl _)] at this
        cases this
      subst htn
      rw [Nat.sub_self] at hB3
      exact hB3
end Go.Proofs.YtplkmkbambbemaeGreatDoor
namespace Go.Proofs.YtplkmkbambbemaeGreatDoor
open Go.ChangeShapes Go.WideShapes Go.ChangeAt Go.RowKit
theorem take_push {L : List Int} {i : Nat} (h : i < L.length) {x : Int} (hx : x = L.getD i 0) : L.take i ++ [x] = L.take (i + 1) := by
  rw [List.take_succ_eq_append_getElem h, hx]
  simp [List.getD, h]
/-- Numbers within a bound. -/
def Within (l : List Int) (K : Nat) : Prop := ∀ j, -(K : Int) ≤ l.getD j 0 ∧ l.getD j 0 ≤ K
theorem fI_bd {K : Nat} {a b : Int} (ha : -(K : Int) ≤ a ∧ a ≤ K) (hb : -(K : Int) ≤ b ∧ b ≤ K) : -(K : Int) ≤ fI a b ∧ fI a b ≤ K := by
  unfold fI absI
  split <;> split <;> split <;> omega
theorem gI_bd {K : Nat} {x a b : Int} (ha : -(K : Int) ≤ a ∧ a ≤ K) (hb : -(K : Int) ≤ b ∧ b ≤ K) : -((2 * K : Nat) : Int) ≤ gI x a b ∧ gI x a b ≤ (2 * K : Nat) := by
  unfold gI
  split <;> omega
theorem fL_length {a b : List Int} {h : Nat} (ha : a.length = h) (hb : b.length = h) : (fL a b).length = h := by simp [fL, ha, hb]
theorem fL_at {a b : List Int} {h : Nat} (ha : a.length = h) (hb : b.length = h) {j : Nat} (hj : j < h) : (fL a b).getD j 0 = fI (a.getD j 0) (b.getD j 0) := by
  simp [fL, List.getD, ha, hb, hj]
theorem gL_length : ∀ {x a b : List Int} {h : Nat}, x.length = h → a.length = h → b.length = h → (gL x a b).length = h
  | [], [], [], _, h, _, _ => h
  | [], _ :: _, _, _, h1, h2, _ => by subst h1; simp at h2
  | [], [], _ :: _, _, h1, _, h2 => by subst h1; simp at h2
  | _ :: _, [], _, _, h1, h2, _ => by subst h1; simp at h2
  | _ :: _, _ :: _, [], _, h1, _, h2 => by subst h1; simp at h2
  | x :: xs, a :: al, b :: bl, h, h1, h2, h3 => by
    subst h1
    have := gL_length (x := xs) (a := al) (b := bl) (h := xs.length) rfl (by simpa using h2) (by simpa using h3)
    simp [gL, this]
theorem gL_at : ∀ {x a b : List Int} {h : Nat}, x.length = h → a.length = h → b.length = h → ∀ {j : Nat}, j < h → (gL x a b).getD j 0 = gI (x.getD j 0) (a.getD j 0) (b.getD j 0)
  | [], _, _, _, h1, _, _, j, hj => by subst h1; simp at hj
  | _ :: _, [], _, _, h1, h2, _, _, _ => by subst h1; simp at h2
  | _ :: _, _ :: _, [], _, h1, _, h2, _, _ => by subst h1; simp at h2
  | x :: xs, a :: al, b :: bl, h, h1, h2, h3, 0, _ => by simp [gL]
  | x :: xs, a :: al, b :: bl, h, h1, h2, h3, j + 1, hj => by
    subst h1
    have := gL_at (x := xs) (a := al) (b := bl) (h := xs.length) rfl (by simpa using h2) (by simpa using h3) (j := j) (by simpa using hj)
    simpa [gL] using this
theorem getD_out {l : List Int} {j : Nat} (h : l.length ≤ j) : l.getD j 0 = 0 := by simp [List.getD, h]
theorem within_f {a b : List Int} {h K : Nat} (ha : a.length = h) (hb : b.length = h) (wa : Within a K) (wb : Within b K) : Within (fL a b) K := fun j => by
  rcases Nat.lt_or_ge j h with hj | hj
  · rw [fL_at ha hb hj]; exact fI_bd (wa j) (wb j)
  · rw [getD_out (by rw [fL_length ha hb]; exact hj)]; omega
theorem within_g {x a b : List Int} {h K : Nat} (hx : x.length = h) (ha : a.length = h) (hb : b.length = h) (wa : Within a K) (wb : Within b K) : Within (gL x a b) (2 * K) := fun j => by
  rcases Nat.lt_or_ge j h with hj | hj
  · rw [gL_at hx ha hb hj]; exact gI_bd (wa j) (wb j)
  · rw [getD_out (by rw [gL_length hx ha hb]; exact hj)]; omega
theorem getD_take {l : List Int} {h j : Nat} (hj : j < h) : (l.take h).getD j 0 = l.getD j 0 := by simp [List.getD, hj]
theorem getD_drop {l : List Int} {h j : Nat} : (l.drop h).getD j 0 = l.getD (h + j) 0 := by simp [List.getD]
theorem Within.take {l : List Int} {K : Nat} (h : Within l K) (n : Nat) : Within (l.take n) K := fun j => by
  rcases Nat.lt_or_ge j n with hj | hj
  · rw [getD_take hj]; exact h j
  · rw [getD_out (by simp; omega)]; omega
theorem Within.drop {l : List Int} {K : Nat} (h : Within l K) (n : Nat) : Within (l.drop n) K := fun j => by
  rw [getD_drop]; exact h _
end Go.Proofs.YtplkmkbambbemaeGreatDoor
namespace Go.Proofs.YtplkmkbambbemaeGreatDoor
open Go.ChangeShapes Go.WideShapes Go.ChangeAt Go.RowKit
theorem Own.slice {w : World} {B : Nat} {v : Value} {L : List Int} {k : Nat} (h : Own w B v L) (hk : L.length = k) : ∃ a c, v = .slice a k c ∧ k ≤ c ∧ c ≤ maxLen ∧ Rd .u8 w a L ∧ (∀ g o, a = some ⟨g, o, none⟩ → B ≤ g) := by
  obtain ⟨a, c, rfl, -, h1, h2⟩ := h.shape
  subst hk
  refine ⟨a, c, rfl, h1, h2, h.rd, ?_⟩
  rintro g o rfl
  exact own_blocks h g rfl
end Go.Proofs.YtplkmkbambbemaeGreatDoor
namespace Go.Proofs.YtplkmkbambbemaeGreatDoor
open Go.ChangeShapes Go.WideShapes Go.ChangeAt Go.RowKit
def Apart (v u : Value) : Prop := ∀ k, v.ownBlock = some k → u.ownBlock ≠ some k
theorem Apart.symm {v u : Value} (h : Apart v u) : Apart u v := fun k hk hv => h k hv hk
theorem Own.grow {w w' : World} {B : Nat} {u : Value} {M : List Int} {row : Option Nat} (h : Own w B u M) (hg : w.grownBy w' row) (hr : ∀ k, row = some k → u.ownBlock ≠ some k) : Own w' B u M := by
  refine ⟨h.1, ?_⟩
  rcases h.2 with h' | ⟨g, cap, cur, h1, h2, h3, h4⟩
  · exact .inl h'
  · have hlt : g < w.heap.size := by
      rcases Nat.lt_or_ge g w.heap.size with hl | hl
      · exact hl
      · rw [Array.getElem?_eq_none hl] at h3; cases h3
    refine .inr ⟨g, cap, cur, h1, h2, (hg.block g hlt (fun e => hr g e.symm ?_)).trans h3, h4⟩
    rw [h1]; rfl
/-- Which places are open. -/
def openM (n k : Nat) : List Bool := (List.range n).map (isPlace n k)
end Go.Proofs.YtplkmkbambbemaeGreatDoor
namespace Go.Proofs.YtplkmkbambbemaeGreatDoor
open Go.ChangeShapes Go.WideShapes Go.ChangeAt Go.RowKit
/-- n pairs from a on: the i-th is the numbers X i (at A i, with C i places) and the number V i. -/
def PairsAt (k : IntKind) (w : World) (a : Option Addr) (n : Nat) (A : Nat → Option Addr) (C : Nat → Nat) (X : Nat → List Int) (V : Nat → Int) : Prop :=
  0 < n → ∃ b off, a = some ⟨b, off, none⟩ ∧ ∀ i, i < n → w.cell? ⟨b, off + i * 2, none⟩ = some (.slice (A i) (X i).length (C i)) ∧ w.cell? ⟨b, off + i * 2 + 1, none⟩ = some (.int k (V i)) ∧ Rd k w (A i) (X i) ∧ (X i).length ≤ C i ∧ C i ≤ maxLen
theorem PairsAt.below {k : IntKind} {w w' : World} {a : Option Addr} {n : Nat} {A : Nat → Option Addr} {C : Nat → Nat} {X : Nat → List Int} {V : Nat → Int} (h : PairsAt k w a n A C X V) (hb : Below w.heap.size w w') : PairsAt k w' a n A C X V := by
  intro hn
  obtain ⟨b, off, rfl, hc⟩ := h hn
  refine ⟨b, off, rfl, fun i hi => ?_⟩
  obtain ⟨h1, h2, h3, h4, h5⟩ := hc i hi
  exact ⟨(hb.cell (World.block_lt_of_cell? w _ h1)).trans h1, (hb.cell (World.block_lt_of_cell? w _ h2)).trans h2, h3.below hb, h4, h5⟩
theorem PairsAt.first {k : IntKind} {w : World} {b off : Nat} {n : Nat} {A : Nat → Option Addr} {C : Nat → Nat} {X : Nat → List Int} {V : Nat → Int} (h : PairsAt k w (some ⟨b, off, none⟩) n A C X V) {i : Nat} (hi : i < n) : b < w.heap.size := by
  obtain ⟨b', off', e, hc⟩ := h (by omega)
  simp at e
  obtain ⟨rfl, rfl⟩ := e
  exact World.block_lt_of_cell? w _ (hc i hi).1
end Go.Proofs.YtplkmkbambbemaeGreatDoor
namespace Go.Proofs.YtplkmkbambbemaeGreatDoor
open Go.ChangeShapes Go.WideShapes Go.ChangeAt Go.RowKit
set_option maxHeartbeats 400000 in
theorem same_ints (xs ys : List Int) (a b : Option Addr) (ca cb : Nat) (w : World) (ha : Rd .i64 w a xs) (hb : Rd .i64 w b ys) (hx : xs.length ≤ maxLen) (hy : ys.length ≤ maxLen) :
    Calls Tryz.prog 11 #[.slice a xs.length ca, .slice b ys.length cb] w fun e w' => e = .returned (.bool (decide (xs = ys))) ∧ Below w.heap.size w w' := by
  unfold maxLen at hx hy
  by_cases hl : ys.length = xs.length
  · have hne : (((xs.length : Nat) : Int) != ((ys.length : Nat) : Int)) = false := by rw [hl]; simp
    rw [hl] at hne ⊢
    clear hy
    have HL : Hid (ys.length = xs.length) := hl
    clear hl
    go_enter Tryz.func11, Tryz.ntmps11
    go_wp2
    go_loopw [5] (fun i wr => ∃ k : Nat, k ≤ xs.length ∧ i = .int .i64 k ∧ Hid (xs.take k = ys.take k) ∧ Below w.heap.size w wr) (fun i _ => xs.length - (intOf i).toNat)
    case atStart => exact ⟨0, Nat.zero_le _, rfl, rfl, Below.refl _ _⟩
    case round =>
      obtain ⟨k, hk, rfl, htk, hbel⟩ := hrel
      by_cases hlt : k < xs.length
      · obtain ⟨b1, o1, rfl, hc1⟩ := (ha.below hbel).at hlt
        obtain ⟨b2, o2, rfl, hc2⟩ := (hb.below hbel).at (i := k) (by rw [HL.out]; exact hlt)
        have g1 := hc1 k hlt
        have g2 := hc2 k (by rw [HL.out]; exact hlt)
        clear hc1 hc2
        go_wp2_with fail
        go_quiet (fail)
        go_wp2
        · go_ret
          exact ⟨dec_ne hlt ‹_›, below_drewN hbel _⟩
        · go_roundw
          case rel => exact ⟨k + 1, by omega, by go_num, take_ext' HL.out hlt htk.out ‹_›, below_drewN hbel _⟩
          case measure => simp [intOf]; omega
      · go_wp2
        go_ret
        exact ⟨dec_eq HL.out (by omega) htk.out, hbel⟩
  · have hne : (((xs.length : Nat) : Int) != ((ys.length : Nat) : Int)) = true := by simp; omega
    have hd : decide (xs = ys) = false := by simp; intro h; subst h; exact hl rfl
    rw [hd]
    clear hl
    go_enter Tryz.func11, Tryz.ntmps11
    go_wp2
    go_ret
    exact ⟨rfl, Below.refl _ _⟩
end Go.Proofs.YtplkmkbambbemaeGreatDoor
namespace Go.Proofs.YtplkmkbambbemaeGreatDoor
open Go.ChangeShapes Go.WideShapes Go.ChangeAt Go.RowKit
/-- What comes of what is heard: the sums, as they would be. -/
def nextM (s xs : List Int) (v : Int) : List Int := gathTo s (pickTo s.length v.toNat xs.length) xs xs.length
def tellOk (xs : List Int) (v : Int) : Bool := softOk xs && decide (xs.length ≤ 4096) && verOk v
def addErr (s xs : List Int) (v : Int) : Int := if tellOk xs v then (if softOk (nextM s xs v) then 0 else 2) else 1
def addM (s xs : List Int) (v : Int) : List Int := if tellOk xs v && softOk (nextM s xs v) then nextM s xs v else s
/-- The table of columns lies where it was laid. -/
def colTab : Array Value := #[.int .i64 0, .int .i64 4, .int .i64 2, .int .i64 6, .int .i64 1, .int .i64 5, .int .i64 3, .int .i64 7]
def Col (w : World) : Prop := ∃ T fr, w.heap[0]? = some (.cells colTab T fr)
theorem Col.lt {w : World} (h : Col w) : 0 < w.heap.size := by
  obtain ⟨T, fr, e⟩ := h
  rcases Nat.lt_or_ge 0 w.heap.size with h | h
  · exact h
  · rw [Array.getElem?_eq_none h] at e; cases e
theorem Col.below {w w' : World} {B : Nat} (h : Col w) (hb : Below B w w') (hB : 0 < B) : Col w' := by
  obtain ⟨T, fr, e⟩ := h
  exact ⟨T, fr, (hb.block _ hB).trans e⟩
theorem Col.later {w w' : World} (h : Col w) (hb : Below w.heap.size w w') : Col w' := h.below hb h.lt
theorem Col.kept {w w' : World} {S : List Nat} (h : Col w) (hk : Kept S w w') (hS : 0 ∉ S) : Col w' := by
  have hl := h.lt
  obtain ⟨T, fr, e⟩ := h
  exact ⟨T, fr, (hk.block _ hl hS).trans e⟩
theorem nextM_length (s xs : List Int) (v : Int) : (nextM s xs v).length = s.length := gathTo_length _ _ _ _
theorem addM_length (s xs : List Int) (v : Int) : (addM s xs v).length = s.length := by unfold addM; split; exact nextM_length _ _ _; rfl
theorem OwnI.cellI {w : World} {B g N c : Nat} {L : List Int} (h : OwnI w B (.slice (some ⟨g, 0, none⟩) N c) L) {i : Nat} (hi : i < L.length) : w.cell? ⟨g, i, none⟩ = some (.int .i64 (L.getD i 0)) := by
  obtain ⟨b, off, e, hc⟩ := h.rd.at hi
  simp at e
  obtain ⟨rfl, rfl⟩ := e
  simpa using hc i hi
theorem OwnI.free {w : World} {B g N c : Nat} {L : List Int} (h : OwnI w B (.slice (some ⟨g, 0, none⟩) N c) L) (i : Nat) : w.frozen? ⟨g, i, none⟩ = false := by
  have e := h.len
  unfold OwnI at h
  rw [e] at h
  exact h.frozenAt i
theorem OwnI.set {w : World} {B g N c : Nat} {L : List Int} (h : OwnI w B (.slice (some ⟨g, 0, none⟩) N c) L) (i : Nat) (x : Int) : OwnI (w.setCell ⟨g, i, none⟩ (.int .i64 x)) B (.slice (some ⟨g, 0, none⟩) N c) (L.set i x) := by
  have e := h.len
  unfold OwnI at h ⊢
  rw [List.length_set, e, List.map_set]
  rw [e] at h
  exact (h.stored i _).1
theorem OwnI.kept {w w' : World} {B : Nat} {v : Value} {L : List Int} {S : List Nat} (h : OwnI w B v L) (hk : Kept S w w') (hs : ∀ g, v.ownBlock = some g → g ∉ S) : OwnI w' B v L := by
  refine ⟨h.1, ?_⟩
  rcases h.2 with h' | ⟨g, cap, cur, h1, h2, h3, h4⟩
  · exact .inl h'
  · have hlt : g < w.heap.size := by
      rcases Nat.lt_or_ge g w.heap.size with hl | hl
      · exact hl
      · rw [Array.getElem?_eq_none hl] at h3; cases h3
    exact .inr ⟨g, cap, cur, h1, h2, (hk.block g hlt (hs g (by rw [h1]; rfl))).trans h3, h4⟩
theorem PairsAt.cells {k : IntKind} {w : World} {a : Option Addr} {n : Nat} {A : Nat → Option Addr} {C : Nat → Nat} {X : Nat → List Int} {V : Nat → Int} (h : PairsAt k w a n A C X V) {i : Nat} (hi : i < n) :
    ∃ b off, a = some ⟨b, off, none⟩ ∧ w.cell? ⟨b, off + i * 2, none⟩ = some (.slice (A i) (X i).length (C i)) ∧ w.cell? ⟨b, off + i * 2 + 1, none⟩ = some (.int k (V i)) ∧ Rd k w (A i) (X i) ∧ (X i).length ≤ C i ∧ C i ≤ maxLen := by
  obtain ⟨b, off, e, hc⟩ := h (by omega)
  exact ⟨b, off, e, hc i hi⟩
theorem OwnI.shape1 {w : World} {B m : Nat} {v : Value} {L : List Int} (h : OwnI w B v L) (hl : L.length = m) (hm : 1 ≤ m) : ∃ g c, v = .slice (some ⟨g, 0, none⟩) m c ∧ m ≤ c ∧ c ≤ maxLen := by
  rcases h.2 with ⟨_, h0⟩ | ⟨g, cap, cur, h', _, _, h1, h2, _⟩
  · omega
  · exact ⟨g, cap, by rw [h', hl], by omega, h2⟩
theorem Kept.cellO {S : List Nat} {w w' : World} (h : Kept S w w') {p : Addr} {v : Value} (hc : w.cell? p = some v) (hp : p.block ∉ S) : w'.cell? p = some v := by
  have := h.block p.block (World.block_lt_of_cell? w _ hc) hp
  rw [← hc]
  simp only [World.cell?, this]
theorem pickTo_at {n v c j : Nat} (h : j < c) : (pickTo n v c).getD j 0 = pickM n v j := by simp [pickTo, List.getD, h]
end Go.Proofs.YtplkmkbambbemaeGreatDoor
namespace Go.Proofs.YtplkmkbambbemaeGreatDoor
open Go.ChangeShapes Go.WideShapes Go.ChangeAt Go.RowKit
theorem Own.shapeL {w : World} {B m : Nat} {v : Value} {L : List Int} (h : Own w B v L) (hl : L.length = m) (hm : 1 ≤ m) : ∃ g c, v = .slice (some ⟨g, 0, none⟩) m c ∧ m ≤ c ∧ c ≤ maxLen := by
  rcases h.2 with ⟨_, h0⟩ | ⟨g, cap, cur, h', _, _, h1, h2, _⟩
  · omega
  · exact ⟨g, cap, by rw [h', hl], by omega, h2⟩
theorem OwnP.monoL {w : World} {B B' : Nat} {v : Value} {ps : List (Int × Int)} (h : OwnP w B v ps) (hB : B' ≤ B) : OwnP w B' v ps := OwnT.mono (T := 44) h hB
theorem map2L {f : Operand → Value} {x y : Operand} {p q : Value} (h1 : f x = p) (h2 : f y = q) : (#[x, y] : Array Operand).map f = #[p, q] := by simp [h1, h2]
end Go.Proofs.YtplkmkbambbemaeGreatDoor
namespace Go.Proofs.YtplkmkbambbemaeGreatDoor
open Go.ChangeShapes Go.WideShapes Go.ChangeAt Go.RowKit
theorem run_loadSetL {ρ : Operand → Value} (w : World) {o : Oper} {x : Operand} {g s : Nat} {S : Setg} (ho : o.op = .load 24 x) (h : ρ x = .pointer (some ⟨g, s, none⟩)) (h0 : w.cell? ⟨g, s, none⟩ = some (.int .i64 S.code)) (h1 : w.cell? ⟨g, s + 1, none⟩ = some (.int .i64 S.size)) (h2 : w.cell? ⟨g, s + 2, none⟩ = some (.int .i64 S.order)) (h3 : w.cell? ⟨g, s + 3, none⟩ = some (.int .i64 S.seed)) (h4 : w.cell? ⟨g, s + 4, none⟩ = some (.int .i64 S.count)) : (execOp ρ o).run Tryz.prog w = .ok (.value S.val) w := by
  unfold execOp
  have hc : w.rangeAt g s [.int .i64 S.code, .int .i64 S.size, .int .i64 S.order, .int .i64 S.seed, .int .i64 S.count] := by
    intro j z hz
    match j, hz with
    | 0, hz => simp at hz; rw [← hz]; simpa using h0
    | 1, hz => simp at hz; rw [← hz]; simpa using h1
    | 2, hz => simp at hz; rw [← hz]; simpa using h2
    | 3, hz => simp at hz; rw [← hz]; simpa using h3
    | 4, hz => simp at hz; rw [← hz]; simpa using h4
  have hr := run_loadVar_mid w g s 24 _ _ hc Tryz.underlying24 rfl (by kernel_rfl)
  simp only [ho, h, Instr.loadAt, Instr.sureAddr, Sem.run_bind, Sem.run_pure, Result.andThen_ok, hr]
  rfl
theorem ArrAt.rdL {k : IntKind} {T : TypeId} {w : World} {g : Nat} {L : List Int} (h : ArrAt k T w g L) : Rd k w (some ⟨g, 0, none⟩) L := fun _ => ⟨g, 0, rfl, fun j hj => by rw [Nat.zero_add]; exact h.cell hj⟩
end Go.Proofs.YtplkmkbambbemaeGreatDoor
namespace Go.Proofs.YtplkmkbambbemaeGreatDoor
open Go.ChangeShapes Go.WideShapes Go.ChangeAt Go.RowKit Go.Shelf
/-- The least square of a distance to a point whose k-th bit is x, among the first j (-1: to none yet). -/
def bestTo (h order : Nat) (p : Int × Int) (k : Nat) (x : Int) : Nat → Int
  | 0 => -1
  | j + 1 => if ((wordsM order).getD j []).getD k 0 = x ∧ (bestTo h order p k x j < 0 ∨ farM p (ptM h ((wordsM order).getD j [])) < bestTo h order p k x j) then farM p (ptM h ((wordsM order).getD j [])) else bestTo h order p k x j
def heardAt5 (h order : Nat) (p : Int × Int) (k : Nat) : Int := bestTo h order p k 1 (2 ^ order) - bestTo h order p k 0 (2 ^ order)
def heardOf (h order : Nat) (p : Int × Int) (k : Nat) : List Int := (List.range k).map (heardAt5 h order p)
def heardM (h order : Nat) (ps : List (Int × Int)) (n : Nat) : List Int := (ps.take n).flatMap fun p => heardOf h order p order
theorem heardOf_succ (h order : Nat) (p : Int × Int) (k : Nat) : heardOf h order p (k + 1) = heardOf h order p k ++ [heardAt5 h order p k] := by simp [heardOf, List.range_succ]
theorem heardM_succ {h order : Nat} {ps : List (Int × Int)} {n : Nat} (hn : n < ps.length) : heardM h order ps (n + 1) = heardM h order ps n ++ heardOf h order (ps.getD n (0, 0)) order := by
  unfold heardM
  rw [List.take_succ_eq_append_getElem hn, List.flatMap_append]
  simp [List.getD, hn]
theorem heardM_length (h order : Nat) (ps : List (Int × Int)) : ∀ n, n ≤ ps.length → (heardM h order ps n).length = n * order
  | 0, _ => by simp [heardM]
  | n + 1, hn => by rw [heardM_succ (by omega), List.length_append, heardM_length h order ps n (by omega), Nat.add_mul]; simp [heardOf]
end Go.Proofs.YtplkmkbambbemaeGreatDoor
namespace Go.Proofs.YtplkmkbambbemaeGreatDoor
open Go.ChangeShapes Go.WideShapes Go.ChangeAt Go.RowKit
theorem ret_boolQ {a b : Bool} (h : a = b) : Ending.returned (.bool a) = .returned (.bool b) := by rw [h]
theorem run_eqP (w : World) (p1 p2 q1 q2 : Int) : (Op.equalIn 10000 44 (.agg #[.int .i64 p1, .int .i64 p2]) (.agg #[.int .i64 q1, .int .i64 q2])).run Tryz.prog w = .ok (p1 == q1 && p2 == q2) w := by
  have hf : Tryz.prog.underlying 44 = some (.struct (Tryz.prog.fieldsOf 44)) := by kernel_rfl
  rw [run_equalIn_struct w 9999 44 _ _ hf (by kernel_rfl)]
  simp only [Program.fieldsOf, Tryz.underlying44]
  simp [Op.eqFields, go_sem]
  by_cases h1 : p1 = q1
  · by_cases h2 : p2 = q2
    · simp [h1, h2]
    · simp [h1, h2]
  · simp [h1]
end Go.Proofs.YtplkmkbambbemaeGreatDoor
namespace Go.Proofs.YtplkmkbambbemaeGreatDoor
open Go.ChangeShapes Go.WideShapes Go.ChangeAt Go.RowKit
def ordOk5 (order : Int) : Bool := decide (order = 2 ∨ order = 4 ∨ order = 6)
def inSq (p : Int × Int) : Bool := decide ((-1000 ≤ p.1 ∧ p.1 ≤ 1000) ∧ -1000 ≤ p.2 ∧ p.2 ≤ 1000)
def hearsOk (ps : List (Int × Int)) (order : Int) : Bool := ordOk5 order && decide ((ps.length : Int) * order ≤ 4096) && ps.all inSq
def InTo (ps : List (Int × Int)) (k : Nat) : Prop := ∀ j, j < k → inSq (ps.getD j (0, 0)) = true
theorem all_inTo {ps : List (Int × Int)} {k : Nat} (hk : k = ps.length) (h : InTo ps k) : ps.all inSq = true := by
  rw [List.all_eq_true]
  intro p hp
  obtain ⟨i, hi, rfl⟩ := List.getElem_of_mem hp
  have := h i (by omega)
  simpa [List.getD, hi] using this
theorem not_all {ps : List (Int × Int)} {k : Nat} (hk : k < ps.length) (h : inSq (ps.getD k (0, 0)) = false) : ps.all inSq = false := by
  rw [List.all_eq_false]
  refine ⟨ps.getD k (0, 0), ?_, by rw [h]; simp⟩
  simp [List.getD, hk]
end Go.Proofs.YtplkmkbambbemaeGreatDoor
namespace Go.Proofs.YtplkmkbambbemaeGreatDoor
open Go.RowKit
/-- The number that t bits from place i on make, the first one the highest. -/
def num (zs : List Int) (i : Nat) : Nat → Int
  | 0 => 0
  | t + 1 => 2 * num zs i t + zs.getD (i + t) 0
def byteTo (zs : List Int) (k j : Nat) : Int := num zs (8 * j) (min 8 (k - 8 * j)) * 2 ^ (8 - min 8 (k - 8 * j))
def packTo (zs : List Int) (k : Nat) : List Int := (List.range ((zs.length + 7) / 8)).map (byteTo zs k)
def packL (zs : List Int) : List Int := (List.range ((zs.length + 7) / 8)).map fun j => num zs (8 * j) 8
theorem num_bd {zs : List Int} (h : Bits zs) (i : Nat) : ∀ t, 0 ≤ num zs i t ∧ num zs i t < 2 ^ t
  | 0 => by simp [num]
  | t + 1 => by
    have := num_bd h i t
    have := h (i + t)
    rw [num, Int.pow_succ]
    omega
theorem packTo_zero (zs : List Int) : packTo zs 0 = List.replicate ((zs.length + 7) / 8) 0 := by
  unfold packTo
  rw [List.eq_replicate_iff]
  refine ⟨by simp, fun x hx => ?_⟩
  obtain ⟨j, _, rfl⟩ := List.mem_map.1 hx
  simp [byteTo, num]
theorem num_pad (zs : List Int) (i m : Nat) (h : zs.length ≤ i + m) : ∀ d, num zs i (m + d) = num zs i m * 2 ^ d
  | 0 => by simp
  | d + 1 => by
    rw [← Nat.add_assoc, num, num_pad zs i m h d, Int.pow_succ]
    have : zs.getD (i + (m + d)) 0 = 0 := by
      rw [List.getD_eq_getElem?_getD, List.getElem?_eq_none (by omega)]; rfl
    rw [this, Int.add_zero, Int.mul_comm 2, Int.mul_assoc]
theorem packTo_all (zs : List Int) : packTo zs zs.length = packL zs := by
  unfold packTo packL
  refine List.map_congr_left fun j _ => ?_
  unfold byteTo
  by_cases h : 8 ≤ zs.length - 8 * j
  · rw [Nat.min_eq_left h]; simp
  · rw [Nat.min_eq_right (by omega)]
    have := num_pad zs (8 * j) (zs.length - 8 * j) (by omega) (8 - (zs.length - 8 * j))
    rw [← this]
    congr 1
    omega
theorem byteTo_other (zs : List Int) (k j : Nat) (h : j ≠ k / 8) : byteTo zs (k + 1) j = byteTo zs k j := by
  unfold byteTo
  have : min 8 (k + 1 - 8 * j) = min 8 (k - 8 * j) := by omega
  rw [this]
theorem byteTo_this (zs : List Int) (k : Nat) : byteTo zs (k + 1) (k / 8) = byteTo zs k (k / 8) + zs.getD k 0 * 2 ^ (7 - k % 8) := by
  unfold byteTo
  have e1 : min 8 (k + 1 - 8 * (k / 8)) = k % 8 + 1 := by omega
  have e2 : min 8 (k - 8 * (k / 8)) = k % 8 := by omega
  rw [e1, e2, num, show 8 * (k / 8) + k % 8 = k from by omega, show 8 - k % 8 = (7 - k % 8) + 1 from by omega, show 8 - (k % 8 + 1) = 7 - k % 8 from by omega, Int.pow_succ, Int.add_mul, Int.mul_comm 2, Int.mul_assoc, Int.mul_comm 2]
theorem byteTo_at (zs : List Int) (k : Nat) : byteTo zs k (k / 8) = num zs (8 * (k / 8)) (k % 8) * 2 ^ (8 - k % 8) := by
  unfold byteTo
  have e2 : min 8 (k - 8 * (k / 8)) = k % 8 := by omega
  rw [e2]
theorem packTo_getD (zs : List Int) (k j : Nat) (h : j < (zs.length + 7) / 8) : (packTo zs k).getD j 0 = byteTo zs k j := by
  simp [packTo, List.getD, h]
theorem packTo_set (zs : List Int) (k : Nat) (x : Int) (hx : x = byteTo zs (k + 1) (k / 8)) : (packTo zs k).set (k / 8) x = packTo zs (k + 1) := by
  refine List.ext_getElem (by simp [packTo]) fun j h1 h2 => ?_
  rw [List.getElem_set]
  split
  · rename_i e
    subst e
    rw [hx]
    simp [packTo]
  · rename_i e
    simp only [packTo, List.getElem_map, List.getElem_range]
    rw [byteTo_other zs k j (fun h => e h.symm)]
theorem or_add (a z m : Nat) (hz : z ≤ 1) : a * 2 ^ (m + 1) ||| z * 2 ^ m = a * 2 ^ (m + 1) + z * 2 ^ m := by
  have hlt : z * 2 ^ m < 2 ^ (m + 1) := by
    rw [Nat.pow_succ]
    have : 0 < 2 ^ m := Nat.pow_pos (by decide)
    have : z * 2 ^ m ≤ 1 * 2 ^ m := Nat.mul_le_mul_right _ hz
    omega
  rw [Nat.mul_comm a]
  exact (Nat.two_pow_add_eq_or_of_lt hlt a).symm
theorem pow_le_128 (m : Nat) (h : m ≤ 7) : (2 : Nat) ^ m ≤ 128 := by
  have := Nat.pow_le_pow_right (n := 2) (by decide) h
  simpa using this
/-- What the program lays into a byte: it is there already, or its place is free. -/
theorem or_step (zs : List Int) (k : Nat) (h : Bits zs) (p q : Int) (hp : p = byteTo zs k (k / 8)) (hq : q = zs.getD k 0 * 2 ^ (7 - k % 8)) :
    0 ≤ p ∧ p < 256 ∧ 0 ≤ q ∧ q ≤ 128 ∧ bits .or .u8 p q = byteTo zs (k + 1) (k / 8) := by
  have hb := num_bd h (8 * (k / 8)) (k % 8)
  have hz := h k
  have hr : k % 8 < 8 := Nat.mod_lt _ (by decide)
  rw [byteTo_at] at hp
  rw [byteTo_this, byteTo_at]
  obtain ⟨a, ha⟩ := Int.eq_ofNat_of_zero_le hb.1
  obtain ⟨z, hz'⟩ := Int.eq_ofNat_of_zero_le hz.1
  have hz1 : z ≤ 1 := by omega
  rw [ha] at hb hp ⊢
  rw [hz'] at hq ⊢
  obtain ⟨m, hm⟩ : ∃ m, k % 8 = 7 - m ∧ m ≤ 7 := ⟨7 - k % 8, by omega, by omega⟩
  rw [hm.1] at hb hp hq ⊢
  rw [show 8 - (7 - m) = m + 1 from by omega] at hp ⊢
  rw [show 7 - (7 - m) = m from by omega] at hq ⊢
  have hal : a < 2 ^ (7 - m) := by
    have := hb.2
    have h2 : ((2 : Int) ^ (7 - m)) = ((2 ^ (7 - m) : Nat) : Int) := by simp
    rw [h2] at this
    omega
  have hpN : p = ((a * 2 ^ (m + 1) : Nat) : Int) := by rw [hp]; simp
  have hqN : q = ((z * 2 ^ m : Nat) : Int) := by rw [hq]; simp
  have hp256 : a * 2 ^ (m + 1) < 256 := by
    have h1 : a * 2 ^ (m + 1) < 2 ^ (7 - m) * 2 ^ (m + 1) := Nat.mul_lt_mul_of_pos_right hal (Nat.pow_pos (by decide))
    rw [← Nat.pow_add, show 7 - m + (m + 1) = 8 from by omega] at h1
    simpa using h1
  have hq128 : z * 2 ^ m ≤ 128 := by
    have h1 : z * 2 ^ m ≤ 1 * 2 ^ m := Nat.mul_le_mul_right _ hz1
    have := pow_le_128 m hm.2
    omega
  refine ⟨by omega, by omega, by omega, by omega, ?_⟩
  rw [hpN, hqN, u8_or_nat _ _ hp256 (by omega), or_add a z m hz1]
  simp
end Go.Proofs.YtplkmkbambbemaeGreatDoor
