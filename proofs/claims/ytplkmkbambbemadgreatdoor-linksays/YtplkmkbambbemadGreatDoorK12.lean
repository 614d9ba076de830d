import Derived.Test.YtplkmkbambbemadGreatDoorK11
import Derived.Test.YtplkmkbambbemadGreatDoorK08
import Derived.Test.YtplkmkbambbemadGreatDoorK03
import Derived.Shelf.Abstract
import Derived.Test.YtplkmkbambbemadGreatDoorK01
namespace Go.Proofs.YtplkmkbambbemadGreatDoor
open Go.ChangeShapes Go.WideShapes Go.ChangeAt Go.RowKit
set_option maxHeartbeats 1000000 in
theorem region_growU {P : Program} {ops : Array Oper} {id : Nat} {l0 : List Value} {Q : Exit → Act → World → Prop} (n k u : Nat) (pre : List (Nat × Value)) (su : Nat) (post : List (Nat × Value)) (reads : List (List Nat)) (par : List Nat) (U : Value → World → Prop) (wr : World) (hm : P.follows .mixedOrders = true) (hn : ops.size = n) (hkn : k < n)
    (hu : pre.length = u) (hdk : pre.length + 1 + post.length = k) (hnd : ((pre ++ (su, undef) :: post).map (·.1)).Nodup) (hdN : ((pre ++ (su, undef) :: post).all fun q => decide (q.1 < l0.length)) = true)
    (havail : ((List.range k).all fun i => (reads.getD i []).all fun s => (List.range k).all fun j => (((pre ++ (su, undef) :: post).getD j (0, undef)).1 != s) || waitsFor ops i j) = true) (htopo : ((List.range n).all fun i => laterNone ops i) = true)
    (hrN : ((List.range k).all fun i => (reads.getD i []).all fun s => decide (s < l0.length)) = true)
    (hpar : ((List.range k).all fun j => decide (j < par.getD j 0) && (decide (par.getD j 0 ≤ k) && waitsFor ops (par.getD j 0) j)) = true) (htail : ((List.range n).all fun i => decide (i ≤ k) || waitsFor ops i (i - 1)) = true)
    (hU : ∀ x w w', U x w → w.grownBy w' none → U x w')
    (hstep : ∀ i, i < k → ∀ (x : Value) (a : Act) (w : World), Below wr.heap.size wr w → (su ∈ reads.getD i [] → U x w) → (∀ s ∈ reads.getD i [], a.eval (.tmp s) = lkp l0 (pre ++ (su, x) :: post) s) → ∀ (Q : Exit → Act → World → Prop) (K : Act → World → Prop), (i = u → ∀ x' w', w.grownBy w' none → U x' w' → K (a.put (some su) x') w') → (i ≠ u → ∀ w', w.grownBy w' none → K (a.put (some ((pre ++ (su, undef) :: post).getD i (0, undef)).1) ((pre ++ (su, undef) :: post).getD i (0, undef)).2) w') → wpOp P ops Q i K a w)
    (hlast : ∀ x w, Below wr.heap.size wr w → U x w → tailWp P ops Q (List.range' k (n - k)) { tmps := (setAll l0 (pre ++ (su, x) :: post)).toArray, defers := [] } w) :
    (Code.region id ops true).wp P Q { tmps := l0.toArray, defers := [] } wr := by
  subst hu
  have key : ∀ x : Value, (pre ++ (su, x) :: post).map (·.1) = (pre ++ (su, undef) :: post).map (·.1) := fun x => by simp
  have hlen : ∀ x : Value, (pre ++ (su, x) :: post).length = k := fun x => by simp; omega
  have hkey : ∀ (x : Value) (j : Nat), ((pre ++ (su, x) :: post).getD j (0, undef)).1 = ((pre ++ (su, undef) :: post).getD j (0, undef)).1 := fun x j => by
    have e : ∀ l : List (Nat × Value), (l.getD j (0, undef)).1 = (l.map (·.1)).getD j 0 := fun l => by
      simp only [List.getD, List.getElem?_map]
      cases l[j]? <;> rfl
    rw [e, e, key x]
  have hmid : ∀ x : Value, (pre ++ (su, x) :: post).getD pre.length (0, undef) = (su, x) := fun x => by simp [List.getD]
  have hoth : ∀ (x : Value) (j : Nat), j ≠ pre.length → (pre ++ (su, x) :: post).getD j (0, undef) = (pre ++ (su, undef) :: post).getD j (0, undef) := fun x j hj => by
    simp only [List.getD]
    rcases Nat.lt_or_ge j pre.length with h | h
    · rw [List.getElem?_append_left h, List.getElem?_append_left h]
    · rw [List.getElem?_append_right h, List.getElem?_append_right h]
      obtain ⟨m, hm'⟩ : ∃ m, j - pre.length = m + 1 := ⟨j - pre.length - 1, by omega⟩
      rw [hm', List.getElem?_cons_succ, List.getElem?_cons_succ]
  have hdN' : ∀ x : Value, ∀ q ∈ pre ++ (su, x) :: post, q.1 < l0.length := fun x q hq => by
    have h1 : q.1 ∈ (pre ++ (su, x) :: post).map (·.1) := List.mem_map_of_mem hq
    rw [key x] at h1
    obtain ⟨p, hp, e⟩ := List.mem_map.1 h1
    rw [← e]
    exact of_decide_eq_true (List.all_eq_true.1 hdN p hp)
  have hlt : ∀ (x : Value) (j : Nat), j < k → ((pre ++ (su, x) :: post).getD j (0, undef)).1 < l0.length := fun x j hj => by
    have e : (pre ++ (su, x) :: post).getD j (0, undef) = (pre ++ (su, x) :: post)[j]'(by rw [hlen]; exact hj) := getD_atQ _ _ (by rw [hlen]; exact hj)
    rw [e]
    exact hdN' x _ (List.getElem_mem _)
  have hnd' : ∀ x : Value, ((pre ++ (su, x) :: post).map (·.1)).Nodup := fun x => by rw [key x]; exact hnd
  have hP : ∀ j, j < k → j < par.getD j 0 ∧ par.getD j 0 ≤ k ∧ waitsFor ops (par.getD j 0) j = true := fun j hj => by
    have := List.all_eq_true.1 hpar j (List.mem_range.2 hj)
    rw [Bool.and_eq_true, Bool.and_eq_true, decide_eq_true_eq, decide_eq_true_eq] at this
    exact this
  have hT : ∀ i, i < n → k < i → waitsFor ops i (i - 1) = true := fun i hi hk => by
    have := List.all_eq_true.1 htail i (List.mem_range.2 hi)
    rw [Bool.or_eq_true, decide_eq_true_eq] at this
    rcases this with h | h
    · omega
    · exact h
  have hchain : ∀ (L : Nat → Bool), (∀ i j, L i = true → waitsFor ops i j = true → L j = true) → (∀ j, waitsFor ops k j = true → L j = true) → ∀ m j, j < k → k - j ≤ m → L j = true := by
    intro L hcl hk0 m
    induction m with
    | zero => intro j hj hm'; omega
    | succ m ih =>
      intro j hj hm'
      obtain ⟨p1, p2, p3⟩ := hP j hj
      by_cases hpk : par.getD j 0 = k
      · rw [hpk] at p3; exact hk0 j p3
      · exact hcl _ _ (ih _ (by omega) (by omega)) p3
  refine region_inv n (fun L a w => ((∀ j, k ≤ j → L j = false) ∧ (∀ i j, L i = true → waitsFor ops i j = true → L j = true) ∧ ∃ x, (L pre.length = true → U x w) ∧ a.tmps.size = l0.length ∧ a.defers = [] ∧ Below wr.heap.size wr w ∧ ∀ s, s < l0.length → (∀ i, i < k → ((pre ++ (su, undef) :: post).getD i (0, undef)).1 = s → L i = true) → a.eval (.tmp s) = lkp l0 (pre ++ (su, x) :: post) s) ∨ ∃ t, k ≤ t ∧ t ≤ n ∧ (∀ j, j < t → L j = true) ∧ (∀ j, t ≤ j → L j = false) ∧ tailWp P ops Q (List.range' t (n - t)) a w) _ wr hm hn htopo ?_ ?_ ?_
  · refine .inl ⟨fun _ _ => rfl, fun i j h => (by cases h), undef, fun h => (by cases h), by simp, rfl, (Below.refl _ wr).drew, fun s hs h => ?_⟩
    rw [lkp_none _ s (fun q hq e => ?_)]
    · simp [Act.eval, List.getD]
    · obtain ⟨i, hi, rfl⟩ := List.getElem_of_mem hq
      rw [hlen] at hi
      have := h i hi (by rw [← e, getD_atQ _ _ (by rw [hlen]; exact hi)])
      cases this
  · intro L a w i hI hi hLi hw
    rcases hI with ⟨hA1, hcl, x, hUx, hsz, hdf, hbel, hev⟩ | ⟨t, ht1, ht2, hB1, hB2, hB3⟩
    · rcases Nat.lt_or_ge i k with hik | hik
      · have hcl' : ∀ p j, (if p = i then true else L p) = true → waitsFor ops p j = true → (if j = i then true else L j) = true := fun p j hp hpj => by
          by_cases hji : j = i
          · rw [if_pos hji]
          · rw [if_neg hji]
            by_cases hpi : p = i
            · subst hpi; exact hw j hpj
            · rw [if_neg hpi] at hp; exact hcl p j hp hpj
        have hA1' : ∀ j, k ≤ j → (if j = i then true else L j) = false := fun j hj => by
          rw [if_neg (by omega)]; exact hA1 j hj
        refine hstep i hik x a w hbel (fun hs => hUx (hw _ ?_)) (fun s hs => hev s ?_ (fun j hj e => hw j ?_)) Q _ (fun hiu x' w' hg hu => .inl ⟨hA1', hcl', x', fun _ => hu, by simp [Act.put, hsz], hdf, hbel.grown hg hbel.size (fun g e => by cases e), fun s hs h => ?_⟩) (fun hiu w' hg => .inl ⟨hA1', hcl', x, fun hL => hU x w w' (hUx ?_) hg, by simp [Act.put, hsz], hdf, hbel.grown hg hbel.size (fun g e => by cases e), fun s hs h => ?_⟩)
        · have := List.all_eq_true.1 (List.all_eq_true.1 (List.all_eq_true.1 havail i (List.mem_range.2 hik)) su hs) pre.length (List.mem_range.2 (by omega))
          rw [hmid] at this
          simpa using this
        · exact of_decide_eq_true (List.all_eq_true.1 (List.all_eq_true.1 hrN i (List.mem_range.2 hik)) s hs)
        · have := List.all_eq_true.1 (List.all_eq_true.1 (List.all_eq_true.1 havail i (List.mem_range.2 hik)) s hs) j (List.mem_range.2 hj)
          rw [e] at this
          simpa using this
        · by_cases e : su = s
          · subst e
            rw [Act.eval_put_same a _ _ (by rw [hsz]; exact hs)]
            have := lkp_at l0 _ (hnd' x') pre.length (by rw [hlen]; omega)
            rw [hmid] at this
            exact this.symm
          · rw [Act.eval_put_ne a _ _ _ e, lkp_mid su post x' x pre s (fun h => e h.symm)]
            refine hev s hs (fun j hj ej => ?_)
            have h3 : (if j = i then true else L j) = true := h j hj ej
            by_cases hji : j = i
            · subst hji; subst hiu
              rw [hmid] at ej
              exact absurd ej e
            · rw [if_neg hji] at h3; exact h3
        · have h3 : (if pre.length = i then true else L pre.length) = true := hL
          rw [if_neg (fun h => hiu h.symm)] at h3
          exact h3
        · by_cases e : ((pre ++ (su, undef) :: post).getD i (0, undef)).1 = s
          · subst e
            rw [Act.eval_put_same a _ _ (by rw [hsz]; exact hs), ← hoth x i hiu]
            exact (lkp_at l0 _ (hnd' x) i (by rw [hlen]; exact hik)).symm
          · rw [Act.eval_put_ne a _ _ _ e]
            refine hev s hs (fun j hj ej => ?_)
            have h3 : (if j = i then true else L j) = true := h j hj ej
            by_cases hji : j = i
            · subst hji; exact absurd ej e
            · rw [if_neg hji] at h3; exact h3
      · have hik' : i = k := by
          apply Nat.le_antisymm _ hik
          apply Nat.le_of_not_lt
          intro hc
          have h1 := hw _ (hT i hi hc)
          rw [hA1 (i - 1) (by omega)] at h1
          cases h1
        subst hik'
        have hall : ∀ j, j < i → L j = true := fun j hj => hchain L hcl hw _ j hj (Nat.le_refl _)
        have ha : a = { tmps := (setAll l0 (pre ++ (su, x) :: post)).toArray, defers := [] } := act_known a _ (by rw [setAll_length]; exact hsz) hdf (fun s hs => by
          rw [setAll_length] at hs
          rw [setAll_lkp _ l0 s (hnd' x) (hdN' x)]
          exact hev s hs (fun j hj _ => hall j hj))
        have h1 := hlast x w hbel (hUx (hall _ (by omega)))
        obtain ⟨m, hm'⟩ : ∃ m, n - i = m + 1 := ⟨n - i - 1, by omega⟩
        rw [hm', List.range'_succ, tailWp, ← ha] at h1
        refine wpOp_mono (fun a' w' h => .inr ⟨i + 1, by omega, by omega, fun j hj => ?_, fun j hj => ?_, ?_⟩) h1
        · show (if j = i then true else L j) = true
          by_cases hji : j = i
          · rw [if_pos hji]
          · rw [if_neg hji]; exact hall j (by omega)
        · show (if j = i then true else L j) = false
          rw [if_neg (by omega)]; exact hA1 j (by omega)
        · rw [show n - (i + 1) = m by omega]; exact h
    · have hti : t ≤ i := by
        apply Nat.le_of_not_lt
        intro hc
        rw [hB1 i hc] at hLi
        cases hLi
      have hti' : i = t := by
        apply Nat.le_antisymm _ hti
        apply Nat.le_of_not_lt
        intro hc
        have h1 := hw _ (hT i hi (by omega))
        rw [hB2 (i - 1) (by omega)] at h1
        cases h1
      subst hti'
      obtain ⟨m, hm'⟩ : ∃ m, n - i = m + 1 := ⟨n - i - 1, by omega⟩
      rw [hm', List.range'_succ, tailWp] at hB3
      refine wpOp_mono (fun a' w' h => .inr ⟨i + 1, by omega, by omega, fun j hj => ?_, fun j hj => ?_, ?_⟩) hB3
      · show (if j = i then true else L j) = true
        by_cases hji : j = i
        · rw [if_pos hji]
        · rw [if_neg hji]; exact hB1 j (by omega)
      · show (if j = i then true else L j) = false
        rw [if_neg (by omega)]; exact hB2 j (by omega)
      · rw [show n - (i + 1) = m by omega]; exact h
  · rintro L a w hL (⟨hA1, _⟩ | ⟨t, ht1, ht2, hB1, hB2, hB3⟩)
    · have := hL k hkn
      rw [hA1 k (Nat.le_refl _)] at this
      cases this
    · have htn : t = n := by
        apply Nat.le_antisymm ht2
        apply Nat.le_of_not_lt
        intro hc
        have := hL t hc
        rw [hB2 t (Nat.le_refl _)] at this
        cases this
      subst htn
      rw [Nat.sub_self] at hB3
      exact hB3
end Go.Proofs.YtplkmkbambbemadGreatDoor
namespace Go.Proofs.YtplkmkbambbemadGreatDoor
open Go.ChangeShapes Go.WideShapes Go.ChangeAt Go.RowKit
theorem wanted_of {ops : Array Oper} {o oj : Oper} {a : Act} {j s : Nat} {want : Bool} (hg : o.guard = some (j, want)) (hj : ops[j]? = some oj) (hd : oj.dst = some s) (hs : a.eval (.tmp s) = .bool want) : Region.wanted o (yielded ops a.tmps) = true := by
  have h2 : a.tmps.getD s undef = .bool want := hs
  have h3 : a.tmps[s]? = some (.bool want) := by
    by_cases h : s < a.tmps.size
    · simp [Array.getD, h] at h2
      simp [h, h2]
    · simp [Array.getD, h] at h2
      cases h2
  unfold Region.wanted yielded
  simp [hg, hj, hd, h3]
theorem op_valueG {P : Program} {ops : Array Oper} {Q : Exit → Act → World → Prop} {i : Nat} {o oj : Oper} {a : Act} {w w' : World} {v : Value} {K : Act → World → Prop} {j s : Nat} {want : Bool} (hi : ops[i]? = some o) (hg : o.guard = some (j, want)) (hj : ops[j]? = some oj) (hd : oj.dst = some s) (hs : a.eval (.tmp s) = .bool want)
    (hrun : (execOp a.eval o).run P w = .ok (.value v) w') (hK : K (a.put o.dst v) w') : wpOp P ops Q i K a w := by
  unfold wpOp
  rw [hi]
  have hw := wanted_of hg hj hd hs
  simp only [hw, if_true, Oper.wp]
  left
  rw [hrun]
  exact hK
theorem op_skipG {P : Program} {ops : Array Oper} {Q : Exit → Act → World → Prop} {i : Nat} {o oj : Oper} {a : Act} {w : World} {K : Act → World → Prop} {j s : Nat} {want : Bool} (hi : ops[i]? = some o) (hg : o.guard = some (j, want)) (hj : ops[j]? = some oj) (hd : oj.dst = some s) (hs : a.eval (.tmp s) = .bool (!want))
    (hK : K (a.put o.dst undef) w) : wpOp P ops Q i K a w := by
  have h2 : a.tmps.getD s undef = .bool (!want) := hs
  have h3 : a.tmps[s]? = some (.bool (!want)) := by
    by_cases h : s < a.tmps.size
    · simp [Array.getD, h] at h2
      simp [h, h2]
    · simp [Array.getD, h] at h2
      cases h2
  unfold wpOp
  rw [hi]
  have hw : Region.wanted o (yielded ops a.tmps) = false := by
    unfold Region.wanted yielded
    simp [hg, hj, hd, h3]
  simp only [hw]
  exact hK
theorem run_eqlI {ρ : Operand → Value} (w : World) {o : Oper} {x y : Operand} {p q : Int} (ho : o.op = .binOp .eql 3 x y 3) (h : ρ x = .int .i64 p) (h' : ρ y = .int .i64 q) : (execOp ρ o).run Tryz.prog w = .ok (.value (.bool (p == q))) w := by
  unfold execOp
  simp only [ho, h, h']
  simp [go_sem]
theorem run_gtrI {ρ : Operand → Value} (w : World) {o : Oper} {x y : Operand} {p q : Int} (ho : o.op = .binOp .gtr 3 x y 3) (h : ρ x = .int .i64 p) (h' : ρ y = .int .i64 q) : (execOp ρ o).run Tryz.prog w = .ok (.value (.bool (decide (q < p)))) w := by
  unfold execOp
  simp only [ho, h, h']
  simp [go_sem]
theorem run_pickQ {ρ : Operand → Value} {P : Program} (w : World) {o : Oper} {x y z : Operand} {g : Bool} {v : Value} (ho : o.op = .pick x y z) (h : ρ x = .bool g) (h' : (if g then ρ y else ρ z) = v) : (execOp ρ o).run P w = .ok (.value v) w := by
  unfold execOp
  subst h'
  cases g
  · simp only [ho, h]
    simp [go_sem]
  · simp only [ho, h]
    simp [go_sem]
end Go.Proofs.YtplkmkbambbemadGreatDoor
namespace Go.Proofs.YtplkmkbambbemadGreatDoor
open Go.ChangeShapes Go.WideShapes Go.ChangeAt Go.RowKit
set_option maxHeartbeats 1000000 in
theorem region_lastL {P : Program} {ops : Array Oper} {id : Nat} {l0 : List Value} {Q : Exit → Act → World → Prop} (k : Nat) (s0 : Nat) (v0 : Value) (post : List (Nat × Value)) (reads : List (List Nat)) (par : List Nat) (wr : World) (hm : P.follows .mixedOrders = true) (hn : ops.size = k + 1)
    (hdk : 0 + 1 + post.length = k) (hnd : (((s0, v0) :: post).map (·.1)).Nodup) (hdN : (((s0, v0) :: post).all fun q => decide (q.1 < l0.length)) = true)
    (havail : ((List.range k).all fun i => (reads.getD i []).all fun s => (List.range k).all fun j => ((((s0, undef) :: post).getD j (0, undef)).1 != s) || waitsFor ops i j) = true) (htopo : ((List.range (k + 1)).all fun i => laterNone ops i) = true)
    (hrN : ((List.range k).all fun i => (reads.getD i []).all fun s => decide (s < l0.length)) = true)
    (hpar : ((List.range k).all fun j => decide (j < par.getD j 0) && (decide (par.getD j 0 ≤ k) && waitsFor ops (par.getD j 0) j)) = true)
    (hstep : ∀ i, i < k → ∀ (a : Act) (w : World), Below wr.heap.size wr w → (∀ s ∈ reads.getD i [], a.eval (.tmp s) = lkp l0 ((s0, v0) :: post) s) → ∀ (Q : Exit → Act → World → Prop) (K : Act → World → Prop), (∀ w', w.grownBy w' none → K (a.put (some (((s0, v0) :: post).getD i (0, undef)).1) (((s0, v0) :: post).getD i (0, undef)).2) w') → wpOp P ops Q i K a w)
    (hlast : ∀ w, Below wr.heap.size wr w → tailWp P ops Q [k] { tmps := (setAll l0 ((s0, v0) :: post)).toArray, defers := [] } w) :
    (Code.region id ops true).wp P Q { tmps := l0.toArray, defers := [] } wr := by
  refine region_growU (k + 1) k 0 [] s0 post reads par (fun x _ => x = v0) wr hm hn (by omega) rfl hdk hnd hdN havail htopo hrN hpar ?_ (fun _ _ _ h _ => h) ?_ ?_
  · refine List.all_eq_true.2 fun i hi => ?_
    have := List.mem_range.1 hi
    rw [decide_eq_true (show i ≤ k by omega)]
    rfl
  · intro i hi x a w hb hx hr Q K hK1 hK
    refine hstep i hi a w hb (fun s hs => ?_) Q K (fun w' hg => ?_)
    · rw [hr s hs]
      by_cases e : s = s0
      · subst e
        rw [hx hs]
        rfl
      · exact lkp_mid s0 post x v0 [] s e
    · by_cases e : i = 0
      · subst e
        exact hK1 rfl v0 w' hg rfl
      · have := hK e w' hg
        obtain ⟨j, rfl⟩ : ∃ j, i = j + 1 := ⟨i - 1, by omega⟩
        exact this
  · intro x w hb hx
    subst hx
    rw [show k + 1 - k = 1 by omega]
    exact hlast w hb
set_option maxHeartbeats 1000000 in
theorem region_knownL {P : Program} {ops : Array Oper} {id : Nat} {l0 : List Value} {Q : Exit → Act → World → Prop} (n k : Nat) (s0 : Nat) (v0 : Value) (post : List (Nat × Value)) (reads : List (List Nat)) (par : List Nat) (wr : World) (hm : P.follows .mixedOrders = true) (hn : ops.size = n) (hkn : k < n)
    (hdk : 0 + 1 + post.length = k) (hnd : (((s0, v0) :: post).map (·.1)).Nodup) (hdN : (((s0, v0) :: post).all fun q => decide (q.1 < l0.length)) = true)
    (havail : ((List.range k).all fun i => (reads.getD i []).all fun s => (List.range k).all fun j => ((((s0, undef) :: post).getD j (0, undef)).1 != s) || waitsFor ops i j) = true) (htopo : ((List.range n).all fun i => laterNone ops i) = true)
    (hrN : ((List.range k).all fun i => (reads.getD i []).all fun s => decide (s < l0.length)) = true)
    (hpar : ((List.range k).all fun j => decide (j < par.getD j 0) && (decide (par.getD j 0 ≤ k) && waitsFor ops (par.getD j 0) j)) = true)
    (htail : ((List.range n).all fun i => decide (i ≤ k) || waitsFor ops i (i - 1)) = true)
    (hstep : ∀ i, i < k → ∀ (a : Act) (w : World), Below wr.heap.size wr w → (∀ s ∈ reads.getD i [], a.eval (.tmp s) = lkp l0 ((s0, v0) :: post) s) → ∀ (Q : Exit → Act → World → Prop) (K : Act → World → Prop), (∀ w', w.grownBy w' none → K (a.put (some (((s0, v0) :: post).getD i (0, undef)).1) (((s0, v0) :: post).getD i (0, undef)).2) w') → wpOp P ops Q i K a w)
    (hlast : ∀ w, Below wr.heap.size wr w → tailWp P ops Q (List.range' k (n - k)) { tmps := (setAll l0 ((s0, v0) :: post)).toArray, defers := [] } w) :
    (Code.region id ops true).wp P Q { tmps := l0.toArray, defers := [] } wr := by
  refine region_growU n k 0 [] s0 post reads par (fun x _ => x = v0) wr hm hn hkn rfl hdk hnd hdN havail htopo hrN hpar htail (fun _ _ _ h _ => h) ?_ ?_
  · intro i hi x a w hb hx hr Q K hK1 hK
    refine hstep i hi a w hb (fun s hs => ?_) Q K (fun w' hg => ?_)
    · rw [hr s hs]
      by_cases e : s = s0
      · subst e
        rw [hx hs]
        rfl
      · exact lkp_mid s0 post x v0 [] s e
    · by_cases e : i = 0
      · subst e
        exact hK1 rfl v0 w' hg rfl
      · have := hK e w' hg
        obtain ⟨j, rfl⟩ : ∃ j, i = j + 1 := ⟨i - 1, by omega⟩
        exact this
  · intro x w hb hx
    subst hx
    exact hlast w hb
theorem grownL (w : World) : w.grownBy w none := ⟨rfl, rfl, rfl, Nat.le_refl _, fun _ _ _ => rfl⟩
theorem op_callL {ops : Array Oper} {Q : Exit → Act → World → Prop} {i f : Nat} {o : Oper} {a : Act} {w : World} {xs : Array Operand} {us : Array Value} {ts : Array TypeId} {K : Act → World → Prop} {R : Ending → World → Prop} (hi : ops[i]? = some o) {oj : Oper} {j s : Nat} {want : Bool} (hg : o.guard = some (j, want)) (hj : ops[j]? = some oj) (hd : oj.dst = some s) (hs : a.eval (.tmp s) = .bool want) (hop : o.op = .call { callee := .value (.func f), args := xs, argTypes := ts })
    (he : Enters Tryz.prog f) (hx : xs.map a.eval = us) (hc : Calls Tryz.prog f us w R) (hR : ∀ e w', R e w' → ∃ r, e = .returned r ∧ K (a.put o.dst r) w') : wpOp Tryz.prog ops Q i K a w := by
  unfold wpOp
  rw [hi]
  have hw := wanted_of hg hj hd hs
  simp only [hw, if_true, Oper.wp]
  left
  have hrun : (execOp a.eval o).run Tryz.prog w = .ok (.enter f us) w := by
    unfold execOp
    simp only [hop]
    have := he us w
    have hfn : a.eval (.func f) = .func (.func f) #[] #[] := rfl
    simp [resolve, invoke, hx, hfn, Deferred.ofValue, this]
  rw [hrun, Oper.upon_enter]
  refine hc.mono fun e w' h => ?_
  obtain ⟨r, rfl, hK⟩ := hR e w' h
  exact hK
theorem run_fldSet {ρ : Operand → Value} (w : World) {o : Oper} {x : Operand} {g s : Nat} (ho : o.op = .fieldAddr 55 x 0) (h : ρ x = .pointer (some ⟨g, s, none⟩)) : (execOp ρ o).run Tryz.prog w = .ok (.value (.pointer (some ⟨g, s, none⟩))) w := by
  unfold execOp
  simp only [ho, h]
  simp [go_sem]
theorem run_fldSet1 {ρ : Operand → Value} (w : World) {o : Oper} {x : Operand} {g s : Nat} (ho : o.op = .fieldAddr 55 x 1) (h : ρ x = .pointer (some ⟨g, s, none⟩)) : (execOp ρ o).run Tryz.prog w = .ok (.value (.pointer (some ⟨g, s + 1, none⟩))) w := by
  unfold execOp
  simp only [ho, h]
  simp [go_sem]
theorem op_callNL {ops : Array Oper} {Q : Exit → Act → World → Prop} {i f : Nat} {o : Oper} {a : Act} {w : World} {xs : Array Operand} {us : Array Value} {ts : Array TypeId} {K : Act → World → Prop} {R : Ending → World → Prop} (hi : ops[i]? = some o) (hg : o.guard = none) (hop : o.op = .call { callee := .value (.func f), args := xs, argTypes := ts })
    (he : Enters Tryz.prog f) (hx : xs.map a.eval = us) (hc : Calls Tryz.prog f us w R) (hR : ∀ e w', R e w' → ∃ r, e = .returned r ∧ K (a.put o.dst r) w') : wpOp Tryz.prog ops Q i K a w := by
  unfold wpOp
  rw [hi]
  have hw : Region.wanted o (yielded ops a.tmps) = true := by simp [Region.wanted, hg]
  simp only [hw, if_true, Oper.wp]
  left
  have hrun : (execOp a.eval o).run Tryz.prog w = .ok (.enter f us) w := by
    unfold execOp
    simp only [hop]
    have := he us w
    have hfn : a.eval (.func f) = .func (.func f) #[] #[] := rfl
    simp [resolve, invoke, hx, hfn, Deferred.ofValue, this]
  rw [hrun, Oper.upon_enter]
  refine hc.mono fun e w' h => ?_
  obtain ⟨r, rfl, hK⟩ := hR e w' h
  exact hK
theorem run_fldSet2 {ρ : Operand → Value} (w : World) {o : Oper} {x : Operand} {g s : Nat} (ho : o.op = .fieldAddr 55 x 2) (h : ρ x = .pointer (some ⟨g, s, none⟩)) : (execOp ρ o).run Tryz.prog w = .ok (.value (.pointer (some ⟨g, s + 2, none⟩))) w := by
  unfold execOp
  simp only [ho, h]
  simp [go_sem]
theorem run_fldSet3 {ρ : Operand → Value} (w : World) {o : Oper} {x : Operand} {g s : Nat} (ho : o.op = .fieldAddr 55 x 3) (h : ρ x = .pointer (some ⟨g, s, none⟩)) : (execOp ρ o).run Tryz.prog w = .ok (.value (.pointer (some ⟨g, s + 3, none⟩))) w := by
  unfold execOp
  simp only [ho, h]
  simp [go_sem]
theorem run_fldSet4 {ρ : Operand → Value} (w : World) {o : Oper} {x : Operand} {g s : Nat} (ho : o.op = .fieldAddr 55 x 4) (h : ρ x = .pointer (some ⟨g, s, none⟩)) : (execOp ρ o).run Tryz.prog w = .ok (.value (.pointer (some ⟨g, s + 4, none⟩))) w := by
  unfold execOp
  simp only [ho, h]
  simp [go_sem]
theorem run_assignL {ρ : Operand → Value} {P : Program} (w : World) {o : Oper} {x : Operand} {v : Value} (ho : o.op = .assign x) (h : ρ x = v) : (execOp ρ o).run P w = .ok (.value v) w := by
  unfold execOp
  simp only [ho, h]
  simp [go_sem]
theorem sealed_eq (bytes : Int) (w : World) (h : 0 ≤ bytes ∧ bytes ≤ 40) : Calls Tryz.prog 66 #[.int .i64 bytes] w fun e w' => e = .returned (.int .i64 (8 * bytes + 24)) ∧ w' = w := by
  go_enter Tryz.func66, Tryz.ntmps66
  go_wp2
  go_ret
  exact ⟨ret_intL (by go_num), rfl⟩
end Go.Proofs.YtplkmkbambbemadGreatDoor
namespace Go.Proofs.YtplkmkbambbemadGreatDoor
open Go.ChangeShapes Go.WideShapes Go.ChangeAt Go.RowKit
def tbS (dst : List Nat) (k : Nat) (σ : Nat → Value) : List (Nat × Value) := (List.range k).map fun i => (dst.getD i 0, σ i)
theorem tbS_length (dst : List Nat) (k : Nat) (σ : Nat → Value) : (tbS dst k σ).length = k := by simp [tbS]
theorem tbS_at (dst : List Nat) (k : Nat) (σ : Nat → Value) {i : Nat} (hi : i < k) : (tbS dst k σ).getD i (0, undef) = (dst.getD i 0, σ i) := by simp [tbS, List.getD, hi]
theorem tbS_keys (dst : List Nat) (k : Nat) (σ : Nat → Value) (hk : dst.length = k) : (tbS dst k σ).map (·.1) = dst := by
  refine List.ext_getElem (by simp [tbS, hk]) fun i h1 h2 => ?_
  simp [tbS, List.getD, h2]
theorem lkp_tbS {l0 : List Value} {dst : List Nat} {k : Nat} (σ : Nat → Value) (hk : dst.length = k) (hnd : dst.Nodup) {i : Nat} (hi : i < k) : lkp l0 (tbS dst k σ) (dst.getD i 0) = σ i := by
  have := lkp_at l0 (tbS dst k σ) (by rw [tbS_keys _ _ _ hk]; exact hnd) i (by rw [tbS_length]; exact hi)
  rwa [tbS_at _ _ _ hi] at this
theorem lkp_tbS_none {l0 : List Value} {dst : List Nat} {k : Nat} (σ : Nat → Value) {s : Nat} (h : ∀ i, i < k → dst.getD i 0 ≠ s) : lkp l0 (tbS dst k σ) s = l0.getD s undef :=
  lkp_none _ s fun q hq => by
    unfold tbS at hq
    obtain ⟨i, hi, rfl⟩ := List.mem_map.1 hq
    exact h i (List.mem_range.1 hi)
set_option maxHeartbeats 1000000 in
theorem region_sig {P : Program} {ops : Array Oper} {id : Nat} {l0 : List Value} {Q : Exit → Act → World → Prop} (n k : Nat) (dst : List Nat) (reads : List (List Nat)) (par : List Nat) (Pr : Nat → (Nat → Value) → World → Prop) (wr : World) (hm : P.follows .mixedOrders = true) (hn : ops.size = n) (hkn : k < n)
    (hdk : dst.length = k) (hnd : dst.Nodup) (hdN : (dst.all fun s => decide (s < l0.length)) = true)
    (havail : ((List.range k).all fun i => (reads.getD i []).all fun s => (List.range k).all fun j => (dst.getD j 0 != s) || waitsFor ops i j) = true) (htopo : ((List.range n).all fun i => laterNone ops i) = true)
    (hrN : ((List.range k).all fun i => (reads.getD i []).all fun s => decide (s < l0.length)) = true)
    (hpar : ((List.range k).all fun j => decide (j < par.getD j 0) && (decide (par.getD j 0 ≤ k) && waitsFor ops (par.getD j 0) j)) = true) (htail : ((List.range n).all fun i => decide (i ≤ k) || waitsFor ops i (i - 1)) = true)
    (hcong : ∀ j, j < k → ∀ σ σ' w, (∀ j', j' = j ∨ waitsFor ops j j' = true → σ j' = σ' j') → Pr j σ w → Pr j σ' w)
    (hmono : ∀ j σ w w', Pr j σ w → w.grownBy w' none → Pr j σ w')
    (hstep : ∀ i, i < k → ∀ (σ : Nat → Value) (a : Act) (w : World), Below wr.heap.size wr w → (∀ j, j < k → waitsFor ops i j = true → Pr j σ w) → (∀ s ∈ reads.getD i [], a.eval (.tmp s) = lkp l0 (tbS dst k σ) s) → ∀ (Q : Exit → Act → World → Prop) (K : Act → World → Prop), (∀ x w', w.grownBy w' none → (∀ σ' : Nat → Value, (∀ j, j ≠ i → σ' j = σ j) → σ' i = x → Pr i σ' w') → K (a.put (some (dst.getD i 0)) x) w') → wpOp P ops Q i K a w)
    (hlast : ∀ (σ : Nat → Value) w, Below wr.heap.size wr w → (∀ j, j < k → Pr j σ w) → tailWp P ops Q (List.range' k (n - k)) { tmps := (setAll l0 (tbS dst k σ)).toArray, defers := [] } w) :
    (Code.region id ops true).wp P Q { tmps := l0.toArray, defers := [] } wr := by
  have hlt : ∀ j, j < k → dst.getD j 0 < l0.length := fun j hj => by
    have hj' : j < dst.length := by omega
    have e : dst.getD j 0 = dst[j] := by simp [List.getD, hj']
    rw [e]
    exact of_decide_eq_true (List.all_eq_true.1 hdN _ (List.getElem_mem hj'))
  have hP : ∀ j, j < k → j < par.getD j 0 ∧ par.getD j 0 ≤ k ∧ waitsFor ops (par.getD j 0) j = true := fun j hj => by
    have := List.all_eq_true.1 hpar j (List.mem_range.2 hj)
    rw [Bool.and_eq_true, Bool.and_eq_true, decide_eq_true_eq, decide_eq_true_eq] at this
    exact this
  have hT : ∀ i, i < n → k < i → waitsFor ops i (i - 1) = true := fun i hi hk => by
    have := List.all_eq_true.1 htail i (List.mem_range.2 hi)
    rw [Bool.or_eq_true, decide_eq_true_eq] at this
    rcases this with h | h
    · omega
    · exact h
  have hchain : ∀ (L : Nat → Bool), (∀ i j, L i = true → waitsFor ops i j = true → L j = true) → (∀ j, waitsFor ops k j = true → L j = true) → ∀ m j, j < k → k - j ≤ m → L j = true := by
    intro L hcl hk0 m
    induction m with
    | zero => intro j hj hm'; omega
    | succ m ih =>
      intro j hj hm'
      obtain ⟨p1, p2, p3⟩ := hP j hj
      by_cases hpk : par.getD j 0 = k
      · rw [hpk] at p3; exact hk0 j p3
      · exact hcl _ _ (ih _ (by omega) (by omega)) p3
  refine region_inv n (fun L a w => ((∀ j, k ≤ j → L j = false) ∧ (∀ i j, L i = true → waitsFor ops i j = true → L j = true) ∧ ∃ σ : Nat → Value, (∀ j, j < k → L j = true → Pr j σ w) ∧ a.tmps.size = l0.length ∧ a.defers = [] ∧ Below wr.heap.size wr w ∧ ∀ s, s < l0.length → (∀ i, i < k → dst.getD i 0 = s → L i = true) → a.eval (.tmp s) = lkp l0 (tbS dst k σ) s) ∨ ∃ t, k ≤ t ∧ t ≤ n ∧ (∀ j, j < t → L j = true) ∧ (∀ j, t ≤ j → L j = false) ∧ tailWp P ops Q (List.range' t (n - t)) a w) _ wr hm hn htopo ?_ ?_ ?_
  · refine .inl ⟨fun _ _ => rfl, fun i j h => (by cases h), fun _ => undef, fun j _ h => (by cases h), by simp, rfl, (Below.refl _ wr).drew, fun s hs h => ?_⟩
    rw [lkp_tbS_none _ (fun i hi e => by have := h i hi e; cases this)]
    simp [Act.eval, List.getD]
  · intro L a w i hI hi hLi hw
    rcases hI with ⟨hA1, hcl, σ, hPr, hsz, hdf, hbel, hev⟩ | ⟨t, ht1, ht2, hB1, hB2, hB3⟩
    · rcases Nat.lt_or_ge i k with hik | hik
      · refine hstep i hik σ a w hbel (fun j hj hwj => hPr j hj (hw j hwj)) (fun s hs => hev s ?_ (fun j hj e => hw j ?_)) Q _ (fun x w' hg hx => .inl ⟨fun j hj => ?_, fun p j hp hpj => ?_, fun j => if j = i then x else σ j, fun j hj hLj => ?_, by simp [Act.put, hsz], hdf, hbel.grown hg hbel.size (fun g e => by cases e), fun s hs h => ?_⟩)
        · exact of_decide_eq_true (List.all_eq_true.1 (List.all_eq_true.1 hrN i (List.mem_range.2 hik)) s hs)
        · have := List.all_eq_true.1 (List.all_eq_true.1 (List.all_eq_true.1 havail i (List.mem_range.2 hik)) s hs) j (List.mem_range.2 hj)
          rw [e] at this
          simpa using this
        · show (if j = i then true else L j) = false
          rw [if_neg (by omega)]; exact hA1 j hj
        · show (if j = i then true else L j) = true
          have hp' : (if p = i then true else L p) = true := hp
          by_cases hji : j = i
          · rw [if_pos hji]
          · rw [if_neg hji]
            by_cases hpi : p = i
            · subst hpi; exact hw j hpj
            · rw [if_neg hpi] at hp'; exact hcl p j hp' hpj
        · have hLj' : (if j = i then true else L j) = true := hLj
          by_cases hji : j = i
          · subst hji
            exact hx _ (fun j' hj' => by simp [hj']) (by simp)
          · rw [if_neg hji] at hLj'
            refine hmono j _ w w' (hcong j hj σ _ w (fun j' hj' => ?_) (hPr j hj hLj')) hg
            have hne : j' ≠ i := by
              rintro rfl
              rcases hj' with rfl | hw'
              · exact hji rfl
              · rw [hcl j _ hLj' hw'] at hLi; cases hLi
            simp [hne]
        · by_cases e : dst.getD i 0 = s
          · subst e
            rw [Act.eval_put_same a _ _ (by rw [hsz]; exact hs), lkp_tbS _ hdk hnd hik]
            simp
          · rw [Act.eval_put_ne a _ _ _ e]
            have h3 := hev s hs (fun j hj ej => by
              have h3 : (if j = i then true else L j) = true := h j hj ej
              by_cases hji : j = i
              · subst hji; exact absurd ej e
              · rw [if_neg hji] at h3; exact h3)
            rw [h3]
            by_cases hex : ∃ j, j < k ∧ dst.getD j 0 = s
            · obtain ⟨j, hj, rfl⟩ := hex
              rw [lkp_tbS _ hdk hnd hj, lkp_tbS _ hdk hnd hj]
              have hne : j ≠ i := fun h => e (by rw [h])
              simp [hne]
            · rw [lkp_tbS_none _ (fun j hj ej => hex ⟨j, hj, ej⟩), lkp_tbS_none _ (fun j hj ej => hex ⟨j, hj, ej⟩)]
      · have hik' : i = k := by
          apply Nat.le_antisymm _ hik
          apply Nat.le_of_not_lt
          intro hc
          have h1 := hw _ (hT i hi hc)
          rw [hA1 (i - 1) (by omega)] at h1
          cases h1
        subst hik'
        have hall : ∀ j, j < i → L j = true := fun j hj => hchain L hcl hw _ j hj (Nat.le_refl _)
        have ha : a = { tmps := (setAll l0 (tbS dst i σ)).toArray, defers := [] } := act_known a _ (by rw [setAll_length]; exact hsz) hdf (fun s hs => by
          rw [setAll_length] at hs
          rw [setAll_lkp _ l0 s (by rw [tbS_keys _ _ _ hdk]; exact hnd) (fun q hq => by
            unfold tbS at hq
            obtain ⟨j, hj, rfl⟩ := List.mem_map.1 hq
            exact hlt j (List.mem_range.1 hj))]
          exact hev s hs (fun j hj _ => hall j hj))
        have h1 := hlast σ w hbel (fun j hj => hPr j hj (hall j hj))
        obtain ⟨m, hm'⟩ : ∃ m, n - i = m + 1 := ⟨n - i - 1, by omega⟩
        rw [hm', List.range'_succ, tailWp, ← ha] at h1
        refine wpOp_mono (fun a' w' h => .inr ⟨i + 1, by omega, by omega, fun j hj => ?_, fun j hj => ?_, ?_⟩) h1
        · show (if j = i then true else L j) = true
          by_cases hji : j = i
          · rw [if_pos hji]
          · rw [if_neg hji]; exact hall j (by omega)
        · show (if j = i then true else L j) = false
          rw [if_neg (by omega)]; exact hA1 j (by omega)
        · rw [show n - (i + 1) = m by omega]; exact h
    · have hti : t ≤ i := by
        apply Nat.le_of_not_lt
        intro hc
        rw [hB1 i hc] at hLi
        cases hLi
      have hti' : i = t := by
        apply Nat.le_antisymm _ hti
        apply Nat.le_of_not_lt
        intro hc
        have h1 := hw _ (hT i hi (by omega))
        rw [hB2 (i - 1) (by omega)] at h1
        cases h1
      subst hti'
      obtain ⟨m, hm'⟩ : ∃ m, n - i = m + 1 := ⟨n - i - 1, by omega⟩
      rw [hm', List.range'_succ, tailWp] at hB3
      refine wpOp_mono (fun a' w' h => .inr ⟨i + 1, by omega, by omega, fun j hj => ?_, fun j hj => ?_, ?_⟩) hB3
      · show (if j = i then true else L j) = true
        by_cases hji : j = i
        · rw [if_pos hji]
        · rw [if_neg hji]; exact hB1 j (by omega)
      · show (if j = i then true else L j) = false
        rw [if_neg (by omega)]; exact hB2 j (by omega)
      · rw [show n - (i + 1) = m by omega]; exact h
  · rintro L a w hL (⟨hA1, _⟩ | ⟨t, ht1, ht2, hB1, hB2, hB3⟩)
    · have := hL k hkn
      rw [hA1 k (Nat.le_refl _)] at this
      cases this
    · have htn : t = n := by
        apply Nat.le_antisymm ht2
        apply Nat.le_of_not_lt
        intro hc
        have := hL t hc
        rw [hB2 t (Nat.le_refl _)] at this
        cases this
      subst htn
      rw [Nat.sub_self] at hB3
      exact hB3
end Go.Proofs.YtplkmkbambbemadGreatDoor
