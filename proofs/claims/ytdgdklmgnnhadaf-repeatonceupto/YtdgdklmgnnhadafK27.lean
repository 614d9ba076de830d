import Derived.Test.YtdgdklmgnnhadafK11
namespace Go.Proofs.Ytdgdklmgnnhadaf
open Go.ChangeShapes Go.WideShapes Go.ChangeAt Go.RowKit
theorem any_inv {P : Program} {ops : Array Oper} {Q : Exit → Act → World → Prop} (k : Nat) (Inv : (Nat → Bool) → Act → World → Prop) (hk : ops.size = k) (htopo : ∀ i, i < k → laterNone ops i = true)
    (hstep : ∀ (L : Nat → Bool) (a : Act) (w : World) (i : Nat), Inv L a w → i < k → L i = false → (∀ j, waitsFor ops i j = true → L j = true) → wpOp P ops Q i (fun a' w' => Inv (fun j => if j = i then true else L j) a' w') a w)
    (hdone : ∀ (L : Nat → Bool) (a : Act) (w : World), (∀ j, j < k → L j = true) → Inv L a w → Q .normal a w) :
    ∀ (fuel : Nat) (listed : Array Bool) (a : Act) (w : World), listed.size = k → listed.toList.count false ≤ fuel → Inv (fun j => listed.getD j false) a w → wpAny P .any ops Q fuel listed a w := by
  have hdn : ∀ (listed : Array Bool) (a : Act) (w : World), listed.size = k → Region.ready .any ops listed = [] → Inv (fun j => listed.getD j false) a w → Q .normal a w := by
    intro listed a w hls hr hi
    refine hdone _ a w (fun j hj => ?_) hi
    show listed.getD j false = true
    by_cases hex : ∃ i, i < k ∧ listed.getD i true = false
    · obtain ⟨i0, hi0⟩ := hex
      obtain ⟨i, ⟨hi1, hf⟩, hmin⟩ := least (p := fun i => i < k ∧ listed.getD i true = false) i0 hi0
      have : i ∈ Region.ready .any ops listed := ready_first (by omega) hf (fun j hj => by
        have hjs : j < listed.size := by omega
        cases hb : listed.getD j false with
        | true => rfl
        | false =>
          have h2 : listed.getD j true = false := by
            rw [Array.getD_eq_getD_getElem?, Array.getElem?_eq_getElem hjs] at hb ⊢
            simpa using hb
          exact absurd (show j < k ∧ listed.getD j true = false from ⟨by omega, h2⟩) (hmin j hj)) (htopo i hi1)
      rw [hr] at this
      cases this
    · have hjs : j < listed.size := by omega
      have h2 : listed.getD j true ≠ false := fun h => hex ⟨j, hj, h⟩
      rw [Array.getD_eq_getD_getElem?, Array.getElem?_eq_getElem hjs] at h2 ⊢
      simpa using h2
  intro fuel
  induction fuel with
  | zero =>
    intro listed a w hls hc hi
    have hr : Region.ready .any ops listed = [] := ready_done fun j hj => by
      have hjs : j < listed.size := by omega
      cases hb : listed.getD j true with
      | true => rfl
      | false =>
        have := count_set listed j hb
        omega
    exact ⟨hr, hdn listed a w hls hr hi⟩
  | succ fuel ih =>
    intro listed a w hls hc hi
    refine ⟨fun hr => hdn listed a w hls hr hi, fun i hir => ?_⟩
    obtain ⟨his, hiu⟩ := ready_un hir
    have hil : i < listed.size := by omega
    refine wpOp_mono (fun a' w' h => ?_) (hstep _ a w i hi (by omega) (by
      rw [Array.getD_eq_getD_getElem?, Array.getElem?_eq_getElem hil] at hiu
      show listed.getD i false = false
      rw [Array.getD_eq_getD_getElem?, Array.getElem?_eq_getElem hil]
      simpa using hiu) (fun j hj => ready_waits hir hj))
    refine ih _ a' w' (by rw [Array.size_setIfInBounds]; exact hls) (by have := count_set listed i hiu; omega) ?_
    have e : (fun j => (listed.setIfInBounds i true).getD j false) = fun j => if j = i then true else listed.getD j false := by
      funext j
      rw [getD_set]
      by_cases h1 : j = i
      · subst h1
        rw [if_pos ⟨rfl, hil⟩, if_pos rfl]
      · rw [if_neg (fun h => h1 h.1.symm), if_neg h1]
    rw [e]
    exact h
theorem region_inv {P : Program} {ops : Array Oper} {Q : Exit → Act → World → Prop} {id : Nat} (k : Nat) (Inv : (Nat → Bool) → Act → World → Prop) (a0 : Act) (w : World) (hm : P.follows .mixedOrders = true) (hk : ops.size = k) (htopo : ((List.range k).all fun i => laterNone ops i) = true)
    (h0 : Inv (fun _ => false) a0 w.drew)
    (hstep : ∀ (L : Nat → Bool) (a : Act) (w : World) (i : Nat), Inv L a w → i < k → L i = false → (∀ j, waitsFor ops i j = true → L j = true) → wpOp P ops Q i (fun a' w' => Inv (fun j => if j = i then true else L j) a' w') a w)
    (hdone : ∀ (L : Nat → Bool) (a : Act) (w : World), (∀ j, j < k → L j = true) → Inv L a w → Q .normal a w) : (Code.region id ops true).wp P Q a0 w := by
  refine wp_region_any hm ?_
  show wpAny P .any ops Q ops.size (Array.replicate ops.size false) a0 w.drew
  rw [hk]
  refine any_inv k Inv hk (fun i hi => List.all_eq_true.1 htopo i (List.mem_range.2 hi)) hstep hdone k _ a0 w.drew (by simp) (by simp) ?_
  have e : (fun j => (Array.replicate k false).getD j false) = fun _ : Nat => false := by
    funext j
    rw [Array.getD_eq_getD_getElem?, Array.getElem?_replicate]
    split <;> rfl
  rw [e]
  exact h0
theorem act_known (a : Act) (lst : List Value) (hs : a.tmps.size = lst.length) (hd : a.defers = []) (h : ∀ s : Nat, s < lst.length → a.eval (.tmp s) = lst.getD s undef) : a = { tmps := lst.toArray, defers := [] } := by
  obtain ⟨t, d⟩ := a
  simp only at hs hd
  subst hd
  congr 1
  refine Array.ext (by simpa using hs) fun i i1 i2 => ?_
  have hti : t[i] = t.getD i undef := by simp [Array.getD, i1]
  have := h i (by omega)
  have hev : ({ tmps := t, defers := [] } : Act).eval (.tmp i) = t.getD i undef := rfl
  rw [hti, ← hev, this]
  simp [List.getD, show i < lst.length by omega]
def setAll (l : List Value) : List (Nat × Value) → List Value
  | [] => l
  | q :: t => setAll (l.set q.1 q.2) t
theorem setAll_length (t : List (Nat × Value)) : ∀ l : List Value, (setAll l t).length = l.length := by
  induction t with
  | nil => intro l; rfl
  | cons q t ih => intro l; rw [setAll, ih, List.length_set]
theorem beq_ne {a b : Nat} (h : a ≠ b) : Nat.beq a b = false := by
  cases hb : Nat.beq a b with
  | false => rfl
  | true => exact absurd (Nat.eq_of_beq_eq_true hb) h
/-- What a slot holds behind it all. -/
def lkp (l0 : List Value) : List (Nat × Value) → Nat → Value
  | [], s => l0.getD s undef
  | q :: t, s => match Nat.beq q.1 s with
    | true => q.2
    | false => lkp l0 t s
theorem lkp_set {l0 : List Value} {i : Nat} {v : Value} : ∀ (t : List (Nat × Value)) (s : Nat), i ≠ s → lkp (l0.set i v) t s = lkp l0 t s
  | [], s, h => by simp [lkp, List.getD, h]
  | q :: t, s, h => by
    rw [lkp, lkp, lkp_set t s h]
theorem lkp_none {l0 : List Value} : ∀ (t : List (Nat × Value)) (s : Nat), (∀ q ∈ t, q.1 ≠ s) → lkp l0 t s = l0.getD s undef
  | [], s, _ => rfl
  | q :: t, s, h => by
    have h1 : Nat.beq q.1 s = false := beq_ne (h q (by simp))
    rw [lkp, h1]
    exact lkp_none t s (fun q hq => h q (List.mem_cons_of_mem _ hq))
theorem setAll_lkp (t : List (Nat × Value)) : ∀ (l0 : List Value) (s : Nat), (t.map (·.1)).Nodup → (∀ q ∈ t, q.1 < l0.length) → (setAll l0 t).getD s undef = lkp l0 t s := by
  induction t with
  | nil => intro l0 s _ _; rfl
  | cons q t ih =>
    intro l0 s hn hl
    rw [List.map_cons, List.nodup_cons] at hn
    rw [setAll, ih _ s hn.2 (fun p hp => by rw [List.length_set]; exact hl p (List.mem_cons_of_mem _ hp)), lkp]
    by_cases e : q.1 = s
    · subst e
      have h1 : Nat.beq q.1 q.1 = true := Nat.beq_refl q.1
      rw [h1, lkp_none t _ (fun p hp he => hn.1 (List.mem_map.2 ⟨p, hp, he⟩))]
      simp [List.getD, hl q (by simp)]
    · have h1 : Nat.beq q.1 s = false := beq_ne e
      rw [h1]
      exact lkp_set t s e
theorem lkp_at (l0 : List Value) (t : List (Nat × Value)) (hn : (t.map (·.1)).Nodup) : ∀ i, i < t.length → lkp l0 t (t.getD i (0, undef)).1 = (t.getD i (0, undef)).2 := by
  induction t with
  | nil => intro i hi; simp at hi
  | cons q t ih =>
    intro i hi
    rw [List.map_cons, List.nodup_cons] at hn
    cases i with
    | zero => simp [lkp, List.getD]
    | succ i =>
      have hi' : i < t.length := by simpa using hi
      have e : (q :: t).getD (i + 1) (0, undef) = t.getD i (0, undef) := by simp [List.getD]
      rw [e, lkp]
      have hm : (t.getD i (0, undef)) ∈ t := by
        have e2 : t.getD i (0, undef) = t[i] := by simp [List.getD, hi']
        rw [e2]
        exact List.getElem_mem hi'
      have h1 : Nat.beq q.1 (t.getD i (0, undef)).1 = false := beq_ne (fun h => hn.1 (List.mem_map.2 ⟨_, hm, h.symm⟩))
      rw [h1]
      exact ih hn.2 i hi'
theorem op_value {P : Program} {ops : Array Oper} {Q : Exit → Act → World → Prop} {i : Nat} {o : Oper} {a : Act} {w w' : World} {v : Value} {K : Act → World → Prop} (hi : ops[i]? = some o) (hg : o.guard = none)
    (hrun : (execOp a.eval o).run P w = .ok (.value v) w') (hK : K (a.put o.dst v) w') : wpOp P ops Q i K a w := by
  unfold wpOp
  rw [hi]
  have hw : Region.wanted o (yielded ops a.tmps) = true := by simp [Region.wanted, hg]
  simp only [hw, if_true, Oper.wp]
  left
  rw [hrun]
  exact hK
end Go.Proofs.Ytdgdklmgnnhadaf
namespace Go.Proofs.Ytdgdklmgnnhadaf
open Go.ChangeShapes Go.WideShapes Go.ChangeAt Go.RowKit
def tailWp (P : Program) (ops : Array Oper) (Q : Exit → Act → World → Prop) : List Nat → Act → World → Prop
  | [], a, w => Q .normal a w
  | i :: is, a, w => wpOp P ops Q i (fun a' w' => tailWp P ops Q is a' w') a w
theorem lkp_mid {l0 : List Value} (su : Nat) (post : List (Nat × Value)) (x x' : Value) : ∀ (pre : List (Nat × Value)) (s : Nat), s ≠ su → lkp l0 (pre ++ (su, x) :: post) s = lkp l0 (pre ++ (su, x') :: post) s
  | [], s, h => by
    have h1 : Nat.beq su s = false := beq_ne (fun e => h e.symm)
    rw [List.nil_append, List.nil_append, lkp, lkp]
    simp only [h1]
  | q :: pre, s, h => by
    rw [List.cons_append, List.cons_append, lkp, lkp, lkp_mid su post x x' pre s h]
theorem getD_atQ {α : Type} (l : List α) (d : α) {i : Nat} (h : i < l.length) : l.getD i d = l[i] := by simp [List.getD, h]
theorem put_list (l : List Value) (s : Nat) (v : Value) : ({ tmps := l.toArray, defers := [] } : Act).put (some s) v = { tmps := (l.set s v).toArray, defers := [] } := by
  simp [Act.put]
set_option maxHeartbeats 1000000 in
theorem region_grow {P : Program} {ops : Array Oper} {id : Nat} {l0 : List Value} {Q : Exit → Act → World → Prop} (n k u : Nat) (pre : List (Nat × Value)) (su : Nat) (post : List (Nat × Value)) (reads : List (List Nat)) (par : List Nat) (U : Value → World → Prop) (wr : World) (hm : P.follows .mixedOrders = true) (hn : ops.size = n) (hkn : k < n)
    (hu : pre.length = u) (hdk : pre.length + 1 + post.length = k) (hnd : ((pre ++ (su, undef) :: post).map (·.1)).Nodup) (hdN : ((pre ++ (su, undef) :: post).all fun q => decide (q.1 < l0.length)) = true)
    (havail : ((List.range k).all fun i => (reads.getD i []).all fun s => (List.range k).all fun j => (((pre ++ (su, undef) :: post).getD j (0, undef)).1 != s) || waitsFor ops i j) = true) (htopo : ((List.range n).all fun i => laterNone ops i) = true)
    (hrN : ((List.range k).all fun i => (reads.getD i []).all fun s => decide (s < l0.length)) = true)
    (hpar : ((List.range k).all fun j => decide (j < par.getD j 0) && (decide (par.getD j 0 ≤ k) && waitsFor ops (par.getD j 0) j)) = true) (htail : ((List.range n).all fun i => decide (i ≤ k) || waitsFor ops i (i - 1)) = true)
    (hU : ∀ x w w', U x w → w.grownBy w' none → U x w')
    (hstep : ∀ i, i < k → ∀ (x : Value) (a : Act) (w : World), Below wr.heap.size wr w → (∀ s ∈ reads.getD i [], a.eval (.tmp s) = lkp l0 (pre ++ (su, x) :: post) s) → ∀ (Q : Exit → Act → World → Prop) (K : Act → World → Prop), (i = u → ∀ x' w', w.grownBy w' none → U x' w' → K (a.put (some su) x') w') → (i ≠ u → ∀ w', w.grownBy w' none → K (a.put (some ((pre ++ (su, undef) :: post).getD i (0, undef)).1) ((pre ++ (su, undef) :: post).getD i (0, undef)).2) w') → wpOp P ops Q i K a w)
    (hlast : ∀ x w, Below wr.heap.size wr w → U x w → tailWp P ops Q (List.range' k (n - k)) { tmps := (setAll l0 (pre ++ (su, x) :: post)).toArray, defers := [] } w) :
    (Code.region id ops true).wp P Q { tmps := l0.toArray, defers := [] } wr := by
  subst hu
  have key : ∀ x : Value, (pre ++ (su, x) :: post).map (·.1) = (pre ++ (su, undef) :: post).map (·.1) := fun x => by simp
  have hlen : ∀ x : Value, (pre ++ (su, x) :: post).length = k := fun x => by simp; omega
  have hkey : ∀ (x : Value) (j : Nat), ((pre ++ (su, x) :: post).getD j (0, undef)).1 = ((pre ++ (su, undef) :: post).getD j (0, undef)).1 := fun x j => by
    have e : ∀ l : List (Nat × Value), (l.getD j (0, undef)).1 = (l.map (·.1)).getD j 0 := fun l => by
      simp only [List.getD, List.getElem?_map]
      cases l[j]? <;> rfl
    rw [e, e, key x]
  have hmid : ∀ x : Value, (pre ++ (su, x) :: post).getD pre.length (0, undef) = (su, x) := fun x => by simp [List.getD]
  have hoth : ∀ (x : Value) (j : Nat), j ≠ pre.length → (pre ++ (su, x) :: post).getD j (0, undef) = (pre ++ (su, undef) :: post).getD j (0, undef) := fun x j hj => by
    simp only [List.getD]
    rcases Nat.lt_or_ge j pre.length with h | h
    · rw [List.getElem?_append_left h, List.getElem?_append_left h]
    · rw [List.getElem?_append_right h, List.getElem?_append_right h]
      obtain ⟨m, hm'⟩ : ∃ m, j - pre.length = m + 1 := ⟨j - pre.length - 1, by omega⟩
      rw [hm', List.getElem?_cons_succ, List.getElem?_cons_succ]
  have hdN' : ∀ x : Value, ∀ q ∈ pre ++ (su, x) :: post, q.1 < l0.length := fun x q hq => by
    have h1 : q.1 ∈ (pre ++ (su, x) :: post).map (·.1) := List.mem_map_of_mem hq
    rw [key x] at h1
    obtain ⟨p, hp, e⟩ := List.mem_map.1 h1
    rw [← e]
    exact of_decide_eq_true (List.all_eq_true.1 hdN p hp)
  have hlt : ∀ (x : Value) (j : Nat), j < k → ((pre ++ (su, x) :: post).getD j (0, undef)).1 < l0.length := fun x j hj => by
    have e : (pre ++ (su, x) :: post).getD j (0, undef) = (pre ++ (su, x) :: post)[j]'(by rw [hlen]; exact hj) := getD_atQ _ _ (by rw [hlen]; exact hj)
    rw [e]
    exact hdN' x _ (List.getElem_mem _)
  have hnd' : ∀ x : Value, ((pre ++ (su, x) :: post).map (·.1)).Nodup := fun x => by rw [key x]; exact hnd
  have hP : ∀ j, j < k → j < par.getD j 0 ∧ par.getD j 0 ≤ k ∧ waitsFor ops (par.getD j 0) j = true := fun j hj => by
    have := List.all_eq_true.1 hpar j (List.mem_range.2 hj)
    rw [Bool.and_eq_true, Bool.and_eq_true, decide_eq_true_eq, decide_eq_true_eq] at this
    exact this
  have hT : ∀ i, i < n → k < i → waitsFor ops i (i - 1) = true := fun i hi hk => by
    have := List.all_eq_true.1 htail i (List.mem_range.2 hi)
    rw [Bool.or_eq_true, decide_eq_true_eq] at this
    rcases this with h | h
    · omega
    · exact h
  have hchain : ∀ (L : Nat → Bool), (∀ i j, L i = true → waitsFor ops i j = true → L j = true) → (∀ j, waitsFor ops k j = true → L j = true) → ∀ m j, j < k → k - j ≤ m → L j = true := by
    intro L hcl hk0 m
    induction m with
    | zero => intro j hj hm'; omega
    | succ m ih =>
      intro j hj hm'
      obtain ⟨p1, p2, p3⟩ := hP j hj
      by_cases hpk : par.getD j 0 = k
      · rw [hpk] at p3; exact hk0 j p3
      · exact hcl _ _ (ih _ (by omega) (by omega)) p3
  refine region_inv n (fun L a w => ((∀ j, k ≤ j → L j = false) ∧ (∀ i j, L i = true → waitsFor ops i j = true → L j = true) ∧ ∃ x, (L pre.length = true → U x w) ∧ a.tmps.size = l0.length ∧ a.defers = [] ∧ Below wr.heap.size wr w ∧ ∀ s, s < l0.length → (∀ i, i < k → ((pre ++ (su, undef) :: post).getD i (0, undef)).1 = s → L i = true) → a.eval (.tmp s) = lkp l0 (pre ++ (su, x) :: post) s) ∨ ∃ t, k ≤ t ∧ t ≤ n ∧ (∀ j, j < t → L j = true) ∧ (∀ j, t ≤ j → L j = false) ∧ tailWp P ops Q (List.range' t (n - t)) a w) _ wr hm hn htopo ?_ ?_ ?_
  · refine .inl ⟨fun _ _ => rfl, fun i j h => (by cases h), undef, fun h => (by cases h), by simp, rfl, (Below.refl _ wr).drew, fun s hs h => ?_⟩
    rw [lkp_none _ s (fun q hq e => ?_)]
    · simp [Act.eval, List.getD]
    · obtain ⟨i, hi, rfl⟩ := List.getElem_of_mem hq
      rw [hlen] at hi
      have := h i hi (by rw [← e, getD_atQ _ _ (by rw [hlen]; exact hi)])
      cases this
  · intro L a w i hI hi hLi hw
    rcases hI with ⟨hA1, hcl, x, hUx, hsz, hdf, hbel, hev⟩ | ⟨t, ht1, ht2, hB1, hB2, hB3⟩
    · rcases Nat.lt_or_ge i k with hik | hik
      · have hcl' : ∀ p j, (if p = i then true else L p) = true → waitsFor ops p j = true → (if j = i then true else L j) = true := fun p j hp hpj => by
          by_cases hji : j = i
          · rw [if_pos hji]
          · rw [if_neg hji]
            by_cases hpi : p = i
            · subst hpi; exact hw j hpj
            · rw [if_neg hpi] at hp; exact hcl p j hp hpj
        have hA1' : ∀ j, k ≤ j → (if j = i then true else L j) = false := fun j hj => by
          rw [if_neg (by omega)]; exact hA1 j hj
        refine hstep i hik x a w hbel (fun s hs => hev s ?_ (fun j hj e => hw j ?_)) Q _ (fun hiu x' w' hg hu => .inl ⟨hA1', hcl', x', fun _ => hu, by simp [Act.put, hsz], hdf, hbel.grown hg hbel.size (fun g e => by cases e), fun s hs h => ?_⟩) (fun hiu w' hg => .inl ⟨hA1', hcl', x, fun hL => hU x w w' (hUx ?_) hg, by simp [Act.put, hsz], hdf, hbel.grown hg hbel.size (fun g e => by cases e), fun s hs h => ?_⟩)
        · exact of_decide_eq_true (List.all_eq_true.1 (List.all_eq_true.1 hrN i (List.mem_range.2 hik)) s hs)
        · have := List.all_eq_true.1 (List.all_eq_true.1 (List.all_eq_true.1 havail i (List.mem_range.2 hik)) s hs) j (List.mem_range.2 hj)
          rw [e] at this
          simpa using this
        · by_cases e : su = s
          · subst e
            rw [Act.eval_put_same a _ _ (by rw [hsz]; exact hs)]
            have := lkp_at l0 _ (hnd' x') pre.length (by rw [hlen]; omega)
            rw [hmid] at this
            exact this.symm
          · rw [Act.eval_put_ne a _ _ _ e, lkp_mid su post x' x pre s (fun h => e h.symm)]
            refine hev s hs (fun j hj ej => ?_)
            have h3 : (if j = i then true else L j) = true := h j hj ej
            by_cases hji : j = i
            · subst hji; subst hiu
              rw [hmid] at ej
              exact absurd ej e
            · rw [if_neg hji] at h3; exact h3
        · have h3 : (if pre.length = i then true else L pre.length) = true := hL
          rw [if_neg (fun h => hiu h.symm)] at h3
          exact h3
        · by_cases e : ((pre ++ (su, undef) :: post).getD i (0, undef)).1 = s
          · subst e
            rw [Act.eval_put_same a _ _ (by rw [hsz]; exact hs), ← hoth x i hiu]
            exact (lkp_at l0 _ (hnd' x) i (by rw [hlen]; exact hik)).symm
          · rw [Act.eval_put_ne a _ _ _ e]
            refine hev s hs (fun j hj ej => ?_)
            have h3 : (if j = i then true else L j) = true := h j hj ej
            by_cases hji : j = i
            · subst hji; exact absurd ej e
            · rw [if_neg hji] at h3; exact h3
      · have hik' : i = k := by
          apply Nat.le_antisymm _ hik
          apply Nat.le_of_not_lt
          intro hc
          have h1 := hw _ (hT i hi hc)
          rw [hA1 (i - 1) (by omega)] at h1
          cases h1
        subst hik'
        have hall : ∀ j, j < i → L j = true := fun j hj => hchain L hcl hw _ j hj (Nat.le_refl _)
        have ha : a = { tmps := (setAll l0 (pre ++ (su, x) :: post)).toArray, defers := [] } := act_known a _ (by rw [setAll_length]; exact hsz) hdf (fun s hs => by
          rw [setAll_length] at hs
          rw [setAll_lkp _ l0 s (hnd' x) (hdN' x)]
          exact hev s hs (fun j hj _ => hall j hj))
        have h1 := hlast x w hbel (hUx (hall _ (by omega)))
        obtain ⟨m, hm'⟩ : ∃ m, n - i = m + 1 := ⟨n - i - 1, by omega⟩
        rw [hm', List.range'_succ, tailWp, ← ha] at h1
        refine wpOp_mono (fun a' w' h => .inr ⟨i + 1, by omega, by omega, fun j hj => ?_, fun j hj => ?_, ?_⟩) h1
        · show (if j = i then true else L j) = true
          by_cases hji : j = i
          · rw [if_pos hji]
          · rw [if_neg hji]; exact hall j (by omega)
        · show (if j = i then true else L j) = false
          rw [if_neg (by omega)]; exact hA1 j (by omega)
        · rw [show n - (i + 1) = m by omega]; exact h
    · have hti : t ≤ i := by
        apply Nat.le_of_not_lt
        intro hc
        rw [hB1 i hc] at hLi
        cases hLi
      have hti' : i = t := by
        apply Nat.le_antisymm _ hti
        apply Nat.le_of_not_lt
        intro hc
        have h1 := hw _ (hT i hi (by omega))
        rw [hB2 (i - 1) (by omega)] at h1
        cases h1
      subst hti'
      obtain ⟨m, hm'⟩ : ∃ m, n - i = m + 1 := ⟨n - i - 1, by omega⟩
      rw [hm', List.range'_succ, tailWp] at hB3
      refine wpOp_mono (fun a' w' h => .inr ⟨i + 1, by omega, by omega, fun j hj => ?_, fun j hj => ?_, ?_⟩) hB3
      · show (if j = i then true else L j) = true
        by_cases hji : j = i
        · rw [if_pos hji]
        · rw [if_neg hji]; exact hB1 j (by omega)
      · show (if j = i then true else L j) = false
        rw [if_neg (by omega)]; exact hB2 j (by omega)
      · rw [show n - (i + 1) = m by omega]; exact h
  · rintro L a w hL (⟨hA1, _⟩ | ⟨t, ht1, ht2, hB1, hB2, hB3⟩)
    · have := hL k hkn
      rw [hA1 k (Nat.le_refl _)] at this
      cases this
    · have htn : t = n := by
        apply Nat.le_antisymm ht2
        apply Nat.le_of_not_lt
        intro hc
        have := hL t hc
        rw [hB2 t (Nat.le_refl _)] at this
        cases this
      subst htn
      rw [Nat.sub_self] at hB3
      exact hB3
theorem eval_setAll {l0 : List Value} {t : List (Nat × Value)} (s : Nat) (hn : (t.map (·.1)).Nodup) (hl : (t.all fun q => decide (q.1 < l0.length)) = true) : ({ tmps := (setAll l0 t).toArray, defers := [] } : Act).eval (.tmp s) = lkp l0 t s := by
  rw [← setAll_lkp t l0 s hn (fun q hq => of_decide_eq_true (List.all_eq_true.1 hl q hq))]
  simp [Act.eval, List.getD]
end Go.Proofs.Ytdgdklmgnnhadaf
