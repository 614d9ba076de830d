import Derived.Test.YtbjgfoiikhbonafK40
set_option linter.unusedVariables false
set_option linter.unusedSimpArgs false
namespace Go.Proofs.Ytbjgfoiikhbonaf
open Go.ChangeShapes Go.WideShapes Go.ChangeAt Go.RowKit
theorem mkc_inj {k j : Nat} (hk : k ≤ 2) (hj : j ≤ 2) (h : mkc k = mkc j) : k = j := by
  unfold mkc at h
  split at h <;> split at h <;> (try split at h) <;> (try split at h) <;> omega
theorem UoR.sz {m : OutM} {u : Nat} {x : UoP} (h : UoR m u x) : m.sz u = x.text.size := by unfold OutM.sz; rw [h.tx]
theorem UoR.mk_iff {m : OutM} {u k t : Nat} {x : UoP} (h : UoR m u x) (hk : k ≤ 2) (ht : t < x.text.size) : (m.mark u t = k) ↔ x.ms.getD t 0 = mkc k := by
  obtain ⟨h1, h2⟩ := h.mks t ht
  rw [h1]
  exact ⟨fun e => by rw [e], fun e => mkc_inj h2 hk e⟩
theorem UoR.hit_eq {m : OutM} {u k f : Nat} {x : UoP} (h : UoR m u x) (hk : k ≤ 2) (hf : f ≤ x.text.size) (hb : ∀ t, t < f → x.ms.getD t 0 ≠ mkc k) (ha : f < x.text.size → x.ms.getD f 0 = mkc k) : m.hit k u = f := by
  unfold OutM.hit
  refine firstIn_eq (Nat.zero_le _) (by rw [h.sz]; exact hf) (fun t _ ht => ?_) (fun hlt => ?_)
  · rw [beq_eq_false_iff_ne]
    intro e
    exact hb t ht ((h.mk_iff hk (by omega)).1 e)
  · rw [h.sz] at hlt
    rw [beq_iff_eq]
    exact (h.mk_iff hk hlt).2 (ha hlt)
theorem UoR.cut_eq {m : OutM} {u k f t size : Nat} {x : UoP} (h : UoR m u x) (hk : k ≤ 2) (hf : m.hit k u = f) (hft : f ≤ t) (ht : t ≤ x.text.size) (ht2 : t ≤ f + size) (hb : ∀ j, f ≤ j → j < t → x.ms.getD j 0 = mkc k) (ha : t < x.text.size → t < f + size → x.ms.getD t 0 ≠ mkc k) : m.cut k u size = t := by
  unfold OutM.cut
  rw [hf, h.sz]
  refine firstIn_eq hft (by omega) (fun j h1 h2 => ?_) (fun hlt => ?_)
  · have := (h.mk_iff hk (show j < x.text.size by omega)).2 (hb j h1 h2)
    simp [this]
  · rw [bne_iff_ne]
    intro e
    exact ha (by omega) (by omega) ((h.mk_iff hk (by omega)).1 e)
/-- Marks from f up to t have been written. -/
def sentL (ms : List Int) (f t : Nat) : List Int := (List.range ms.length).map fun j => if f ≤ j ∧ j < t then 115 else ms.getD j 0
theorem sentL_len (ms : List Int) (f t : Nat) : (sentL ms f t).length = ms.length := by simp [sentL]
theorem sentL_at {ms : List Int} {f t j : Nat} (hj : j < ms.length) : (sentL ms f t).getD j 0 = if f ≤ j ∧ j < t then 115 else ms.getD j 0 := by
  unfold sentL
  rw [List.getD_eq_getElem?_getD, List.getElem?_map, List.getElem?_range hj]
  rfl
theorem getD_ext {l r : List Int} (hl : l.length = r.length) (h : ∀ j, j < l.length → l.getD j 0 = r.getD j 0) : l = r := by
  refine List.ext_getElem hl fun j h1 h2 => ?_
  have := h j h1
  rw [List.getD_eq_getElem?_getD, List.getD_eq_getElem?_getD, List.getElem?_eq_getElem h1, List.getElem?_eq_getElem h2] at this
  exact this
theorem sentL_self (ms : List Int) (f : Nat) : sentL ms f f = ms := by
  refine getD_ext (sentL_len _ _ _) fun j hj => ?_
  rw [sentL_len] at hj
  rw [sentL_at hj, if_neg (by omega)]
theorem sentL_set {ms : List Int} {f t : Nat} (hf : f ≤ t) (ht : t < ms.length) : (sentL ms f t).set t 115 = sentL ms f (t + 1) := by
  refine getD_ext (by rw [List.length_set, sentL_len, sentL_len]) fun j hj => ?_
  rw [List.length_set, sentL_len] at hj
  rw [sentL_at hj]
  by_cases e : j = t
  · subst e
    rw [if_pos ⟨hf, by omega⟩, List.getD_eq_getElem?_getD, List.getElem?_set_self (by rw [sentL_len]; exact ht)]
    rfl
  · rw [List.getD_eq_getElem?_getD, List.getElem?_set_ne (fun h => e h.symm), ← List.getD_eq_getElem?_getD, sentL_at hj]
    by_cases e1 : f ≤ j ∧ j < t
    · rw [if_pos e1, if_pos ⟨e1.1, by omega⟩]
    · rw [if_neg e1, if_neg (by omega)]
theorem UoR.sent {m : OutM} {u f t : Nat} {x : UoP} (h : UoR m u x) : UoR (m.sent u f t) u { x with ms := sentL x.ms f t } := by
  refine ⟨h.tx, h.dn, h.lo, h.hi, (sentL_len _ _ _).trans h.ml, fun j hj => ?_⟩
  have hj : j < x.text.size := hj
  show (sentL x.ms f t).getD j 0 = mkc (if u = u ∧ f ≤ j ∧ j < t then 1 else m.mark u j) ∧ (if u = u ∧ f ≤ j ∧ j < t then 1 else m.mark u j) ≤ 2
  rw [sentL_at (by rw [h.ml]; exact hj)]
  by_cases e : f ≤ j ∧ j < t
  · rw [if_pos e, if_pos ⟨rfl, e⟩]
    exact ⟨rfl, by omega⟩
  · rw [if_neg e, if_neg (fun h => e h.2)]
    exact h.mks j hj
theorem UoR.other {m : OutM} {u f t v : Nat} {x : UoP} (h : UoR m v x) (hne : v ≠ u) : UoR (m.sent u f t) v x := by
  have e : ∀ j, (m.sent u f t).mark v j = m.mark v j := fun j => by
    show (if v = u ∧ f ≤ j ∧ j < t then 1 else m.mark v j) = _
    rw [if_neg (fun h => hne h.1)]
  exact ⟨h.tx, h.dn, h.lo, h.hi, h.ml, fun j hj => by rw [e j]; exact h.mks j hj⟩
def UoP.put (x : UoP) (ms : List Int) : UoP := { x with ms := ms }
theorem OutR.sent {m : OutM} {us : List UoP} {u f t : Nat} (h : OutR m us) (hu : u < us.length) : OutR (m.sent u f t) (us.set u ((us.getD u .zero).put (sentL (us.getD u .zero).ms f t))) := by
  refine ⟨h.w1, h.w2, h.bn, by rw [List.length_set]; exact h.len, fun i hi => ?_, fun v hv => ?_⟩
  · rw [List.length_set] at hi
    by_cases e : i = u
    · subst e
      rw [getD_setOS hi]
      exact (h.un i hi).sent
    · rw [getD_setON (fun h => e h.symm)]
      exact (h.un i hi).other e
  · have hv : m.n ≤ v := hv
    have := h.len
    obtain ⟨f1, f2⟩ := h.fresh v hv
    refine ⟨f1, fun j => ?_⟩
    show (if v = u ∧ f ≤ j ∧ j < t then 1 else m.mark v j) = 0
    rw [if_neg (fun h => by omega)]
    exact f2 j
theorem POut.marks {w w' : World} {b win bg c i g : Nat} {ua : Option Addr} {us : List UoP} {ms : List Int} (h : POut w b win bg ua c us) (hi : i < us.length) (hg : (us.getD i .zero).mv.ownBlock = some g) (hk : Kept [g] w w') (ho : Own w' 0 (us.getD i .zero).mv ms) : POut w' b win bg ua c (us.set i ((us.getD i .zero).put ms)) ∧ outF b ua (us.set i ((us.getD i .zero).put ms)) = outF b ua us := by
  have hna := h.na i hi g hg
  have emv : ∀ j, j < us.length → ((us.set i ((us.getD i .zero).put ms)).getD j .zero).mv = (us.getD j .zero).mv := fun j hj => by
    by_cases e : i = j
    · subst e; rw [getD_setOS hj]; rfl
    · rw [getD_setON e]
  have hc : cellsUo (us.set i ((us.getD i .zero).put ms)) = cellsUo us := by
    have h3 := cellsUo_set (us := us) (i := i) (f := 0) (v := .string (us.getD i .zero).text) (x' := (us.getD i .zero).put ms) hi (by omega) rfl
    rw [← h3]
    have h4 := cellsUo_at us i 0 hi (by omega)
    refine List.ext_getElem? fun t => ?_
    rw [List.getElem?_set]
    by_cases e : i * 3 + 0 = t
    · subst e
      rw [if_pos rfl, h4, if_pos (by rw [cellsUo_len]; omega)]
      rfl
    · rw [if_neg e]
  refine ⟨⟨?_, ?_, fun j hj => ?_, h.nb, fun j hj g' hg' => ?_, fun j k hj hk' g' hg' hg'' => ?_⟩, ?_⟩
  · rw [List.length_set]
    exact h.hd.kept hk (by simpa using fun e => hna.1 e.symm)
  · rw [List.length_set, hc]
    refine keptRow h.own hk fun g' hg' => ?_
    cases ua with
    | none => simp [Value.ownBlock] at hg'
    | some y =>
      obtain ⟨g2, rfl, _⟩ := h.addr rfl
      simp [Value.ownBlock] at hg'
      subst hg'
      simpa using fun e => hna.2 _ rfl e.symm
  · rw [List.length_set] at hj
    by_cases e : i = j
    · subst e; rw [getD_setOS hj]; exact ho
    · rw [getD_setON e]
      refine keptOwn (h.ag j hj) hk fun g' hg' => ?_
      rw [List.mem_singleton]
      rintro rfl
      exact e (h.nn i j hi hj g' hg hg')
  · rw [List.length_set] at hj
    rw [emv j hj] at hg'
    exact h.na j hj g' hg'
  · rw [List.length_set] at hj hk'
    rw [emv j hj] at hg'
    rw [emv k hk'] at hg''
    exact h.nn j k hj hk' g' hg' hg''
  · unfold outF
    congr 2
    have : ∀ (l : List UoP) (n : Nat), n < l.length → (l.set n ((l.getD n .zero).put ms)).filterMap (·.mv.ownBlock) = l.filterMap (·.mv.ownBlock) := by
      intro l
      induction l with
      | nil => intro n hn; simp at hn
      | cons y l ih =>
        intro n hn
        cases n with
        | zero => rfl
        | succ n =>
          have := ih n (by simpa using hn)
          rw [List.set_cons_succ, List.filterMap_cons, List.filterMap_cons]
          have e : (y :: l).getD (n + 1) .zero = l.getD n .zero := rfl
          rw [e, this]
    exact this us i hi
/-- The loop's kinds: 'a', then 'n'. -/
def kM (k : Nat) : Nat := if k = 0 then 2 else 0
def skB (k i bg win : Nat) (dn : Bool) : Bool := decide (k = 1) && (decide (bg + win ≤ i) || dn)
theorem kM_le (k : Nat) : kM k ≤ 2 := by unfold kM; split <;> omega
theorem sk_no {m : OutM} {us : List UoP} {k i : Nat} (h : OutR m us) (hk : k ≤ 1) (hi : i < m.n) (hs : skB k i m.beg m.win (us.getD i .zero).dn = true) (he : i < m.edge (kM k)) : m.can (kM k) i = false := by
  unfold skB at hs
  simp only [Bool.and_eq_true, Bool.or_eq_true, decide_eq_true_eq] at hs
  obtain ⟨rfl, hs⟩ := hs
  have e0 : kM 1 = 0 := rfl
  rw [e0] at he ⊢
  unfold OutM.edge at he
  rw [if_neg (by omega)] at he
  have hd := (h.un i (by rw [h.len]; exact hi)).dn
  rcases hs with hs | hs
  · omega
  · unfold OutM.can
    rw [← hd, hs]
    simp
theorem sk_go {m : OutM} {k i : Nat} {dn : Bool} (hi : i < m.n) (hk : k ≤ 1) (hs : skB k i m.beg m.win dn = false) : i < m.edge (kM k) ∧ (k = 0 ∨ dn = false) := by
  unfold skB at hs
  by_cases e : k = 0
  · subst e
    refine ⟨?_, .inl rfl⟩
    show i < m.edge 2
    unfold OutM.edge
    rw [if_pos rfl]
    exact hi
  · have e1 : k = 1 := by omega
    subst e1
    simp only [decide_true, Bool.true_and, Bool.or_eq_false_iff, decide_eq_false_iff_not] at hs
    refine ⟨?_, .inr hs.2⟩
    show i < m.edge 0
    unfold OutM.edge
    rw [if_neg (by omega)]
    omega
theorem can_full {m : OutM} {us : List UoP} {k i : Nat} (h : OutR m us) (hi : i < m.n) (hb : ∀ t, t < (us.getD i .zero).text.size → (us.getD i .zero).ms.getD t 0 ≠ mkc (kM k)) : m.can (kM k) i = false := by
  have hu := h.un i (by rw [h.len]; exact hi)
  have := hu.hit_eq (kM_le k) (Nat.le_refl _) hb (fun h => absurd h (Nat.lt_irrefl _))
  unfold OutM.can
  rw [this, hu.sz]
  simp
theorem can_hit {m : OutM} {us : List UoP} {k i f : Nat} (h : OutR m us) (hk : k ≤ 1) (hi : i < m.n) (hs : skB k i m.beg m.win (us.getD i .zero).dn = false) (hf : f < (us.getD i .zero).text.size) (hb : ∀ t, t < f → (us.getD i .zero).ms.getD t 0 ≠ mkc (kM k)) (ha : (us.getD i .zero).ms.getD f 0 = mkc (kM k)) : m.hit (kM k) i = f ∧ m.can (kM k) i = true := by
  have hu := h.un i (by rw [h.len]; exact hi)
  have e := hu.hit_eq (kM_le k) (by omega) hb (fun _ => ha)
  refine ⟨e, ?_⟩
  unfold OutM.can
  rw [e, hu.sz, decide_eq_true hf, Bool.true_and]
  rcases (sk_go hi hk hs).2 with h | h
  · subst h; rfl
  · rw [← hu.dn, h]
    simp
theorem who_none {m : OutM} {k : Nat} (_hn : m.beg ≤ m.n) (hb : ∀ j, m.beg ≤ j → j < m.n → j < m.edge (kM k) → m.can (kM k) j = false) : ¬ (m.who (kM k) < m.edge (kM k)) := by
  intro hlt
  unfold OutM.who at hlt
  have h1 := firstIn_at hlt
  have h2 := firstIn_ge (m.can (kM k)) m.beg (m.edge (kM k))
  have h3 : m.edge (kM k) ≤ m.n := by unfold OutM.edge; split <;> omega
  rw [hb _ h2 (by omega) hlt] at h1
  cases h1
theorem next_kind {m : OutM} {k i size : Nat} (h1 : 1 ≤ size) (h2 : size ≤ 1500) (hk : k ≤ 1) (hp : 1 ≤ k → ¬ (m.who 2 < m.edge 2)) (hi : m.beg ≤ i) (he : i < m.edge (kM k)) (hb : ∀ j, m.beg ≤ j → j < i → j < m.edge (kM k) → m.can (kM k) j = false) (hc : m.can (kM k) i = true) : m.next (size : Int) = m.send (kM k) i size := by
  have hw : m.who (kM k) = i := by
    unfold OutM.who
    exact firstIn_eq hi (by omega) (fun j h1 h2 => hb j h1 h2 (by omega)) (fun _ => hc)
  unfold OutM.next
  rw [if_neg (by omega)]
  by_cases e : k = 0
  · subst e
    have e0 : kM 0 = 2 := rfl
    rw [e0] at hw he ⊢
    rw [hw, if_pos he]
    rfl
  · have e1 : k = 1 := by omega
    subst e1
    have e0 : kM 1 = 0 := rfl
    rw [e0] at hw he ⊢
    rw [if_neg (hp (Nat.le_refl _)), hw, if_pos he]
    rfl
theorem next_none {m : OutM} {size : Nat} (h1 : 1 ≤ size) (h2 : size ≤ 1500) (ha : ¬ (m.who 2 < m.edge 2)) (hb : ¬ (m.who 0 < m.edge 0)) : m.next (size : Int) = ⟨m, .zero, 6⟩ := by
  unfold OutM.next
  rw [if_neg (by omega), if_neg ha, if_neg hb]
end Go.Proofs.Ytbjgfoiikhbonaf
