import Derived.Test.YtbjgfoiikhbonafK44
set_option linter.unusedVariables false
set_option linter.unusedSimpArgs false
namespace Go.Proofs.Ytbjgfoiikhbonaf
open Go.ChangeShapes Go.WideShapes Go.ChangeAt Go.RowKit
def OutM.gM (m : OutM) (gs : List GapM) : OutM := { m with mark := fun u t => if inGap m.beg gs u t = true ∧ m.mark u t = 1 ∧ m.done u = false then 2 else m.mark u t }
theorem gM_mark (m : OutM) (gs : List GapM) (u t : Nat) : (m.gM gs).mark u t = if inGap m.beg gs u t = true ∧ m.mark u t = 1 ∧ m.done u = false then 2 else m.mark u t := rfl
theorem inGap_snoc (b : Nat) (gs : List GapM) (g : GapM) (u t : Nat) : inGap b (gs ++ [g]) u t = (inGap b gs u t || (g.of b u && g.at t)) := by simp [inGap]
theorem hasGap_snoc (b : Nat) (gs : List GapM) (g : GapM) (u : Nat) : hasGap b (gs ++ [g]) u = (hasGap b gs u || g.of b u) := by simp [hasGap]
theorem inGap_has {b : Nat} {gs : List GapM} {u t : Nat} (h : hasGap b gs u = false) : inGap b gs u t = false := by
  unfold hasGap at h
  unfold inGap
  rw [List.any_eq_false] at h ⊢
  intro g hg
  have h1 := h g hg
  intro h2
  rw [Bool.and_eq_true] at h2
  exact h1 h2.1
theorem hasGap_lt {b : Nat} {gs : List GapM} {u : Nat} (h : u < b) : hasGap b gs u = false := by
  unfold hasGap
  rw [List.any_eq_false]
  intro g _ h2
  unfold GapM.of at h2
  rw [beq_iff_eq] at h2
  omega
theorem hasGap_ge {m : OutM} {d : Nat} {gs : List GapM} {u : Nat} (hg : ∀ g ∈ gs, m.gapOk d g = true) (h : m.beg + d ≤ u) : hasGap m.beg gs u = false := by
  unfold hasGap
  rw [List.any_eq_false]
  intro g hgm h2
  unfold GapM.of at h2
  rw [beq_iff_eq] at h2
  have h3 := hg g hgm
  unfold OutM.gapOk at h3
  simp only [Bool.and_eq_true, decide_eq_true_eq] at h3
  omega
theorem OutR.gap0 {m : OutM} {us : List UoP} (h : OutR m us) : OutR (m.gM []) us := by
  refine h.congr rfl h.bn rfl (fun _ _ => rfl) (fun u _ t _ => ?_) (fun u hu => ?_)
  · rw [gM_mark]; simp [inGap]
  · exact ⟨(h.fresh u hu).1, fun t => by rw [gM_mark]; simp [inGap]; exact (h.fresh u hu).2 t⟩
theorem gM_snoc (m : OutM) (gs : List GapM) (g : GapM) (u t : Nat) : (m.gM (gs ++ [g])).mark u t = if u = m.beg + aheadN g.num m.beg then (if g.at t = true ∧ (m.gM gs).mark u t = 1 ∧ m.done u = false then 2 else (m.gM gs).mark u t) else (m.gM gs).mark u t := by
  rw [gM_mark, gM_mark, inGap_snoc]
  unfold GapM.of
  by_cases e : u = m.beg + aheadN g.num m.beg
  · have e1 : (m.beg + aheadN g.num m.beg == u) = true := by rw [beq_iff_eq]; exact e.symm
    rw [if_pos e, e1, Bool.true_and]
    cases inGap m.beg gs u t <;> cases g.at t <;> cases m.done u <;> by_cases h1 : m.mark u t = 1 <;> simp [h1]
  · have e1 : (m.beg + aheadN g.num m.beg == u) = false := by rw [beq_eq_false_iff_ne]; exact fun h => e h.symm
    rw [if_neg e, e1, Bool.false_and, Bool.or_false]
theorem mkc_s {k : Nat} (h : k ≤ 2) : mkc k = 115 ↔ k = 1 := ⟨fun e => mkc_inj h (by omega) e, fun e => by rw [e]; rfl⟩
theorem mkc_a {k : Nat} (h : k ≤ 2) : mkc k = 97 ↔ k = 2 := ⟨fun e => mkc_inj h (by omega) e, fun e => by rw [e]; rfl⟩
/-- One gap more. -/
theorem OutR.gap {m : OutM} {us : List UoP} {gs : List GapM} {g : GapM} {u : Nat} (h : OutR (m.gM gs) us) (he : u = m.beg + aheadN g.num m.beg) (hu : u < us.length) (hd : m.done u = false) : OutR (m.gM (gs ++ [g])) (us.set u ((us.getD u .zero).put (swapL (us.getD u .zero).ms 115 97 (fun t => g.at t)))) := by
  have hx := h.un u hu
  have h1 := h.put (u := u) (ms := swapL (us.getD u .zero).ms 115 97 (fun t => g.at t)) (f := fun t => if g.at t = true ∧ (m.gM gs).mark u t = 1 then 2 else (m.gM gs).mark u t) hu (by rw [swapL_len]; exact hx.ml) (fun t ht => ?_)
  · refine h1.congr rfl h1.bn rfl (fun _ _ => rfl) (fun v _ t _ => ?_) (fun v hv => ?_)
    · rw [gM_snoc]
      show _ = if v = u then _ else _
      by_cases e : v = u
      · subst e
        rw [if_pos he, if_pos rfl]
        simp only [hd, and_true]
      · rw [if_neg e, if_neg (fun h2 => e (by rw [h2, he]))]
    · have hv : m.n ≤ v := hv
      obtain ⟨f1, f2⟩ := h.fresh v hv
      refine ⟨f1, fun t => ?_⟩
      have hl := h.len
      have hl : us.length = m.n := hl
      rw [gM_snoc, if_neg (by omega)]
      exact f2 t
  · obtain ⟨h2, h3⟩ := hx.mks t ht
    rw [swapL_at (by rw [hx.ml]; exact ht), h2]
    by_cases c : g.at t = true ∧ (m.gM gs).mark u t = 1
    · rw [if_pos ⟨c.1, (mkc_s h3).2 c.2⟩, if_pos c]
      exact ⟨rfl, Nat.le_refl _⟩
    · rw [if_neg (fun h4 => c ⟨h4.1, (mkc_s h3).1 h4.2⟩), if_neg c]
      exact ⟨rfl, h3⟩
theorem OutR.gapDone {m : OutM} {us : List UoP} {gs : List GapM} {g : GapM} (h : OutR (m.gM gs) us) (hd : m.done (m.beg + aheadN g.num m.beg) = true) : OutR (m.gM (gs ++ [g])) us := by
  have he : ∀ u t, (m.gM (gs ++ [g])).mark u t = (m.gM gs).mark u t := fun u t => by
    rw [gM_snoc]
    by_cases e : u = m.beg + aheadN g.num m.beg
    · rw [if_pos e, if_neg (fun h2 => by rw [e, hd] at h2; exact Bool.noConfusion h2.2.2)]
    · rw [if_neg e]
  refine h.congr rfl h.bn rfl (fun _ _ => rfl) (fun v _ t _ => he v t) (fun v hv => ?_)
  obtain ⟨f1, f2⟩ := h.fresh v hv
  exact ⟨f1, fun t => by rw [he]; exact f2 t⟩
/-- The first i units of which it speaks are done, where they have no gap. -/
def OutM.dM (m : OutM) (gs : List GapM) (i : Nat) : OutM := { m with mark := fun u t => if m.beg ≤ u ∧ u < m.beg + i ∧ hasGap m.beg gs u = false then (if m.mark u t = 2 then 1 else m.mark u t) else (m.gM gs).mark u t, done := fun u => m.done u || (decide (m.beg ≤ u ∧ u < m.beg + i) && !hasGap m.beg gs u) }
theorem dM_mark (m : OutM) (gs : List GapM) (i u t : Nat) : (m.dM gs i).mark u t = if m.beg ≤ u ∧ u < m.beg + i ∧ hasGap m.beg gs u = false then (if m.mark u t = 2 then 1 else m.mark u t) else (m.gM gs).mark u t := rfl
theorem dM_done (m : OutM) (gs : List GapM) (i u : Nat) : (m.dM gs i).done u = (m.done u || (decide (m.beg ≤ u ∧ u < m.beg + i) && !hasGap m.beg gs u)) := rfl
theorem OutR.done0 {m : OutM} {us : List UoP} {gs : List GapM} (h : OutR (m.gM gs) us) : OutR (m.dM gs 0) us := by
  have e1 : ∀ u t, (m.dM gs 0).mark u t = (m.gM gs).mark u t := fun u t => by rw [dM_mark, if_neg (by omega)]
  have e2 : ∀ u, (m.dM gs 0).done u = m.done u := fun u => by
    rw [dM_done, show decide (m.beg ≤ u ∧ u < m.beg + 0) = false from decide_eq_false (by omega)]
    simp
  refine h.congr rfl h.bn rfl (fun u _ => e2 u) (fun u _ t _ => e1 u t) (fun u hu => ?_)
  obtain ⟨f1, f2⟩ := h.fresh u hu
  exact ⟨by rw [e2]; exact f1, fun t => by rw [e1]; exact f2 t⟩
theorem OutR.doneSkip {m : OutM} {us : List UoP} {gs : List GapM} {i : Nat} (h : OutR (m.dM gs i) us) (hg : hasGap m.beg gs (m.beg + i) = true) : OutR (m.dM gs (i + 1)) us := by
  have e1 : ∀ u t, (m.dM gs (i + 1)).mark u t = (m.dM gs i).mark u t := fun u t => by
    rw [dM_mark, dM_mark]
    by_cases e : u = m.beg + i
    · subst e
      rw [if_neg (fun h2 => by rw [hg] at h2; exact Bool.noConfusion h2.2.2), if_neg (by omega)]
    · by_cases c : m.beg ≤ u ∧ u < m.beg + i ∧ hasGap m.beg gs u = false
      · rw [if_pos c, if_pos ⟨c.1, by omega, c.2.2⟩]
      · rw [if_neg c, if_neg (fun h2 => c ⟨h2.1, by omega, h2.2.2⟩)]
  have e2 : ∀ u, (m.dM gs (i + 1)).done u = (m.dM gs i).done u := fun u => by
    rw [dM_done, dM_done]
    by_cases e : u = m.beg + i
    · subst e
      rw [hg]
      simp
    · rw [show decide (m.beg ≤ u ∧ u < m.beg + (i + 1)) = decide (m.beg ≤ u ∧ u < m.beg + i) from decide_eq_decide.2 (by omega)]
  refine h.congr rfl h.bn rfl (fun u _ => e2 u) (fun u _ t _ => e1 u t) (fun u hu => ?_)
  obtain ⟨f1, f2⟩ := h.fresh u hu
  exact ⟨by rw [e2]; exact f1, fun t => by rw [e1]; exact f2 t⟩
theorem OutR.doneStep {m : OutM} {us : List UoP} {gs : List GapM} {i u : Nat} (h : OutR (m.dM gs i) us) (he : u = m.beg + i) (hu : u < us.length) (hg : hasGap m.beg gs u = false) : OutR (m.dM gs (i + 1)) ((us.set u { us.getD u .zero with dn := true }).set u (((us.set u { us.getD u .zero with dn := true }).getD u .zero).put (swapL ((us.set u { us.getD u .zero with dn := true }).getD u .zero).ms 97 115 (fun _ => true)))) := by
  have hfin := h.finish hu
  have hu2 : u < (us.set u { us.getD u .zero with dn := true }).length := by rw [List.length_set]; exact hu
  have hx := hfin.un u hu2
  have hmk : ∀ t, (m.dM gs i).mark u t = m.mark u t := fun t => by
    rw [dM_mark, if_neg (by omega), gM_mark, if_neg (fun h2 => by rw [inGap_has hg] at h2; exact Bool.noConfusion h2.1)]
  generalize us.set u { us.getD u .zero with dn := true } = us2 at *
  have h1 := hfin.put (u := u) (ms := swapL (us2.getD u .zero).ms 97 115 (fun _ => true)) (f := fun t => if m.mark u t = 2 then 1 else m.mark u t) hu2 (by rw [swapL_len]; exact hx.ml) (fun t ht => ?_)
  · refine h1.congr rfl h1.bn rfl (fun v _ => ?_) (fun v _ t _ => ?_) (fun v hv => ?_)
    · show _ = if v = u then true else (m.dM gs i).done v
      rw [dM_done, dM_done]
      by_cases e : v = u
      · subst e
        rw [if_pos rfl, hg, show decide (m.beg ≤ v ∧ v < m.beg + (i + 1)) = true from decide_eq_true (by omega)]
        simp
      · rw [if_neg e, show decide (m.beg ≤ v ∧ v < m.beg + (i + 1)) = decide (m.beg ≤ v ∧ v < m.beg + i) from decide_eq_decide.2 (by omega)]
    · show _ = if v = u then _ else (m.dM gs i).mark v t
      by_cases e : v = u
      · subst e
        rw [if_pos rfl, dM_mark, if_pos ⟨by omega, by omega, hg⟩]
      · rw [if_neg e, dM_mark, dM_mark]
        by_cases c : m.beg ≤ v ∧ v < m.beg + i ∧ hasGap m.beg gs v = false
        · rw [if_pos c, if_pos ⟨c.1, by omega, c.2.2⟩]
        · rw [if_neg c, if_neg (fun h2 => c ⟨h2.1, by omega, h2.2.2⟩)]
    · have hv : m.n ≤ v := hv
      obtain ⟨f1, f2⟩ := h.fresh v hv
      have hl : us.length = m.n := h.len
      have e : v ≠ u := by omega
      refine ⟨?_, fun t => ?_⟩
      · rw [dM_done, show decide (m.beg ≤ v ∧ v < m.beg + (i + 1)) = decide (m.beg ≤ v ∧ v < m.beg + i) from decide_eq_decide.2 (by omega), ← dM_done]
        exact f1
      · have := f2 t
        rw [dM_mark] at this ⊢
        by_cases c : m.beg ≤ v ∧ v < m.beg + i ∧ hasGap m.beg gs v = false
        · rw [if_pos c] at this
          rw [if_pos ⟨c.1, by omega, c.2.2⟩]
          exact this
        · rw [if_neg c] at this
          rw [if_neg (fun h2 => c ⟨h2.1, by omega, h2.2.2⟩)]
          exact this
  · obtain ⟨h2, h3⟩ := hx.mks t ht
    have h2 : (us2.getD u .zero).ms.getD t 0 = mkc ((m.dM gs i).mark u t) := h2
    have h3 : (m.dM gs i).mark u t ≤ 2 := h3
    rw [hmk] at h2 h3
    rw [swapL_at (by rw [hx.ml]; exact ht), h2]
    by_cases c : m.mark u t = 2
    · rw [if_pos ⟨rfl, (mkc_a h3).2 c⟩, if_pos c]
      exact ⟨rfl, by omega⟩
    · rw [if_neg (fun h4 => c ((mkc_a h3).1 h4.2)), if_neg c]
      exact ⟨rfl, h3⟩
/-- Of the units behind, up to i, all that was sent is to be sent again. -/
def OutM.bM (m : OutM) (gs : List GapM) (d i : Nat) : OutM := { m.dM gs d with mark := fun u t => if m.beg + d ≤ u ∧ u < i ∧ m.mark u t = 1 ∧ m.done u = false then 2 else (m.dM gs d).mark u t }
theorem bM_mark (m : OutM) (gs : List GapM) (d i u t : Nat) : (m.bM gs d i).mark u t = if m.beg + d ≤ u ∧ u < i ∧ m.mark u t = 1 ∧ m.done u = false then 2 else (m.dM gs d).mark u t := rfl
theorem OutR.back0 {m : OutM} {us : List UoP} {gs : List GapM} {d : Nat} (h : OutR (m.dM gs d) us) : OutR (m.bM gs d (m.beg + d)) us := by
  have e1 : ∀ u t, (m.bM gs d (m.beg + d)).mark u t = (m.dM gs d).mark u t := fun u t => by rw [bM_mark, if_neg (by omega)]
  refine h.congr rfl h.bn rfl (fun u _ => rfl) (fun u _ t _ => e1 u t) (fun u hu => ?_)
  obtain ⟨f1, f2⟩ := h.fresh u hu
  exact ⟨f1, fun t => by rw [e1]; exact f2 t⟩
theorem dM_far {m : OutM} {gs : List GapM} {d u : Nat} (hg : ∀ g ∈ gs, m.gapOk d g = true) (h : m.beg + d ≤ u) : (∀ t, (m.dM gs d).mark u t = m.mark u t) ∧ (m.dM gs d).done u = m.done u := by
  have h1 := hasGap_ge hg h
  refine ⟨fun t => ?_, ?_⟩
  · rw [dM_mark, if_neg (by omega), gM_mark, if_neg (fun h2 => by rw [inGap_has h1] at h2; exact Bool.noConfusion h2.1)]
  · rw [dM_done, show decide (m.beg ≤ u ∧ u < m.beg + d) = false from decide_eq_false (by omega)]
    simp
theorem bM_self {m : OutM} {gs : List GapM} {d i : Nat} (hg : ∀ g ∈ gs, m.gapOk d g = true) (hi : m.beg + d ≤ i) (t : Nat) : (m.bM gs d i).mark i t = m.mark i t := by
  rw [bM_mark, if_neg (by omega), (dM_far hg hi).1]
theorem bM_other {m : OutM} {gs : List GapM} {d i v : Nat} (e : v ≠ i) (t : Nat) : (m.bM gs d (i + 1)).mark v t = (m.bM gs d i).mark v t := by
  rw [bM_mark, bM_mark]
  by_cases c : m.beg + d ≤ v ∧ v < i ∧ m.mark v t = 1 ∧ m.done v = false
  · rw [if_pos c, if_pos ⟨c.1, by omega, c.2.2⟩]
  · rw [if_neg c, if_neg (fun h2 => c ⟨h2.1, by omega, h2.2.2⟩)]
theorem OutR.backSkip {m : OutM} {us : List UoP} {gs : List GapM} {d i : Nat} (h : OutR (m.bM gs d i) us) (hd : m.done i = true) : OutR (m.bM gs d (i + 1)) us := by
  have e1 : ∀ u t, (m.bM gs d (i + 1)).mark u t = (m.bM gs d i).mark u t := fun u t => by
    by_cases e : u = i
    · subst e
      rw [bM_mark, bM_mark, if_neg (fun h2 => by rw [hd] at h2; exact Bool.noConfusion h2.2.2.2), if_neg (by omega)]
    · exact bM_other e t
  refine h.congr rfl h.bn rfl (fun u _ => rfl) (fun u _ t _ => e1 u t) (fun u hu => ?_)
  obtain ⟨f1, f2⟩ := h.fresh u hu
  exact ⟨f1, fun t => by rw [e1]; exact f2 t⟩
theorem OutR.backStep {m : OutM} {us : List UoP} {gs : List GapM} {d i : Nat} (h : OutR (m.bM gs d i) us) (hg : ∀ g ∈ gs, m.gapOk d g = true) (hi : m.beg + d ≤ i) (hu : i < us.length) (hd : m.done i = false) : OutR (m.bM gs d (i + 1)) (us.set i ((us.getD i .zero).put (swapL (us.getD i .zero).ms 115 97 (fun _ => true)))) := by
  have hx := h.un i hu
  have h1 := h.put (u := i) (ms := swapL (us.getD i .zero).ms 115 97 (fun _ => true)) (f := fun t => if m.mark i t = 1 then 2 else m.mark i t) hu (by rw [swapL_len]; exact hx.ml) (fun t ht => ?_)
  · refine h1.congr rfl h1.bn rfl (fun _ _ => rfl) (fun v _ t _ => ?_) (fun v hv => ?_)
    · show _ = if v = i then _ else (m.bM gs d i).mark v t
      by_cases e : v = i
      · subst e
        rw [if_pos rfl, bM_mark, (dM_far hg hi).1]
        by_cases c : m.mark v t = 1
        · rw [if_pos ⟨hi, by omega, c, hd⟩, if_pos c]
        · rw [if_neg (fun h2 => c h2.2.2.1), if_neg c]
      · rw [if_neg e]
        exact bM_other e t
    · have hv : m.n ≤ v := hv
      obtain ⟨f1, f2⟩ := h.fresh v hv
      have hl : us.length = m.n := h.len
      exact ⟨f1, fun t => by rw [bM_other (by omega)]; exact f2 t⟩
  · obtain ⟨h2, h3⟩ := hx.mks t ht
    rw [bM_self hg hi] at h2 h3
    rw [swapL_at (by rw [hx.ml]; exact ht), h2]
    by_cases c : m.mark i t = 1
    · rw [if_pos ⟨rfl, (mkc_s h3).2 c⟩, if_pos c]
      exact ⟨rfl, Nat.le_refl _⟩
    · rw [if_neg (fun h4 => c ((mkc_s h3).1 h4.2)), if_neg c]
      exact ⟨rfl, h3⟩
/-- All is taken. -/
theorem OutR.takenAll {m : OutM} {us : List UoP} {gs : List GapM} {d i : Nat} (h : OutR (m.bM gs d i) us) (ho : OrdM m) (hg : ∀ g ∈ gs, m.gapOk d g = true) (hi : m.beg + d ≤ i) (hend : m.n ≤ i ∨ m.mark i 0 = 0) (hbd : m.beg + d ≤ m.n) : OutR (m.taken d gs) us := by
  have hdn : ∀ u, (m.bM gs d i).done u = m.done2 d gs u := fun u => rfl
  have hl : us.length = m.n := h.len
  have hfar : ∀ u t, i ≤ u → m.mark u t = 0 ∨ m.n ≤ u := fun u t hu => by
    rcases hend with h1 | h1
    · exact .inr (by omega)
    · exact .inl (ho.none h1 hu)
  have hmk : ∀ u, u < m.n → ∀ t, m.mark2 d gs u t = (m.bM gs d i).mark u t := fun u hu t => by
    unfold OutM.mark2
    rw [bM_mark]
    by_cases c1 : u < m.beg
    · rw [if_pos c1, if_neg (by omega), dM_mark, if_neg (by omega), gM_mark, if_neg (fun h2 => by rw [inGap_has (hasGap_lt c1)] at h2; exact Bool.noConfusion h2.1)]
    · rw [if_neg c1]
      by_cases c2 : u < m.beg + d
      · have c3 : ¬ (m.beg + d ≤ u ∧ u < i ∧ m.mark u t = 1 ∧ m.done u = false) := by omega
        rw [if_pos c2, if_neg c3, dM_mark]
        by_cases hh : hasGap m.beg gs u = true
        · have c4 : ¬ (m.beg ≤ u ∧ u < m.beg + d ∧ hasGap m.beg gs u = false) := fun h2 => by rw [hh] at h2; exact Bool.noConfusion h2.2.2
          rw [if_pos hh, if_neg c4, gM_mark]
        · have c4 : m.beg ≤ u ∧ u < m.beg + d ∧ hasGap m.beg gs u = false := ⟨by omega, c2, by simpa using hh⟩
          rw [if_neg hh, if_pos c4]
      · rw [if_neg c2, (dM_far hg (by omega)).1]
        by_cases c3 : u < i
        · by_cases c4 : m.mark u t = 1 ∧ m.done u = false
          · rw [if_pos c4, if_pos ⟨by omega, c3, c4⟩]
          · rw [if_neg c4, if_neg (fun h2 => c4 h2.2.2)]
        · rcases hfar u t (by omega) with h0 | h0
          · rw [if_neg (by omega), if_neg (by omega)]
          · omega
  refine h.congr rfl ?_ rfl (fun u _ => rfl) (fun u hu t _ => hmk u hu t) (fun u hu => ?_)
  · show firstIn (fun u => !m.done2 d gs u) m.beg m.n ≤ m.n
    exact firstIn_le _ (by omega)
  · have hu : m.n ≤ u := hu
    obtain ⟨f1, f2⟩ := h.fresh u hu
    refine ⟨f1, fun t => ?_⟩
    show m.mark2 d gs u t = 0
    have h0 := f2 t
    rw [bM_mark] at h0
    split at h0
    · omega
    · rw [(dM_far hg (by omega)).1] at h0
      rw [mark2_zero]
      exact h0
end Go.Proofs.Ytbjgfoiikhbonaf
namespace Go.Proofs.Ytbjgfoiikhbonaf
open Go.ChangeShapes Go.WideShapes Go.ChangeAt Go.RowKit
/-- The code from a statement on. -/
def tailAt : Nat → Code → Code
  | 0, c => c
  | n + 1, .seq _ b => tailAt n b
  | _ + 1, _ => .skip
theorem POut.setBeg {w : World} {b win bg : Nat} {ua : Option Addr} {c : Nat} {us : List UoP} (h : POut w b win bg ua c us) (bg' : Nat) : POut (w.setCell ⟨b, 1, none⟩ (.int .i64 (bg' : Int))) b win bg' ua c us := by
  have hk : Kept [b] w (w.setCell ⟨b, 1, none⟩ (.int .i64 (bg' : Int))) := (Kept.refl _ w).setCell (by simp) _
  refine ⟨h.hd.setCell _, keptRow h.own hk (fun g hg => ?_), fun i hi => keptOwn (h.ag i hi) hk (fun g hg => by simpa using (h.na i hi g hg).1), h.nb, h.na, h.nn⟩
  cases ua with
  | none => simp [Value.ownBlock] at hg
  | some y =>
    obtain ⟨g', rfl, _⟩ := h.addr rfl
    simp [Value.ownBlock] at hg
    subst hg
    simpa using h.nb _ rfl
theorem POut.drewN {w : World} {b win bg : Nat} {ua : Option Addr} {c : Nat} {us : List UoP} (h : POut w b win bg ua c us) (n : Nat) : POut (w.drewN n) b win bg ua c us := h.kept (T := []) ((Kept.refl _ w).drewN n) (by simp)
set_option linter.unusedVariables false in
set_option maxRecDepth 1000000 in
set_option maxHeartbeats 4000000 in
theorem otk9 {wx : World} {b win G c N : Nat} {ua : Option Addr} {us : List UoP} {Q : Ending → World → Prop} (f : Nat → Bool) (h : POut wx b win G ua c us) (hl : us.length = N) (hG : G ≤ N) (hN : N ≤ 2000000000000) (hf : ∀ i, i < N → (us.getD i .zero).dn = f i)
    (hQ : ∀ w', POut w' b win (firstIn (fun u => !f u) G N) ua c us → Kept [b] wx w' → Q (.returned (.int .i64 0)) w') (u1 u2 u3 u4 u5 u6 u7 u8 u9 u10 u11 u12 u13 u14 u15 u16 u17 u18 u19 u20 u21 u22 u23 u24 u25 u26 u27 u28 u29 u30 u31 u32 u33 u34 u35 u36 u37 u38 u39 u40 u41 u42 u43 u44 u45 u46 u47 u48 u49 u50 u51 u52 u53 u54 u55 u56 u57 u58 u59 u60 u61 u62 u63 u64 u65 u66 u67 u68 u69 u70 u71 u72 u73 u74 u75 u76 u77 u78 u79 u80 u81 u82 u83 u84 u85 u86 u87 u88 u89 u90 u91 u92 u93 u94 u95 u96 u97 u98 u99 u100 u101 u102 u103 u104 u105 u106 u107 u108 u109 u110 u111 u112 u113 u114 u115 u116 u117 u118 u119 u120 u121 u122 u123 u124 u125 u126 u127 u128 u129 u130 u131 u132 u133 u134 u135 u136 u137 u138 u139 u140 u141 u142 u143 u144 u145 u146 u147 u148 u149 u150 u151 u152 u153 u154 u155 u156 u157 u158 u159 u160 u161 u162 u163 u164 u165 u166 u167 u168 u169 u170 u171 u172 u173 u174 u175 u176 u177 u178 u179 u180 u181 u182 u183 u184 u185 u186 u187 u188 u189 u190 u191 u192 u193 u194 u195 u196 u197 u198 u199 u200 u201 u202 u203 u204 u205 u206 u207 u208 u209 u210 u211 u212 u213 u214 u215 u216 u217 u218 u219 u220 u221 u222 u223 u224 u225 u226 u227 u228 u229 u230 u231 u232 u233 u234 u235 u236 u237 u238 u239 u240 u241 u242 u243 u244 u245 u246 u247 u248 u249 u250 u251 u252 u253 u254 u255 u256 u257 u258 u259 u260 u261 u262 u263 u264 u265 u266 u267 u268 u269 u270 u271 u272 u273 u274 u275 u276 u277 u278 u279 u280 u281 u282 u283 u284 u285 u286 u287 u288 u289 u290 u291 u292 u293 u294 u295 u296 u297 u298 u299 u300 u301 u302 u303 u304 u305 u306 u307 u308 u309 u310 u311 u312 u313 u314 u315 u316 u317 u318 u319 u320 u321 u322 u323 u324 u325 u326 u327 u328 u329 u330 u331 u332 u333 u334 u335 u336 u337 u338 u339 u340 u341 u342 u343 u344 u345 u346 u347 u348 u349 u350 u351 u352 u353 u354 u355 u356 u357 u358 u359 u360 u361 u362 u363 u364 u365 u366 u367 u368 u369 : Value) :
    Code.wp Try.prog (tailAt 9 (Try.f23.body.getD .skip)) (bodyPost Try.prog Try.f23 Q) ⟨#[.pointer (some ⟨b, 0, none⟩), u1, u2, u3, u4, u5, u6, u7, u8, u9, u10, u11, u12, u13, u14, u15, u16, u17, u18, u19, u20, u21, u22, u23, u24, u25, u26, u27, u28, u29, u30, u31, u32, u33, u34, u35, u36, u37, u38, u39, u40, u41, u42, u43, u44, u45, u46, u47, u48, u49, u50, u51, u52, u53, u54, u55, u56, u57, u58, u59, u60, u61, u62, u63, u64, u65, u66, u67, u68, u69, u70, u71, u72, u73, u74, u75, u76, u77, u78, u79, u80, u81, u82, u83, u84, u85, u86, u87, u88, u89, u90, u91, u92, u93, u94, u95, u96, u97, u98, u99, u100, u101, u102, u103, u104, u105, u106, u107, u108, u109, u110, u111, u112, u113, u114, u115, u116, u117, u118, u119, u120, u121, u122, u123, u124, u125, u126, u127, u128, u129, u130, u131, u132, u133, u134, u135, u136, u137, u138, u139, u140, u141, u142, u143, u144, u145, u146, u147, u148, u149, u150, u151, u152, u153, u154, u155, u156, u157, u158, u159, u160, u161, u162, u163, u164, u165, u166, u167, u168, u169, u170, u171, u172, u173, u174, u175, u176, u177, u178, u179, u180, u181, u182, u183, u184, u185, u186, u187, u188, u189, u190, u191, u192, u193, u194, u195, u196, u197, u198, u199, u200, u201, u202, u203, u204, u205, u206, u207, u208, u209, u210, u211, u212, u213, u214, u215, u216, u217, u218, u219, u220, u221, u222, u223, u224, u225, u226, u227, u228, u229, u230, u231, u232, u233, u234, u235, u236, u237, u238, u239, u240, u241, u242, u243, u244, u245, u246, u247, u248, u249, u250, u251, u252, u253, u254, u255, u256, u257, u258, u259, u260, u261, u262, u263, u264, u265, u266, u267, u268, u269, u270, u271, u272, u273, u274, u275, u276, u277, u278, u279, u280, u281, u282, u283, u284, u285, u286, u287, u288, u289, u290, u291, u292, u293, u294, u295, u296, u297, u298, u299, u300, u301, u302, u303, u304, u305, u306, u307, u308, u309, u310, u311, u312, u313, u314, u315, u316, u317, u318, u319, u320, u321, u322, u323, u324, u325, u326, u327, u328, u329, u330, u331, u332, u333, u334, u335, u336, u337, u338, u339, u340, u341, u342, u343, u344, u345, u346, u347, u348, u349, u350, u351, u352, u353, u354, u355, u356, u357, u358, u359, u360, u361, u362, u363, u364, u365, u366, u367, u368, u369], []⟩ wx := by
  conv => arg 2; whnf
  have H := hid h
  have HL := hid hl
  have HF := hid hf
  have HQ := hid hQ
  clear h hl hf hQ
  go_wp2_with fail
  go_loopw [] (fun wr => ∃ k : Nat, G ≤ k ∧ k ≤ N ∧ wr.cell? ⟨b, 1, none⟩ = some (.int .i64 (k : Int)) ∧ Hid (POut wr b win k ua c us) ∧ Hid (∀ j, G ≤ j → j < k → f j = true) ∧ Hid (Kept [b] wx wr)) (fun wr => N - (intOf ((wr.cell? ⟨b, 1, none⟩).getD (.int .i64 0))).toNat)
  case atStart => exact ⟨G, Nat.le_refl _, hG, H.out.head.2.1, H, hid (fun j h1 h2 => absurd h2 (by omega)), hid (Kept.refl _ _)⟩
  case round =>
    obtain ⟨k, hGk, hkN, c1, HP, HJ, HK⟩ := hrel
    obtain ⟨-, -, c2⟩ := HP.out.head
    rw [HL.out] at c2
    have HQE : Hid (∀ w', (k = N ∨ f k = false) → POut w' b win k ua c us → Kept [b] wx w' → Q (.returned (.int .i64 0)) w') := fun w' hk hp hkk => by
      refine HQ.out w' ?_ hkk
      have e : firstIn (fun u => !f u) G N = k := firstIn_eq hGk hkN (fun j h1 h2 => by simp [HJ.out j h1 h2]) (fun h1 => by
        rcases hk with h2 | h2
        · omega
        · simp [h2])
      rw [e]
      exact hp
    by_cases hk : k < N
    · obtain ⟨ug, rfl, hub, hun⟩ := HP.out.un (i := k) (by rw [HL.out]; exact hk)
      have p2 := hun.c2
      rw [HF.out k hk] at p2
      clear hun
      have x1 : decide ((k : Int) < (N : Int)) = true := decide_eq_true (by omega)
      cases hfk : f k with
      | true =>
        rw [hfk] at p2
        have HFK := hid hfk
        clear hfk
        have hfr := HP.out.hd.free 1
        go_upto_region 50 with fail
        go_quiet (fail)
        go_wp2_with fail
        refine ⟨⟨k + 1, by omega, by omega, ?_, hid ?_, hid (fun j h1 h2 => ?_), hid ((HK.out.drewN _).setCell (by simp) _)⟩, ?_⟩
        · have := ((HP.out.drewN nq).setBeg (k + 1)).head.2.1
          exact this
        · exact (HP.out.drewN nq).setBeg (k + 1)
        · by_cases e : j = k
          · subst e; exact HFK.out
          · exact HJ.out j h1 (by omega)
        · have h3 : ((wr.drewN nq).setCell ⟨b, 1, none⟩ (.int .i64 ((k : Int) + 1))).cell? ⟨b, 1, none⟩ = some (.int .i64 ((k : Int) + 1)) := ((HP.out.drewN nq).setBeg (k + 1)).head.2.1
          rw [h3, c1]
          simp [intOf]
          omega
      | false =>
        rw [hfk] at p2
        have HFK := hid hfk
        clear hfk
        go_upto_region 50 with fail
        go_quiet (fail)
        go_wp2_with fail
        exact HQE.out _ (.inr HFK.out) (HP.out.drewN _) (HK.out.drewN _)
    · have x1 : decide ((k : Int) < (N : Int)) = false := decide_eq_false (by omega)
      go_upto_region 50 with fail
      go_quiet (fail)
      go_wp2_with fail
      exact HQE.out _ (.inl (by omega)) (HP.out.drewN _) (HK.out.drewN _)
end Go.Proofs.Ytbjgfoiikhbonaf
