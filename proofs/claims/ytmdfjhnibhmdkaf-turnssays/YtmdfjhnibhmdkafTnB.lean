import Derived.Test.YtmdfjhnibhmdkafTnA
namespace Go.Proofs.Ytmdfjhnibhmdkaf

/-! A SLOT ENDS; what it comes to. -/

theorem firstW_le (bw : Nat → Int) : 1 ≤ firstW bw ∧ firstW bw ≤ 16 := by
  unfold firstW
  cases hf : (List.range 16).find? fun a => decide (0 < bw (a + 1)) with
  | none => simp
  | some a =>
    have h2 := List.mem_range.1 (List.mem_of_find?_eq_some hf)
    simp only [Option.getD_some]
    omega
theorem mu_le {blocks : Nat} {s : SlM} (h : s.Ok blocks) : s.mu blocks ≤ (blocks - s.out.length) * 400000 + 170032 := by
  unfold SlM.mu
  have h1 := h.cr (firstW s.bw)
  have h2 := firstW_le s.bw
  have h3 : (10000 - s.cr (firstW s.bw)).toNat ≤ 10000 := by omega
  have h4 : (if s.opn = true then 17 else wayTo s.last (firstW s.bw)) ≤ 32 := by
    split
    · omega
    · unfold wayTo; split <;> omega
  omega
theorem way_step {last a : Nat} (hl : last ≤ 16) (ha : 1 ≤ a ∧ a ≤ 16) (hne : nextWho last ≠ a) : wayTo (nextWho last) a + 1 = wayTo last a := by
  unfold nextWho at *
  unfold wayTo
  split at hne <;> rename_i h1
  · rw [if_pos h1]
    split <;> split <;> omega
  · rw [if_neg h1]
    split <;> split <;> omega
theorem way_pos {last a : Nat} (hl : last ≤ 16) (ha : 1 ≤ a ∧ a ≤ 16) : 1 ≤ wayTo last a := by unfold wayTo; split <;> omega
theorem way_small {last a : Nat} (hl : 1 ≤ last) (ha : 1 ≤ a ∧ a ≤ 16) : wayTo last a ≤ 16 := by unfold wayTo; split <;> omega
/-- Each visit brings it on. -/
theorem visit_mu {q : Int} {fits : Nat → Int} {blocks : Nat} {s : SlM} (hq : 1 ≤ q) (hf : FitOk fits s.bw) (h : s.Ok blocks) (ho : s.out.length < blocks) (hw : anyB s.bw = true) : (visitM q fits blocks s).mu blocks < s.mu blocks := by
  obtain ⟨a1, a2, a3⟩ := firstW_spec hw
  obtain ⟨c1, c2⟩ := come_last h
  have hvo := visit_ok (blocks := blocks) (by omega : 0 ≤ q) hf h
  have hcr := h.cr (firstW s.bw)
  have other : ∀ s' : SlM, s'.last = s.come.last → s'.opn = false → s'.bw = s.bw → s'.out = s.out → s.come.last ≠ firstW s.bw → s'.cr (firstW s.bw) = s.cr (firstW s.bw) → s'.mu blocks < s.mu blocks := by
    intro s' e1 e2 e3 e4 hne e5
    unfold SlM.mu
    rw [e1, e2, e3, e4, e5, if_neg (by decide)]
    by_cases hop : s.opn = true
    · rw [if_pos hop]
      have := way_small (a := firstW s.bw) c1 ⟨a1, a2⟩
      omega
    · rw [if_neg hop]
      have hl : s.come.last = nextWho s.last := if_neg hop
      rw [hl] at hne ⊢
      have := way_step h.last ⟨a1, a2⟩ hne
      omega
  by_cases hb : 0 < s.come.bw s.come.last
  · have hv : visitM q fits blocks s = (serveM fits blocks (blocks + 1) (s.come.gain q (!s.opn))).leave := if_pos hb
    obtain ⟨g1, g2, g3, g4, g5⟩ := gain_ok (blocks := blocks) (by omega : 0 ≤ q) (!s.opn) (come_ok h)
    by_cases hc : 0 < (s.come.gain q (!s.opn)).bw (s.come.gain q (!s.opn)).last ∧ fits (s.come.gain q (!s.opn)).last ≤ (s.come.gain q (!s.opn)).cr (s.come.gain q (!s.opn)).last
    · have hm := serve_more (f := blocks) hc (by rw [g4]; exact ho)
      have hlv : ∀ t : SlM, t.leave.out = t.out := fun t => by unfold SlM.leave; split <;> rfl
      have h1 := mu_le hvo
      have h2 : s.out.length + 1 ≤ (visitM q fits blocks s).out.length := by
        rw [hv, hlv]
        rw [g4] at hm
        exact hm
      have h3 : (blocks - s.out.length) * 400000 ≤ s.mu blocks := by unfold SlM.mu; omega
      omega
    · rw [serve_stop hc] at hv
      have hbw : ¬ (s.come.gain q (!s.opn)).bw (s.come.gain q (!s.opn)).last = 0 := by
        rw [g2, g3]
        omega
      have hv2 : visitM q fits blocks s = s.come.gain q (!s.opn) := by
        rw [hv]
        unfold SlM.leave
        rw [if_neg hbw]
      rw [hv2]
      by_cases hA : s.come.last = firstW s.bw
      · have hfit := hf.pos (firstW s.bw) a3
        rw [g2, g3] at hc
        unfold SlM.mu
        rw [g2, g3, g4, g5]
        have e0 : s.come.bw = s.bw := rfl
        have e1 : s.come.out = s.out := rfl
        have e2 : s.come.opn = false := rfl
        rw [e0, e1, e2, if_neg (by decide)]
        rw [hA, e0] at hc
        rw [hA]
        have hw16 := way_small (last := firstW s.bw) (a := firstW s.bw) a1 ⟨a1, a2⟩
        by_cases hop : s.opn = true
        · have e3 : s.come.gain q (!s.opn) = s.come := by unfold SlM.gain; rw [hop]; rfl
          rw [e3, if_pos hop]
          have e4 : s.come.cr = s.cr := rfl
          rw [e4]
          omega
        · have hof : s.opn = false := by simpa using hop
          have e3 : (s.come.gain q (!s.opn)).cr (firstW s.bw) = s.cr (firstW s.bw) + q := by
            unfold SlM.gain
            rw [hof]
            show upd s.come.cr s.come.last (s.come.cr s.come.last + q) (firstW s.bw) = _
            rw [← hA, upd_at]
            rfl
          rw [e3] at hc ⊢
          rw [if_neg hop]
          have hp := way_pos (a := firstW s.bw) h.last ⟨a1, a2⟩
          have hlt : s.cr (firstW s.bw) + q < fits (firstW s.bw) := by
            rcases Int.lt_or_le (s.cr (firstW s.bw) + q) (fits (firstW s.bw)) with h' | h'
            · exact h'
            · exact absurd ⟨a3, h'⟩ hc
          omega
      · refine other _ g2 g5 (by rw [g3]; rfl) (by rw [g4]; rfl) hA ?_
        unfold SlM.gain
        split
        · exact upd_ne _ _ (fun e => hA e.symm)
        · rfl
  · have hv : visitM q fits blocks s = s.come.lose := if_neg hb
    have hA : s.come.last ≠ firstW s.bw := fun e => hb (by rw [e]; exact a3)
    rw [hv]
    refine other _ rfl rfl rfl rfl hA ?_
    exact upd_ne _ _ (fun e => hA e.symm)
def slotRun (q : Int) (fits : Nat → Int) (blocks : Nat) : Nat → SlM → SlM
  | 0, s => s
  | f + 1, s => if s.out.length < blocks ∧ anyB s.bw = true then slotRun q fits blocks f (visitM q fits blocks s) else s
theorem give_less {fits : Nat → Int} (s : SlM) (hb : 0 < s.bw s.last) : ∀ a, 0 < (s.give fits).bw a → 0 < s.bw a := fun a ha => by
  have ha' : 0 < upd s.bw s.last (max (s.bw s.last - fits s.last) 0) a := ha
  by_cases e : a = s.last
  · rw [e]; exact hb
  · rwa [upd_ne _ _ e] at ha'
theorem serve_less (fits : Nat → Int) (blocks : Nat) : ∀ (f : Nat) (s : SlM) (a : Nat), 0 < (serveM fits blocks f s).bw a → 0 < s.bw a
  | 0, _, _, h => h
  | f + 1, s, a, h => by
    unfold serveM at h
    split at h
    · rename_i hc
      split at h
      · exact h
      · exact give_less s hc.1 a (serve_less fits blocks f (s.give fits) a h)
    · exact h
theorem visit_less {q : Int} {fits : Nat → Int} {blocks : Nat} {s : SlM} (a : Nat) (h : 0 < (visitM q fits blocks s).bw a) : 0 < s.bw a := by
  unfold visitM at h
  split at h
  · have hl : ∀ t : SlM, t.leave.bw = t.bw := fun t => by unfold SlM.leave; split <;> rfl
    rw [hl] at h
    have h2 := serve_less fits blocks _ _ a h
    have hg : (s.come.gain q (!s.opn)).bw = s.bw := by unfold SlM.gain; split <;> rfl
    rwa [hg] at h2
  · exact h
theorem run_same {q : Int} {fits : Nat → Int} {blocks : Nat} (hq : 1 ≤ q) : ∀ (m : Nat) (s : SlM), s.mu blocks ≤ m → s.Ok blocks → FitOk fits s.bw → ∀ f f', s.mu blocks < f → s.mu blocks < f' → slotRun q fits blocks f s = slotRun q fits blocks f' s := by
  intro m
  induction m using Nat.strongRecOn with
  | ind m ih =>
    intro s hm h hf f f' hlt hlt'
    obtain ⟨g, rfl⟩ : ∃ g, f = g + 1 := ⟨f - 1, by omega⟩
    obtain ⟨g', rfl⟩ : ∃ g', f' = g' + 1 := ⟨f' - 1, by omega⟩
    show (if s.out.length < blocks ∧ anyB s.bw = true then _ else s) = (if s.out.length < blocks ∧ anyB s.bw = true then _ else s)
    by_cases hc : s.out.length < blocks ∧ anyB s.bw = true
    · rw [if_pos hc, if_pos hc]
      have hd := visit_mu hq hf h hc.1 hc.2
      exact ih _ (by omega) (visitM q fits blocks s) (Nat.le_refl _) (visit_ok (by omega) hf h) (hf.less visit_less) g g' (by omega) (by omega)
    · rw [if_neg hc, if_neg hc]
/-- What a Slot comes to. -/
def slotM (q : Int) (fits : Nat → Int) (blocks : Nat) (s : SlM) : SlM := slotRun q fits blocks (s.mu blocks + 1) s
theorem slot_stop {q : Int} {fits : Nat → Int} {blocks : Nat} {s : SlM} (hc : ¬ (s.out.length < blocks ∧ anyB s.bw = true)) : slotM q fits blocks s = s := if_neg hc
theorem slot_step {q : Int} {fits : Nat → Int} {blocks : Nat} {s : SlM} (hq : 1 ≤ q) (hf : FitOk fits s.bw) (h : s.Ok blocks) (hc : s.out.length < blocks ∧ anyB s.bw = true) : slotM q fits blocks s = slotM q fits blocks (visitM q fits blocks s) := by
  have e : slotM q fits blocks s = slotRun q fits blocks (s.mu blocks) (visitM q fits blocks s) := if_pos hc
  rw [e]
  have hd := visit_mu hq hf h hc.1 hc.2
  exact run_same hq _ (visitM q fits blocks s) (Nat.le_refl _) (visit_ok (by omega) hf h) (hf.less visit_less) _ _ hd (Nat.lt_succ_self _)
/-- What holds at the end of a Slot. -/
theorem slot_ind {q : Int} {fits : Nat → Int} {blocks : Nat} (hq : 1 ≤ q) (I : SlM → Prop) (hI : ∀ s, s.Ok blocks → FitOk fits s.bw → I s → s.out.length < blocks → anyB s.bw = true → I (visitM q fits blocks s)) :
    ∀ (m : Nat) (s : SlM), s.mu blocks ≤ m → s.Ok blocks → FitOk fits s.bw → I s → I (slotM q fits blocks s) ∧ (slotM q fits blocks s).Ok blocks ∧ ¬ ((slotM q fits blocks s).out.length < blocks ∧ anyB (slotM q fits blocks s).bw = true) := by
  intro m
  induction m using Nat.strongRecOn with
  | ind m ih =>
    intro s hm h hf hi
    by_cases hc : s.out.length < blocks ∧ anyB s.bw = true
    · rw [slot_step hq hf h hc]
      have hd := visit_mu hq hf h hc.1 hc.2
      exact ih _ (by omega) (visitM q fits blocks s) (Nat.le_refl _) (visit_ok (by omega) hf h) (hf.less visit_less) (hI s h hf hi hc.1 hc.2)
    · rw [slot_stop hc]
      exact ⟨hi, h, hc⟩
end Go.Proofs.Ytmdfjhnibhmdkaf
