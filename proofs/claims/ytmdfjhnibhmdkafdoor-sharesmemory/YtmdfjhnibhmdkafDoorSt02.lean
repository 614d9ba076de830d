import Derived.Test.YtmdfjhnibhmdkafDoorSt01
namespace Go.Proofs.YtmdfjhnibhmdkafDoor
theorem firstW_le (bw : Nat → Int) : 1 ≤ firstW bw ∧ firstW bw ≤ 16 := by
  unfold firstW
  cases hf : (List.range 16).find? fun a => decide (0 < bw (a + 1)) with
  | none => simp
  | some a =>
    have h2 := List.mem_range.1 (List.mem_of_find?_eq_some hf)
    simp only [Option.getD_some]
    omega
theorem mu_le {blocks : Nat} {s : SlM} (h : s.Ok blocks) : s.mu blocks ≤ (blocks - s.out.length) * 400000 + 170032 := by
  unfold SlM.mu
  have h1 := h.cr (firstW s.bw)
  have h2 := firstW_le s.bw
  have h3 : (10000 - s.cr (firstW s.bw)).toNat ≤ 10000 := by omega
  have h4 : (if s.opn = true then 17 else wayTo s.last (firstW s.bw)) ≤ 32 := by
    split
    · omega
    · unfold wayTo; split <;> omega
  omega
theorem way_step {last a : Nat} (hl : last ≤ 16) (ha : 1 ≤ a ∧ a ≤ 16) (hne : nextWho last ≠ a) : wayTo (nextWho last) a + 1 = wayTo last a := by
  unfold nextWho at *
  unfold wayTo
  split at hne <;> rename_i h1
  · rw [if_pos h1]
    split <;> split <;> omega
  · rw [if_neg h1]
    split <;> split <;> omega
theorem way_pos {last a : Nat} (hl : last ≤ 16) (ha : 1 ≤ a ∧ a ≤ 16) : 1 ≤ wayTo last a := by unfold wayTo; split <;> omega
theorem way_small {last a : Nat} (hl : 1 ≤ last) (ha : 1 ≤ a ∧ a ≤ 16) : wayTo last a ≤ 16 := by unfold wayTo; split <;> omega
/-- Each visit brings it on. -/
theorem visit_mu {q : Int} {fits : Nat → Int} {blocks : Nat} {s : SlM} (hq : 1 ≤ q) (hf : FitOk fits s.bw) (h : s.Ok blocks) (ho : s.out.length < blocks) (hw : anyB s.bw = true) : (visitM q fits blocks s).mu blocks < s.mu blocks := by
  obtain ⟨a1, a2, a3⟩ := firstW_spec hw
  obtain ⟨c1, c2⟩ := come_last h
  have hvo := visit_ok (blocks := blocks) (by omega : 0 ≤ q) hf h
  have hcr := h.cr (firstW s.bw)
  have other : ∀ s' : SlM, s'.last = s.come.last → s'.opn = false → s'.bw = s.bw → s'.out = s.out → s.come.last ≠ firstW s.bw → s'.cr (firstW s.bw) = s.cr (firstW s.bw) → s'.mu blocks < s.mu blocks := by
    intro s' e1 e2 e3 e4 hne e5
    unfold SlM.mu
    rw [e1, e2, e3, e4, e5, if_neg (by decide)]
    by_cases hop : s.opn = true
    · rw [if_pos hop]
      have := way_small (a := firstW s.bw) c1 ⟨a1, a2⟩
      omega
    · rw [if_neg hop]
      have hl : s.come.last = nextWho s.last := if_neg hop
      rw [hl] at hne ⊢
      have := way_step h.last ⟨a1, a2⟩ hne
      omega
  by_cases hb : 0 < s.come.bw s.come.last
  · have hv : visitM q fits blocks s = (serveM fits blocks (blocks + 1) (s.come.gain q (!s.opn))).leave := if_pos hb
    obtain ⟨g1, g2, g3, g4, g5⟩ := gain_ok (blocks := blocks) (by omega : 0 ≤ q) (!s.opn) (come_ok h)
    by_cases hc : 0 < (s.come.gain q (!s.opn)).bw (s.come.gain q (!s.opn)).last ∧ fits (s.come.gain q (!s.opn)).last ≤ (s.come.gain q (!s.opn)).cr (s.come.gain q (!s.opn)).last
    · have hm := serve_more (f := blocks) hc (by rw [g4]; exact ho)
      have hlv : ∀ t : SlM, t.leave.out = t.out := fun t => by unfold SlM.leave; split <;> rfl
      have h1 := mu_le hvo
      have h2 : s.out.length + 1 ≤ (visitM q fits blocks s).out.length := by
        rw [hv, hlv]
        rw [g4] at hm
        exact hm
      have h3 : (blocks - s.out.length) * 400000 ≤ s.mu blocks := by unfold SlM.mu; omega
      omega
    · rw [serve_stop hc] at hv
      have hbw : ¬ (s.come.gain q (!s.opn)).bw (s.come.gain q (!s.opn)).last = 0 := by
        rw [g2, g3]
        omega
      have hv2 : visitM q fits blocks s = s.come.gain q (!s.opn) := by
        rw [hv]
        unfold SlM.leave
        rw [if_neg hbw]
      rw [hv2]
      by_cases hA : s.come.last = firstW s.bw
      · have hfit := hf.pos (firstW s.bw) a3
        rw [g2, g3] at hc
        unfold SlM.mu
        rw [g2, g3, g4, g5]
        have e0 : s.come.bw = s.bw := rfl
        have e1 : s.come.out = s.out := rfl
        have e2 : s.come.opn = false := rfl
        rw [e0, e1, e2, if_neg (by decide)]
        rw [hA, e0] at hc
        rw [hA]
        have hw16 := way_small (last := firstW s.bw) (a := firstW s.bw) a1 ⟨a1, a2⟩
        by_cases hop : s.opn = true
        · have e3 : s.come.gain q (!s.opn) = s.come := by unfold SlM.gain; rw [hop]; rfl
          rw [e3, if_pos hop]
          have e4 : s.come.cr = s.cr := rfl
          rw [e4]
          omega
        · have hof : s.opn = false := by simpa using hop
          have e3 : (s.come.gain q (!s.opn)).cr (firstW s.bw) = s.cr (firstW s.bw) + q := by
            unfold SlM.gain
            rw [hof]
            show upd s.come.cr s.come.last (s.come.cr s.come.last + q) (firstW s.bw) = _
            rw [← hA, upd_at]
            rfl
          rw [e3] at hc ⊢
          rw [if_neg hop]
          have hp := way_pos (a := firstW s.bw) h.last ⟨a1, a2⟩
          have hlt : s.cr (firstW s.bw) + q < fits (firstW s.bw) := by
            rcases Int.lt_or_le (s.cr (firstW s.bw) + q) (fits (firstW s.bw)) with h' | h'
            · exact h'
            · exact absurd ⟨a3, h'⟩ hc
          omega
      · refine other _ g2 g5 (by rw [g3]; rfl) (by rw [g4]; rfl) hA ?_
        unfold SlM.gain
        split
        · exact upd_ne _ _ (fun e => hA e.symm)
        · rfl
  · have hv : visitM q fits blocks s = s.come.lose := if_neg hb
    have hA : s.come.last ≠ firstW s.bw := fun e => hb (by rw [e]; exact a3)
    rw [hv]
    refine other _ rfl rfl rfl rfl hA ?_
    exact upd_ne _ _ (fun e => hA e.symm)
def slotRun (q : Int) (fits : Nat → Int) (blocks : Nat) : Nat → SlM → SlM
  | 0, s => s
  | f + 1, s => if s.out.length < blocks ∧ anyB s.bw = true then slotRun q fits blocks f (visitM q fits blocks s) else s
theorem give_less {fits : Nat → Int} (s : SlM) (hb : 0 < s.bw s.last) : ∀ a, 0 < (s.give fits).bw a → 0 < s.bw a := fun a ha => by
  have ha' : 0 < upd s.bw s.last (max (s.bw s.last - fits s.last) 0) a := ha
  by_cases e : a = s.last
  · rw [e]; exact hb
  · rwa [upd_ne _ _ e] at ha'
theorem serve_less (fits : Nat → Int) (blocks : Nat) : ∀ (f : Nat) (s : SlM) (a : Nat), 0 < (serveM fits blocks f s).bw a → 0 < s.bw a
  | 0, _, _, h => h
  | f + 1, s, a, h => by
    unfold serveM at h
    split at h
    · rename_i hc
      split at h
      · exact h
      · exact give_less s hc.1 a (serve_less fits blocks f (s.give fits) a h)
    · exact h
theorem visit_less {q : Int} {fits : Nat → Int} {blocks : Nat} {s : SlM} (a : Nat) (h : 0 < (visitM q fits blocks s).bw a) : 0 < s.bw a := by
  unfold visitM at h
  split at h
  · have hl : ∀ t : SlM, t.leave.bw = t.bw := fun t => by unfold SlM.leave; split <;> rfl
    rw [hl] at h
    have h2 := serve_less fits blocks _ _ a h
    have hg : (s.come.gain q (!s.opn)).bw = s.bw := by unfold SlM.gain; split <;> rfl
    rwa [hg] at h2
  · exact h
theorem run_same {q : Int} {fits : Nat → Int} {blocks : Nat} (hq : 1 ≤ q) : ∀ (m : Nat) (s : SlM), s.mu blocks ≤ m → s.Ok blocks → FitOk fits s.bw → ∀ f f', s.mu blocks < f → s.mu blocks < f' → slotRun q fits blocks f s = slotRun q fits blocks f' s := by
  intro m
  induction m using Nat.strongRecOn with
  | ind m ih =>
    intro s hm h hf f f' hlt hlt'
    obtain ⟨g, rfl⟩ : ∃ g, f = g + 1 := ⟨f - 1, by omega⟩
    obtain ⟨g', rfl⟩ : ∃ g', f' = g' + 1 := ⟨f' - 1, by omega⟩
    show (if s.out.length < blocks ∧ anyB s.bw = true then _ else s) = (if s.out.length < blocks ∧ anyB s.bw = true then _ else s)
    by_cases hc : s.out.length < blocks ∧ anyB s.bw = true
    · rw [if_pos hc, if_pos hc]
      have hd := visit_mu hq hf h hc.1 hc.2
      exact ih _ (by omega) (visitM q fits blocks s) (Nat.le_refl _) (visit_ok (by omega) hf h) (hf.less visit_less) g g' (by omega) (by omega)
    · rw [if_neg hc, if_neg hc]
/-- What a Slot comes to. -/
def slotM (q : Int) (fits : Nat → Int) (blocks : Nat) (s : SlM) : SlM := slotRun q fits blocks (s.mu blocks + 1) s
theorem slot_stop {q : Int} {fits : Nat → Int} {blocks : Nat} {s : SlM} (hc : ¬ (s.out.length < blocks ∧ anyB s.bw = true)) : slotM q fits blocks s = s := if_neg hc
theorem slot_step {q : Int} {fits : Nat → Int} {blocks : Nat} {s : SlM} (hq : 1 ≤ q) (hf : FitOk fits s.bw) (h : s.Ok blocks) (hc : s.out.length < blocks ∧ anyB s.bw = true) : slotM q fits blocks s = slotM q fits blocks (visitM q fits blocks s) := by
  have e : slotM q fits blocks s = slotRun q fits blocks (s.mu blocks) (visitM q fits blocks s) := if_pos hc
  rw [e]
  have hd := visit_mu hq hf h hc.1 hc.2
  exact run_same hq _ (visitM q fits blocks s) (Nat.le_refl _) (visit_ok (by omega) hf h) (hf.less visit_less) _ _ hd (Nat.lt_succ_self _)
/-- What holds at the end of a Slot. -/
theorem slot_ind {q : Int} {fits : Nat → Int} {blocks : Nat} (hq : 1 ≤ q) (I : SlM → Prop) (hI : ∀ s, s.Ok blocks → FitOk fits s.bw → I s → s.out.length < blocks → anyB s.bw = true → I (visitM q fits blocks s)) :
    ∀ (m : Nat) (s : SlM), s.mu blocks ≤ m → s.Ok blocks → FitOk fits s.bw → I s → I (slotM q fits blocks s) ∧ (slotM q fits blocks s).Ok blocks ∧ ¬ ((slotM q fits blocks s).out.length < blocks ∧ anyB (slotM q fits blocks s).bw = true) := by
  intro m
  induction m using Nat.strongRecOn with
  | ind m ih =>
    intro s hm h hf hi
    by_cases hc : s.out.length < blocks ∧ anyB s.bw = true
    · rw [slot_step hq hf h hc]
      have hd := visit_mu hq hf h hc.1 hc.2
      exact ih _ (by omega) (visitM q fits blocks s) (Nat.le_refl _) (visit_ok (by omega) hf h) (hf.less visit_less) (hI s h hf hi hc.1 hc.2)
    · rw [slot_stop hc]
      exact ⟨hi, h, hc⟩
end Go.Proofs.YtmdfjhnibhmdkafDoor
namespace Go.Proofs.YtmdfjhnibhmdkafDoor
/-- How many bytes somebody was given. -/
def totM (fits : Nat → Int) : List Int → Nat → Int
  | [], _ => 0
  | x :: l, a => (if x = (a : Int) then fits a else 0) + totM fits l a
theorem totM_snoc (fits : Nat → Int) (x : Int) (a : Nat) : ∀ l : List Int, totM fits (l ++ [x]) a = totM fits l a + if x = (a : Int) then fits a else 0
  | [] => by simp [totM]
  | y :: l => by
    rw [List.cons_append]
    show _ + totM fits (l ++ [x]) a = _ + totM fits l a + _
    rw [totM_snoc fits x a l]
    omega
theorem totM_le {fits : Nat → Int} {a : Nat} (h : 0 ≤ fits a ∧ fits a ≤ 10000) : ∀ l : List Int, 0 ≤ totM fits l a ∧ totM fits l a ≤ 10000 * l.length
  | [] => by simp [totM]
  | x :: l => by
    have ih := totM_le h l
    show 0 ≤ (if x = (a : Int) then fits a else 0) + totM fits l a ∧ (if x = (a : Int) then fits a else 0) + totM fits l a ≤ 10000 * ((x :: l).length : Nat)
    rw [List.length_cons]
    split <;> omega
/-- What holds while all of n users wait all the time. -/
structure FairI (q : Int) (fits : Nat → Int) (n : Nat) (G : Nat → Int) (Q : Int) (s : SlM) : Prop where
  eq : ∀ a, 1 ≤ a → a ≤ n → G a + totM fits s.out a = Q + (if a ≤ s.last then q else 0) - s.cr a
  low : ∀ a, 1 ≤ a → a ≤ n → s.cr a < fits a ∨ (s.opn = true ∧ a = s.last ∧ s.cr a < q + fits a)
  bw : ∀ a, 1 ≤ a → a ≤ n → s.bw a = 1000000 - totM fits s.out a
  none : ∀ a, n < a → s.bw a = 0
  mem : ∀ x ∈ s.out, 1 ≤ x ∧ x ≤ (n : Int)
/-- .. and within a visit. -/
structure FairV (q : Int) (fits : Nat → Int) (n : Nat) (G : Nat → Int) (Q : Int) (s : SlM) : Prop where
  eq : ∀ a, 1 ≤ a → a ≤ n → G a + totM fits s.out a = Q + (if a ≤ s.last then q else 0) - s.cr a
  low : ∀ a, 1 ≤ a → a ≤ n → a ≠ s.last → s.cr a < fits a
  own : s.cr s.last < q + fits s.last
  opn : s.opn = false
  bw : ∀ a, 1 ≤ a → a ≤ n → s.bw a = 1000000 - totM fits s.out a
  none : ∀ a, n < a → s.bw a = 0
  mem : ∀ x ∈ s.out, 1 ≤ x ∧ x ≤ (n : Int)
def Fits16 (fits : Nat → Int) (n : Nat) : Prop := ∀ a, 1 ≤ a → a ≤ n → 1 ≤ fits a ∧ fits a ≤ 10000
theorem bw_pos {fits : Nat → Int} {n a : Nat} {l : List Int} (hF : Fits16 fits n) (h1 : 1 ≤ a) (h2 : a ≤ n) (hl : l.length ≤ 63) : 370000 ≤ 1000000 - totM fits l a := by
  have hf := hF a h1 h2
  have := totM_le (a := a) (fits := fits) ⟨by omega, hf.2⟩ l
  omega
theorem FairV.give {q : Int} {fits : Nat → Int} {n : Nat} {G : Nat → Int} {Q : Int} {s : SlM} {blocks : Nat} (h : FairV q fits n G Q s) (hF : Fits16 fits n) (hA : 1 ≤ s.last ∧ s.last ≤ n) (ho : s.out.length < blocks) (hb : blocks ≤ 63) : FairV q fits n G Q (s.give fits) := by
  have hlt := hF s.last hA.1 hA.2
  have hbw := h.bw s.last hA.1 hA.2
  have hpos := bw_pos (l := s.out) hF hA.1 hA.2 (by omega)
  refine ⟨fun a h1 h2 => ?_, fun a h1 h2 hne => ?_, ?_, h.opn, fun a h1 h2 => ?_, fun a ha => ?_, fun x hx => ?_⟩
  · show G a + totM fits (s.out ++ [(s.last : Int)]) a = Q + (if a ≤ s.last then q else 0) - upd s.cr s.last (s.cr s.last - fits s.last) a
    have := h.eq a h1 h2
    rw [totM_snoc]
    by_cases e : a = s.last
    · subst e
      rw [upd_at, if_pos rfl]
      omega
    · rw [upd_ne _ _ e, if_neg (by omega)]
      omega
  · show upd s.cr s.last (s.cr s.last - fits s.last) a < fits a
    rw [upd_ne _ _ (show a ≠ s.last from hne)]
    exact h.low a h1 h2 hne
  · show upd s.cr s.last (s.cr s.last - fits s.last) s.last < q + fits s.last
    rw [upd_at]
    have := h.own
    omega
  · show upd s.bw s.last (max (s.bw s.last - fits s.last) 0) a = 1000000 - totM fits (s.out ++ [(s.last : Int)]) a
    rw [totM_snoc]
    by_cases e : a = s.last
    · subst e
      rw [upd_at, if_pos rfl, hbw]
      omega
    · rw [upd_ne _ _ e, if_neg (by omega), h.bw a h1 h2]
      omega
  · show upd s.bw s.last (max (s.bw s.last - fits s.last) 0) a = 0
    rw [upd_ne _ _ (by omega)]
    exact h.none a ha
  · rcases List.mem_append.1 hx with hx | hx
    · exact h.mem x hx
    · obtain rfl : x = (s.last : Int) := by simpa using hx
      omega
theorem FairV.serve {q : Int} {fits : Nat → Int} {n : Nat} {G : Nat → Int} {Q : Int} {blocks : Nat} (hF : Fits16 fits n) (hb : blocks ≤ 63) : ∀ (f : Nat) (s : SlM), blocks < f + s.out.length → s.out.length ≤ blocks → FairV q fits n G Q s → 1 ≤ s.last ∧ s.last ≤ n → FairI q fits n G Q (serveM fits blocks f s) ∧ 0 < (serveM fits blocks f s).bw (serveM fits blocks f s).last
  | 0, s, hf, ho, _, _ => by omega
  | f + 1, s, hf, ho, h, hA => by
    have hpos := bw_pos (l := s.out) hF hA.1 hA.2 (by omega)
    have hbw := h.bw s.last hA.1 hA.2
    by_cases hc : 0 < s.bw s.last ∧ fits s.last ≤ s.cr s.last
    · by_cases hof : s.out.length = blocks
      · rw [serve_full hc hof]
        refine ⟨⟨h.eq, fun a h1 h2 => ?_, h.bw, h.none, h.mem⟩, hc.1⟩
        by_cases e : a = s.last
        · exact .inr ⟨rfl, e, by rw [e]; exact h.own⟩
        · exact .inl (h.low a h1 h2 e)
      · rw [serve_give hc hof]
        refine FairV.serve hF hb f (s.give fits) ?_ ?_ (h.give hF hA (by omega) hb) hA
        · show blocks < f + (s.out ++ [(s.last : Int)]).length
          simp; omega
        · show (s.out ++ [(s.last : Int)]).length ≤ blocks
          simp; omega
    · rw [serve_stop hc]
      refine ⟨⟨h.eq, fun a h1 h2 => ?_, h.bw, h.none, h.mem⟩, by omega⟩
      by_cases e : a = s.last
      · left
        rw [e]
        omega
      · exact .inl (h.low a h1 h2 e)
theorem FairI.visit {q : Int} {fits : Nat → Int} {n blocks : Nat} {G : Nat → Int} {Q : Int} {s : SlM} (hq : 1 ≤ q) (hF : Fits16 fits n) (hn : n ≤ 16) (hb : blocks ≤ 63) (hok : s.Ok blocks) (h : FairI q fits n G Q s) : ∃ Q', FairI q fits n G Q' (visitM q fits blocks s) := by
  obtain ⟨c1, c2⟩ := come_last hok
  have hol := hok.out
  by_cases hop : s.opn = true
  · -- an open visit goes on
    have hl : s.come.last = s.last := if_pos hop
    refine ⟨Q, ?_⟩
    by_cases hA : s.last ≤ n
    · have hbp : 0 < s.come.bw s.come.last := by
        rw [hl]
        show 0 < s.bw s.last
        have := h.bw s.last (by omega) hA
        have := bw_pos (l := s.out) hF (by omega : 1 ≤ s.last) hA (by omega)
        omega
      have hg : s.come.gain q (!s.opn) = s.come := by unfold SlM.gain; rw [hop]; rfl
      have hv : visitM q fits blocks s = (serveM fits blocks (blocks + 1) s.come).leave := by unfold visitM; rw [if_pos hbp, hg]
      have hV : FairV q fits n G Q s.come := by
        refine ⟨fun a h1 h2 => ?_, fun a h1 h2 hne => ?_, ?_, rfl, h.bw, h.none, h.mem⟩
        · rw [hl]; exact h.eq a h1 h2
        · rw [hl] at hne
          rcases h.low a h1 h2 with h' | h'
          · exact h'
          · exact absurd h'.2.1 hne
        · rw [hl]
          show s.cr s.last < q + fits s.last
          rcases h.low s.last (by omega) hA with h' | h'
          · omega
          · exact h'.2.2
      obtain ⟨r1, r2⟩ := FairV.serve hF hb (blocks + 1) s.come (by show blocks < blocks + 1 + s.out.length; omega) hol hV (by rw [hl]; exact ⟨by omega, hA⟩)
      rw [hv]
      unfold SlM.leave
      rw [if_neg (by omega)]
      exact r1
    · have hbz : ¬ 0 < s.come.bw s.come.last := by
        rw [hl]
        show ¬ 0 < s.bw s.last
        rw [h.none s.last (by omega)]
        omega
      have hv : visitM q fits blocks s = s.come.lose := if_neg hbz
      rw [hv]
      refine ⟨fun a h1 h2 => ?_, fun a h1 h2 => ?_, h.bw, h.none, h.mem⟩
      · show G a + totM fits s.out a = Q + (if a ≤ s.come.last then q else 0) - upd s.cr s.come.last 0 a
        rw [upd_ne _ _ (by rw [hl]; omega), hl]
        exact h.eq a h1 h2
      · left
        show upd s.cr s.come.last 0 a < fits a
        rw [upd_ne _ _ (by rw [hl]; omega)]
        rcases h.low a h1 h2 with h' | h'
        · exact h'
        · omega
  · have hof : s.opn = false := by simpa using hop
    have hl : s.come.last = nextWho s.last := if_neg hop
    have hlow : ∀ a, 1 ≤ a → a ≤ n → s.cr a < fits a := fun a h1 h2 => by
      rcases h.low a h1 h2 with h' | h'
      · exact h'
      · rw [hof] at h'; exact absurd h'.1 (by decide)
    have hll := hok.last
    have hQ : ∃ Q', ∀ a, 1 ≤ a → a ≤ 16 → Q' + (if a ≤ nextWho s.last then q else 0) = Q + (if a ≤ s.last then q else 0) + (if a = nextWho s.last then q else 0) := by
      by_cases hw : 16 < s.last + 1
      · refine ⟨Q + q, fun a h1 h2 => ?_⟩
        have e : nextWho s.last = 1 := if_pos hw
        rw [e, if_pos (show a ≤ s.last by omega)]
        by_cases ea : a = 1
        · rw [if_pos (by omega), if_pos ea]
        · rw [if_neg (by omega), if_neg ea]
      · refine ⟨Q, fun a h1 h2 => ?_⟩
        have e : nextWho s.last = s.last + 1 := if_neg hw
        rw [e]
        by_cases ea : a = s.last + 1
        · rw [if_pos (by omega), if_neg (by omega), if_pos ea]
          omega
        · rw [if_neg ea]
          by_cases eb : a ≤ s.last
          · rw [if_pos (by omega), if_pos eb]; omega
          · rw [if_neg (by omega), if_neg eb]; omega
    obtain ⟨Q', hQ'⟩ := hQ
    refine ⟨Q', ?_⟩
    rw [hl] at c1 c2
    by_cases hA : nextWho s.last ≤ n
    · have hbp : 0 < s.come.bw s.come.last := by
        rw [hl]
        show 0 < s.bw (nextWho s.last)
        have := h.bw (nextWho s.last) c1 hA
        have := bw_pos (l := s.out) hF c1 hA (by omega)
        omega
      have hg : s.come.gain q (!s.opn) = { s.come with cr := upd s.come.cr s.come.last (s.come.cr s.come.last + q) } := by unfold SlM.gain; rw [hof]; rfl
      have hv : visitM q fits blocks s = (serveM fits blocks (blocks + 1) (s.come.gain q (!s.opn))).leave := if_pos hbp
      have hV : FairV q fits n G Q' (s.come.gain q (!s.opn)) := by
        rw [hg]
        refine ⟨fun a h1 h2 => ?_, fun a h1 h2 hne => ?_, ?_, rfl, h.bw, h.none, h.mem⟩
        · show G a + totM fits s.out a = Q' + (if a ≤ s.come.last then q else 0) - upd s.cr s.come.last (s.cr s.come.last + q) a
          have h3 := h.eq a h1 h2
          have h4 := hQ' a h1 (by omega)
          rw [hl]
          by_cases e : a = nextWho s.last
          · rw [if_pos e] at h4
            rw [← e, upd_at]
            rw [← e] at h4
            omega
          · rw [if_neg e] at h4
            rw [upd_ne _ _ e]
            omega
        · show upd s.cr s.come.last (s.cr s.come.last + q) a < fits a
          rw [upd_ne _ _ hne]
          exact hlow a h1 h2
        · show upd s.cr s.come.last (s.cr s.come.last + q) s.come.last < q + fits s.come.last
          rw [upd_at, hl]
          have := hlow _ c1 hA
          omega
      have hgl : (s.come.gain q (!s.opn)).last = nextWho s.last := by rw [hg]; exact hl
      have hgo : (s.come.gain q (!s.opn)).out = s.out := by rw [hg]; rfl
      obtain ⟨r1, r2⟩ := FairV.serve hF hb (blocks + 1) (s.come.gain q (!s.opn)) (by rw [hgo]; omega) (by rw [hgo]; exact hol) hV (by rw [hgl]; exact ⟨c1, hA⟩)
      rw [hv]
      unfold SlM.leave
      rw [if_neg (by omega)]
      exact r1
    · have hbz : ¬ 0 < s.come.bw s.come.last := by
        rw [hl]
        show ¬ 0 < s.bw (nextWho s.last)
        rw [h.none _ (by omega)]
        omega
      have hv : visitM q fits blocks s = s.come.lose := if_neg hbz
      rw [hv]
      refine ⟨fun a h1 h2 => ?_, fun a h1 h2 => ?_, h.bw, h.none, h.mem⟩
      · show G a + totM fits s.out a = Q' + (if a ≤ s.come.last then q else 0) - upd s.cr s.come.last 0 a
        have h3 := h.eq a h1 h2
        have h4 := hQ' a h1 (by omega)
        rw [if_neg (show ¬ a = nextWho s.last by omega)] at h4
        rw [upd_ne _ _ (by rw [hl]; omega), hl]
        omega
      · left
        show upd s.cr s.come.last 0 a < fits a
        rw [upd_ne _ _ (by rw [hl]; omega)]
        exact hlow a h1 h2
/-- What stays from Slot to Slot. -/
structure FairS (q : Int) (fits : Nat → Int) (n : Nat) (G : Nat → Int) (last : Nat) (opn : Bool) (cr : Nat → Int) : Prop where
  hlast : last ≤ 16
  hopn : opn = true → 1 ≤ last
  hcr : ∀ a, 0 ≤ cr a
  eq : ∃ Q, ∀ a, 1 ≤ a → a ≤ n → G a = Q + (if a ≤ last then q else 0) - cr a
  low : ∀ a, 1 ≤ a → a ≤ n → cr a < fits a ∨ (opn = true ∧ a = last ∧ cr a < q + fits a)
theorem FairS.start (q : Int) {fits : Nat → Int} {n : Nat} (hF : Fits16 fits n) : FairS q fits n (fun _ => 0) 0 false (fun _ => 0) :=
  ⟨by omega, fun h => (by cases h), fun _ => by omega, ⟨0, fun a h1 _ => by rw [if_neg (by omega)]; omega⟩, fun a h1 h2 => .inl (by have := hF a h1 h2; omega)⟩
theorem FairS.credit {q : Int} {fits : Nat → Int} {n last : Nat} {G : Nat → Int} {opn : Bool} {cr : Nat → Int} (hq : 1 ≤ q) (hF : Fits16 fits n) (h : FairS q fits n G last opn cr) {a : Nat} (a1 : 1 ≤ a) (a2 : a ≤ n) : 0 ≤ cr a ∧ cr a < q + 10000 := by
  have := hF a a1 a2
  have := h.hcr a
  rcases h.low a a1 a2 with h' | ⟨_, _, h'⟩ <;> omega
end Go.Proofs.YtmdfjhnibhmdkafDoor
