import Derived.Test.YtmdfjhnibhmdkafTnB
namespace Go.Proofs.Ytmdfjhnibhmdkaf

/-! A TURN COMES TO ALL WHO WAIT: mathematics. -/

/-- How many bytes somebody was given. -/
def totM (fits : Nat → Int) : List Int → Nat → Int
  | [], _ => 0
  | x :: l, a => (if x = (a : Int) then fits a else 0) + totM fits l a
theorem totM_snoc (fits : Nat → Int) (x : Int) (a : Nat) : ∀ l : List Int, totM fits (l ++ [x]) a = totM fits l a + if x = (a : Int) then fits a else 0
  | [] => by simp [totM]
  | y :: l => by
    rw [List.cons_append]
    show _ + totM fits (l ++ [x]) a = _ + totM fits l a + _
    rw [totM_snoc fits x a l]
    omega
theorem totM_le {fits : Nat → Int} {a : Nat} (h : 0 ≤ fits a ∧ fits a ≤ 10000) : ∀ l : List Int, 0 ≤ totM fits l a ∧ totM fits l a ≤ 10000 * l.length
  | [] => by simp [totM]
  | x :: l => by
    have ih := totM_le h l
    show 0 ≤ (if x = (a : Int) then fits a else 0) + totM fits l a ∧ (if x = (a : Int) then fits a else 0) + totM fits l a ≤ 10000 * ((x :: l).length : Nat)
    rw [List.length_cons]
    split <;> omega
/-- What holds while all of n users wait all the time. -/
structure FairI (q : Int) (fits : Nat → Int) (n : Nat) (G : Nat → Int) (Q : Int) (s : SlM) : Prop where
  eq : ∀ a, 1 ≤ a → a ≤ n → G a + totM fits s.out a = Q + (if a ≤ s.last then q else 0) - s.cr a
  low : ∀ a, 1 ≤ a → a ≤ n → s.cr a < fits a ∨ (s.opn = true ∧ a = s.last ∧ s.cr a < q + fits a)
  bw : ∀ a, 1 ≤ a → a ≤ n → s.bw a = 1000000 - totM fits s.out a
  none : ∀ a, n < a → s.bw a = 0
  mem : ∀ x ∈ s.out, 1 ≤ x ∧ x ≤ (n : Int)
/-- .. and within a visit. -/
structure FairV (q : Int) (fits : Nat → Int) (n : Nat) (G : Nat → Int) (Q : Int) (s : SlM) : Prop where
  eq : ∀ a, 1 ≤ a → a ≤ n → G a + totM fits s.out a = Q + (if a ≤ s.last then q else 0) - s.cr a
  low : ∀ a, 1 ≤ a → a ≤ n → a ≠ s.last → s.cr a < fits a
  own : s.cr s.last < q + fits s.last
  opn : s.opn = false
  bw : ∀ a, 1 ≤ a → a ≤ n → s.bw a = 1000000 - totM fits s.out a
  none : ∀ a, n < a → s.bw a = 0
  mem : ∀ x ∈ s.out, 1 ≤ x ∧ x ≤ (n : Int)
def Fits16 (fits : Nat → Int) (n : Nat) : Prop := ∀ a, 1 ≤ a → a ≤ n → 1 ≤ fits a ∧ fits a ≤ 10000
theorem bw_pos {fits : Nat → Int} {n a : Nat} {l : List Int} (hF : Fits16 fits n) (h1 : 1 ≤ a) (h2 : a ≤ n) (hl : l.length ≤ 63) : 370000 ≤ 1000000 - totM fits l a := by
  have hf := hF a h1 h2
  have := totM_le (a := a) (fits := fits) ⟨by omega, hf.2⟩ l
  omega
theorem FairV.give {q : Int} {fits : Nat → Int} {n : Nat} {G : Nat → Int} {Q : Int} {s : SlM} {blocks : Nat} (h : FairV q fits n G Q s) (hF : Fits16 fits n) (hA : 1 ≤ s.last ∧ s.last ≤ n) (ho : s.out.length < blocks) (hb : blocks ≤ 63) : FairV q fits n G Q (s.give fits) := by
  have hlt := hF s.last hA.1 hA.2
  have hbw := h.bw s.last hA.1 hA.2
  have hpos := bw_pos (l := s.out) hF hA.1 hA.2 (by omega)
  refine ⟨fun a h1 h2 => ?_, fun a h1 h2 hne => ?_, ?_, h.opn, fun a h1 h2 => ?_, fun a ha => ?_, fun x hx => ?_⟩
  · show G a + totM fits (s.out ++ [(s.last : Int)]) a = Q + (if a ≤ s.last then q else 0) - upd s.cr s.last (s.cr s.last - fits s.last) a
    have := h.eq a h1 h2
    rw [totM_snoc]
    by_cases e : a = s.last
    · subst e
      rw [upd_at, if_pos rfl]
      omega
    · rw [upd_ne _ _ e, if_neg (by omega)]
      omega
  · show upd s.cr s.last (s.cr s.last - fits s.last) a < fits a
    rw [upd_ne _ _ (show a ≠ s.last from hne)]
    exact h.low a h1 h2 hne
  · show upd s.cr s.last (s.cr s.last - fits s.last) s.last < q + fits s.last
    rw [upd_at]
    have := h.own
    omega
  · show upd s.bw s.last (max (s.bw s.last - fits s.last) 0) a = 1000000 - totM fits (s.out ++ [(s.last : Int)]) a
    rw [totM_snoc]
    by_cases e : a = s.last
    · subst e
      rw [upd_at, if_pos rfl, hbw]
      omega
    · rw [upd_ne _ _ e, if_neg (by omega), h.bw a h1 h2]
      omega
  · show upd s.bw s.last (max (s.bw s.last - fits s.last) 0) a = 0
    rw [upd_ne _ _ (by omega)]
    exact h.none a ha
  · rcases List.mem_append.1 hx with hx | hx
    · exact h.mem x hx
    · obtain rfl : x = (s.last : Int) := by simpa using hx
      omega
theorem FairV.serve {q : Int} {fits : Nat → Int} {n : Nat} {G : Nat → Int} {Q : Int} {blocks : Nat} (hF : Fits16 fits n) (hb : blocks ≤ 63) : ∀ (f : Nat) (s : SlM), blocks < f + s.out.length → s.out.length ≤ blocks → FairV q fits n G Q s → 1 ≤ s.last ∧ s.last ≤ n → FairI q fits n G Q (serveM fits blocks f s) ∧ 0 < (serveM fits blocks f s).bw (serveM fits blocks f s).last
  | 0, s, hf, ho, _, _ => by omega
  | f + 1, s, hf, ho, h, hA => by
    have hpos := bw_pos (l := s.out) hF hA.1 hA.2 (by omega)
    have hbw := h.bw s.last hA.1 hA.2
    by_cases hc : 0 < s.bw s.last ∧ fits s.last ≤ s.cr s.last
    · by_cases hof : s.out.length = blocks
      · rw [serve_full hc hof]
        refine ⟨⟨h.eq, fun a h1 h2 => ?_, h.bw, h.none, h.mem⟩, hc.1⟩
        by_cases e : a = s.last
        · exact .inr ⟨rfl, e, by rw [e]; exact h.own⟩
        · exact .inl (h.low a h1 h2 e)
      · rw [serve_give hc hof]
        refine FairV.serve hF hb f (s.give fits) ?_ ?_ (h.give hF hA (by omega) hb) hA
        · show blocks < f + (s.out ++ [(s.last : Int)]).length
          simp; omega
        · show (s.out ++ [(s.last : Int)]).length ≤ blocks
          simp; omega
    · rw [serve_stop hc]
      refine ⟨⟨h.eq, fun a h1 h2 => ?_, h.bw, h.none, h.mem⟩, by omega⟩
      by_cases e : a = s.last
      · left
        rw [e]
        omega
      · exact .inl (h.low a h1 h2 e)
theorem FairI.visit {q : Int} {fits : Nat → Int} {n blocks : Nat} {G : Nat → Int} {Q : Int} {s : SlM} (hq : 1 ≤ q) (hF : Fits16 fits n) (hn : n ≤ 16) (hb : blocks ≤ 63) (hok : s.Ok blocks) (h : FairI q fits n G Q s) : ∃ Q', FairI q fits n G Q' (visitM q fits blocks s) := by
  obtain ⟨c1, c2⟩ := come_last hok
  have hol := hok.out
  by_cases hop : s.opn = true
  · -- an open visit goes on
    have hl : s.come.last = s.last := if_pos hop
    refine ⟨Q, ?_⟩
    by_cases hA : s.last ≤ n
    · have hbp : 0 < s.come.bw s.come.last := by
        rw [hl]
        show 0 < s.bw s.last
        have := h.bw s.last (by omega) hA
        have := bw_pos (l := s.out) hF (by omega : 1 ≤ s.last) hA (by omega)
        omega
      have hg : s.come.gain q (!s.opn) = s.come := by unfold SlM.gain; rw [hop]; rfl
      have hv : visitM q fits blocks s = (serveM fits blocks (blocks + 1) s.come).leave := by unfold visitM; rw [if_pos hbp, hg]
      have hV : FairV q fits n G Q s.come := by
        refine ⟨fun a h1 h2 => ?_, fun a h1 h2 hne => ?_, ?_, rfl, h.bw, h.none, h.mem⟩
        · rw [hl]; exact h.eq a h1 h2
        · rw [hl] at hne
          rcases h.low a h1 h2 with h' | h'
          · exact h'
          · exact absurd h'.2.1 hne
        · rw [hl]
          show s.cr s.last < q + fits s.last
          rcases h.low s.last (by omega) hA with h' | h'
          · omega
          · exact h'.2.2
      obtain ⟨r1, r2⟩ := FairV.serve hF hb (blocks + 1) s.come (by show blocks < blocks + 1 + s.out.length; omega) hol hV (by rw [hl]; exact ⟨by omega, hA⟩)
      rw [hv]
      unfold SlM.leave
      rw [if_neg (by omega)]
      exact r1
    · have hbz : ¬ 0 < s.come.bw s.come.last := by
        rw [hl]
        show ¬ 0 < s.bw s.last
        rw [h.none s.last (by omega)]
        omega
      have hv : visitM q fits blocks s = s.come.lose := if_neg hbz
      rw [hv]
      refine ⟨fun a h1 h2 => ?_, fun a h1 h2 => ?_, h.bw, h.none, h.mem⟩
      · show G a + totM fits s.out a = Q + (if a ≤ s.come.last then q else 0) - upd s.cr s.come.last 0 a
        rw [upd_ne _ _ (by rw [hl]; omega), hl]
        exact h.eq a h1 h2
      · left
        show upd s.cr s.come.last 0 a < fits a
        rw [upd_ne _ _ (by rw [hl]; omega)]
        rcases h.low a h1 h2 with h' | h'
        · exact h'
        · omega
  · have hof : s.opn = false := by simpa using hop
    have hl : s.come.last = nextWho s.last := if_neg hop
    have hlow : ∀ a, 1 ≤ a → a ≤ n → s.cr a < fits a := fun a h1 h2 => by
      rcases h.low a h1 h2 with h' | h'
      · exact h'
      · rw [hof] at h'; exact absurd h'.1 (by decide)
    have hll := hok.last
    have hQ : ∃ Q', ∀ a, 1 ≤ a → a ≤ 16 → Q' + (if a ≤ nextWho s.last then q else 0) = Q + (if a ≤ s.last then q else 0) + (if a = nextWho s.last then q else 0) := by
      by_cases hw : 16 < s.last + 1
      · refine ⟨Q + q, fun a h1 h2 => ?_⟩
        have e : nextWho s.last = 1 := if_pos hw
        rw [e, if_pos (show a ≤ s.last by omega)]
        by_cases ea : a = 1
        · rw [if_pos (by omega), if_pos ea]
        · rw [if_neg (by omega), if_neg ea]
      · refine ⟨Q, fun a h1 h2 => ?_⟩
        have e : nextWho s.last = s.last + 1 := if_neg hw
        rw [e]
        by_cases ea : a = s.last + 1
        · rw [if_pos (by omega), if_neg (by omega), if_pos ea]
          omega
        · rw [if_neg ea]
          by_cases eb : a ≤ s.last
          · rw [if_pos (by omega), if_pos eb]; omega
          · rw [if_neg (by omega), if_neg eb]; omega
    obtain ⟨Q', hQ'⟩ := hQ
    refine ⟨Q', ?_⟩
    rw [hl] at c1 c2
    by_cases hA : nextWho s.last ≤ n
    · have hbp : 0 < s.come.bw s.come.last := by
        rw [hl]
        show 0 < s.bw (nextWho s.last)
        have := h.bw (nextWho s.last) c1 hA
        have := bw_pos (l := s.out) hF c1 hA (by omega)
        omega
      have hg : s.come.gain q (!s.opn) = { s.come with cr := upd s.come.cr s.come.last (s.come.cr s.come.last + q) } := by unfold SlM.gain; rw [hof]; rfl
      have hv : visitM q fits blocks s = (serveM fits blocks (blocks + 1) (s.come.gain q (!s.opn))).leave := if_pos hbp
      have hV : FairV q fits n G Q' (s.come.gain q (!s.opn)) := by
        rw [hg]
        refine ⟨fun a h1 h2 => ?_, fun a h1 h2 hne => ?_, ?_, rfl, h.bw, h.none, h.mem⟩
        · show G a + totM fits s.out a = Q' + (if a ≤ s.come.last then q else 0) - upd s.cr s.come.last (s.cr s.come.last + q) a
          have h3 := h.eq a h1 h2
          have h4 := hQ' a h1 (by omega)
          rw [hl]
          by_cases e : a = nextWho s.last
          · rw [if_pos e] at h4
            rw [← e, upd_at]
            rw [← e] at h4
            omega
          · rw [if_neg e] at h4
            rw [upd_ne _ _ e]
            omega
        · show upd s.cr s.come.last (s.cr s.come.last + q) a < fits a
          rw [upd_ne _ _ hne]
          exact hlow a h1 h2
        · show upd s.cr s.come.last (s.cr s.come.last + q) s.come.last < q + fits s.come.last
          rw [upd_at, hl]
          have := hlow _ c1 hA
          omega
      have hgl : (s.come.gain q (!s.opn)).last = nextWho s.last := by rw [hg]; exact hl
      have hgo : (s.come.gain q (!s.opn)).out = s.out := by rw [hg]; rfl
      obtain ⟨r1, r2⟩ := FairV.serve hF hb (blocks + 1) (s.come.gain q (!s.opn)) (by rw [hgo]; omega) (by rw [hgo]; exact hol) hV (by rw [hgl]; exact ⟨c1, hA⟩)
      rw [hv]
      unfold SlM.leave
      rw [if_neg (by omega)]
      exact r1
    · have hbz : ¬ 0 < s.come.bw s.come.last := by
        rw [hl]
        show ¬ 0 < s.bw (nextWho s.last)
        rw [h.none _ (by omega)]
        omega
      have hv : visitM q fits blocks s = s.come.lose := if_neg hbz
      rw [hv]
      refine ⟨fun a h1 h2 => ?_, fun a h1 h2 => ?_, h.bw, h.none, h.mem⟩
      · show G a + totM fits s.out a = Q' + (if a ≤ s.come.last then q else 0) - upd s.cr s.come.last 0 a
        have h3 := h.eq a h1 h2
        have h4 := hQ' a h1 (by omega)
        rw [if_neg (show ¬ a = nextWho s.last by omega)] at h4
        rw [upd_ne _ _ (by rw [hl]; omega), hl]
        omega
      · left
        show upd s.cr s.come.last 0 a < fits a
        rw [upd_ne _ _ (by rw [hl]; omega)]
        exact hlow a h1 h2
/-- Users who wait: how a Slot begins for them. -/
def waitB (n : Nat) : Nat → Int := fun a => if 1 ≤ a ∧ a ≤ n then 1000000 else 0
theorem waitB_in {n a : Nat} (h1 : 1 ≤ a) (h2 : a ≤ n) : waitB n a = 1000000 := if_pos ⟨h1, h2⟩
theorem waitB_out {n a : Nat} (h : n < a) : waitB n a = 0 := if_neg (by omega)
theorem waitB_any {bw : Nat → Int} (hb : 0 < bw 1) : anyB bw = true := by
  unfold anyB
  rw [List.any_eq_true]
  exact ⟨0, List.mem_range.2 (by omega), decide_eq_true hb⟩
theorem fit_wait {fits : Nat → Int} {n : Nat} (hF : Fits16 fits n) : FitOk fits (waitB n) := ⟨fun a ha => by
  unfold waitB at ha
  split at ha
  · rename_i h; exact hF a h.1 h.2
  · omega⟩
/-- What stays from Slot to Slot. -/
structure FairS (q : Int) (fits : Nat → Int) (n : Nat) (G : Nat → Int) (last : Nat) (opn : Bool) (cr : Nat → Int) : Prop where
  hlast : last ≤ 16
  hopn : opn = true → 1 ≤ last
  hcr : ∀ a, 0 ≤ cr a
  eq : ∃ Q, ∀ a, 1 ≤ a → a ≤ n → G a = Q + (if a ≤ last then q else 0) - cr a
  low : ∀ a, 1 ≤ a → a ≤ n → cr a < fits a ∨ (opn = true ∧ a = last ∧ cr a < q + fits a)
theorem FairS.start (q : Int) {fits : Nat → Int} {n : Nat} (hF : Fits16 fits n) : FairS q fits n (fun _ => 0) 0 false (fun _ => 0) :=
  ⟨by omega, fun h => (by cases h), fun _ => by omega, ⟨0, fun a h1 _ => by rw [if_neg (by omega)]; omega⟩, fun a h1 h2 => .inl (by have := hF a h1 h2; omega)⟩
/-- A Slot among users who all wait: all blocks are somebody's; what stays. -/
theorem fair_slot {q : Int} {fits : Nat → Int} {n blocks last : Nat} {G : Nat → Int} {opn : Bool} {cr : Nat → Int} (hq : 1 ≤ q) (hF : Fits16 fits n) (h1 : 1 ≤ n) (hn : n ≤ 16) (hb : blocks ≤ 63) (h : FairS q fits n G last opn cr) :
    (slotM q fits blocks ⟨last, opn, cr, waitB n, []⟩).out.length = blocks ∧ (∀ x ∈ (slotM q fits blocks ⟨last, opn, cr, waitB n, []⟩).out, 1 ≤ x ∧ x ≤ (n : Int)) ∧
    FairS q fits n (fun a => G a + totM fits (slotM q fits blocks ⟨last, opn, cr, waitB n, []⟩).out a) (slotM q fits blocks ⟨last, opn, cr, waitB n, []⟩).last (slotM q fits blocks ⟨last, opn, cr, waitB n, []⟩).opn (slotM q fits blocks ⟨last, opn, cr, waitB n, []⟩).cr := by
  have hok : (⟨last, opn, cr, waitB n, []⟩ : SlM).Ok blocks := ⟨h.hlast, h.hopn, h.hcr, fun a => (by show 0 ≤ waitB n a; unfold waitB; split <;> omega), Nat.zero_le _⟩
  obtain ⟨Q, hQ⟩ := h.eq
  have hI : ∃ Q, FairI q fits n G Q ⟨last, opn, cr, waitB n, []⟩ := ⟨Q, fun a h1 h2 => by rw [← hQ a h1 h2]; show G a + 0 = G a; omega, h.low, fun a h1 h2 => by show waitB n a = 1000000 - 0; rw [waitB_in h1 h2]; omega, fun a ha => waitB_out ha, fun x hx => by cases hx⟩
  obtain ⟨⟨Q', r1⟩, r2, r3⟩ := slot_ind (fits := fits) (blocks := blocks) hq (fun s => ∃ Q, FairI q fits n G Q s) (fun s ho _ ⟨Q, hi⟩ _ _ => hi.visit hq hF hn hb ho) _ _ (Nat.le_refl _) hok (fit_wait hF) hI
  have hol := r2.out
  refine ⟨?_, r1.mem, ⟨r2.last, r2.opn, r2.cr, ⟨Q', r1.eq⟩, r1.low⟩⟩
  by_cases hlt : (slotM q fits blocks ⟨last, opn, cr, waitB n, []⟩).out.length < blocks
  · exact absurd ⟨hlt, waitB_any (by rw [r1.bw 1 (by omega) h1]; have := bw_pos (l := (slotM q fits blocks ⟨last, opn, cr, waitB n, []⟩).out) hF (by omega : 1 ≤ 1) h1 (by omega); omega)⟩ r3
  · omega
/-- None is given more than another by more than P24 says. -/
theorem FairS.near {q great : Int} {fits : Nat → Int} {n last : Nat} {G : Nat → Int} {opn : Bool} {cr : Nat → Int} (hq : 1 ≤ q) (hg : ∀ a, 1 ≤ a → a ≤ n → fits a ≤ great) (h : FairS q fits n G last opn cr) {a b : Nat} (a1 : 1 ≤ a) (a2 : a ≤ n) (b1 : 1 ≤ b) (b2 : b ≤ n) : G a - G b ≤ 2 * q + great := by
  obtain ⟨Q, hQ⟩ := h.eq
  have e1 := hQ a a1 a2
  have e2 := hQ b b1 b2
  have c1 := h.hcr a
  have c2 := hg b b1 b2
  rcases h.low b b1 b2 with h' | ⟨_, h', h''⟩
  · by_cases x : a ≤ last
    · rw [if_pos x] at e1
      split at e2 <;> omega
    · rw [if_neg x] at e1
      split at e2 <;> omega
  · rw [if_pos (show b ≤ last by omega)] at e2
    split at e1 <;> omega
theorem FairS.credit {q : Int} {fits : Nat → Int} {n last : Nat} {G : Nat → Int} {opn : Bool} {cr : Nat → Int} (hq : 1 ≤ q) (hF : Fits16 fits n) (h : FairS q fits n G last opn cr) {a : Nat} (a1 : 1 ≤ a) (a2 : a ≤ n) : 0 ≤ cr a ∧ cr a < q + 10000 := by
  have := hF a a1 a2
  have := h.hcr a
  rcases h.low a a1 a2 with h' | ⟨_, _, h'⟩ <;> omega
end Go.Proofs.Ytmdfjhnibhmdkaf
