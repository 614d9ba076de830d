import Derived.Test.YtbjgfoiikhbonafK01
set_option linter.unusedVariables false
set_option linter.unusedSimpArgs false
namespace Go.Proofs.Ytbjgfoiikhbonaf
theorem runs_mem {p : Nat → Bool} {e : Nat} (f : Nat) : ∀ i q, q ∈ runsN p e f i → i ≤ q.1 ∧ q.1 < q.2 ∧ q.2 ≤ e ∧ ∀ k, q.1 ≤ k → k < q.2 → p k = true := by
  induction f with
  | zero => intro i q h; cases h
  | succ f ih =>
    intro i q h
    unfold runsN at h
    split at h
    case isFalse => cases h
    rename_i ha
    have h1 := firstIn_ge p i e
    have h2 := firstIn_at ha
    have h3 := firstIn_ge (fun k => !p k) (firstIn p i e) e
    have h4 := firstIn_le (fun k => !p k) (Nat.le_of_lt ha)
    have h5 : firstIn p i e < firstIn (fun k => !p k) (firstIn p i e) e := by
      rcases Nat.lt_or_ge (firstIn p i e) (firstIn (fun k => !p k) (firstIn p i e) e) with h | h
      · exact h
      · have h6 : firstIn (fun k => !p k) (firstIn p i e) e = firstIn p i e := by omega
        have h7 := firstIn_at (p := fun k => !p k) (lo := firstIn p i e) (hi := e) (by omega)
        rw [h6, h2] at h7
        cases h7
    rcases List.mem_cons.mp h with rfl | h
    · refine ⟨h1, h5, h4, ?_⟩
      intro k h8 h9
      have h10 := firstIn_not (p := fun k => !p k) h8 h9
      simpa using h10
    · obtain ⟨g1, g2, g3, g4⟩ := ih _ _ h
      exact ⟨by omega, g2, g3, g4⟩
theorem runs_cover {p : Nat → Bool} {e : Nat} (f : Nat) : ∀ i, e - i < f → ∀ k, i ≤ k → k < e → p k = true → ∃ q ∈ runsN p e f i, q.1 ≤ k ∧ k < q.2 := by
  induction f with
  | zero => intro i h; omega
  | succ f ih =>
    intro i hf k h1 h2 h3
    have ha : firstIn p i e ≤ k := firstIn_lt h1 h3
    have hae : firstIn p i e < e := by omega
    have hge := firstIn_ge p i e
    have hat := firstIn_at hae
    have hb1 := firstIn_ge (fun k => !p k) (firstIn p i e) e
    have hb2 : firstIn p i e < firstIn (fun k => !p k) (firstIn p i e) e := by
      rcases Nat.lt_or_ge (firstIn p i e) (firstIn (fun k => !p k) (firstIn p i e) e) with h | h
      · exact h
      · have h6 : firstIn (fun k => !p k) (firstIn p i e) e = firstIn p i e := by omega
        have h7 := firstIn_at (p := fun k => !p k) (lo := firstIn p i e) (hi := e) (by omega)
        rw [h6, hat] at h7
        cases h7
    unfold runsN
    rw [if_pos hae]
    by_cases h : k < firstIn (fun k => !p k) (firstIn p i e) e
    · exact ⟨_, List.mem_cons_self, ha, h⟩
    · obtain ⟨q, hq, hq1, hq2⟩ := ih (firstIn (fun k => !p k) (firstIn p i e) e) (by omega) k (by omega) h2 h3
      exact ⟨q, List.mem_cons_of_mem _ hq, hq1, hq2⟩
theorem aheadN_fwd {beg u : Nat} (h1 : beg ≤ u) (h2 : u < beg + 64) : aheadN ((u % 64 : Nat) : Int) beg = u - beg := by
  unfold aheadN
  omega
theorem aheadN_back {fst u : Nat} (h1 : u < fst) (h2 : fst ≤ u + 32) : 32 ≤ aheadN ((u % 64 : Nat) : Int) fst := by
  unfold aheadN
  omega
/-- A unit is whole, in words. -/
def Wholly (r : InM) (u : Nat) : Prop := ∃ n, r.len u = some n ∧ ∀ i, i < n → r.got u i ≠ none
theorem whole_iff (r : InM) (u : Nat) : r.whole u = true ↔ Wholly r u := by
  unfold InM.whole Wholly
  cases hl : r.len u with
  | none => simp
  | some n =>
    simp only [beq_iff_eq]
    constructor
    · intro h
      refine ⟨n, rfl, ?_⟩
      intro i hi hn
      have h1 := firstIn_not (p := fun i => (r.got u i).isNone) (lo := 0) (hi := n) (Nat.zero_le i) (by omega)
      rw [hn] at h1
      cases h1
    · rintro ⟨n', h1, h2⟩
      injection h1 with h1
      subst h1
      refine firstIn_none (Nat.zero_le _) ?_
      intro k _ hk
      have := h2 k hk
      cases hg : r.got u k with
      | none => exact absurd hg this
      | some _ => rfl
structure Pair (m : OutM) (r : InM) : Prop where
  win : r.win = m.win
  w1 : 1 ≤ m.win
  w32 : m.win ≤ 32
  size : ∀ u, u < m.n → 1 ≤ m.sz u ∧ m.sz u ≤ 1500
  lo : m.beg ≤ r.fst
  up : r.fst ≤ m.n
  fw : r.fst ≤ m.beg + m.win
  two : ∀ u i, m.mark u i ≤ 2
  ins : ∀ u i, m.mark u i ≠ 0 → u < m.n ∧ i < m.sz u
  pre : ∀ u i, m.mark u i ≠ 0 → ∀ j, j ≤ i → m.mark u j ≠ 0
  ord : ∀ u i, m.mark u i ≠ 0 → ∀ v, v < u → ∀ j, j < m.sz v → m.mark v j ≠ 0
  inw : ∀ u i, m.mark u i ≠ 0 → u < m.beg + m.win
  got : ∀ u i b, r.got u i = some b → m.mark u i ≠ 0 ∧ b = (m.t u).get! i
  len : ∀ u k, r.len u = some k → k = m.sz u ∧ u < m.n
  finA : ∀ u i, r.got u i ≠ none → i < r.fin u
  finB : ∀ u, r.fin u = 0 ∨ r.got u (r.fin u - 1) ≠ none
  finC : ∀ u, u < m.n → r.fin u = m.sz u → r.len u = some (m.sz u)
  hiA : ∀ u i, r.got u i ≠ none → u < r.hi
  hiB : r.hi = 0 ∨ ∃ i, r.got (r.hi - 1) i ≠ none
  told : ∀ u, u < r.fst → Wholly r u
  stop : ¬Wholly r r.fst
  dn : ∀ u, m.done u = true → Wholly r u
  bdn : ∀ u, u < m.beg → m.done u = true
theorem Pair.sz_of_got {m : OutM} {r : InM} (h : Pair m r) {u i : Nat} (hg : r.got u i ≠ none) : u < m.n ∧ i < m.sz u ∧ m.mark u i ≠ 0 := by
  cases e : r.got u i with
  | none => exact absurd e hg
  | some b =>
    obtain ⟨h1, _⟩ := h.got u i b e
    exact ⟨(h.ins u i h1).1, (h.ins u i h1).2, h1⟩
theorem Pair.fin_le {m : OutM} {r : InM} (h : Pair m r) (u : Nat) : r.fin u ≤ m.sz u := by
  rcases h.finB u with e | e
  · omega
  · have := (h.sz_of_got e).2.1
    omega
/-- A whole unit was sent, all of it. -/
theorem Pair.whole_mark {m : OutM} {r : InM} (h : Pair m r) {u : Nat} (hw : Wholly r u) : u < m.n ∧ ∀ i, i < m.sz u → r.got u i ≠ none ∧ m.mark u i ≠ 0 := by
  obtain ⟨n, h1, h2⟩ := hw
  obtain ⟨rfl, hn⟩ := h.len u n h1
  exact ⟨hn, fun i hi => ⟨h2 i hi, (h.sz_of_got (h2 i hi)).2.2⟩⟩
theorem Pair.hi_le {m : OutM} {r : InM} (h : Pair m r) : r.hi ≤ m.n ∧ r.hi ≤ m.beg + m.win := by
  rcases h.hiB with e | ⟨i, e⟩
  · omega
  · have h1 := h.sz_of_got e
    have h2 := h.inw _ _ h1.2.2
    omega
theorem Pair.nxt_le {m : OutM} {r : InM} (h : Pair m r) : r.nxt ≤ m.n ∧ r.nxt ≤ m.beg + m.win ∧ r.fst ≤ r.nxt ∧ r.hi ≤ r.nxt := by
  have h1 := h.hi_le
  have h2 := h.up
  have h3 := h.fw
  unfold InM.nxt
  omega
theorem Pair.nxt_mark {m : OutM} {r : InM} (h : Pair m r) {u : Nat} (hu : u < r.nxt) : m.mark u 0 ≠ 0 := by
  have hn := h.nxt_le
  have hs := h.size u (by omega)
  by_cases hf : u < r.fst
  · exact ((h.whole_mark (h.told u hf)).2 0 (by omega)).2
  · have h2 : u < r.hi := by unfold InM.nxt at hu; omega
    rcases h.hiB with e | ⟨i, e⟩
    · omega
    · have h3 := (h.sz_of_got e).2.2
      by_cases hx : u = r.hi - 1
      · subst hx
        exact h.pre _ _ h3 0 (Nat.zero_le _)
      · exact h.ord _ _ h3 u (by omega) 0 (by omega)
/-- The gaps of a unit. -/
theorem Pair.gap_mem {m : OutM} {r : InM} (h : Pair m r) {u : Nat} (hu : u < m.n) {g : GapM} (hg : g ∈ r.gaps u) : g.num = ((u % 64 : Nat) : Int) ∧ 0 ≤ g.frm ∧ g.frm < m.sz u ∧ g.til ≤ m.sz u ∧ (g.til < 0 ∨ g.frm < g.til) := by
  have hf := h.fin_le u
  have he : r.ends u ≤ m.sz u := by
    unfold InM.ends
    cases hl : r.len u with
    | none => exact hf
    | some k => exact Nat.le_of_eq (h.len u k hl).1
  unfold InM.gaps at hg
  rcases List.mem_append.mp hg with hg | hg
  · obtain ⟨q, hq, rfl⟩ := List.mem_map.mp hg
    obtain ⟨_, h2, h3, _⟩ := runs_mem _ _ _ hq
    refine ⟨rfl, ?_, ?_, ?_, ?_⟩ <;> simp only <;> omega
  · cases hl : r.len u with
    | none =>
      rw [hl] at hg
      rcases List.mem_singleton.mp hg with rfl
      have h1 : r.ends u = r.fin u := by unfold InM.ends; rw [hl]; rfl
      have h2 : r.fin u ≠ m.sz u := by
        intro e
        rw [h.finC u hu e] at hl
        cases hl
      refine ⟨rfl, ?_, ?_, ?_, ?_⟩ <;> simp only [h1] <;> omega
    | some k => rw [hl] at hg; cases hg
theorem gap_at {r : InM} {u : Nat} {g : GapM} (hg : g ∈ r.gaps u) {i : Nat} (hi : g.at i = true) (hn : r.got u i ≠ none) (hf : i < r.fin u) : False := by
  unfold InM.gaps at hg
  rcases List.mem_append.mp hg with hg | hg
  · obtain ⟨q, hq, rfl⟩ := List.mem_map.mp hg
    obtain ⟨_, _, _, h4⟩ := runs_mem _ _ _ hq
    unfold GapM.at at hi
    simp only [decide_eq_true_eq] at hi
    have h5 := h4 i (by omega) (by omega)
    cases e : r.got u i with
    | none => exact hn e
    | some b => rw [e] at h5; cases h5
  · cases hl : r.len u with
    | none =>
      rw [hl] at hg
      rcases List.mem_singleton.mp hg with rfl
      have h1 : r.ends u = r.fin u := by unfold InM.ends; rw [hl]; rfl
      unfold GapM.at at hi
      simp only [decide_eq_true_eq, h1] at hi
      omega
    | some k => rw [hl] at hg; cases hg
theorem Pair.gap_has {m : OutM} {r : InM} (h : Pair m r) {u i : Nat} (hi : i < m.sz u) (hn : r.got u i = none) : ∃ g ∈ r.gaps u, g.at i = true := by
  by_cases he : i < r.ends u
  · obtain ⟨q, hq, h1, h2⟩ := runs_cover (p := fun i => (r.got u i).isNone) (e := r.ends u) (r.ends u + 1) 0 (by omega) i (Nat.zero_le _) he (by simp only [hn]; rfl)
    refine ⟨_, List.mem_append_left _ (List.mem_map.mpr ⟨q, hq, rfl⟩), ?_⟩
    unfold GapM.at
    simp only [decide_eq_true_eq]
    omega
  · cases hl : r.len u with
    | none =>
      refine ⟨⟨((u % 64 : Nat) : Int), r.ends u, -1⟩, ?_, ?_⟩
      · unfold InM.gaps
        rw [hl]
        exact List.mem_append_right _ (List.mem_singleton.mpr rfl)
      · unfold GapM.at
        simp only [decide_eq_true_eq]
        omega
    | some k =>
      have h1 := (h.len u k hl).1
      have h2 : r.ends u = k := by unfold InM.ends; rw [hl]; rfl
      omega
theorem Pair.gap_none {m : OutM} {r : InM} (h : Pair m r) {u : Nat} (hw : ¬Wholly r u) : ∃ g, g ∈ r.gaps u := by
  cases hl : r.len u with
  | none =>
    refine ⟨⟨((u % 64 : Nat) : Int), r.ends u, -1⟩, ?_⟩
    unfold InM.gaps
    rw [hl]
    exact List.mem_append_right _ (List.mem_singleton.mpr rfl)
  | some k =>
    have h1 := (h.len u k hl).1
    by_cases hx : ∃ i, i < m.sz u ∧ r.got u i = none
    · obtain ⟨i, h2, h3⟩ := hx
      obtain ⟨g, hg, _⟩ := h.gap_has h2 h3
      exact ⟨g, hg⟩
    · exfalso
      apply hw
      refine ⟨k, hl, ?_⟩
      intro i hi e
      exact hx ⟨i, by omega, e⟩
theorem Pair.gap_whole {m : OutM} {r : InM} (h : Pair m r) {u : Nat} (hw : Wholly r u) {g : GapM} (hg : g ∈ r.gaps u) : False := by
  obtain ⟨hu, hw2⟩ := h.whole_mark hw
  obtain ⟨_, h1, h2, _, h4⟩ := h.gap_mem hu hg
  have h5 : g.at g.frm.toNat = true := by
    unfold GapM.at
    simp only [decide_eq_true_eq]
    omega
  have h6 := (hw2 g.frm.toNat (by omega)).1
  exact gap_at hg h5 h6 (h.finA _ _ h6)
end Go.Proofs.Ytbjgfoiikhbonaf
namespace Go.Proofs.Ytbjgfoiikhbonaf
theorem report_miss {r : InM} {g : GapM} : g ∈ r.report.miss ↔ ∃ u, r.fst ≤ u ∧ u < r.nxt ∧ g ∈ r.gaps u := by
  unfold InM.report
  simp only [List.mem_flatMap, List.mem_range]
  constructor
  · rintro ⟨i, h1, h2⟩
    exact ⟨r.fst + i, by omega, by omega, h2⟩
  · rintro ⟨u, h1, h2, h3⟩
    refine ⟨u - r.fst, by omega, ?_⟩
    rw [show r.fst + (u - r.fst) = u by omega]
    exact h3
theorem Pair.gap_of {m : OutM} {r : InM} (h : Pair m r) {u v : Nat} (h1 : r.fst ≤ v) (h2 : v < r.nxt) {g : GapM} (hg : g ∈ r.gaps v) : g.of m.beg u = decide (v = u) := by
  have hn := h.nxt_le
  have hl := h.lo
  have hw := h.w32
  have e := (h.gap_mem (by omega) hg).1
  unfold GapM.of
  rw [e, aheadN_fwd (by omega) (by omega), show m.beg + (v - m.beg) = v by omega]
  rfl
theorem Pair.d {m : OutM} {r : InM} (h : Pair m r) : aheadN r.report.next m.beg = r.nxt - m.beg := by
  have hn := h.nxt_le
  have hl := h.lo
  have hw := h.w32
  exact aheadN_fwd (by omega) (by omega)
theorem Pair.has_gap {m : OutM} {r : InM} (h : Pair m r) (u : Nat) : hasGap m.beg r.report.miss u = true ↔ r.fst ≤ u ∧ u < r.nxt ∧ ¬Wholly r u := by
  unfold hasGap
  rw [List.any_eq_true]
  constructor
  · rintro ⟨g, hg, ho⟩
    obtain ⟨v, h1, h2, h3⟩ := report_miss.mp hg
    rw [h.gap_of h1 h2 h3] at ho
    have e : v = u := by simpa using ho
    subst e
    exact ⟨h1, h2, fun hw => h.gap_whole hw h3⟩
  · rintro ⟨h1, h2, h3⟩
    obtain ⟨g, hg⟩ := h.gap_none h3
    refine ⟨g, report_miss.mpr ⟨u, h1, h2, hg⟩, ?_⟩
    rw [h.gap_of h1 h2 hg]
    simp
theorem Pair.spoken {m : OutM} {r : InM} (h : Pair m r) : m.spoken (r.nxt - m.beg) = true := by
  have hn := h.nxt_le
  unfold OutM.spoken
  rw [List.all_eq_true]
  intro i hi
  have hi := List.mem_range.mp hi
  have h1 := h.nxt_mark (u := m.beg + i) (by omega)
  simp only [Bool.and_eq_true, decide_eq_true_eq, bne_iff_ne]
  exact ⟨by omega, h1⟩
theorem Pair.gaps_ok {m : OutM} {r : InM} (h : Pair m r) : r.report.miss.all (m.gapOk (r.nxt - m.beg)) = true := by
  have hn := h.nxt_le
  have hl := h.lo
  have hw := h.w32
  rw [List.all_eq_true]
  intro g hg
  obtain ⟨v, h1, h2, h3⟩ := report_miss.mp hg
  obtain ⟨e, g1, g2, g3, g4⟩ := h.gap_mem (by omega) h3
  have e2 : aheadN g.num m.beg = v - m.beg := by rw [e]; exact aheadN_fwd (by omega) (by omega)
  unfold OutM.gapOk
  rw [e2, show m.beg + (v - m.beg) = v by omega, e]
  simp only [Bool.and_eq_true, decide_eq_true_eq]
  refine ⟨by omega, by omega, by omega, g2, g3, g4⟩
/-- A report that comes back is taken. -/
theorem Pair.take_eq {m : OutM} {r : InM} (h : Pair m r) : m.take r.report = ⟨m.taken (r.nxt - m.beg) r.report.miss, 0⟩ := by
  have e : r.report.next = ((r.nxt % 64 : Nat) : Int) := rfl
  unfold OutM.take
  rw [h.d, h.spoken, h.gaps_ok, if_neg (by rw [e]; omega), if_neg (by simp), if_neg (by simp)]
theorem mark2_ne (m : OutM) (d : Nat) (gs : List GapM) (u i : Nat) : m.mark2 d gs u i ≠ 0 ↔ m.mark u i ≠ 0 := by
  unfold OutM.mark2
  split
  · exact Iff.rfl
  · split
    · split
      · split
        · rename_i h; constructor <;> intro _ <;> omega
        · exact Iff.rfl
      · split
        · rename_i h; constructor <;> intro _ <;> omega
        · exact Iff.rfl
    · split
      · rename_i h; constructor <;> intro _ <;> omega
      · exact Iff.rfl
theorem mark2_two {m : OutM} {d : Nat} {gs : List GapM} {u i : Nat} (h : m.mark u i ≤ 2) : m.mark2 d gs u i ≤ 2 := by
  unfold OutM.mark2
  repeat' split
  all_goals omega
theorem Pair.done2 {m : OutM} {r : InM} (h : Pair m r) (u : Nat) : m.done2 (r.nxt - m.beg) r.report.miss u = true → Wholly r u := by
  intro hd
  have hn := h.nxt_le
  unfold OutM.done2 at hd
  simp only [Bool.or_eq_true, Bool.and_eq_true, decide_eq_true_eq, Bool.not_eq_true'] at hd
  rcases hd with hd | ⟨h1, h2⟩
  · exact h.dn u hd
  · by_cases hf : u < r.fst
    · exact h.told u hf
    · apply Classical.byContradiction
      intro hw
      rw [(h.has_gap u).mpr ⟨by omega, by have := h.lo; omega, hw⟩] at h2
      cases h2
theorem Pair.done2_told {m : OutM} {r : InM} (h : Pair m r) {u : Nat} (hu : u < r.fst) : m.done2 (r.nxt - m.beg) r.report.miss u = true := by
  have hn := h.nxt_le
  unfold OutM.done2
  simp only [Bool.or_eq_true, Bool.and_eq_true, decide_eq_true_eq, Bool.not_eq_true']
  by_cases hb : u < m.beg
  · exact Or.inl (h.bdn u hb)
  · refine Or.inr ⟨by omega, ?_⟩
    cases e : hasGap m.beg r.report.miss u with
    | false => rfl
    | true => have := (h.has_gap u).mp e; omega
theorem Pair.taken_beg {m : OutM} {r : InM} (h : Pair m r) : (m.taken (r.nxt - m.beg) r.report.miss).beg = r.fst := by
  refine firstIn_eq h.lo h.up ?_ ?_
  · intro j _ hj
    simp only [h.done2_told hj, Bool.not_true]
  · intro _
    cases e : m.done2 (r.nxt - m.beg) r.report.miss r.fst with
    | false => rfl
    | true => exact absurd (h.done2 _ e) h.stop
theorem Pair.taken {m : OutM} {r : InM} (h : Pair m r) : Pair (m.taken (r.nxt - m.beg) r.report.miss) r := by
  have hb := h.taken_beg
  have hlo := h.lo
  refine ⟨h.win, h.w1, h.w32, h.size, Nat.le_of_eq hb, h.up, ?_, fun u i => mark2_two (h.two u i), fun u i hm => h.ins u i ((mark2_ne ..).mp hm), fun u i hm j hj => (mark2_ne ..).mpr (h.pre u i ((mark2_ne ..).mp hm) j hj), fun u i hm v hv j hj => (mark2_ne ..).mpr (h.ord u i ((mark2_ne ..).mp hm) v hv j hj), ?_, ?_, h.len, h.finA, h.finB, h.finC, h.hiA, h.hiB, h.told, h.stop, h.done2, ?_⟩
  · rw [hb]; exact Nat.le_add_right _ _
  · intro u i hm
    have h1 := h.inw u i ((mark2_ne ..).mp hm)
    rw [hb]
    show u < r.fst + m.win
    omega
  · intro u i b hg
    obtain ⟨h1, h2⟩ := h.got u i b hg
    exact ⟨(mark2_ne ..).mpr h1, h2⟩
  · intro u hu
    rw [hb] at hu
    exact h.done2_told hu
/-- What is not there, and is not told, is to be sent. -/
def Fresh (m : OutM) (r : InM) : Prop := ∀ u i, m.mark u i = 1 → r.got u i ≠ none
end Go.Proofs.Ytbjgfoiikhbonaf
