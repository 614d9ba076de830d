import Derived.Test.YtcnkcbipkchoiagRpB
namespace Go.Proofs.Ytcnkcbipkchoiag

/-! EXACTLY ONCE, IN ORDER (P25, P26): a report comes back; mathematics. -/

theorem report_miss {r : InM} {g : GapM} : g ∈ r.report.miss ↔ ∃ u, r.fst ≤ u ∧ u < r.nxt ∧ g ∈ r.gaps u := by
  unfold InM.report
  simp only [List.mem_flatMap, List.mem_range]
  constructor
  · rintro ⟨i, h1, h2⟩
    exact ⟨r.fst + i, by omega, by omega, h2⟩
  · rintro ⟨u, h1, h2, h3⟩
    refine ⟨u - r.fst, by omega, ?_⟩
    rw [show r.fst + (u - r.fst) = u by omega]
    exact h3
theorem Pair.gap_of {m : OutM} {r : InM} (h : Pair m r) {u v : Nat} (h1 : r.fst ≤ v) (h2 : v < r.nxt) {g : GapM} (hg : g ∈ r.gaps v) : g.of m.beg u = decide (v = u) := by
  have hn := h.nxt_le
  have hl := h.lo
  have hw := h.w32
  have e := (h.gap_mem (by omega) hg).1
  unfold GapM.of
  rw [e, aheadN_fwd (by omega) (by omega), show m.beg + (v - m.beg) = v by omega]
  rfl
theorem Pair.d {m : OutM} {r : InM} (h : Pair m r) : aheadN r.report.next m.beg = r.nxt - m.beg := by
  have hn := h.nxt_le
  have hl := h.lo
  have hw := h.w32
  exact aheadN_fwd (by omega) (by omega)
theorem Pair.has_gap {m : OutM} {r : InM} (h : Pair m r) (u : Nat) : hasGap m.beg r.report.miss u = true ↔ r.fst ≤ u ∧ u < r.nxt ∧ ¬Wholly r u := by
  unfold hasGap
  rw [List.any_eq_true]
  constructor
  · rintro ⟨g, hg, ho⟩
    obtain ⟨v, h1, h2, h3⟩ := report_miss.mp hg
    rw [h.gap_of h1 h2 h3] at ho
    have e : v = u := by simpa using ho
    subst e
    exact ⟨h1, h2, fun hw => h.gap_whole hw h3⟩
  · rintro ⟨h1, h2, h3⟩
    obtain ⟨g, hg⟩ := h.gap_none h3
    refine ⟨g, report_miss.mpr ⟨u, h1, h2, hg⟩, ?_⟩
    rw [h.gap_of h1 h2 hg]
    simp
theorem Pair.in_gap {m : OutM} {r : InM} (h : Pair m r) {u i : Nat} (h1 : r.fst ≤ u) (h2 : u < r.nxt) (hi : i < m.sz u) (hn : r.got u i = none) : inGap m.beg r.report.miss u i = true := by
  unfold inGap
  rw [List.any_eq_true]
  obtain ⟨g, hg, ha⟩ := h.gap_has hi hn
  refine ⟨g, report_miss.mpr ⟨u, h1, h2, hg⟩, ?_⟩
  rw [h.gap_of h1 h2 hg, ha]
  simp
theorem Pair.spoken {m : OutM} {r : InM} (h : Pair m r) : m.spoken (r.nxt - m.beg) = true := by
  have hn := h.nxt_le
  unfold OutM.spoken
  rw [List.all_eq_true]
  intro i hi
  have hi := List.mem_range.mp hi
  have h1 := h.nxt_mark (u := m.beg + i) (by omega)
  simp only [Bool.and_eq_true, decide_eq_true_eq, bne_iff_ne]
  exact ⟨by omega, h1⟩
theorem Pair.gaps_ok {m : OutM} {r : InM} (h : Pair m r) : r.report.miss.all (m.gapOk (r.nxt - m.beg)) = true := by
  have hn := h.nxt_le
  have hl := h.lo
  have hw := h.w32
  rw [List.all_eq_true]
  intro g hg
  obtain ⟨v, h1, h2, h3⟩ := report_miss.mp hg
  obtain ⟨e, g1, g2, g3, g4⟩ := h.gap_mem (by omega) h3
  have e2 : aheadN g.num m.beg = v - m.beg := by rw [e]; exact aheadN_fwd (by omega) (by omega)
  unfold OutM.gapOk
  rw [e2, show m.beg + (v - m.beg) = v by omega, e]
  simp only [Bool.and_eq_true, decide_eq_true_eq]
  refine ⟨by omega, by omega, by omega, g2, g3, g4⟩

/-- A report that comes back is taken. -/
theorem Pair.take_eq {m : OutM} {r : InM} (h : Pair m r) : m.take r.report = ⟨m.taken (r.nxt - m.beg) r.report.miss, 0⟩ := by
  have e : r.report.next = ((r.nxt % 64 : Nat) : Int) := rfl
  unfold OutM.take
  rw [h.d, h.spoken, h.gaps_ok, if_neg (by rw [e]; omega), if_neg (by simp), if_neg (by simp)]
theorem mark2_ne (m : OutM) (d : Nat) (gs : List GapM) (u i : Nat) : m.mark2 d gs u i ≠ 0 ↔ m.mark u i ≠ 0 := by
  unfold OutM.mark2
  split
  · exact Iff.rfl
  · split
    · split
      · split
        · rename_i h; constructor <;> intro _ <;> omega
        · exact Iff.rfl
      · split
        · rename_i h; constructor <;> intro _ <;> omega
        · exact Iff.rfl
    · split
      · rename_i h; constructor <;> intro _ <;> omega
      · exact Iff.rfl
theorem mark2_two {m : OutM} {d : Nat} {gs : List GapM} {u i : Nat} (h : m.mark u i ≤ 2) : m.mark2 d gs u i ≤ 2 := by
  unfold OutM.mark2
  repeat' split
  all_goals omega
theorem Pair.done2 {m : OutM} {r : InM} (h : Pair m r) (u : Nat) : m.done2 (r.nxt - m.beg) r.report.miss u = true → Wholly r u := by
  intro hd
  have hn := h.nxt_le
  unfold OutM.done2 at hd
  simp only [Bool.or_eq_true, Bool.and_eq_true, decide_eq_true_eq, Bool.not_eq_true'] at hd
  rcases hd with hd | ⟨h1, h2⟩
  · exact h.dn u hd
  · by_cases hf : u < r.fst
    · exact h.told u hf
    · apply Classical.byContradiction
      intro hw
      rw [(h.has_gap u).mpr ⟨by omega, by have := h.lo; omega, hw⟩] at h2
      cases h2
theorem Pair.done2_told {m : OutM} {r : InM} (h : Pair m r) {u : Nat} (hu : u < r.fst) : m.done2 (r.nxt - m.beg) r.report.miss u = true := by
  have hn := h.nxt_le
  unfold OutM.done2
  simp only [Bool.or_eq_true, Bool.and_eq_true, decide_eq_true_eq, Bool.not_eq_true']
  by_cases hb : u < m.beg
  · exact Or.inl (h.bdn u hb)
  · refine Or.inr ⟨by omega, ?_⟩
    cases e : hasGap m.beg r.report.miss u with
    | false => rfl
    | true => have := (h.has_gap u).mp e; omega
theorem Pair.taken_beg {m : OutM} {r : InM} (h : Pair m r) : (m.taken (r.nxt - m.beg) r.report.miss).beg = r.fst := by
  refine firstIn_eq h.lo h.up ?_ ?_
  · intro j _ hj
    simp only [h.done2_told hj, Bool.not_true]
  · intro _
    cases e : m.done2 (r.nxt - m.beg) r.report.miss r.fst with
    | false => rfl
    | true => exact absurd (h.done2 _ e) h.stop
theorem Pair.taken {m : OutM} {r : InM} (h : Pair m r) : Pair (m.taken (r.nxt - m.beg) r.report.miss) r := by
  have hb := h.taken_beg
  have hlo := h.lo
  refine ⟨h.win, h.w1, h.w32, h.size, Nat.le_of_eq hb, h.up, ?_, fun u i => mark2_two (h.two u i), fun u i hm => h.ins u i ((mark2_ne ..).mp hm), fun u i hm j hj => (mark2_ne ..).mpr (h.pre u i ((mark2_ne ..).mp hm) j hj), fun u i hm v hv j hj => (mark2_ne ..).mpr (h.ord u i ((mark2_ne ..).mp hm) v hv j hj), ?_, ?_, h.len, h.finA, h.finB, h.finC, h.hiA, h.hiB, h.told, h.stop, h.done2, ?_⟩
  · rw [hb]; exact Nat.le_add_right _ _
  · intro u i hm
    have h1 := h.inw u i ((mark2_ne ..).mp hm)
    rw [hb]
    show u < r.fst + m.win
    omega
  · intro u i b hg
    obtain ⟨h1, h2⟩ := h.got u i b hg
    exact ⟨(mark2_ne ..).mpr h1, h2⟩
  · intro u hu
    rw [hb] at hu
    exact h.done2_told hu
/-- What is not there, and is not told, is to be sent. -/
def Fresh (m : OutM) (r : InM) : Prop := ∀ u i, m.mark u i = 1 → r.got u i ≠ none
theorem Pair.taken_fresh {m : OutM} {r : InM} (h : Pair m r) : Fresh (m.taken (r.nxt - m.beg) r.report.miss) r := by
  intro u i hm hg
  have hne : m.mark u i ≠ 0 := (mark2_ne m (r.nxt - m.beg) r.report.miss u i).mp (by
    have : (m.taken (r.nxt - m.beg) r.report.miss).mark u i = m.mark2 (r.nxt - m.beg) r.report.miss u i := rfl
    omega)
  obtain ⟨hu, hi⟩ := h.ins u i hne
  have hw : ¬Wholly r u := fun hw => ((h.whole_mark hw).2 i hi).1 hg
  have hf : r.fst ≤ u := by
    rcases Nat.lt_or_ge u r.fst with h1 | h1
    · exact absurd (h.told u h1) hw
    · exact h1
  have hd : m.done u = false := by
    cases e : m.done u with
    | false => rfl
    | true => exact absurd (h.dn u e) hw
  have hlo := h.lo
  have hn := h.nxt_le
  have h2 := h.two u i
  change m.mark2 (r.nxt - m.beg) r.report.miss u i = 1 at hm
  unfold OutM.mark2 at hm
  rw [if_neg (by omega), hd] at hm
  by_cases hx : u < r.nxt
  · rw [if_pos (by omega), if_pos ((h.has_gap u).mpr ⟨hf, hx, hw⟩), h.in_gap hf hx hi hg] at hm
    by_cases e : m.mark u i = 1
    · rw [if_pos ⟨rfl, e, rfl⟩] at hm; omega
    · rw [if_neg (fun q => e q.2.1)] at hm; omega
  · rw [if_neg (by omega)] at hm
    by_cases e : m.mark u i = 1
    · rw [if_pos ⟨e, rfl⟩] at hm; omega
    · rw [if_neg (fun q => e q.1)] at hm; omega
end Go.Proofs.Ytcnkcbipkchoiag
