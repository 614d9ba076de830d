import Derived.Test.YtbjgfoiikhbonafK02
set_option linter.unusedVariables false
set_option linter.unusedSimpArgs false
namespace Go.Proofs.Ytbjgfoiikhbonaf
/-- A piece of a unit, all of which was sent. -/
def Known (m : OutM) (u : Nat) (p : PieceM) : Prop := ∃ a b, p = m.piece u a b ∧ a < b ∧ b ≤ m.sz u ∧ u < m.n ∧ ∀ i, a ≤ i → i < b → m.mark u i ≠ 0
theorem edge_le (m : OutM) (k : Nat) : m.edge k ≤ m.n := by
  unfold OutM.edge
  split <;> omega
/-- What a piece that goes out is of. -/
structure Goes (m : OutM) (k u a b : Nat) : Prop where
  beg : m.beg ≤ u
  n : u < m.n
  ab : a < b
  bs : b ≤ m.sz u
  is : ∀ i, a ≤ i → i < b → m.mark u i = k
  pre : ∀ i, i < a → m.mark u i ≠ k
theorem goes_of {m : OutM} {k size : Nat} (hs : 1 ≤ size) (hw : m.who k < m.edge k) : Goes m k (m.who k) (m.hit k (m.who k)) (m.cut k (m.who k) size) := by
  have h1 : m.can k (m.who k) = true := firstIn_at hw
  have h2 := firstIn_ge (m.can k) m.beg (m.edge k)
  have h3 := edge_le m k
  unfold OutM.can at h1
  simp only [Bool.and_eq_true, decide_eq_true_eq] at h1
  have h4 := h1.1
  have h5 : (m.mark (m.who k) (m.hit k (m.who k)) == k) = true := firstIn_at (p := fun i => m.mark (m.who k) i == k) h4
  have hge : m.hit k (m.who k) ≤ m.cut k (m.who k) size := firstIn_ge _ _ _
  have hle : m.cut k (m.who k) size ≤ min (m.sz (m.who k)) (m.hit k (m.who k) + size) := firstIn_le _ (by omega)
  have hin : ∀ i, m.hit k (m.who k) ≤ i → i < m.cut k (m.who k) size → m.mark (m.who k) i = k := by
    intro i g1 g2
    have := firstIn_not (p := fun i => m.mark (m.who k) i != k) g1 g2
    simpa using this
  refine ⟨h2, by omega, ?_, by omega, hin, ?_⟩
  · rcases Nat.lt_or_ge (m.hit k (m.who k)) (m.cut k (m.who k) size) with h | h
    · exact h
    · have e : m.cut k (m.who k) size = m.hit k (m.who k) := by omega
      have h6 := firstIn_at (p := fun i => m.mark (m.who k) i != k) (lo := m.hit k (m.who k)) (hi := min (m.sz (m.who k)) (m.hit k (m.who k) + size)) (by
        have : m.cut k (m.who k) size < min (m.sz (m.who k)) (m.hit k (m.who k) + size) := by omega
        exact this)
      have e2 : firstIn (fun i => m.mark (m.who k) i != k) (m.hit k (m.who k)) (min (m.sz (m.who k)) (m.hit k (m.who k) + size)) = m.hit k (m.who k) := e
      rw [e2] at h6
      simp only [bne_iff_ne] at h6
      simp only [beq_iff_eq] at h5
      exact absurd h5 h6
  · intro i hi
    have := firstIn_not (p := fun i => m.mark (m.who k) i == k) (Nat.zero_le i) hi
    simpa using this
theorem sent_ne {m : OutM} {u a b : Nat} {v i : Nat} (h : m.mark v i ≠ 0) : (m.sent u a b).mark v i ≠ 0 := by
  show (if v = u ∧ a ≤ i ∧ i < b then 1 else m.mark v i) ≠ 0
  split <;> omega
theorem sent_old {m : OutM} {u a b : Nat} {v i : Nat} (h : (m.sent u a b).mark v i ≠ 0) : m.mark v i ≠ 0 ∨ (v = u ∧ a ≤ i ∧ i < b) := by
  change (if v = u ∧ a ≤ i ∧ i < b then 1 else m.mark v i) ≠ 0 at h
  split at h
  · exact Or.inr (by assumption)
  · exact Or.inl h
/-- A piece goes out. -/
theorem Pair.sent {m : OutM} {r : InM} (h : Pair m r) {k u a b : Nat} (hk : k = 0 ∨ k = 2) (hg : Goes m k u a b) (hu : u < m.beg + m.win) (ho : k = 0 → ∀ v, m.beg ≤ v → v < u → m.done v = false → ∀ j, j < m.sz v → m.mark v j ≠ 0) : Pair (m.sent u a b) r := by
  have hlo := h.lo
  refine ⟨h.win, h.w1, h.w32, h.size, h.lo, h.up, h.fw, ?_, ?_, ?_, ?_, ?_, ?_, h.len, h.finA, h.finB, h.finC, h.hiA, h.hiB, h.told, h.stop, h.dn, h.bdn⟩
  · intro v i
    show (if v = u ∧ a ≤ i ∧ i < b then 1 else m.mark v i) ≤ 2
    split
    · omega
    · exact h.two v i
  · intro v i hm
    rcases sent_old hm with hm | ⟨rfl, h1, h2⟩
    · exact h.ins v i hm
    · have := hg.bs
      exact ⟨hg.n, by show i < m.sz v; omega⟩
  · intro v i hm j hj
    rcases sent_old hm with hm | ⟨rfl, h1, h2⟩
    · exact sent_ne (h.pre v i hm j hj)
    · show (if v = v ∧ a ≤ j ∧ j < b then 1 else m.mark v j) ≠ 0
      by_cases hja : a ≤ j
      · rw [if_pos ⟨rfl, hja, by omega⟩]; omega
      · rw [if_neg (fun q => hja q.2.1)]
        rcases hk with rfl | rfl
        · exact hg.pre j (by omega)
        · exact h.pre v a (by rw [hg.is a (Nat.le_refl _) hg.ab]; omega) j (by omega)
  · intro v i hm w hw j hj
    rcases sent_old hm with hm | ⟨rfl, h1, h2⟩
    · exact sent_ne (h.ord v i hm w hw j hj)
    · apply sent_ne
      have hab := hg.ab
      rcases hk with rfl | rfl
      · by_cases hb : w < r.fst
        · exact ((h.whole_mark (h.told w hb)).2 j hj).2
        · cases e : m.done w with
          | true => exact ((h.whole_mark (h.dn w e)).2 j hj).2
          | false => exact ho rfl w (by omega) hw e j hj
      · exact h.ord v a (by rw [hg.is a (Nat.le_refl _) hab]; omega) w hw j hj
  · intro v i hm
    rcases sent_old hm with hm | ⟨rfl, _, _⟩
    · exact h.inw v i hm
    · exact hu
  · intro v i c hgot
    obtain ⟨h1, h2⟩ := h.got v i c hgot
    exact ⟨sent_ne h1, h2⟩
theorem Known.sent {m : OutM} {u a b : Nat} {v : Nat} {p : PieceM} (h : Known m v p) : Known (m.sent u a b) v p := by
  obtain ⟨x, y, h1, h2, h3, h4, h5⟩ := h
  exact ⟨x, y, h1, h2, h3, h4, fun i g1 g2 => sent_ne (h5 i g1 g2)⟩
theorem Known.new {m : OutM} {k u a b : Nat} (h : Goes m k u a b) : Known (m.sent u a b) u (m.piece u a b) :=
  ⟨a, b, rfl, h.ab, h.bs, h.n, fun i g1 g2 => by
    show (if u = u ∧ a ≤ i ∧ i < b then 1 else m.mark u i) ≠ 0
    rw [if_pos ⟨rfl, g1, g2⟩]
    omega⟩
theorem Known.taken {m : OutM} {d : Nat} {gs : List GapM} {v : Nat} {p : PieceM} (h : Known m v p) : Known (m.taken d gs) v p := by
  obtain ⟨x, y, h1, h2, h3, h4, h5⟩ := h
  exact ⟨x, y, h1, h2, h3, h4, fun i g1 g2 => (mark2_ne ..).mpr (h5 i g1 g2)⟩
theorem get_pos {s : ByteArray} {i : Nat} (h : i < s.size) : s.get! i = s[i]'h := getElem!_pos s.data i h
/-- A piece of a unit comes that can be taken. -/
theorem Pair.put {m : OutM} {r : InM} (h : Pair m r) {u a b : Nat} (hab : a < b) (hbs : b ≤ m.sz u) (hun : u < m.n) (hm : ∀ i, a ≤ i → i < b → m.mark u i ≠ 0) (hu : r.fst ≤ u) {r' : InM} (hr : r' = (r.put u (m.piece u a b)).tell.m) : Pair m r' ∧ (∀ v i, r.got v i ≠ none → r'.got v i ≠ none) ∧ (∀ i, a ≤ i → i < b → r'.got u i ≠ none) ∧ r.fst ≤ r'.fst ∧ (r.put u (m.piece u a b)).tell.out = (m.text.drop r.fst).take (r'.fst - r.fst) := by
  have hsz := h.size u hun
  have ea : (m.piece u a b).a = a := by unfold PieceM.a OutM.piece; simp
  have esz : (m.piece u a b).data.size = b - a := by
    show ((m.t u).extract a b).size = b - a
    rw [ByteArray.size_extract]
    have : b ≤ (m.t u).size := hbs
    omega
  have eb : (m.piece u a b).b = b := by
    unfold PieceM.b
    rw [esz]
    show ((a : Nat) : Int).toNat + (b - a) = b
    omega
  have el : (m.piece u a b).last = decide (b = m.sz u) := rfl
  have eget : ∀ i, a ≤ i → i < b → (m.piece u a b).data.get! (i - a) = (m.t u).get! i := by
    intro i h1 h2
    have hb' : b ≤ (m.t u).size := hbs
    show ((m.t u).extract a b).get! (i - a) = (m.t u).get! i
    have g1 : i - a < ((m.t u).extract a b).size := by rw [ByteArray.size_extract]; omega
    have g2 : i < (m.t u).size := by omega
    have e1 : ((m.t u).extract a b)[i - a]'g1 = (m.t u)[i]'g2 := by
      rw [ByteArray.getElem_extract]
      congr 1
      omega
    rw [get_pos g1, get_pos g2]
    exact e1
  generalize hq : r.put u (m.piece u a b) = q at hr ⊢
  have q1 : q.win = r.win := by subst hq; rfl
  have q2 : q.fst = r.fst := by subst hq; rfl
  have q3 : q.hi = max r.hi (u + 1) := by subst hq; rfl
  have q4 : ∀ v i, q.got v i = if v = u ∧ a ≤ i ∧ i < b ∧ r.got v i = none then some ((m.piece u a b).data.get! (i - a)) else r.got v i := by
    intro v i; subst hq; show (if v = u ∧ (m.piece u a b).a ≤ i ∧ i < (m.piece u a b).b ∧ r.got v i = none then some ((m.piece u a b).data.get! (i - (m.piece u a b).a)) else r.got v i) = _
    rw [ea, eb]
  have q5 : ∀ v, q.len v = if v = u ∧ b = m.sz u then some b else r.len v := by
    intro v; subst hq; show (if v = u ∧ (m.piece u a b).last = true then some (m.piece u a b).b else r.len v) = _
    rw [el, eb]
    simp only [decide_eq_true_eq]
  have q6 : ∀ v, q.fin v = if v = u then max (r.fin u) b else r.fin v := by
    intro v; subst hq; show (if v = u then max (r.fin u) (m.piece u a b).b else r.fin v) = _
    rw [eb]
  have gkeep : ∀ v i, r.got v i ≠ none → q.got v i ≠ none := by
    intro v i hg
    rw [q4, if_neg (fun x => hg x.2.2.2)]
    exact hg
  have gnew : ∀ i, a ≤ i → i < b → q.got u i ≠ none := by
    intro i h1 h2
    rw [q4]
    split
    · simp
    · rename_i hx
      intro e
      exact hx ⟨rfl, h1, h2, e⟩
  have gold : ∀ v i, q.got v i ≠ none → r.got v i ≠ none ∨ (v = u ∧ a ≤ i ∧ i < b) := by
    intro v i hg
    rw [q4] at hg
    split at hg
    · rename_i hx; exact Or.inr ⟨hx.1, hx.2.1, hx.2.2.1⟩
    · exact Or.inl hg
  have qgot : ∀ v i c, q.got v i = some c → m.mark v i ≠ 0 ∧ c = (m.t v).get! i := by
    intro v i c hc
    rw [q4] at hc
    split at hc
    · rename_i hx
      obtain ⟨rfl, g1, g2, _⟩ := hx
      injection hc with hc
      rw [eget i g1 g2] at hc
      exact ⟨hm i g1 g2, hc.symm⟩
    · exact h.got v i c hc
  have qlen : ∀ v k, q.len v = some k → k = m.sz v ∧ v < m.n := by
    intro v k hk
    rw [q5] at hk
    split at hk
    · rename_i hx
      obtain ⟨rfl, g⟩ := hx
      injection hk with hk
      exact ⟨by omega, hun⟩
    · exact h.len v k hk
  have qw : ∀ v, Wholly r v → Wholly q v := by
    rintro v ⟨k, h1, h2⟩
    have h3 := h.len v k h1
    by_cases e : v = u ∧ b = m.sz u
    · obtain ⟨rfl, e⟩ := e
      exact ⟨b, by rw [q5, if_pos ⟨rfl, e⟩], fun i hi => gkeep _ _ (h2 i (by omega))⟩
    · exact ⟨k, by rw [q5, if_neg e]; exact h1, fun i hi => gkeep _ _ (h2 i hi)⟩
  have qwm : ∀ v, Wholly q v → v < m.n ∧ v < m.beg + m.win ∧ (q.len v = some (m.sz v)) ∧ (∀ i, i < m.sz v → q.got v i ≠ none) ∧ v < q.hi := by
    rintro v ⟨k, h1, h2⟩
    obtain ⟨rfl, h3⟩ := qlen v k h1
    have h4 := h.size v h3
    have h5 := h2 0 (by omega)
    have h6 : m.mark v 0 ≠ 0 := by
      cases e : q.got v 0 with
      | none => exact absurd e h5
      | some c => exact (qgot v 0 c e).1
    refine ⟨h3, h.inw v 0 h6, h1, h2, ?_⟩
    rw [q3]
    rcases gold v 0 h5 with g | ⟨rfl, _, _⟩
    · have := h.hiA v 0 g; omega
    · omega
  have hup : q.fst ≤ q.upto := firstIn_ge _ _ _
  have hstop : ¬Wholly q q.upto := by
    intro hw
    have hlt := (qwm _ hw).2.2.2.2
    have h1 := firstIn_at (p := fun u => !q.whole u) (lo := q.fst) (hi := max q.fst q.hi) (by
      have : q.upto < max q.fst q.hi := by omega
      exact this)
    have h2 : (!q.whole q.upto) = true := h1
    rw [(whole_iff q q.upto).mpr hw] at h2
    cases h2
  have hall : ∀ v, q.fst ≤ v → v < q.upto → Wholly q v := by
    intro v h1 h2
    have h3 := firstIn_not (p := fun u => !q.whole u) h1 h2
    exact (whole_iff q v).mp (by simpa using h3)
  have hall2 : ∀ v, v < q.upto → Wholly q v := by
    intro v hv
    by_cases e : v < r.fst
    · exact qw v (h.told v e)
    · exact hall v (by omega) hv
  have hub : q.upto ≤ m.n ∧ q.upto ≤ m.beg + m.win := by
    rcases Nat.eq_or_lt_of_le hup with e | e
    · have g1 := h.up; have g2 := h.fw; omega
    · have g := qwm _ (hall (q.upto - 1) (by omega) (by omega))
      omega
  subst hr
  refine ⟨⟨q1.trans h.win, h.w1, h.w32, h.size, ?_, hub.1, hub.2, h.two, h.ins, h.pre, h.ord, h.inw, qgot, qlen, ?_, ?_, ?_, ?_, ?_, hall2, hstop, fun v hv => qw v (h.dn v hv), h.bdn⟩, gkeep, gnew, ?_, ?_⟩
  · have := h.lo
    show m.beg ≤ q.upto
    omega
  · intro v i hg
    show i < q.fin v
    rw [q6]
    rcases gold v i hg with g | ⟨rfl, g1, g2⟩
    · have := h.finA v i g
      split
      · rename_i e; subst e; omega
      · exact this
    · rw [if_pos rfl]; omega
  · intro v
    show q.fin v = 0 ∨ q.got v (q.fin v - 1) ≠ none
    rw [q6]
    split
    · rename_i e
      subst e
      by_cases hx : b < r.fin v
      · rw [Nat.max_eq_left (Nat.le_of_lt hx)]
        rcases h.finB v with g | g
        · omega
        · exact Or.inr (gkeep _ _ g)
      · rw [Nat.max_eq_right (by omega)]
        exact Or.inr (gnew _ (by omega) (by omega))
    · rcases h.finB v with g | g
      · exact Or.inl g
      · exact Or.inr (gkeep _ _ g)
  · intro v hv he
    change q.fin v = m.sz v at he
    show q.len v = some (m.sz v)
    rw [q6] at he
    rw [q5]
    by_cases e : v = u
    · subst e
      rw [if_pos rfl] at he
      by_cases hx : b = m.sz v
      · rw [if_pos ⟨rfl, hx⟩, hx]
      · rw [if_neg (fun x => hx x.2)]
        exact h.finC v hv (by have := h.fin_le v; omega)
    · rw [if_neg e] at he
      rw [if_neg (fun x => e x.1)]
      exact h.finC v hv he
  · intro v i hg
    show v < q.hi
    rw [q3]
    rcases gold v i hg with g | ⟨rfl, _, _⟩
    · have := h.hiA v i g; omega
    · omega
  · show q.hi = 0 ∨ ∃ i, q.got (q.hi - 1) i ≠ none
    rw [q3]
    by_cases hx : r.hi ≤ u + 1
    · rw [Nat.max_eq_right hx]
      exact Or.inr ⟨a, gnew a (Nat.le_refl _) hab⟩
    · rw [Nat.max_eq_left (by omega)]
      rcases h.hiB with g | ⟨i, g⟩
      · omega
      · exact Or.inr ⟨i, gkeep _ _ g⟩
  · show r.fst ≤ q.upto
    omega
  · show (List.range (q.upto - q.fst)).map (fun i => q.textOf (q.fst + i)) = (m.text.drop r.fst).take (q.upto - r.fst)
    rw [q2]
    apply List.ext_getElem
    · simp only [List.length_map, List.length_range, List.length_take, List.length_drop]
      have : q.upto ≤ m.text.length := hub.1
      omega
    · intro i h1 h2
      simp only [List.length_map, List.length_range] at h1
      rw [List.getElem_map, List.getElem_range, List.getElem_take, List.getElem_drop]
      obtain ⟨g1, _, g2, g3, _⟩ := qwm _ (hall (r.fst + i) (by omega) (by omega))
      have e1 : m.t (r.fst + i) = m.text[r.fst + i]'g1 := by
        unfold OutM.t
        rw [List.getD_eq_getElem?_getD, List.getElem?_eq_getElem g1]
        rfl
      refine Eq.trans ?_ e1
      unfold InM.textOf
      rw [g2]
      apply ByteArray.ext
      apply Array.ext
      · simp only [Option.getD_some, List.size_toArray, List.length_map, List.length_range]
        rfl
      · intro j j1 j2
        simp only [Option.getD_some, List.size_toArray, List.length_map, List.length_range] at j1
        simp only [Option.getD_some, List.getElem_toArray, List.getElem_map, List.getElem_range]
        have g4 := g3 j j1
        cases e : q.got (r.fst + i) j with
        | none => exact absurd e g4
        | some c =>
          have g5 := (qgot _ _ _ e).2
          rw [Option.getD_some, g5]
          have j3 : j < (m.t (r.fst + i)).size := j1
          rw [get_pos j3]
          rfl
end Go.Proofs.Ytbjgfoiikhbonaf
