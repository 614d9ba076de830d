import Derived.Test.YtdgdklmgnnhadafK38
namespace Go.Proofs.Ytdgdklmgnnhadaf
open Go.ChangeShapes Go.WideShapes Go.ChangeAt Go.RowKit
theorem waitN_le_drop (us : List UnP) (k : Nat) : waitN (us.drop k) ≤ waitN us := by
  unfold waitN
  exact (List.Sublist.filter _ (List.drop_sublist k us)).length_le
theorem waitN_mono {us us' : List UnP} (hl : us'.length = us.length) (h : ∀ i, i < us.length → (us.getD i .zero).dn = true → (us'.getD i .zero).dn = true) : waitN us' ≤ waitN us := by
  rw [waitN_range, waitN_range, hl]
  have key : ∀ k, k ≤ us.length → ((List.range k).filter fun i => !(us'.getD i .zero).dn).length ≤ ((List.range k).filter fun i => !(us.getD i .zero).dn).length := by
    intro k
    induction k with
    | zero => intro _; simp
    | succ k ih =>
      intro hk
      have := ih (by omega)
      rw [List.range_succ, List.filter_append, List.filter_append, List.length_append, List.length_append]
      have h1 := h k (by omega)
      have : ([k].filter fun i => !(us'.getD i .zero).dn).length ≤ ([k].filter fun i => !(us.getD i .zero).dn).length := by
        simp only [List.filter_cons, List.filter_nil]
        cases h2 : (us.getD k .zero).dn with
        | true => rw [h1 h2]; simp
        | false => cases (us'.getD k .zero).dn <;> simp
      omega
  exact key _ (Nat.le_refl _)
theorem SndM.taken {m : OutM} {us us' : List UnP} {d : Nat} {gs : List GapM} (h : SndM m us) (hd : d ≤ lead sentP us) (ht : TakeRel d (lkOf (m.beg % 64) gs) (gapP (m.beg % 64) gs) us us') : SndM (m.taken d gs) (us'.drop (lead (·.dn) us')) ∧ (m.taken d gs).beg = m.beg + lead (·.dn) us' := by
  have hn := h.n_eq
  have hll := lead_le (·.dn) us'
  have hlen := ht.1
  have hdl : d ≤ us.length := Nat.le_trans hd (lead_le _ _)
  have hu : ∀ i, i < us.length → UnR (m.taken d gs) (m.beg + i) (us'.getD i .zero) := fun i hi => (h.un i hi).taken (ht.2 i hi)
  have hbeg : (m.taken d gs).beg = m.beg + lead (·.dn) us' := by
    show firstIn (fun u => !m.done2 d gs u) m.beg m.n = _
    refine firstIn_eq (by omega) (by omega) (fun j h1 h2 => ?_) (fun hlt => ?_)
    · have h3 := lead_in (p := (·.dn)) (us := us') (k := j - m.beg) (by omega)
      have h4 := (hu (j - m.beg) (by omega)).dn
      rw [h3, show m.beg + (j - m.beg) = j by omega] at h4
      have h5 : m.done2 d gs j = true := h4.symm
      rw [h5]
      rfl
    · have h3 := lead_at (p := (·.dn)) (us := us') (by omega)
      have h4 := (hu (lead (·.dn) us') (by omega)).dn
      rw [h3] at h4
      have h5 : m.done2 d gs (m.beg + lead (·.dn) us') = false := h4.symm
      rw [h5]
      rfl
  have hnn : (m.taken d gs).n = m.n := rfl
  refine ⟨⟨h.w1, h.w2, by rw [hbeg, hnn]; omega, by rw [List.length_drop, hbeg, hnn]; omega, fun i hi => ?_, fun u hu' => ?_, fun u hu' => ?_, fun i hi hs => ?_, fun i hi hd' => ?_, ?_⟩, hbeg⟩
  · rw [List.length_drop] at hi
    rw [getD_dropU, hbeg, Nat.add_assoc]
    exact hu _ (by omega)
  · rw [hbeg] at hu'
    show m.done2 d gs u = true
    by_cases e : u < m.beg
    · unfold OutM.done2
      rw [h.old u e]
      rfl
    · have h3 := lead_in (p := (·.dn)) (us := us') (k := u - m.beg) (by omega)
      have h4 := (hu (u - m.beg) (by omega)).dn
      rw [h3, show m.beg + (u - m.beg) = u by omega] at h4
      exact h4.symm
  · have hu'' : m.n ≤ u := hu'
    have hf := h.fresh u hu''
    refine ⟨?_, fun t => ?_⟩
    · show m.done2 d gs u = false
      unfold OutM.done2
      rw [hf.1, decide_eq_false (by omega)]
      rfl
    · show m.mark2 d gs u t = 0
      unfold OutM.mark2
      rw [if_neg (by omega), if_neg (by omega), hf.2 t]
      rw [if_neg (by omega)]
  · rw [List.length_drop] at hi
    rw [getD_dropU, (ht.2 _ (by omega)).2.1] at hs
    obtain ⟨q1, q2⟩ := h.pre _ (by omega) hs
    refine ⟨by show i < m.win; omega, fun j hj => ?_⟩
    rw [getD_dropU, (ht.2 _ (by omega)).2.1]
    exact q2 _ (by omega)
  · rw [List.length_drop] at hi
    rw [getD_dropU] at hd' ⊢
    have hr := ht.2 (lead (·.dn) us' + i) (by omega)
    rw [hr.2.1]
    rw [hr.2.2.1] at hd'
    cases hx : (us.getD (lead (·.dn) us' + i) .zero).dn with
    | true => exact h.dsn _ (by omega) hx
    | false =>
      rw [hx, Bool.false_or, Bool.and_eq_true, decide_eq_true_eq] at hd'
      have := lead_in (p := sentP) (us := us) (k := lead (·.dn) us' + i) (by omega)
      exact of_decide_eq_true this
  · have h1 := waitN_le_drop us' (lead (·.dn) us')
    have h2 := waitN_mono hlen (fun i hi hx => by rw [(ht.2 i hi).2.2.1, hx]; rfl)
    have := h.few
    omega
theorem SndM.lead32 {m : OutM} {us : List UnP} (h : SndM m us) : lead sentP us ≤ 32 := by
  rcases Nat.eq_zero_or_pos (lead sentP us) with e | e
  · omega
  · have hl := lead_le sentP us
    have h1 := lead_in (p := sentP) (us := us) (k := lead sentP us - 1) (by omega)
    have := (h.pre _ (by omega) (of_decide_eq_true h1)).1
    have := h.w2
    omega
theorem snd_take {w : World} {p : Addr} {F : List Nat} {m : OutM} (r : ReportM) (a : Option Addr) (n c : Nat) (h : Snd w p F m) (hG : Gps w a r.miss) (hNI : NotIn F a) (hn : r.miss.length = n) (hm : n ≤ maxLen) : Calls Try.prog 22 #[.pointer (some p), .agg #[.int .i64 r.next, .slice a n c]] w fun e w' => e = .returned (.int .i64 (m.take r).err) ∧ Kept F w w' ∧ ∃ F', Snd w' p F' (m.take r).m ∧ Grown w.heap.size F F' := by
  obtain ⟨b, ua, cc, us, rfl, rfl, h1, h2⟩ := h
  have hsh := h2.short
  obtain ⟨r1, r2, r3⟩ := h2.repErr r
  rw [r1]
  by_cases he : repErr (m.beg % 64) us r = 0
  · rw [r3 he]
    have hlead : aheadN r.next m.beg ≤ lead sentP us := by
      unfold repErr at he
      rw [aheadN_mod] at he
      split at he
      · simp at he
      · split at he
        · simp at he
        · omega
    have h32 : aheadN r.next (m.beg % 64) ≤ 32 := by rw [aheadN_mod]; have := h2.lead32; omega
    refine (stake_good r a n c h1 (Nat.mod_lt _ (by omega)) (by omega) h2.usOk hG hNI hn hm he h32).mono ?_
    rintro e w' ⟨rfl, hk, us', ht, hN, hp⟩
    rw [aheadN_mod] at ht
    obtain ⟨q1, q2⟩ := h2.taken hlead ht
    refine ⟨by rw [he], hk, _, ⟨b, ua, cc, _, rfl, rfl, ?_, q1⟩, fun x hx => ?_⟩
    · rw [q2]
      rw [mod_add64] at hp
      exact hp
    · have hx' : x ∈ sndF b ua us' := by
        rcases sndF_mem hx with rfl | ⟨y, hy, rfl⟩ | ⟨j, hj, e⟩
        · exact sndF_b _ _ _
        · exact sndF_u hy
        · rw [getD_dropU] at e
          rw [List.length_drop] at hj
          exact sndF_a (by omega) e
      exact sndF_new hN ht.1 hx'
  · rw [r2 he]
    refine (stake_bad r a n c h1 (Nat.mod_lt _ (by omega)) (by omega) h2.usOk hG hn hm he).mono ?_
    rintro e w' ⟨rfl, hb⟩
    exact ⟨rfl, Kept.of_below hb, sndF b ua us, ⟨b, ua, cc, us, rfl, rfl, h1.kept (Kept.of_below (S := []) hb) (by simp), h2⟩, fun x hx => .inl hx⟩
end Go.Proofs.Ytdgdklmgnnhadaf
