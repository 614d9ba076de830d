import Derived.Test.YtbjgfoiikhbonafK36
set_option linter.unusedVariables false
set_option linter.unusedSimpArgs false
namespace Go.Proofs.Ytbjgfoiikhbonaf
open Go.ChangeShapes Go.WideShapes Go.ChangeAt Go.RowKit
structure UnR (m : OutM) (u : Nat) (x : UnP) : Prop where
  tx : x.text = m.t u
  dn : x.dn = m.done u
  lo : 0 < x.text.size
  hi : x.text.size ≤ 1500
  sn : x.sent ≤ x.text.size
  mks : ∀ t, t < x.text.size → (m.mark u t = 0 ↔ x.sent ≤ t) ∧ m.mark u t ≤ 2
  srt : Srt x.al
  ag : ∀ t, inS x.al t ↔ t < x.text.size ∧ m.mark u t = 2
  dal : x.dn = true → x.al = []
structure SndM (m : OutM) (us : List UnP) : Prop where
  w1 : 1 ≤ m.win
  w2 : m.win ≤ 32
  bn : m.beg ≤ m.n
  len : us.length = m.n - m.beg
  un : ∀ i, i < us.length → UnR m (m.beg + i) (us.getD i .zero)
  old : ∀ u, u < m.beg → m.done u = true
  fresh : ∀ u, m.n ≤ u → m.done u = false ∧ ∀ t, m.mark u t = 0
  pre : ∀ i, i < us.length → 0 < (us.getD i .zero).sent → i < m.win ∧ ∀ j, j < i → 0 < (us.getD j .zero).sent
  dsn : ∀ i, i < us.length → (us.getD i .zero).dn = true → 0 < (us.getD i .zero).sent
  few : waitN us ≤ 64
def Snd (w : World) (p : Addr) (F : List Nat) (m : OutM) : Prop := ∃ b ua c us, p = ⟨b, 0, none⟩ ∧ F = sndF b ua us ∧ PSnd w b m.win (m.beg % 64) ua c us ∧ SndM m us
theorem SndM.usOk {m : OutM} {us : List UnP} (h : SndM m us) : UsOk us :=
  ⟨fun i hi => (h.un i hi).srt, fun i hi => (h.un i hi).sn, fun i hi => (h.un i hi).hi, fun i hi t ht => by
    have hu := h.un i hi
    have h1 := (hu.ag t).1 ht
    rcases Nat.lt_or_ge t (us.getD i .zero).sent with h2 | h2
    · exact h2
    · have := (hu.mks t h1.1).1.2 h2
      omega⟩
theorem waitN_drop (us : List UnP) : ∀ k, (∀ i, i < us.length → k ≤ i → (us.getD i .zero).dn = false) → us.length ≤ waitN us + k := by
  induction us with
  | nil => intro k _; simp
  | cons x us ih =>
    intro k hk
    cases k with
    | zero =>
      have h0 : x.dn = false := hk 0 (by simp) (by omega)
      have := ih 0 (fun i hi _ => hk (i + 1) (by simp; omega) (by omega))
      have e : waitN (x :: us) = waitN us + 1 := by simp [waitN, h0]
      rw [e, List.length_cons]
      omega
    | succ k =>
      have := ih k (fun i hi hki => hk (i + 1) (by simp; omega) (by omega))
      have e : waitN us ≤ waitN (x :: us) := by
        unfold waitN
        rw [List.filter_cons]
        split <;> simp
      rw [List.length_cons]
      omega
theorem SndM.short {m : OutM} {us : List UnP} (h : SndM m us) : us.length ≤ 96 := by
  have := waitN_drop us 32 (fun i hi h32 => by
    cases hd : (us.getD i .zero).dn with
    | false => rfl
    | true =>
      have := (h.pre i hi (h.dsn i hi hd)).1
      have := h.w2
      omega)
  have := h.few
  omega
theorem count_range (d : Nat → Bool) : ∀ (k n : Nat), (∀ u, u < k → d u = true) → ((List.range (k + n)).filter fun u => !d u).length = ((List.range n).filter fun i => !d (k + i)).length
  | k, 0, h => by
    simp only [Nat.add_zero, List.range_zero, List.filter_nil, List.length_nil]
    rw [List.length_eq_zero_iff, List.filter_eq_nil_iff]
    intro u hu
    rw [h u (List.mem_range.1 hu)]
    simp
  | k, n + 1, h => by
    have ih := count_range d k n h
    rw [← Nat.add_assoc, List.range_succ, List.range_succ, List.filter_append, List.filter_append, List.length_append, List.length_append, ih]
    congr 1
    simp only [List.filter_cons, List.filter_nil]
    cases d (k + n) <;> rfl
theorem waitN_range (us : List UnP) : waitN us = ((List.range us.length).filter fun i => !(us.getD i .zero).dn).length := by
  have key : ∀ k, k ≤ us.length → waitN (us.take k) = ((List.range k).filter fun i => !(us.getD i .zero).dn).length := by
    intro k
    induction k with
    | zero => intro _; rfl
    | succ k ih =>
      intro hk
      rw [takeU (by omega), waitN_snoc, ih (by omega), List.range_succ, List.filter_append, List.length_append]
      congr 1
      simp only [List.filter_cons, List.filter_nil]
      cases (us.getD k .zero).dn <;> rfl
  have := key us.length (Nat.le_refl _)
  rwa [List.take_length] at this
theorem SndM.wait {m : OutM} {us : List UnP} (h : SndM m us) : m.wait = waitN us := by
  unfold OutM.wait
  have e : m.n = m.beg + us.length := by have := h.len; have := h.bn; omega
  rw [e, count_range m.done m.beg us.length h.old, waitN_range]
  congr 1
  refine List.filter_congr fun i hi => ?_
  rw [(h.un i (List.mem_range.1 hi)).dn]
theorem SndM.new {k : Nat} (h1 : 1 ≤ k) (h2 : k ≤ 32) : SndM (OutM.new k) [] := by
  refine ⟨h1, h2, Nat.le_refl _, rfl, ?_, ?_, ?_, ?_, ?_, ?_⟩
  · intro i hi; simp at hi
  · intro u hu; exact absurd hu (Nat.not_lt_zero _)
  · intro u _; exact ⟨rfl, fun _ => rfl⟩
  · intro i hi; simp at hi
  · intro i hi; simp at hi
  · simp [waitN]
theorem t_app1 {m : OutM} {s : ByteArray} {u : Nat} (h : u < m.n) : ({ m with text := m.text ++ [s] } : OutM).t u = m.t u := by
  unfold OutM.t OutM.n at *
  show (m.text ++ [s]).getD u _ = _
  rw [List.getD_eq_getElem?_getD, List.getElem?_append_left h, ← List.getD_eq_getElem?_getD]
theorem t_app2 {m : OutM} {s : ByteArray} : ({ m with text := m.text ++ [s] } : OutM).t m.n = s := by
  unfold OutM.t OutM.n
  show (m.text ++ [s]).getD m.text.length _ = _
  rw [List.getD_eq_getElem?_getD, List.getElem?_append_right (Nat.le_refl _), Nat.sub_self]
  rfl
theorem SndM.app {m : OutM} {us : List UnP} {s : ByteArray} (h : SndM m us) (h0 : 0 < s.size) (h1 : s.size ≤ 1500) (h2 : waitN us < 64) : SndM { m with text := m.text ++ [s] } (us ++ [unNew s]) := by
  have hn : ({ m with text := m.text ++ [s] } : OutM).n = m.n + 1 := by unfold OutM.n; simp
  have hbn := h.bn
  have hlen := h.len
  refine ⟨h.w1, h.w2, by rw [hn]; exact Nat.le_succ_of_le hbn, ?_, fun i hi => ?_, h.old, fun u hu => ?_, fun i hi hs => ?_, fun i hi hd => ?_, ?_⟩
  · rw [hn, List.length_append, hlen]
    show m.n - m.beg + 1 = m.n + 1 - m.beg
    omega
  · rw [List.length_append] at hi
    have hi : i < us.length + 1 := hi
    show UnR _ (m.beg + i) _
    by_cases e : i = us.length
    · subst e
      rw [getD_app2, show m.beg + us.length = m.n by omega]
      have hf := h.fresh m.n (Nat.le_refl _)
      refine ⟨t_app2.symm, hf.1.symm, h0, h1, Nat.zero_le _, fun t _ => ?_, Srt.nil, fun t => ?_, fun hd => rfl⟩
      · show (m.mark m.n t = 0 ↔ 0 ≤ t) ∧ m.mark m.n t ≤ 2
        rw [hf.2 t]
        exact ⟨⟨fun _ => Nat.zero_le _, fun _ => rfl⟩, by omega⟩
      · show inS [] t ↔ _ ∧ m.mark m.n t = 2
        rw [hf.2 t]
        exact ⟨fun h => absurd h (inS_nil t), fun h => by have := h.2; omega⟩
    · rw [getD_app1 (by omega)]
      have hu := h.un i (by omega)
      exact ⟨by rw [t_app1 (by omega)]; exact hu.tx, hu.dn, hu.lo, hu.hi, hu.sn, hu.mks, hu.srt, hu.ag, hu.dal⟩
  · rw [hn] at hu
    exact h.fresh u (by omega)
  · rw [List.length_append] at hi
    have hi : i < us.length + 1 := hi
    by_cases e : i = us.length
    · subst e
      rw [getD_app2] at hs
      exact absurd hs (Nat.lt_irrefl _)
    · rw [getD_app1 (by omega)] at hs
      obtain ⟨q1, q2⟩ := h.pre i (by omega) hs
      exact ⟨q1, fun j hj => by rw [getD_app1 (by omega)]; exact q2 j hj⟩
  · rw [List.length_append] at hi
    have hi : i < us.length + 1 := hi
    by_cases e : i = us.length
    · subst e
      rw [getD_app2] at hd
      cases hd
    · rw [getD_app1 (by omega)] at hd ⊢
      exact h.dsn i (by omega) hd
  · rw [waitN_snoc]
    show waitN us + 1 ≤ 64
    omega
theorem snd_lt {w : World} {p : Addr} {F : List Nat} {m : OutM} (h : Snd w p F m) : ∀ x ∈ F, x < w.heap.size := by
  obtain ⟨b, ua, c, us, rfl, rfl, h1, -⟩ := h
  exact h1.lt
theorem snd_kept {w w' : World} {p : Addr} {F T : List Nat} {m : OutM} (h : Snd w p F m) (hk : Kept T w w') (hd : ∀ x ∈ F, x ∉ T) : Snd w' p F m := by
  obtain ⟨b, ua, c, us, rfl, rfl, h1, h2⟩ := h
  exact ⟨b, ua, c, us, rfl, rfl, h1.kept hk hd, h2⟩
theorem snd_new (k : Int) (w : World) (h1 : 1 ≤ k) (h2 : k ≤ 32) : Calls Try.prog 12 #[.int .i64 k] w fun e w' => ∃ p F, e = .returned (.tuple #[.pointer (some p), .int .i64 0]) ∧ Snd w' p F (OutM.new k.toNat) ∧ (∀ x ∈ F, w.heap.size ≤ x) ∧ Below w.heap.size w w' := by
  obtain ⟨n, rfl⟩ : ∃ n : Nat, k = (n : Int) := ⟨k.toNat, by omega⟩
  refine (newSender_good w (k := n) (by omega) (by omega)).mono ?_
  rintro e w' ⟨rfl, rfl⟩
  refine ⟨_, sndF w.heap.size none [], rfl, ⟨w.heap.size, none, 0, [], rfl, rfl, PSnd.new w n, ?_⟩, fun x hx => by simp [sndF] at hx; omega, (Below.refl _ w).alloc (Nat.le_refl _) _⟩
  exact SndM.new (by omega) (by omega)
theorem snd_newBad (k : Int) (w : World) (h : k < 1 ∨ 32 < k) : Calls Try.prog 12 #[.int .i64 k] w fun e w' => e = .returned (.tuple #[.pointer none, .int .i64 1]) ∧ Below w.heap.size w w' := by
  refine (newSender_bad w h).mono ?_
  rintro e w' ⟨rfl, rfl⟩
  exact ⟨rfl, Below.refl _ _⟩
theorem snd_wait {w : World} {p : Addr} {F : List Nat} {m : OutM} (h : Snd w p F m) : Calls Try.prog 24 #[.pointer (some p)] w fun e w' => e = .returned (.int .i64 (m.wait : Nat)) ∧ Kept F w w' ∧ ∃ F', Snd w' p F' m ∧ Grown w.heap.size F F' := by
  obtain ⟨b, ua, c, us, rfl, rfl, h1, h2⟩ := h
  refine (waiting_any h1 (by have := h2.short; omega)).mono ?_
  rintro e w' ⟨rfl, rfl⟩
  exact ⟨by rw [h2.wait], Kept.refl _ _, sndF b ua us, ⟨b, ua, c, us, rfl, rfl, h1, h2⟩, fun x hx => .inl hx⟩
theorem snd_submit {w : World} {p : Addr} {F : List Nat} {m : OutM} (s : ByteArray) (h : Snd w p F m) (hs : s.size ≤ maxLen) : Calls Try.prog 14 #[.pointer (some p), .string s] w fun e w' => e = .returned (.int .i64 (m.submit s).err) ∧ Kept F w w' ∧ ∃ F', Snd w' p F' (m.submit s).m ∧ Grown w.heap.size F F' := by
  obtain ⟨b, ua, c, us, rfl, rfl, h1, h2⟩ := h
  have hsh := h2.short
  have hw := h2.wait
  by_cases he : subErr us s = 0
  · unfold subErr at he
    split at he
    · simp at he
    · split at he
      · simp at he
      · split at he
        · simp at he
        · rename_i q0 q1 q2
          have hm : m.submit s = ⟨{ m with text := m.text ++ [s] }, 0⟩ := by
            unfold OutM.submit
            rw [if_neg q0, if_neg q1, hw, if_neg q2]
          rw [hm]
          refine (submit_good h1 (by omega) (by omega) (by omega) (by omega)).mono ?_
          rintro e w' ⟨rfl, hk, ua', c', hp, hl⟩
          refine ⟨rfl, hk, sndF b ua' (us ++ [unNew s]), ⟨b, ua', c', us ++ [unNew s], rfl, rfl, hp, h2.app (by omega) (by omega) (by omega)⟩, fun x hx => ?_⟩
          rcases sndF_mem hx with rfl | ⟨y, hy, rfl⟩ | ⟨i, hi, e⟩
          · exact .inl (sndF_b _ _ _)
          · rcases hl y hy with h3 | h3
            · exact .inl (sndF_u h3)
            · exact .inr h3
          · rw [List.length_append] at hi
            have hi : i < us.length + 1 := hi
            by_cases e' : i = us.length
            · subst e'
              rw [getD_app2] at e
              simp [unNew, Value.ownBlock] at e
            · rw [getD_app1 (by omega)] at e
              exact .inl (sndF_a (by omega) e)
  · have hm : m.submit s = ⟨m, subErr us s⟩ := by
      unfold OutM.submit subErr
      rw [hw]
      unfold subErr at he
      split
      · rfl
      · split
        · rfl
        · split
          · rfl
          · rename_i q0 q1 q2
            rw [if_neg q0, if_neg q1, if_neg q2] at he
            exact absurd rfl he
    rw [hm]
    refine (submit_bad h1 (by omega) hs he).mono ?_
    rintro e w' ⟨rfl, rfl⟩
    exact ⟨rfl, Kept.refl _ _, sndF b ua us, ⟨b, ua, c, us, rfl, rfl, h1, h2⟩, fun x hx => .inl hx⟩
end Go.Proofs.Ytbjgfoiikhbonaf
namespace Go.Proofs.Ytbjgfoiikhbonaf
open Go.ChangeShapes Go.WideShapes Go.ChangeAt Go.RowKit
theorem UnR.sz {m : OutM} {u : Nat} {x : UnP} (h : UnR m u x) : m.sz u = x.text.size := by unfold OutM.sz; rw [h.tx]
theorem SndM.n_eq {m : OutM} {us : List UnP} (h : SndM m us) : m.n = m.beg + us.length := by have := h.len; have := h.bn; omega
theorem UnR.can2 {m : OutM} {u : Nat} {x : UnP} (h : UnR m u x) : m.can 2 u = !noneP x := by
  unfold OutM.can noneP
  cases hal : x.al with
  | nil =>
    have : m.hit 2 u = m.sz u := by
      unfold OutM.hit
      refine firstIn_none (Nat.zero_le _) fun t _ ht => ?_
      have h1 := (h.ag t)
      rw [hal] at h1
      rw [beq_eq_false_iff_ne]
      intro e
      exact inS_nil t (h1.2 ⟨by rw [← h.sz]; exact ht, e⟩)
    simp [this]
  | cons q r =>
    have hs := h.srt
    rw [hal] at hs
    have hq := (h.ag q.1).1 (by rw [hal]; exact ⟨q, List.mem_cons_self, Nat.le_refl _, hs.head.1⟩)
    have : m.hit 2 u < m.sz u := by
      unfold OutM.hit
      have h2 := firstIn_lt (p := fun i => m.mark u i == 2) (lo := 0) (hi := m.sz u) (k := q.1) (Nat.zero_le _) (by simpa using hq.2)
      rw [h.sz] at h2 ⊢
      omega
    simp [this]
theorem UnR.can0 {m : OutM} {u : Nat} {x : UnP} (h : UnR m u x) : m.can 0 u = openP x := by
  unfold OutM.can openP
  rw [← h.dn]
  have : m.hit 0 u = x.sent := by
    unfold OutM.hit
    refine firstIn_eq (Nat.zero_le _) (by rw [h.sz]; exact h.sn) (fun t _ ht => ?_) (fun hlt => ?_)
    · rw [beq_eq_false_iff_ne]
      intro e
      have := (h.mks t (by have := h.sn; omega)).1.1 e
      omega
    · rw [beq_iff_eq]
      exact (h.mks _ (by rw [← h.sz]; exact hlt)).1.2 (Nat.le_refl _)
  rw [this, h.sz, Bool.and_comm]
  simp
theorem UnR.hit0 {m : OutM} {u : Nat} {x : UnP} (h : UnR m u x) : m.hit 0 u = x.sent := by
  unfold OutM.hit
  refine firstIn_eq (Nat.zero_le _) (by rw [h.sz]; exact h.sn) (fun t _ ht => ?_) (fun hlt => ?_)
  · rw [beq_eq_false_iff_ne]
    intro e
    have := (h.mks t (by have := h.sn; omega)).1.1 e
    omega
  · rw [beq_iff_eq]
    exact (h.mks _ (by rw [← h.sz]; exact hlt)).1.2 (Nat.le_refl _)
theorem UnR.cut0 {m : OutM} {u size : Nat} {x : UnP} (h : UnR m u x) : m.cut 0 u size = min (x.sent + size) x.text.size := by
  unfold OutM.cut
  rw [h.hit0, h.sz]
  have hsn := h.sn
  rw [firstIn_none (by omega) (fun t h1 h2 => ?_)]
  · omega
  · have := (h.mks t (by omega)).1.2 h1
    simp [this]
theorem UnR.hit2 {m : OutM} {u p q : Nat} {r : Sps} {x : UnP} (h : UnR m u x) (hal : x.al = (p, q) :: r) : m.hit 2 u = p := by
  have hs := h.srt
  rw [hal] at hs
  have hin := h.ag
  rw [hal] at hin
  have hp := (hin p).1 ⟨(p, q), List.mem_cons_self, Nat.le_refl _, hs.head.1⟩
  unfold OutM.hit
  refine firstIn_eq (Nat.zero_le _) (by rw [h.sz]; omega) (fun t _ ht => ?_) (fun _ => by simpa using hp.2)
  rw [beq_eq_false_iff_ne]
  intro e
  obtain ⟨y, hy, h1, h2⟩ := (hin t).2 ⟨by omega, e⟩
  rw [List.mem_cons] at hy
  rcases hy with rfl | hy
  · have : p ≤ t := h1
    omega
  · have := hs.head.2 y hy
    have := hs.head.1
    omega
theorem UnR.cut2 {m : OutM} {u p q size : Nat} {r : Sps} {x : UnP} (h : UnR m u x) (hal : x.al = (p, q) :: r) (h1 : 1 ≤ size) : m.cut 2 u size = min q (p + size) := by
  have hs := h.srt
  rw [hal] at hs
  have hin := h.ag
  rw [hal] at hin
  have hpq : p < q := hs.head.1
  have hq := (hin (q - 1)).1 ⟨(p, q), List.mem_cons_self, by show p ≤ q - 1; omega, by show q - 1 < q; omega⟩
  unfold OutM.cut
  rw [h.hit2 hal, h.sz]
  refine firstIn_eq (by omega) (by omega) (fun t h3 h4 => ?_) (fun hlt => ?_)
  · have := (hin t).1 ⟨(p, q), List.mem_cons_self, h3, by show t < q; omega⟩
    simp [this.2]
  · have hmq : min q (p + size) = q := by omega
    rw [hmq] at hlt ⊢
    rw [bne_iff_ne]
    intro e
    obtain ⟨y, hy, h5, h6⟩ := (hin q).2 ⟨by omega, e⟩
    rw [List.mem_cons] at hy
    rcases hy with rfl | hy
    · have : q < q := h6
      omega
    · have := hs.head.2 y hy
      have : q < y.1 := this
      omega
/-- Other units are as they were. -/
theorem UnR.other {m : OutM} {u a b v : Nat} {x : UnP} (h : UnR m v x) (hne : v ≠ u) : UnR (m.sent u a b) v x := by
  have e : ∀ t, (m.sent u a b).mark v t = m.mark v t := fun t => by
    show (if v = u ∧ a ≤ t ∧ t < b then 1 else m.mark v t) = _
    rw [if_neg (fun h => hne h.1)]
  exact ⟨h.tx, h.dn, h.lo, h.hi, h.sn, fun t ht => by rw [e t]; exact h.mks t ht, h.srt, fun t => by rw [e t]; exact h.ag t, h.dal⟩
theorem UnR.again {m : OutM} {u p q size : Nat} {r : Sps} {x : UnP} {v' : Value} (h : UnR m u x) (hal : x.al = (p, q) :: r) (h1 : 1 ≤ size) : UnR (m.sent u p (min q (p + size))) u { x with av := v', al := if q ≤ p + size then r else (p + size, q) :: r } := by
  have hs := h.srt
  rw [hal] at hs
  have hin := h.ag
  rw [hal] at hin
  have hpq : p < q := hs.head.1
  have hr : ∀ y ∈ r, q < y.1 := hs.head.2
  have e : ∀ t, (m.sent u p (min q (p + size))).mark u t = if p ≤ t ∧ t < min q (p + size) then 1 else m.mark u t := fun t => by
    show (if u = u ∧ p ≤ t ∧ t < _ then 1 else m.mark u t) = _
    simp
  have h2 : ∀ t, p ≤ t → t < q → t < x.text.size ∧ m.mark u t = 2 := fun t a b => (hin t).1 ⟨(p, q), List.mem_cons_self, a, b⟩
  refine ⟨h.tx, h.dn, h.lo, h.hi, h.sn, fun t ht => ?_, ?_, fun t => ?_, fun hd => ?_⟩
  · rw [e t]
    show (_ ↔ x.sent ≤ t) ∧ _
    by_cases hc : p ≤ t ∧ t < min q (p + size)
    · rw [if_pos hc]
      have h3 := h2 t hc.1 (by omega)
      have h4 := (h.mks t h3.1).1
      refine ⟨⟨fun h => by omega, fun h => ?_⟩, by omega⟩
      have := h4.2 h
      omega
    · rw [if_neg hc]
      exact h.mks t ht
  · show Srt (if q ≤ p + size then r else (p + size, q) :: r)
    split
    · exact hs.tail
    · refine ⟨fun y hy => ?_, List.pairwise_cons.2 ⟨hr, hs.tail.2⟩⟩
      rw [List.mem_cons] at hy
      rcases hy with rfl | hy
      · show p + size < q
        omega
      · exact hs.tail.1 y hy
  · show inS (if q ≤ p + size then r else (p + size, q) :: r) t ↔ t < x.text.size ∧ _
    rw [e t]
    have hmem := hin t
    rw [inS_cons] at hmem
    have hrt : inS r t → q < t ∨ q < t + 1 := fun ⟨y, hy, a, _⟩ => by have := hr y hy; omega
    have hrt' : inS r t → q < t := fun ⟨y, hy, a, _⟩ => by have := hr y hy; omega
    split
    · rename_i hle
      have hm : min q (p + size) = q := by omega
      rw [hm]
      by_cases hc : p ≤ t ∧ t < q
      · rw [if_pos hc]
        exact ⟨fun h => by have := hrt' h; omega, fun h => by omega⟩
      · rw [if_neg hc, ← hmem]
        exact ⟨.inr, fun h => h.elim (fun h => absurd h hc) id⟩
    · rename_i hle
      have hm : min q (p + size) = p + size := by omega
      rw [hm, inS_cons]
      by_cases hc : p ≤ t ∧ t < p + size
      · rw [if_pos hc]
        refine ⟨fun h => ?_, fun h => by omega⟩
        rcases h with h | h
        · have : p + size ≤ t := h.1
          omega
        · have := hrt' h
          omega
      · rw [if_neg hc, ← hmem]
        constructor
        · rintro (h | h)
          · have h3 : p + size ≤ t := h.1
            exact .inl ⟨by show p ≤ t; omega, h.2⟩
          · exact .inr h
        · rintro (h | h)
          · have h3 : p ≤ t := h.1
            exact .inl ⟨by show p + size ≤ t; omega, h.2⟩
          · exact .inr h
  · have := h.dal hd
    rw [hal] at this
    cases this
theorem UnR.first {m : OutM} {u size : Nat} {x : UnP} (h : UnR m u x) (_hal : x.al = []) (h1 : 1 ≤ size) : UnR (m.sent u x.sent (min (x.sent + size) x.text.size)) u { x with sent := min (x.sent + size) x.text.size } := by
  have e : ∀ t, (m.sent u x.sent (min (x.sent + size) x.text.size)).mark u t = if x.sent ≤ t ∧ t < min (x.sent + size) x.text.size then 1 else m.mark u t := fun t => by
    show (if u = u ∧ _ ≤ t ∧ t < _ then 1 else m.mark u t) = _
    simp
  have hin := h.ag
  have hsn := h.sn
  refine ⟨h.tx, h.dn, h.lo, h.hi, by show min (x.sent + size) x.text.size ≤ x.text.size; omega, fun t ht => ?_, h.srt, fun t => ?_, h.dal⟩
  · rw [e t]
    have ht' : t < x.text.size := ht
    have h4 := h.mks t ht'
    show (_ ↔ min (x.sent + size) x.text.size ≤ t) ∧ _
    by_cases hc : x.sent ≤ t ∧ t < min (x.sent + size) x.text.size
    · rw [if_pos hc]
      exact ⟨⟨fun h => by omega, fun h => by omega⟩, by omega⟩
    · rw [if_neg hc]
      refine ⟨⟨fun h => ?_, fun h => ?_⟩, h4.2⟩
      · have := h4.1.1 h
        omega
      · exact h4.1.2 (by omega)
  · rw [e t]
    show inS x.al t ↔ t < x.text.size ∧ _
    rw [hin t]
    by_cases hc : x.sent ≤ t ∧ t < min (x.sent + size) x.text.size
    · rw [if_pos hc]
      refine ⟨fun h3 => ?_, fun h3 => by omega⟩
      have := (h.mks t h3.1).1.2 hc.1
      omega
    · rw [if_neg hc]
end Go.Proofs.Ytbjgfoiikhbonaf
