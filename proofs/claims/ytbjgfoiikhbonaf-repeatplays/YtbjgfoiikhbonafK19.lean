import Derived.Test.YtbjgfoiikhbonafK18
set_option linter.unusedVariables false
set_option linter.unusedSimpArgs false
namespace Go.Proofs.Ytbjgfoiikhbonaf
theorem srt_one {l : Sps} (h : Srt l) {n : Nat} (h0 : 0 < n) (hi : ∀ t, inS l t ↔ t < n) : l = [(0, n)] := by
  match l, h, hi with
  | [], _, hi => exact absurd ((hi 0).2 h0) (inS_nil 0)
  | (a, b) :: r, h, hi =>
    obtain ⟨hab, hr⟩ := h.head
    have hab : a < b := hab
    have hr : ∀ p ∈ r, b < p.1 := hr
    have hin : ∀ t, inS r t → b < t := fun t ⟨q, hq, h1, _⟩ => by have := hr q hq; omega
    have ha : a = 0 := by
      rcases (inS_cons _ _ _).1 ((hi 0).2 h0) with h1 | h1
      · have : a ≤ 0 := h1.1
        omega
      · have := hin 0 h1
        omega
    have hb1 : b - 1 < n := (hi _).1 ((inS_cons _ _ _).2 (.inl ⟨by show a ≤ b - 1; omega, by show b - 1 < b; omega⟩))
    have hb2 : n ≤ b := by
      rcases Nat.lt_or_ge b n with h1 | h1
      · rcases (inS_cons _ _ _).1 ((hi b).2 h1) with h2 | h2
        · have : b < b := h2.2
          omega
        · have := hin b h2
          omega
      · exact h1
    have hr0 : r = [] := by
      cases r with
      | nil => rfl
      | cons q r =>
        have h1 := hr q List.mem_cons_self
        have h2 := h.1 q (by simp)
        have := (hi q.1).1 ((inS_cons _ _ _).2 (.inr ((inS_cons _ _ _).2 (.inl ⟨Nat.le_refl _, h2⟩))))
        omega
    subst hr0
    rw [ha, show b = n by omega]
structure TuR (r : InM) (u : Nat) (x : TkP) : Prop where
  srt : Srt x.th
  th : ∀ t, inS x.th t ↔ (r.got u t).isSome = true
  dl : x.data.length = endS x.th
  dt : ∀ t, inS x.th t → r.got u t = some (UInt8.ofNat (x.data.getD t 0).toNat)
  fin : r.fin u = endS x.th
  hi : endS x.th ≤ 1500
  ln : r.len u = if x.len = 0 then none else some x.len
  lh : x.len ≤ 1500
  fl : 0 < x.len → endS x.th ≤ x.len
/-- What adding a piece makes of a unit. -/
structure AddM (x x' : TkP) (a b : Nat) (s : ByteArray) (last : Bool) : Prop where
  srt : Srt x'.th
  th : ∀ i, inS x'.th i ↔ inS x.th i ∨ (a ≤ i ∧ i < b)
  dl : x'.data.length = max x.data.length b
  old : ∀ t, inS x.th t → x'.data.getD t 0 = x.data.getD t 0
  new : ∀ t, a ≤ t → t < b → ¬ inS x.th t → x'.data.getD t 0 = ((s.get! (t - a)).toNat : Int)
  ln : x'.len = if last = true then b else x.len
theorem TuR.zero {r : InM} {u : Nat} (h1 : ∀ t, r.got u t = none) (h2 : r.len u = none) (h3 : r.fin u = 0) : TuR r u .zero := by
  refine ⟨Srt.nil, fun t => ?_, rfl, fun t ht => absurd ht (inS_nil t), h3, Nat.zero_le _, h2, Nat.zero_le _, fun h => absurd h (Nat.lt_irrefl _)⟩
  rw [h1]
  exact ⟨fun h => absurd h (inS_nil t), fun h => by cases h⟩
theorem TuR.whole {r : InM} {u : Nat} {x : TkP} (h : TuR r u x) : r.whole u = x.whole := by
  unfold InM.whole TkP.whole
  rw [h.ln]
  by_cases h0 : x.len = 0
  · rw [if_pos h0, decide_eq_false (by omega : ¬ 0 < x.len)]; rfl
  · rw [if_neg h0, decide_eq_true (by omega : 0 < x.len), Bool.true_and]
    have hfl := h.fl (by omega)
    by_cases he : x.th = [(0, x.len)]
    · rw [decide_eq_true he]
      have : firstIn (fun i => (r.got u i).isNone) 0 x.len = x.len := firstIn_none (Nat.zero_le _) (fun k _ hk => by
        have : inS x.th k := by rw [he]; exact ⟨_, List.mem_cons_self, Nat.zero_le _, hk⟩
        have h1 := (h.th k).1 this
        cases hg : r.got u k with
        | none => rw [hg] at h1; cases h1
        | some _ => rfl)
      show (_ == x.len) = true
      rw [this]
      simp
    · rw [decide_eq_false he]
      show (_ == x.len) = false
      rw [beq_eq_false_iff_ne]
      intro e
      refine he (srt_one h.srt (by omega) fun t => ⟨fun ht => ?_, fun ht => ?_⟩)
      · have := inS_lt h.srt ht
        omega
      · have h1 := firstIn_not (p := fun i => (r.got u i).isNone) (Nat.zero_le t) (by rw [e]; exact ht)
        refine (h.th t).2 ?_
        cases hg : r.got u t with
        | none => simp [hg] at h1
        | some _ => rfl
theorem TkP.whole_iff {x : TkP} (h : x.whole = true) : 0 < x.len ∧ x.th = [(0, x.len)] := by
  unfold TkP.whole at h
  rw [Bool.and_eq_true] at h
  exact ⟨of_decide_eq_true h.1, of_decide_eq_true h.2⟩
theorem TuR.text {r : InM} {u : Nat} {x : TkP} (h : TuR r u x) (hw : x.whole = true) : r.textOf u = strOfNums x.data := by
  obtain ⟨h1, h2⟩ := TkP.whole_iff hw
  have he : endS x.th = x.len := by rw [h2]; rfl
  have hl : x.data.length = x.len := by rw [h.dl, he]
  unfold InM.textOf strOfNums
  rw [h.ln, if_neg (by omega)]
  congr 2
  refine List.ext_getElem? fun t => ?_
  show ((List.range x.len).map _)[t]? = _
  rw [List.getElem?_map, List.getElem?_map]
  by_cases ht : t < x.len
  · rw [List.getElem?_range ht, List.getElem?_eq_getElem (by omega)]
    have hin : inS x.th t := by rw [h2]; exact ⟨_, List.mem_cons_self, Nat.zero_le _, ht⟩
    have hd : x.data.getD t 0 = x.data[t]'(by omega) := by rw [List.getD_eq_getElem?_getD, List.getElem?_eq_getElem (by omega)]; rfl
    simp only [Option.map_some]
    rw [h.dt t hin, hd]
    rfl
  · rw [List.getElem?_eq_none (by simp; omega), List.getElem?_eq_none (by omega)]
    rfl
theorem inS_of_end {l : Sps} (h : Srt l) (h0 : endS l = 0) : l = [] := by
  cases l with
  | nil => rfl
  | cons q r =>
    have := h.endLe q List.mem_cons_self
    have := h.1 q List.mem_cons_self
    omega
theorem AddM.ends {x x' : TkP} {a b : Nat} {s : ByteArray} {last : Bool} (h : AddM x x' a b s last) (hs : Srt x.th) (hab : a < b) : endS x'.th = max (endS x.th) b := by
  refine endS_eq h.srt (fun i hi => ?_) (fun h0 => ?_)
  · rcases (h.th i).1 hi with h1 | h1
    · have := inS_lt hs h1
      omega
    · omega
  · refine (h.th _).2 ?_
    rcases Nat.lt_or_ge (endS x.th) b with h1 | h1
    · exact .inr ⟨by omega, by omega⟩
    · rw [Nat.max_eq_left h1]
      exact .inl (hs.endIn (by omega))
/-- A piece is put. -/
theorem TuR.put {r : InM} {u : Nat} {x x' : TkP} {p : PieceM} (h : TuR r u x) (ha : AddM x x' p.a p.b p.data p.last) (hab : p.a < p.b) (hb : p.b ≤ 1500) (hc : r.clash u p = false) : TuR (r.put u p) u x' := by
  have hen := ha.ends h.srt hab
  unfold InM.clash at hc
  rw [Bool.or_eq_false_iff, h.ln, h.fin] at hc
  obtain ⟨hc1, hc2⟩ := hc
  have hlast : p.last = true → endS x.th ≤ p.b := fun hl => by
    rw [hl, Bool.true_and, decide_eq_false_iff_not] at hc2
    omega
  have hin : 0 < x.len → p.b ≤ x.len ∧ (p.last = true → x.len = p.b) := fun h0 => by
    rw [if_neg (by omega)] at hc1
    have hc1 : ((p.last && x.len != p.b) || decide (x.len < p.b)) = false := hc1
    rw [Bool.or_eq_false_iff, decide_eq_false_iff_not] at hc1
    refine ⟨by omega, fun hl => ?_⟩
    have := hc1.1
    rw [hl, Bool.true_and, bne_eq_false_iff_eq] at this
    exact this
  have hgot : ∀ t, (r.put u p).got u t = if p.a ≤ t ∧ t < p.b ∧ r.got u t = none then some (p.data.get! (t - p.a)) else r.got u t := fun t => by
    show (if u = u ∧ p.a ≤ t ∧ t < p.b ∧ r.got u t = none then _ else _) = _
    simp only [true_and]
  have hnone : ∀ t, r.got u t = none ↔ ¬ inS x.th t := fun t => by
    rw [h.th]
    cases r.got u t <;> simp
  refine ⟨ha.srt, fun t => ?_, ?_, fun t ht => ?_, ?_, by rw [hen]; have := h.hi; omega, ?_, ?_, fun h0 => ?_⟩
  · rw [ha.th, hgot]
    by_cases hc : p.a ≤ t ∧ t < p.b ∧ r.got u t = none
    · rw [if_pos hc]
      exact ⟨fun _ => rfl, fun _ => .inr ⟨hc.1, hc.2.1⟩⟩
    · rw [if_neg hc, ← h.th]
      refine ⟨fun h1 => ?_, fun h1 => .inl h1⟩
      rcases h1 with h1 | h1
      · exact h1
      · exact Classical.byContradiction fun hn => hc ⟨h1.1, h1.2, (hnone t).2 hn⟩
  · rw [ha.dl, h.dl, hen]
  · rw [hgot]
    by_cases hc : p.a ≤ t ∧ t < p.b ∧ r.got u t = none
    · rw [if_pos hc, ha.new t hc.1 hc.2.1 ((hnone t).1 hc.2.2)]
      simp
    · rw [if_neg hc]
      have hin : inS x.th t := by
        rcases (ha.th t).1 ht with h1 | h1
        · exact h1
        · exact Classical.byContradiction fun hn => hc ⟨h1.1, h1.2, (hnone t).2 hn⟩
      rw [ha.old t hin]
      exact h.dt t hin
  · show (if u = u then max (r.fin u) p.b else _) = _
    rw [if_pos rfl, h.fin, hen]
  · show (if u = u ∧ p.last = true then some p.b else r.len u) = _
    rw [ha.ln, h.ln]
    cases hl : p.last with
    | true =>
      rw [if_pos ⟨rfl, rfl⟩, if_pos rfl, if_neg (by omega)]
    | false => simp
  · rw [ha.ln]
    have := h.lh
    split <;> omega
  · rw [hen, ha.ln]
    rw [ha.ln] at h0
    cases hl : p.last with
    | true =>
      rw [if_pos rfl]
      have := hlast hl
      omega
    | false =>
      rw [hl, if_neg (by simp)] at h0
      rw [if_neg (by simp)]
      have := h.fl h0
      have := (hin h0).1
      omega
theorem TuR.other {r : InM} {u v : Nat} {x : TkP} {p : PieceM} (h : TuR r v x) (hv : v ≠ u) : TuR (r.put u p) v x := by
  have e1 : ∀ t, (r.put u p).got v t = r.got v t := fun t => if_neg (fun h => hv h.1)
  have e2 : (r.put u p).len v = r.len v := if_neg (fun h => hv h.1)
  have e3 : (r.put u p).fin v = r.fin v := if_neg hv
  refine ⟨h.srt, fun t => ?_, h.dl, fun t ht => ?_, ?_, h.hi, ?_, h.lh, h.fl⟩
  · rw [e1]; exact h.th t
  · rw [e1]; exact h.dt t ht
  · rw [e3]; exact h.fin
  · rw [e2]; exact h.ln
structure RcvM (r : InM) (us : List TkP) : Prop where
  w1 : 1 ≤ r.win
  w2 : r.win ≤ 32
  len : us.length = r.win
  un : ∀ i, i < us.length → TuR r (r.fst + i) (us.getD i .zero)
  top : r.hi ≤ r.fst + r.win
  fresh : ∀ u, r.fst + r.win ≤ u → (∀ t, r.got u t = none) ∧ r.len u = none ∧ r.fin u = 0
  last : r.fst < r.hi → 0 < r.fin (r.hi - 1)
  above : ∀ u, r.fst ≤ u → r.hi ≤ u → r.fin u = 0
theorem getD_rep (k i : Nat) : (List.replicate k TkP.zero).getD i .zero = .zero := by
  rw [List.getD_eq_getElem?_getD, List.getElem?_replicate]
  split <;> rfl
theorem RcvM.new {k : Nat} (h1 : 1 ≤ k) (h2 : k ≤ 32) : RcvM (InM.new k) (List.replicate k .zero) := by
  refine ⟨h1, h2, by simp [InM.new], fun i hi => ?_, Nat.zero_le _, fun u _ => ⟨fun _ => rfl, rfl, rfl⟩, fun h => absurd h (Nat.lt_irrefl _), fun _ _ _ => rfl⟩
  rw [getD_rep]
  exact TuR.zero (fun _ => rfl) rfl rfl
theorem getD_setTS {us : List TkP} {i : Nat} {x : TkP} (hi : i < us.length) : (us.set i x).getD i .zero = x := by rw [List.getD_eq_getElem?_getD, List.getElem?_set_self hi]; rfl
theorem getD_setTN {us : List TkP} {i j : Nat} {x : TkP} (h : i ≠ j) : (us.set i x).getD j .zero = us.getD j .zero := by rw [List.getD_eq_getElem?_getD, List.getElem?_set_ne h, ← List.getD_eq_getElem?_getD]
theorem RcvM.put {r : InM} {us : List TkP} {i : Nat} {p : PieceM} {x' : TkP} (h : RcvM r us) (hi : i < us.length) (ha : AddM (us.getD i .zero) x' p.a p.b p.data p.last) (hab : p.a < p.b) (hb : p.b ≤ 1500) (hc : r.clash (r.fst + i) p = false) : RcvM (r.put (r.fst + i) p) (us.set i x') := by
  have hlen := h.len
  refine ⟨h.w1, h.w2, by rw [List.length_set]; exact hlen, fun j hj => ?_, ?_, fun u hu => ?_, fun hlt => ?_, fun u h1 h2 => ?_⟩
  · rw [List.length_set] at hj
    show TuR _ (r.fst + j) _
    by_cases e : i = j
    · subst e
      rw [getD_setTS hi]
      exact (h.un i hi).put ha hab hb hc
    · rw [getD_setTN e]
      exact (h.un j hj).other (by omega)
  · show max r.hi (r.fst + i + 1) ≤ r.fst + r.win
    have := h.top
    omega
  · have hu : r.fst + r.win ≤ u := hu
    have hne : u ≠ r.fst + i := by omega
    obtain ⟨h1, h2, h3⟩ := h.fresh u hu
    exact ⟨fun t => (if_neg (fun h => hne h.1)).trans (h1 t), (if_neg (fun h => hne h.1)).trans h2, (if_neg hne).trans h3⟩
  · show 0 < (if max r.hi (r.fst + i + 1) - 1 = r.fst + i then max (r.fin (r.fst + i)) p.b else r.fin (max r.hi (r.fst + i + 1) - 1))
    split
    · omega
    · rename_i hne
      rw [Nat.max_eq_left (by omega)]
      exact h.last (by omega)
  · have h1 : r.fst ≤ u := h1
    have h2 : max r.hi (r.fst + i + 1) ≤ u := h2
    exact (if_neg (show ¬ u = r.fst + i by omega)).trans (h.above u h1 (by omega))
theorem RcvM.upto {r : InM} {us : List TkP} {k : Nat} (h : RcvM r us) (hk : k ≤ us.length) (h1 : ∀ j, j < k → (us.getD j .zero).whole = true) (h2 : k < us.length → (us.getD k .zero).whole = false) : r.upto = r.fst + k := by
  have hw : ∀ j, j < us.length → r.whole (r.fst + j) = (us.getD j .zero).whole := fun j hj => (h.un j hj).whole
  have hkn : r.fst + k ≤ max r.fst r.hi := by
    rcases Nat.lt_or_ge (max r.fst r.hi) (r.fst + k) with h3 | h3
    · exfalso
      have hj : r.fst + (max r.fst r.hi - r.fst) = max r.fst r.hi := by omega
      have hT := h.un (max r.fst r.hi - r.fst) (by omega)
      have hW := (TkP.whole_iff (h1 (max r.fst r.hi - r.fst) (by omega)))
      have hF := hT.fin
      rw [hj, h.above _ (by omega) (by omega), hW.2] at hF
      have hF : 0 = (us.getD (max r.fst r.hi - r.fst) TkP.zero).len := hF
      omega
    · exact h3
  unfold InM.upto
  refine firstIn_eq (by omega) hkn (fun j hj1 hj2 => ?_) (fun hlt => ?_)
  · obtain ⟨d, rfl⟩ : ∃ d, j = r.fst + d := ⟨j - r.fst, by omega⟩
    rw [hw d (by omega), h1 d (by omega)]
    rfl
  · have := h.top
    have := h.len
    rw [hw k (by omega), h2 (by omega)]
    rfl
theorem RcvM.out {r : InM} {us : List TkP} {k : Nat} (h : RcvM r us) (hk : k ≤ us.length) (h1 : ∀ j, j < k → (us.getD j .zero).whole = true) : ((List.range k).map fun i => r.textOf (r.fst + i)) = (us.take k).map fun x => strOfNums x.data := by
  refine List.ext_getElem? fun t => ?_
  rw [List.getElem?_map, List.getElem?_map]
  by_cases ht : t < k
  · rw [List.getElem?_range ht, List.getElem?_take_of_lt ht, List.getElem?_eq_getElem (by omega)]
    have e : us.getD t .zero = us[t]'(by omega) := by rw [List.getD_eq_getElem?_getD, List.getElem?_eq_getElem (by omega)]; rfl
    simp only [Option.map_some]
    rw [(h.un t (by omega)).text (h1 t ht), e]
  · rw [List.getElem?_eq_none (by simp; omega), List.getElem?_eq_none (by rw [List.length_take]; omega)]
    rfl
theorem getD_dropT {us : List TkP} {k i : Nat} (hk : k ≤ us.length) : (us.drop k ++ List.replicate k TkP.zero).getD i .zero = if k + i < us.length then us.getD (k + i) .zero else .zero := by
  rw [List.getD_eq_getElem?_getD]
  split
  · rw [List.getElem?_append_left (by rw [List.length_drop]; omega), List.getElem?_drop, ← List.getD_eq_getElem?_getD]
  · rw [List.getElem?_append_right (by rw [List.length_drop]; omega), ← List.getD_eq_getElem?_getD]
    exact getD_rep _ _
theorem RcvM.tell {r : InM} {us : List TkP} {k : Nat} (h : RcvM r us) (hk : k ≤ us.length) : RcvM { r with fst := r.fst + k } (us.drop k ++ List.replicate k .zero) := by
  have hlen := h.len
  have hl : (us.drop k ++ List.replicate k TkP.zero).length = us.length := by rw [List.length_append, List.length_drop, List.length_replicate]; omega
  refine ⟨h.w1, h.w2, by rw [hl]; exact hlen, fun i hi => ?_, ?_, fun u hu => ?_, fun hlt => ?_, fun u h1 h2 => ?_⟩
  · rw [hl] at hi
    show TuR _ (r.fst + k + i) _
    rw [getD_dropT hk]
    split
    · rename_i hki
      have := h.un (k + i) hki
      rw [← Nat.add_assoc] at this
      exact ⟨this.srt, this.th, this.dl, this.dt, this.fin, this.hi, this.ln, this.lh, this.fl⟩
    · obtain ⟨q1, q2, q3⟩ := h.fresh (r.fst + k + i) (by omega)
      exact TuR.zero q1 q2 q3
  · show r.hi ≤ r.fst + k + r.win
    have := h.top
    omega
  · have hu : r.fst + k + r.win ≤ u := hu
    exact h.fresh u (by omega)
  · have hlt : r.fst + k < r.hi := hlt
    exact h.last (by omega)
  · have h1 : r.fst + k ≤ u := h1
    exact h.above u (by omega) h2
/-- How many have begun. -/
theorem RcvM.nxt {r : InM} {us : List TkP} {k : Nat} (h : RcvM r us) (hk : k ≤ us.length) (h1 : 0 < k → (us.getD (k - 1) .zero).th ≠ []) (h2 : ∀ j, k ≤ j → j < us.length → (us.getD j .zero).th = []) : r.nxt = r.fst + k := by
  have hlen := h.len
  have htop := h.top
  have hz : ∀ j, j < us.length → (us.getD j .zero).th = [] → r.fin (r.fst + j) = 0 := fun j hj e => by rw [(h.un j hj).fin, e]; rfl
  have hp : ∀ j, j < us.length → (us.getD j .zero).th ≠ [] → r.fin (r.fst + j) ≠ 0 := fun j hj e e0 => by rw [(h.un j hj).fin] at e0; exact e (inS_of_end (h.un j hj).srt e0)
  unfold InM.nxt
  rcases Nat.lt_trichotomy (max r.fst r.hi) (r.fst + k) with h3 | h3 | h3
  · exfalso
    exact hp (k - 1) (by omega) (h1 (by omega)) (h.above _ (by omega) (by omega))
  · exact h3
  · exfalso
    have h4 := h.last (by omega)
    have h5 := hz (r.hi - 1 - r.fst) (by omega) (h2 _ (by omega) (by omega))
    rw [show r.fst + (r.hi - 1 - r.fst) = r.hi - 1 by omega] at h5
    omega
/-- The gaps of a unit. -/
def TkP.gaps (x : TkP) : Sis := if x.len = 0 then intsS (gapsM (endS x.th) 0 x.th) ++ [((endS x.th : Int), -1)] else intsS (gapsM x.len 0 x.th)
theorem TuR.gaps {r : InM} {u : Nat} {x : TkP} (h : TuR r u x) : r.gaps u = x.gaps.map fun q => (⟨((u % 64 : Nat) : Int), q.1, q.2⟩ : GapM) := by
  have hp : ∀ k, (r.got u k).isNone = true ↔ ¬ inS x.th k := fun k => by
    rw [h.th]
    cases r.got u k <;> simp
  unfold InM.gaps InM.ends TkP.gaps
  rw [h.ln, h.fin]
  by_cases h0 : x.len = 0
  · rw [if_pos h0, if_pos h0]
    show ((runsN _ (endS x.th) (endS x.th + 1) 0).map _) ++ [_] = _
    rw [runs_gaps (l := x.th) h.srt (by have := h.srt.few h.srt.endLe; omega) (Nat.zero_le _) (fun k _ _ => hp k), List.map_append]
    unfold intsS
    rw [List.map_map]
    rfl
  · rw [if_neg h0, if_neg h0]
    show ((runsN _ x.len (x.len + 1) 0).map _) ++ [] = _
    rw [runs_gaps (l := x.th) h.srt (by have := h.srt.few h.srt.endLe; have := h.fl (by omega); omega) (Nat.zero_le _) (fun k _ _ => hp k), List.append_nil]
    unfold intsS
    rw [List.map_map]
    rfl
end Go.Proofs.Ytbjgfoiikhbonaf
