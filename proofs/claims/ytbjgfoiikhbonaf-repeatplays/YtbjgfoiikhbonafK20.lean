import Derived.Test.YtbjgfoiikhbonafK19
import Derived.Laws.StructEq
set_option linter.unusedVariables false
set_option linter.unusedSimpArgs false
namespace Go.Proofs.Ytbjgfoiikhbonaf
open Go.ChangeShapes Go.WideShapes Go.ChangeAt Go.RowKit
def cellsTk (us : List TkP) : List Value := us.flatMap TkP.cells
theorem cellsTk_len (us : List TkP) : (cellsTk us).length = us.length * 3 := by
  induction us with
  | nil => rfl
  | cons x us ih =>
    have e : cellsTk (x :: us) = x.cells ++ cellsTk us := rfl
    rw [e, List.length_append, ih, List.length_cons]
    show 3 + _ = _
    omega
theorem cellsTk_app (l r : List TkP) : cellsTk (l ++ r) = cellsTk l ++ cellsTk r := by simp [cellsTk]
theorem cellsTk_at (us : List TkP) : ∀ i k, i < us.length → k < 3 → (cellsTk us)[i * 3 + k]? = (us.getD i .zero).cells[k]? := by
  induction us with
  | nil => intro i k hi; simp at hi
  | cons x us ih =>
    intro i k hi hk
    have e : cellsTk (x :: us) = x.cells ++ cellsTk us := rfl
    cases i with
    | zero => rw [e, List.getElem?_append_left (by show 0 * 3 + k < 3; omega), Nat.zero_mul, Nat.zero_add]; rfl
    | succ i =>
      rw [List.length_cons] at hi
      rw [e, List.getElem?_append_right (by show 3 ≤ _; omega), show (i + 1) * 3 + k - x.cells.length = i * 3 + k by show _ - 3 = _; omega, ih i k (by omega) hk]
      rfl
theorem cellsTk_drop (us : List TkP) : ∀ i, (cellsTk us).drop (i * 3) = cellsTk (us.drop i) := by
  induction us with
  | nil => intro i; simp [cellsTk]
  | cons x us ih =>
    intro i
    cases i with
    | zero => simp
    | succ i =>
      have e : cellsTk (x :: us) = x.cells ++ cellsTk us := rfl
      rw [e, List.drop_succ_cons, ← ih i, show (i + 1) * 3 = x.cells.length + i * 3 by show _ = 3 + _; omega, List.drop_append, Nat.add_sub_cancel_left, List.drop_eq_nil_of_le (by omega), List.nil_append]
theorem cellsTk_set {us : List TkP} {i f : Nat} {v : Value} {x' : TkP} (hi : i < us.length) (hf : f < 3) (he : (us.getD i .zero).cells.set f v = x'.cells) : (cellsTk us).set (i * 3 + f) v = cellsTk (us.set i x') := by
  refine List.ext_getElem? fun t => ?_
  rw [List.getElem?_set, cellsTk_len]
  by_cases ht : t < us.length * 3
  · have e1 := cellsTk_at (us.set i x') (t / 3) (t % 3) (by rw [List.length_set]; omega) (by omega)
    have e2 := cellsTk_at us (t / 3) (t % 3) (by omega) (by omega)
    rw [show t / 3 * 3 + t % 3 = t by omega] at e1 e2
    rw [e1, e2]
    by_cases hti : t / 3 = i
    · have e3 : (us.set i x').getD (t / 3) .zero = x' := by rw [hti, getD_setTS hi]
      rw [e3, ← he, List.getElem?_set, hti]
      by_cases htf : t = i * 3 + f
      · rw [if_pos htf.symm, if_pos (by omega), if_pos (by omega), if_pos (by show f < 3; omega)]
      · rw [if_neg (fun e => htf e.symm), if_neg (by omega)]
    · have e3 : (us.set i x').getD (t / 3) .zero = us.getD (t / 3) .zero := getD_setTN (fun e => hti e.symm)
      rw [e3, if_neg (by omega)]
  · rw [if_neg (by omega), List.getElem?_eq_none (by rw [cellsTk_len]; omega), List.getElem?_eq_none (by rw [cellsTk_len, List.length_set]; omega)]
theorem cellsTk_set3 {us : List TkP} {i : Nat} {x' : TkP} (hi : i < us.length) : (((cellsTk us).set (i * 3) x'.dv).set (i * 3 + 1) x'.tv).set (i * 3 + 2) (.int .i64 (x'.len : Int)) = cellsTk (us.set i x') := by
  have e1 := cellsTk_set (us := us) (i := i) (f := 0) (v := x'.dv) (x' := { us.getD i .zero with dv := x'.dv }) hi (by omega) rfl
  rw [Nat.add_zero] at e1
  rw [e1]
  have e2 := cellsTk_set (us := us.set i { us.getD i .zero with dv := x'.dv }) (i := i) (f := 1) (v := x'.tv) (x' := { us.getD i .zero with dv := x'.dv, tv := x'.tv }) (by rw [List.length_set]; exact hi) (by omega) (by rw [getD_setTS hi]; rfl)
  rw [e2, List.set_set]
  have e3 := cellsTk_set (us := us.set i { us.getD i .zero with dv := x'.dv, tv := x'.tv }) (i := i) (f := 2) (v := .int .i64 (x'.len : Int)) (x' := x') (by rw [List.length_set]; exact hi) (by omega) (by rw [getD_setTS hi]; rfl)
  rw [e3, List.set_set]
def TkP.blk (x : TkP) (k : Bool) : Option Nat := if k = true then x.tv.ownBlock else x.dv.ownBlock
theorem TkP.zero_blk (k : Bool) : TkP.zero.blk k = none := by cases k <;> rfl
theorem getD_ge {us : List TkP} {i : Nat} (h : us.length ≤ i) : us.getD i .zero = .zero := by rw [List.getD_eq_getElem?_getD, List.getElem?_eq_none h]; rfl
/-- The receiver and its units. -/
structure PRcv (w : World) (b fs g c : Nat) (us : List TkP) : Prop where
  hd : At w b 103 [.int .i64 (fs : Int), .slice (some ⟨g, 0, none⟩) us.length c]
  own : w.ownsRow 0 120 3 (.slice (some ⟨g, 0, none⟩) us.length c) us.length (cellsTk us)
  od : ∀ i, Own w 0 (us.getD i .zero).dv (us.getD i .zero).data
  ot : ∀ i, OwnSp w (us.getD i .zero).tv (us.getD i .zero).th
  nb : g ≠ b
  na : ∀ i k q, (us.getD i .zero).blk k = some q → q ≠ b ∧ q ≠ g
  nn : ∀ i j k l q, (us.getD i .zero).blk k = some q → (us.getD j .zero).blk l = some q → i = j ∧ k = l
def rcvF (b g : Nat) (us : List TkP) : List Nat := b :: g :: us.flatMap fun x => (x.blk false).toList ++ (x.blk true).toList
theorem rcvF_b (b g : Nat) (us : List TkP) : b ∈ rcvF b g us := List.mem_cons_self
theorem rcvF_g (b g : Nat) (us : List TkP) : g ∈ rcvF b g us := List.mem_cons_of_mem _ List.mem_cons_self
theorem rcvF_k {b g : Nat} {us : List TkP} {i q : Nat} {k : Bool} (h : (us.getD i .zero).blk k = some q) : q ∈ rcvF b g us := by
  rcases Nat.lt_or_ge i us.length with hi | hi
  · refine List.mem_cons_of_mem _ (List.mem_cons_of_mem _ (List.mem_flatMap.2 ⟨us.getD i .zero, ?_, ?_⟩))
    · rw [List.getD_eq_getElem?_getD, List.getElem?_eq_getElem hi]
      exact List.getElem_mem hi
    · rw [List.mem_append]
      cases k
      · left; rw [h]; simp
      · right; rw [h]; simp
  · rw [getD_ge hi, TkP.zero_blk] at h
    cases h
theorem rcvF_mem {b g x : Nat} {us : List TkP} (h : x ∈ rcvF b g us) : x = b ∨ x = g ∨ ∃ i k, (us.getD i .zero).blk k = some x := by
  unfold rcvF at h
  rw [List.mem_cons, List.mem_cons] at h
  rcases h with h | h | h
  · exact .inl h
  · exact .inr (.inl h)
  · obtain ⟨u, hu, e⟩ := List.mem_flatMap.1 h
    obtain ⟨i, hi, rfl⟩ := List.mem_iff_getElem.1 hu
    have e' : us.getD i .zero = us[i] := by rw [List.getD_eq_getElem?_getD, List.getElem?_eq_getElem hi]; rfl
    rw [List.mem_append] at e
    rcases e with e | e
    · exact .inr (.inr ⟨i, false, by rw [e']; simpa using e⟩)
    · exact .inr (.inr ⟨i, true, by rw [e']; simpa using e⟩)
theorem PRcv.gl {w : World} {b fs g c : Nat} {us : List TkP} (h : PRcv w b fs g c us) : g < w.heap.size := (World.ownsRow.lt h.own g rfl).2
theorem PRcv.kl {w : World} {b fs g c : Nat} {us : List TkP} (h : PRcv w b fs g c us) {i q : Nat} {k : Bool} (hq : (us.getD i .zero).blk k = some q) : q < w.heap.size := by
  cases k
  · exact (World.ownsRow.lt (h.od i) q hq).2
  · exact (h.ot i).lt hq
theorem PRcv.lt {w : World} {b fs g c : Nat} {us : List TkP} (h : PRcv w b fs g c us) : ∀ x ∈ rcvF b g us, x < w.heap.size := fun x hx => by
  rcases rcvF_mem hx with rfl | rfl | ⟨i, k, e⟩
  · exact h.hd.lt
  · exact h.gl
  · exact h.kl e
theorem keptOwn {S : List Nat} {w w' : World} {v : Value} {L : List Int} (h : Own w 0 v L) (hk : Kept S w w') (hs : ∀ g, v.ownBlock = some g → g ∉ S) : Own w' 0 v L := keptRow h hk hs
theorem PRcv.kept {w w' : World} {b fs g c : Nat} {us : List TkP} {T : List Nat} (h : PRcv w b fs g c us) (hk : Kept T w w') (hd : ∀ x ∈ rcvF b g us, x ∉ T) : PRcv w' b fs g c us := by
  refine ⟨h.hd.kept hk (hd _ (rcvF_b _ _ _)), keptRow h.own hk (fun g' hg => ?_), fun i => keptOwn (h.od i) hk (fun q hq => hd _ (rcvF_k (k := false) hq)), fun i => (h.ot i).kept hk (fun q hq => hd _ (rcvF_k (k := true) hq)), h.nb, h.na, h.nn⟩
  simp [Value.ownBlock] at hg
  subst hg
  exact hd _ (rcvF_g _ _ _)
theorem PRcv.un {w : World} {b fs g c : Nat} {us : List TkP} (h : PRcv w b fs g c us) {i : Nat} (hi : i < us.length) : TkAt w g (i * 3) (us.getD i .zero) := by
  obtain ⟨cur, hA, -, -, -, -, hct, hxl⟩ := row_at h.own
  have hat : ∀ k, k < 3 → w.cell? ⟨g, i * 3 + k, none⟩ = (us.getD i .zero).cells[k]? := fun k hk => by
    rw [hA.cell, ← cellsTk_at us i k hi hk, ← hct, List.getElem?_take_of_lt (by omega)]
  refine ⟨hat 0 (by omega), hat 1 (by omega), hat 2 (by omega), fun j => hA.free j, h.od i, h.ot i, fun q hq => (h.na i false q hq).2, fun q hq => (h.na i true q hq).2, fun q hq hq2 => ?_⟩
  have := (h.nn i i false true q hq hq2).2
  cases this
/-- What stands behind a change of a unit. -/
structure TkPost (w w' : World) (g o : Nat) (x x' : TkP) : Prop where
  kept : Kept (g :: ((x.blk false).toList ++ (x.blk true).toList)) w w'
  row : ∀ T cur, At w g T cur → At w' g T (((cur.set o x'.dv).set (o + 1) x'.tv).set (o + 2) (.int .i64 (x'.len : Int)))
  od : Own w' 0 x'.dv x'.data
  ot : OwnSp w' x'.tv x'.th
  nk : ∀ k q, x'.blk k = some q → x.blk k = some q ∨ w.heap.size ≤ q
  dt : ∀ q, x'.blk false = some q → x'.blk true ≠ some q
theorem PRcv.upd {w w' : World} {b fs g c i : Nat} {us : List TkP} {x' : TkP} (h : PRcv w b fs g c us) (hi : i < us.length) (hp : TkPost w w' g (i * 3) (us.getD i .zero) x') :
    PRcv w' b fs g c (us.set i x') := by
  have hgl := h.gl
  have hbl := h.hd.lt
  have hgb' : g ≠ b := h.nb
  have hmem : ∀ q, q ∈ g :: (((us.getD i .zero).blk false).toList ++ ((us.getD i .zero).blk true).toList) → q = g ∨ ∃ k, (us.getD i .zero).blk k = some q := fun q hq => by
    rw [List.mem_cons, List.mem_append] at hq
    rcases hq with e | e | e
    · exact .inl e
    · exact .inr ⟨false, by simpa using e⟩
    · exact .inr ⟨true, by simpa using e⟩
  have hbS : b ∉ g :: (((us.getD i .zero).blk false).toList ++ ((us.getD i .zero).blk true).toList) := fun hq => by
    rcases hmem b hq with e | ⟨k, e⟩
    · exact hgb' e.symm
    · exact (h.na i k b e).1 rfl
  have hjS : ∀ j, j ≠ i → ∀ k q, (us.getD j .zero).blk k = some q → q ∉ g :: (((us.getD i .zero).blk false).toList ++ ((us.getD i .zero).blk true).toList) := fun j hji k q hq hq' => by
    rcases hmem q hq' with e | ⟨l, e⟩
    · exact (h.na j k q hq).2 e
    · exact hji (h.nn j i k l q hq e).1
  obtain ⟨cur, hA, -, hnc, hcm, hcl, hct, hxl⟩ := row_at h.own
  have hA' := hp.row _ _ hA
  refine ⟨?_, ?_, fun j => ?_, fun j => ?_, h.nb, fun j k q hq => ?_, fun j l k m q hq hq' => ?_⟩
  · rw [List.length_set]
    exact h.hd.kept hp.kept hbS
  · rw [List.length_set]
    refine hA'.row (by rw [cellsTk_len, List.length_set]) hnc hcm (by rw [List.length_set, List.length_set, List.length_set, hcl]) ?_
    rw [List.take_set, List.take_set, List.take_set, hct]
    exact cellsTk_set3 hi
  · by_cases hji : j = i
    · subst hji; rw [getD_setTS hi]; exact hp.od
    · rw [getD_setTN (fun e => hji e.symm)]
      exact keptOwn (h.od j) hp.kept (fun q hq => hjS j hji false q hq)
  · by_cases hji : j = i
    · subst hji; rw [getD_setTS hi]; exact hp.ot
    · rw [getD_setTN (fun e => hji e.symm)]
      exact (h.ot j).kept hp.kept (fun q hq => hjS j hji true q hq)
  · by_cases hji : j = i
    · subst hji
      rw [getD_setTS hi] at hq
      rcases hp.nk k q hq with h1 | h1
      · exact h.na j k q h1
      · exact ⟨by omega, by omega⟩
    · rw [getD_setTN (fun e => hji e.symm)] at hq
      exact h.na j k q hq
  · by_cases hji : j = i
    · subst hji
      rw [getD_setTS hi] at hq
      by_cases hki : l = j
      · subst hki
        rw [getD_setTS hi] at hq'
        refine ⟨rfl, ?_⟩
        cases k <;> cases m
        · rfl
        · exact absurd hq' (hp.dt q hq)
        · exact absurd hq (hp.dt q hq')
        · rfl
      · rw [getD_setTN (fun e => hki e.symm)] at hq'
        rcases hp.nk k q hq with h1 | h1
        · exact h.nn j l k m q h1 hq'
        · have := h.kl hq'
          omega
    · rw [getD_setTN (fun e => hji e.symm)] at hq
      by_cases hki : l = i
      · subst hki
        rw [getD_setTS hi] at hq'
        rcases hp.nk m q hq' with h1 | h1
        · exact h.nn j l k m q hq h1
        · have := h.kl hq
          omega
      · rw [getD_setTN (fun e => hki e.symm)] at hq'
        exact h.nn j l k m q hq hq'
theorem rcvF_upd {b g i B : Nat} {us : List TkP} {x' : TkP} (hi : i < us.length) (hn : ∀ k q, x'.blk k = some q → (us.getD i .zero).blk k = some q ∨ B ≤ q) : Grown B (rcvF b g us) (rcvF b g (us.set i x')) := fun x hx => by
  rcases rcvF_mem hx with rfl | rfl | ⟨j, k, e⟩
  · exact .inl (rcvF_b _ _ _)
  · exact .inl (rcvF_g _ _ _)
  · by_cases hji : j = i
    · subst hji
      rw [getD_setTS hi] at e
      rcases hn k x e with h1 | h1
      · exact .inl (rcvF_k h1)
      · exact .inr h1
    · rw [getD_setTN (fun e => hji e.symm)] at e
      exact .inl (rcvF_k e)
/-- The first units are gone, new ones stand behind the others. -/
theorem PRcv.tell {w w' : World} {b fs fs' g c k : Nat} {us : List TkP} {T : List Nat} (h : PRcv w b fs g c us) (hk : k ≤ us.length) (hK : Kept T w w') (hT : ∀ i l q, (us.getD i .zero).blk l = some q → q ∉ T)
    (hd : At w' b 103 [.int .i64 (fs' : Int), .slice (some ⟨g, 0, none⟩) us.length c])
    (ho : w'.ownsRow 0 120 3 (.slice (some ⟨g, 0, none⟩) us.length c) us.length (cellsTk (us.drop k ++ List.replicate k .zero))) : PRcv w' b fs' g c (us.drop k ++ List.replicate k .zero) := by
  have hl : (us.drop k ++ List.replicate k TkP.zero).length = us.length := by rw [List.length_append, List.length_drop, List.length_replicate]; omega
  refine ⟨by rw [hl]; exact hd, by rw [hl]; exact ho, fun i => ?_, fun i => ?_, h.nb, fun i l q hq => ?_, fun i j l m q hq hq' => ?_⟩
  · rw [getD_dropT hk]
    split
    · exact keptOwn (h.od _) hK (fun q hq => hT _ false q hq)
    · exact Own.nil _ _
  · rw [getD_dropT hk]
    split
    · exact (h.ot _).kept hK (fun q hq => hT _ true q hq)
    · exact OwnSp.nil _
  · rw [getD_dropT hk] at hq
    split at hq
    · exact h.na _ l q hq
    · rw [TkP.zero_blk] at hq; cases hq
  · rw [getD_dropT hk] at hq hq'
    split at hq
    · split at hq'
      · have := h.nn _ _ l m q hq hq'
        exact ⟨by omega, this.2⟩
      · rw [TkP.zero_blk] at hq'; cases hq'
    · rw [TkP.zero_blk] at hq; cases hq
theorem rcvF_tell {b g k : Nat} {us : List TkP} (hk : k ≤ us.length) : ∀ x ∈ rcvF b g (us.drop k ++ List.replicate k .zero), x ∈ rcvF b g us := fun x hx => by
  rcases rcvF_mem hx with rfl | rfl | ⟨j, l, e⟩
  · exact rcvF_b _ _ _
  · exact rcvF_g _ _ _
  · rw [getD_dropT hk] at e
    split at e
    · exact rcvF_k e
    · rw [TkP.zero_blk] at e; cases e
end Go.Proofs.Ytbjgfoiikhbonaf
namespace Go.Proofs.Ytbjgfoiikhbonaf
open Go.ChangeShapes Go.WideShapes Go.ChangeAt Go.RowKit
theorem run_eqSpan (w : World) (a b c d : Int) : (binOp .eql 114 (.agg #[.int .i64 a, .int .i64 b]) (.agg #[.int .i64 c, .int .i64 d])).run Try.prog w = .ok (.bool (a == c && b == d)) w := by
  have ht : Try.prog.underlying 114 = some (.struct (Try.prog.fieldsOf 114)) := by kernel_rfl
  have hp : Try.prog.stoodInHeld 114 = false := by kernel_rfl
  rw [run_eql_struct, run_equalIn_struct w 9999 _ _ _ ht hp]
  have hf : (Try.prog.fieldsOf 114).toList.map (fun f => (f.name, f.type, f.offset)) = [("from", 3, 0), ("to", 3, 1)] := by kernel_rfl
  generalize (Try.prog.fieldsOf 114).toList = fs at hf
  obtain _ | ⟨f, _ | ⟨g, _ | ⟨q, fs⟩⟩⟩ := fs
  · simp at hf
  · simp at hf
  · simp only [List.map_cons, List.map_nil, List.cons.injEq, Prod.mk.injEq, and_true] at hf
    obtain ⟨⟨h1, h2, h3⟩, h4, h5, h6⟩ := hf
    simp only [Op.eqFields, h1, h2, h3, h4, h5, h6]
    by_cases e1 : a = c <;> by_cases e2 : b = d <;> simp [part, run_equalIn_int, Try.underlying3, e1, e2]
  · simp at hf
set_option maxRecDepth 100000 in
set_option maxHeartbeats 1000000 in
theorem whole_one {w : World} {g o : Nat} {x : TkP} (h : TkAt w g o x) (h0 : 0 < x.len) (hl : x.len ≤ 3000) (h1 : x.th.length = 1) :
    Calls Try.prog 63 #[.pointer (some ⟨g, o, none⟩)] w fun e w' => e = .returned (.bool x.whole) ∧ ∃ n, w' = w.drewN n := by
  have c2 := h.c2
  have c1 := h.c1
  obtain ⟨a, c, e, -, -, -⟩ := h.ot.shape
  rw [h1] at e
  have hot := h.ot
  rw [e] at c1 hot
  obtain ⟨gt, rfl, -, hc⟩ := hot.at (i := 0) (by omega)
  obtain ⟨q0, q1⟩ := hc 0 (by omega)
  rw [Nat.zero_mul] at q0 q1
  rw [Nat.zero_add] at q1
  match hx : x.th, h1 with
  | [(P, Q)], _ =>
    rw [hx] at q0 q1
    have hw := run_eqSpan w P Q 0 x.len
    have hB : x.whole = ((P : Int) == 0 && (Q : Int) == (x.len : Int)) := by
      unfold TkP.whole
      rw [decide_eq_true h0, Bool.true_and, hx, Bool.eq_iff_iff, decide_eq_true_iff]
      simp
      omega
    rw [hB]
    have q0 : w.cell? ⟨gt, 0, none⟩ = some (.int .i64 (P : Int)) := q0
    have q1 : w.cell? ⟨gt, 1, none⟩ = some (.int .i64 (Q : Int)) := q1
    have d1 : decide ((0 : Int) < (x.len : Int)) = true := decide_eq_true (by omega)
    have HQ := fun (W : World) => run_eqSpan W P Q 0 x.len
    clear hw hB hx hc hot e h
    generalize (((P : Int) == 0) && ((Q : Int) == (x.len : Int))) = B at *
    generalize x.len = L at *
    go_enter Try.func63, Try.ntmps63
    go_wp2_with fail
    go_quiet (fail)
    go_wp2_with fail
    go_ret
    exact ⟨rfl, _, rfl⟩
theorem twhole_any {w : World} {g o : Nat} {x : TkP} (h : TkAt w g o x) (hl : x.len ≤ 3000) (h2 : x.th.length ≤ 4000) :
    Calls Try.prog 63 #[.pointer (some ⟨g, o, none⟩)] w fun e w' => e = .returned (.bool x.whole) ∧ ∃ n, w' = w.drewN n := by
  by_cases h0 : x.len = 0
  · have e : x.whole = false := by unfold TkP.whole; rw [decide_eq_false (by omega)]; rfl
    rw [e]
    exact whole_none h h0
  · by_cases h1 : x.th.length = 1
    · exact whole_one h (by omega) hl h1
    · have e : x.whole = false := by
        unfold TkP.whole
        rw [decide_eq_false (p := x.th = [(0, x.len)]) (fun e => h1 (by rw [e]; rfl)), Bool.and_false]
      rw [e]
      exact whole_many h (by omega) hl h1 h2
end Go.Proofs.Ytbjgfoiikhbonaf
namespace Go.Proofs.Ytbjgfoiikhbonaf
open Go.ChangeShapes Go.WideShapes Go.ChangeAt Go.RowKit
theorem cellsTk_zero (n : Nat) : cellsTk (List.replicate n .zero) = (madeCells #[.slice none 0 0, .slice none 0 0, .int .i64 0] (n * 3)).toList := by
  refine List.ext_getElem? fun t => ?_
  by_cases ht : t < n * 3
  · have e1 := cellsTk_at (List.replicate n .zero) (t / 3) (t % 3) (by rw [List.length_replicate]; omega) (by omega)
    rw [show t / 3 * 3 + t % 3 = t by omega, getD_rep] at e1
    rw [e1]
    have h3 : t % 3 = 0 ∨ t % 3 = 1 ∨ t % 3 = 2 := by omega
    rcases h3 with h3 | h3 | h3 <;> simp [madeCells, h3, ht, TkP.zero, TkP.cells]
  · rw [List.getElem?_eq_none (by rw [cellsTk_len, List.length_replicate]; omega), List.getElem?_eq_none (by rw [Array.length_toList, size_madeCells]; omega)]
theorem zeroCells_tk (n : Nat) : (Builtin.zeroCells #[.slice none 0 0, .slice none 0 0, .int .i64 0] n).toList = cellsTk (List.replicate n .zero) := (cellsTk_zero n).symm
theorem newReceiver_bad {k : Int} (w : World) (h : k < 1 ∨ 32 < k) : Calls Try.prog 13 #[.int .i64 k] w fun e w' => e = .returned (.tuple #[.pointer none, .int .i64 1]) ∧ w' = w := by
  have hc := checkWindow_any k w
  rw [if_pos h] at hc
  clear h
  go_enter Try.func13, Try.ntmps13
  go_wp2_with (go_at_call 35; refine hc.mono ?_; rintro e w1 ⟨rfl, rfl⟩)
  all_goals (go_ret2; exact ⟨rfl, rfl⟩)
theorem newReceiver_good {k : Nat} (w : World) (h1 : 1 ≤ k) (h2 : k ≤ 32) : Calls Try.prog 13 #[.int .i64 (k : Int)] w fun e w' => ∃ b g, e = .returned (.tuple #[.pointer (some ⟨b, 0, none⟩), .int .i64 0]) ∧ PRcv w' b 0 g k (List.replicate k .zero) ∧ w.heap.size ≤ b ∧ w.heap.size ≤ g ∧ Below w.heap.size w w' := by
  have hc := checkWindow_any (k : Int) w
  rw [if_neg (by omega)] at hc
  obtain ⟨i0, hi, hz0, hz1, hz2⟩ := info_parts Try.infoTk
  go_enter Try.func13, Try.ntmps13
  go_wp2_with (first
    | (go_at_call 35; refine hc.mono ?_; rintro e w1 ⟨rfl, rfl⟩)
    | (at_make; refine wpList_make_full _ rfl _ _ 101 rfl w1.heap.size 120 i0 (.agg #[.slice none 0 0, .slice none 0 0, .int .i64 0]) 3 Try.underlying101 hi hz0 hz1 .i64 .i64 _ _ k rfl rfl rfl rfl (by rw [hz2]; omega) (by unfold maxLen; omega) (Nat.le_refl _) ?_; intro w2 ho2 hg2))
  go_ret2
  have hb2 : Below w1.heap.size w1 w2 := (Below.refl _ w1).grown hg2 (Nat.le_refl _) (by intro q hq; cases hq)
  have hsz : w1.heap.size < w2.heap.size := (World.ownsRow.lt ho2 w1.heap.size rfl).2
  refine ⟨w2.heap.size, w1.heap.size, rfl, ⟨?_, ?_, fun i => ?_, fun i => ?_, ?_, fun i l q hq => ?_, fun i j l m q hq => ?_⟩, by omega, Nat.le_refl _, hb2.alloc (by omega) _⟩
  · rw [List.length_replicate]
    exact at_alloc w2 103 [.int .i64 0, .slice (some ⟨w1.heap.size, 0, none⟩) k k]
  · rw [List.length_replicate, cellsTk_zero]
    have h3 := World.ownsRow.alloc ho2 (.cells #[.int .i64 0, .slice (some ⟨w1.heap.size, 0, none⟩) k k] 103)
    refine ⟨h3.1, ?_⟩
    rcases h3.2 with h' | ⟨g, cap, cur, q1, q2, q3⟩
    · exact .inl h'
    · exact .inr ⟨g, cap, cur, q1, Nat.zero_le _, q3⟩
  · rw [getD_rep]; exact Own.nil _ _
  · rw [getD_rep]; exact OwnSp.nil _
  · omega
  · rw [getD_rep, TkP.zero_blk] at hq; cases hq
  · rw [getD_rep, TkP.zero_blk] at hq; cases hq
def TGapsPost (w : World) (x : TkP) : Ending → World → Prop := fun e w' => ∃ v', e = .returned v' ∧ OwnSi w' w.heap.size v' x.gaps ∧ Below w.heap.size w w'
set_option maxRecDepth 100000 in
set_option maxHeartbeats 1000000 in
theorem tgaps_any {w : World} {g o : Nat} {x : TkP} (h : TkAt w g o x) (hs : Srt x.th) (hl : x.len ≤ 3000) (hE : endS x.th ≤ 3000) :
    Calls Try.prog 54 #[.pointer (some ⟨g, o, none⟩)] w (TGapsPost w x) := by
  have c1 := h.c1
  have c2 := h.c2
  obtain ⟨a, c, e, -, -, -⟩ := h.ot.shape
  have hot := h.ot
  rw [e] at c1 hot
  have hEL : EndLe x.th 3000 := fun q hq => Nat.le_trans (hs.endLe q hq) hE
  have hlen := hs.few hEL
  by_cases h0 : x.len = 0
  · have hend := spEnd_any hot (by omega)
    have hg := spGaps_any (lo := 0) (hi := endS x.th) hot hs hEL (Nat.zero_le _) hE
    have hgl := gapsM_len (hi := endS x.th) (l := x.th) (lo := 0)
    have HX := hid (show x.gaps = intsS (gapsM (endS x.th) 0 x.th) ++ [((endS x.th : Int), -1)] by unfold TkP.gaps; rw [if_pos h0])
    rw [h0] at c2
    have HLN : Hid ((intsS (gapsM (endS x.th) 0 x.th)).length ≤ 100000) := by show _ ≤ _; rw [intsS_len]; omega
    clear h hot e hgl hEL hlen h0 hl hs
    unfold GapsPost at hg
    generalize x.th.length = N at *
    generalize gapsM (endS x.th) 0 x.th = G at *
    generalize endS x.th = E at *
    generalize hP : TGapsPost w x = P
    go_enter Try.func54, Try.ntmps54
    go_wp2_with (first
      | (go_at_call 60; refine hend.mono ?_; rintro e w1 ⟨rfl, rfl⟩)
      | (go_at_call 61; refine hg.mono ?_; rintro e w2 ⟨v2, rfl, ho2, hb2⟩)
      | (at_builtin; refine wpList_pushSp w1.heap.size w1 _ _ ho2 rfl _ _ rfl rfl _ rfl rfl HLN.out hb2 hb2.size ?_; intro v3 w3 ho3 hb3 hg3))
    rw [← hP]
    exact ⟨v3, rfl, by rw [HX.out]; exact ho3, hb3⟩
  · have hg := spGaps_any (w := w.drew) (lo := 0) (hi := x.len) hot hs hEL (Nat.zero_le _) hl
    have HX := hid (show x.gaps = intsS (gapsM x.len 0 x.th) by unfold TkP.gaps; rw [if_neg h0])
    have d0 : decide ((0 : Int) < (x.len : Int)) = true := decide_eq_true (by omega)
    have hp : 0 < x.len := by omega
    clear h hot e hEL hlen h0 hs hE
    generalize x.th.length = N at *
    unfold GapsPost at hg
    generalize gapsM x.len 0 x.th = G at *
    generalize x.len = L at *
    generalize hP : TGapsPost w x = P
    go_enter Try.func54, Try.ntmps54
    go_upto_region 2 with fail
    go_region_with (go_at_call 61; refine hg.mono ?_; rintro e w2 ⟨v2, rfl, ho2, hb2⟩)
    all_goals
      go_wp2_with fail
      go_ret
      rw [← hP]
      exact ⟨v2, rfl, by rw [HX.out]; exact ho2, ((Below.refl _ w).drew).trans hb2⟩
end Go.Proofs.Ytbjgfoiikhbonaf
