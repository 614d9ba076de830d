import Derived.Test.YtcnkcbipkchoiagK11
namespace Go.Proofs.Ytcnkcbipkchoiag
open Go.ChangeShapes Go.WideShapes Go.ChangeAt Go.RowKit
/-- A block whose cells are told by their places. -/
def FnA (T : TypeId) (N : Nat) (w : World) (g : Nat) (f : Nat → Value) : Prop := At w g T ((List.range N).map f)
theorem FnA.cell {T : TypeId} {N : Nat} {w : World} {g : Nat} {f : Nat → Value} (h : FnA T N w g f) {j : Nat} (hj : j < N) : w.cell? ⟨g, j, none⟩ = some (f j) := by
  rw [At.cell h, List.getElem?_map, List.getElem?_range hj]
  rfl
theorem FnA.set {T : TypeId} {N : Nat} {w : World} {g : Nat} {f f' : Nat → Value} (h : FnA T N w g f) {j : Nat} {v : Value} (e : ∀ i, i < N → f' i = if i = j then v else f i) : FnA T N (w.setCell ⟨g, j, none⟩ v) g f' := by
  have h1 := At.setCell (o := j) h v
  unfold FnA
  have : (List.range N).map f' = ((List.range N).map f).set j v := by
    refine List.ext_getElem (by simp) fun i h1 h2 => ?_
    have hi : i < N := by simpa using h1
    rw [List.getElem_set]
    simp only [List.getElem_map, List.getElem_range]
    by_cases ej : j = i
    · rw [if_pos ej, e i hi, if_pos ej.symm]
    · rw [if_neg ej, e i hi, if_neg fun e => ej e.symm]
  rw [this]
  exact h1
structure PeP where
  jo : Bool
  he : Bool
  sl : Bool
  ce : Int
  qu : Int
def PeP.v (x : PeP) (f : Nat) : Value := if f = 0 then .bool x.jo else if f = 1 then .bool x.he else if f = 2 then .bool x.sl else if f = 3 then .int .i64 x.ce else .int .i64 x.qu
def rcF (u : Int) (pe : Nat → PeP) (lv : Value) (j : Nat) : Value := if j = 0 then .int .i64 u else if j = 86 then lv else (pe ((j - 1) / 5)).v ((j - 1) % 5)
theorem rcF_at (u : Int) (pe : Nat → PeP) (lv : Value) {k f : Nat} (hk : k < 17) (hf : f < 5) : rcF u pe lv (1 + k * 5 + f) = (pe k).v f := by
  unfold rcF
  rw [if_neg (by omega), if_neg (by omega), show (1 + k * 5 + f - 1) / 5 = k by omega, show (1 + k * 5 + f - 1) % 5 = f by omega]
def updPe (pe : Nat → PeP) (k : Nat) (x : PeP) : Nat → PeP := fun j => if j = k then x else pe j
theorem rcF_set (u : Int) (pe : Nat → PeP) (lv : Value) {k f : Nat} {x : PeP} {v : Value} (hk : k < 17) (hf : f < 5) (hv : x.v f = v) (ho : ∀ f', f' < 5 → f' ≠ f → x.v f' = (pe k).v f') : ∀ i, i < 87 → rcF u (updPe pe k x) lv i = if i = 1 + k * 5 + f then v else rcF u pe lv i := fun i hi => by
  by_cases e : i = 1 + k * 5 + f
  · rw [if_pos e, e, rcF_at _ _ _ hk hf]
    unfold updPe
    rw [if_pos rfl, hv]
  · rw [if_neg e]
    unfold rcF
    by_cases e0 : i = 0
    · rw [if_pos e0, if_pos e0]
    · rw [if_neg e0, if_neg e0]
      by_cases e1 : i = 86
      · rw [if_pos e1, if_pos e1]
      · rw [if_neg e1, if_neg e1]
        unfold updPe
        by_cases e2 : (i - 1) / 5 = k
        · rw [if_pos e2, e2]
          exact ho _ (by omega) (by omega)
        · rw [if_neg e2]
def LnM.cellsR (l : LnM) : List Value := [.int .i64 l.who, .int .i64 (l.bytes : Nat), .int .i64 (l.used : Nat), .int .i64 (l.turn : Nat), .bool l.shut]
def cellsLo (ls : List LnM) : List Value := ls.flatMap LnM.cellsR
theorem cellsLo_len (ls : List LnM) : (cellsLo ls).length = ls.length * 5 := by
  induction ls with
  | nil => rfl
  | cons x ls ih =>
    have e : cellsLo (x :: ls) = x.cellsR ++ cellsLo ls := rfl
    rw [e, List.length_append, ih, List.length_cons]
    show 5 + _ = _
    omega
theorem cellsLo_app (l r : List LnM) : cellsLo (l ++ r) = cellsLo l ++ cellsLo r := by simp [cellsLo]
theorem cellsLo_at : ∀ (ls : List LnM) (i k : Nat), i < ls.length → k < 5 → (cellsLo ls)[i * 5 + k]? = ((ls.getD i .zero).cellsR)[k]?
  | [], i, _, h, _ => by simp at h
  | x :: l, 0, k, _, hk => by
    have e : cellsLo (x :: l) = x.cellsR ++ cellsLo l := rfl
    rw [e, List.getElem?_append_left (by show 0 * 5 + k < 5; omega)]
    simp
  | x :: l, i + 1, k, h, hk => by
    have e : cellsLo (x :: l) = x.cellsR ++ cellsLo l := rfl
    have ih := cellsLo_at l i k (by simpa using h) hk
    have h4 : x.cellsR.length = 5 := rfl
    rw [e, List.getElem?_append_right (by rw [h4]; omega), h4, show (i + 1) * 5 + k - 5 = i * 5 + k by omega, ih]
    rfl
theorem cellsLo_set {ls : List LnM} {i f : Nat} {v : Value} {x : LnM} (hi : i < ls.length) (hf : f < 5) (he : ((ls.getD i .zero).cellsR).set f v = x.cellsR) : (cellsLo ls).set (i * 5 + f) v = cellsLo (ls.set i x) := by
  refine List.ext_getElem? fun t => ?_
  rw [List.getElem?_set, cellsLo_len]
  by_cases ht : t < ls.length * 5
  · have e1 := cellsLo_at (ls.set i x) (t / 5) (t % 5) (by rw [List.length_set]; omega) (by omega)
    have e2 := cellsLo_at ls (t / 5) (t % 5) (by omega) (by omega)
    rw [show t / 5 * 5 + t % 5 = t by omega] at e1 e2
    rw [e1, e2]
    by_cases hti : t / 5 = i
    · have e3 : (ls.set i x).getD (t / 5) .zero = x := by rw [hti, List.getD_eq_getElem?_getD, List.getElem?_set_self hi]; rfl
      rw [e3, ← he, List.getElem?_set, hti]
      by_cases htf : t = i * 5 + f
      · rw [if_pos htf.symm, if_pos (by omega), if_pos (by omega), if_pos (by show f < 5; omega)]
      · rw [if_neg (fun e => htf e.symm), if_neg (by omega)]
    · have e3 : (ls.set i x).getD (t / 5) .zero = ls.getD (t / 5) .zero := by rw [List.getD_eq_getElem?_getD, List.getElem?_set_ne (fun e => hti e.symm), ← List.getD_eq_getElem?_getD]
      rw [e3, if_neg (by omega)]
  · rw [if_neg (by omega), List.getElem?_eq_none (by rw [cellsLo_len]; omega), List.getElem?_eq_none (by rw [cellsLo_len, List.length_set]; omega)]
/-- A person, and what is known of it. -/
def PeOk (p : Option PrM) (x : PeP) : Prop := match p with
  | none => x.jo = false
  | some p => x.jo = true ∧ x.he = (p.st != 0) ∧ x.qu = (p.quota : Int) ∧ (p.st ≠ 0 → x.sl = (p.st == 2) ∧ x.ce = (p.cell : Int))
structure PRef (w : World) (r : Nat) (la : Option Addr) (lc : Nat) (m : CoM) (pe : Nat → PeP) (n : Nat) : Prop where
  hd : FnA 67 87 w r (rcF (m.unit : Int) pe (.slice la m.loans.length lc))
  ln : w.ownsRow 0 147 5 (.slice la m.loans.length lc) m.loans.length (cellsLo m.loans)
  nb : ∀ y, la = some y → y.block ≠ r
  rl : ∀ k : Nat, 1 ≤ k → k ≤ 16 → PeOk (m.per (k : Int)) (pe k)
  ok : m.Ok n
def rfF (r : Nat) (la : Option Addr) : List Nat := r :: (la.map (·.block)).toList
theorem rfF_mem {r x : Nat} {la : Option Addr} (h : x ∈ rfF r la) : x = r ∨ ∃ y, la = some y ∧ x = y.block := by
  unfold rfF at h
  rw [List.mem_cons] at h
  rcases h with h | h
  · exact .inl h
  · cases la with
    | none => simp at h
    | some y => exact .inr ⟨y, rfl, by simpa using h⟩
theorem rfF_r (r : Nat) (la : Option Addr) : r ∈ rfF r la := List.mem_cons_self
theorem rfF_l {r : Nat} {la : Option Addr} {y : Addr} (h : la = some y) : y.block ∈ rfF r la := by
  subst h
  simp [rfF]
theorem PRef.addr {w : World} {r : Nat} {la : Option Addr} {lc : Nat} {m : CoM} {pe : Nat → PeP} {n : Nat} (h : PRef w r la lc m pe n) {y : Addr} (hy : la = some y) : ∃ g, y = ⟨g, 0, none⟩ ∧ g < w.heap.size := by
  obtain ⟨a', c', e, _, _, hx⟩ := row_shape h.ln
  simp only [Value.slice.injEq] at e
  obtain ⟨rfl, -, rfl⟩ := e
  obtain ⟨g, rfl, h2⟩ := hx y hy
  exact ⟨g, rfl, (World.ownsRow.lt h.ln g h2).2⟩
theorem PRef.lt {w : World} {r : Nat} {la : Option Addr} {lc : Nat} {m : CoM} {pe : Nat → PeP} {n : Nat} (h : PRef w r la lc m pe n) : ∀ x ∈ rfF r la, x < w.heap.size := fun x hx => by
  rcases rfF_mem hx with rfl | ⟨y, hy, rfl⟩
  · exact At.lt h.hd
  · obtain ⟨g, rfl, hg⟩ := h.addr hy
    exact hg
theorem PRef.kept {w w' : World} {r : Nat} {la : Option Addr} {lc : Nat} {m : CoM} {pe : Nat → PeP} {n : Nat} {T : List Nat} (h : PRef w r la lc m pe n) (hk : Kept T w w') (hd : ∀ x ∈ rfF r la, x ∉ T) : PRef w' r la lc m pe n := by
  refine ⟨At.kept h.hd hk (hd _ (rfF_r _ _)), keptRow h.ln hk (fun g hg => ?_), h.nb, h.rl, h.ok⟩
  cases la with
  | none => simp [Value.ownBlock] at hg
  | some y =>
    obtain ⟨g', rfl, _⟩ := h.addr rfl
    simp [Value.ownBlock] at hg
    subst hg
    exact hd _ (rfF_l (y := ⟨g', 0, none⟩) rfl)
theorem PRef.mono {w : World} {r : Nat} {la : Option Addr} {lc : Nat} {m : CoM} {pe : Nat → PeP} {n n' : Nat} (h : PRef w r la lc m pe n) (hn : n ≤ n') : PRef w r la lc m pe n' := ⟨h.hd, h.ln, h.nb, h.rl, h.ok.mono hn⟩
/-- The cells of a person. -/
structure PeC (w : World) (r k : Nat) (x : PeP) : Prop where
  c0 : w.cell? ⟨r, 1 + k * 5, none⟩ = some (.bool x.jo)
  c1 : w.cell? ⟨r, 1 + k * 5 + 1, none⟩ = some (.bool x.he)
  c2 : w.cell? ⟨r, 1 + k * 5 + 2, none⟩ = some (.bool x.sl)
  c3 : w.cell? ⟨r, 1 + k * 5 + 3, none⟩ = some (.int .i64 x.ce)
  c4 : w.cell? ⟨r, 1 + k * 5 + 4, none⟩ = some (.int .i64 x.qu)
  fr : ∀ j, w.frozen? ⟨r, j, none⟩ = false
theorem PRef.pec {w : World} {r : Nat} {la : Option Addr} {lc : Nat} {m : CoM} {pe : Nat → PeP} {n : Nat} (h : PRef w r la lc m pe n) {k : Nat} (hk : k < 17) : PeC w r k (pe k) := by
  have key : ∀ f, f < 5 → w.cell? ⟨r, 1 + k * 5 + f, none⟩ = some ((pe k).v f) := fun f hf => by
    rw [h.hd.cell (by omega), rcF_at _ _ _ hk hf]
  exact ⟨key 0 (by omega), key 1 (by omega), key 2 (by omega), key 3 (by omega), key 4 (by omega), fun j => At.free h.hd j⟩
theorem PRef.head {w : World} {r : Nat} {la : Option Addr} {lc : Nat} {m : CoM} {pe : Nat → PeP} {n : Nat} (h : PRef w r la lc m pe n) : w.cell? ⟨r, 0, none⟩ = some (.int .i64 (m.unit : Int)) ∧ w.cell? ⟨r, 86, none⟩ = some (.slice la m.loans.length lc) := by
  have a := h.hd.cell (j := 0) (by omega)
  have b := h.hd.cell (j := 86) (by omega)
  exact ⟨a, b⟩
/-- A person has been written anew. -/
theorem PRef.person {w w' : World} {r : Nat} {la : Option Addr} {lc : Nat} {m m' : CoM} {pe : Nat → PeP} {n : Nat} {k : Nat} {x : PeP} {p : PrM} (h : PRef w r la lc m pe n) (hk : Kept [r] w w') (hd : FnA 67 87 w' r (rcF (m.unit : Int) (updPe pe k x) (.slice la m.loans.length lc))) (hm : m' = m.put (k : Int) p) (hx : PeOk (some p) x) (ok : m'.Ok n) : PRef w' r la lc m' (updPe pe k x) n := by
  subst hm
  refine ⟨hd, keptRow h.ln hk (fun g hg => ?_), h.nb, fun j h1 h2 => ?_, ok⟩
  · cases la with
    | none => simp [Value.ownBlock] at hg
    | some y =>
      obtain ⟨g', rfl, _⟩ := h.addr rfl
      simp [Value.ownBlock] at hg
      subst hg
      simpa using h.nb _ rfl
  · rw [CoM.put_at]
    unfold updPe
    by_cases e : j = k
    · rw [if_pos (by omega), if_pos e]
      exact hx
    · rw [if_neg (by omega), if_neg e]
      exact h.rl j h1 h2
def RCo (w : World) (r : Nat) (F : List Nat) (m : CoM) (n : Nat) : Prop := ∃ la lc pe, F = rfF r la ∧ PRef w r la lc m pe n
def StepR (w : World) (r : Nat) (F : List Nat) (q : CoR) (n : Nat) : Ending → World → Prop := fun e w' => e = .returned (.int .i64 q.err) ∧ Kept F w w' ∧ ∃ F', RCo w' r F' q.m n ∧ Grown w.heap.size F F'
theorem StepR.bad {w w' : World} {r : Nat} {la : Option Addr} {lc : Nat} {m : CoM} {pe : Nat → PeP} {n : Nat} {E : Int} (h : PRef w r la lc m pe n) (hk : Kept [] w w') : StepR w r (rfF r la) ⟨m, E⟩ n (.returned (.int .i64 E)) w' := ⟨rfl, hk.wider (by simp), _, ⟨la, lc, pe, rfl, h.kept hk (by simp)⟩, fun _ hx => .inl hx⟩
set_option maxRecDepth 100000 in
theorem rknows_any {w : World} {r : Nat} {la : Option Addr} {lc : Nat} {m : CoM} {pe : Nat → PeP} {n : Nat} (h : PRef w r la lc m pe n) (k : Int) : Calls Try.prog 76 #[ptrV r, .int .i64 k] w fun e w' => e = .returned (.bool (m.per k).isSome) ∧ w' = w := by
  by_cases h1 : 1 ≤ k
  · by_cases h2 : k ≤ 16
    · obtain ⟨kn, rfl⟩ : ∃ kn : Nat, k = (kn : Int) := ⟨k.toNat, by omega⟩
      have c0 := (h.pec (k := kn) (by omega)).c0
      have hr := h.rl kn (by omega) (by omega)
      have hj : (pe kn).jo = (m.per (kn : Int)).isSome := by
        unfold PeOk at hr
        cases hp : m.per (kn : Int) with
        | none => rw [hp] at hr; exact hr
        | some p => rw [hp] at hr; exact hr.1
      rw [hj] at c0
      generalize (m.per (kn : Int)).isSome = B at *
      have hk17 : kn < 17 := by omega
      clear h hr hj
      unfold ptrV
      go_enter Try.func76, Try.ntmps76
      go_wp2
      go_ret
      exact ⟨rfl, rfl⟩
    · have HB : Hid ((m.per k).isSome = false) := hid (by
        cases hp : m.per k with
        | none => rfl
        | some p => exact absurd (h.ok.pr k p hp).2.1 h2)
      generalize (m.per k).isSome = B at *
      clear h
      unfold ptrV
      go_enter Try.func76, Try.ntmps76
      go_wp2
      go_ret
      exact ⟨by rw [HB.out]; rfl, rfl⟩
  · have HB : Hid ((m.per k).isSome = false) := hid (by
      cases hp : m.per k with
      | none => rfl
      | some p => exact absurd (h.ok.pr k p hp).1 h1)
    generalize (m.per k).isSome = B at *
    clear h
    unfold ptrV
    go_enter Try.func76, Try.ntmps76
    go_wp2
    go_ret
    exact ⟨by rw [HB.out]; rfl, rfl⟩
theorem rcell_any (x : Int) (w : World) : Calls Try.prog 117 #[.int .i64 x] w fun e w' => e = .returned (.bool (okCell x)) ∧ w' = w := by
  by_cases h1 : 1 ≤ x
  · by_cases h2 : x ≤ 100
    · have HB : Hid (okCell x = true) := hid (okCell_iff.2 ⟨h1, h2⟩)
      generalize okCell x = B at *
      go_enter Try.func117, Try.ntmps117
      go_wp2
      go_ret
      exact ⟨by rw [HB.out]; first | rfl | simp [h2], rfl⟩
    · have HB : Hid (okCell x = false) := hid (by simp [okCell]; omega)
      generalize okCell x = B at *
      go_enter Try.func117, Try.ntmps117
      go_wp2
      go_ret
      exact ⟨by rw [HB.out]; first | rfl | simp [h2], rfl⟩
  · have HB : Hid (okCell x = false) := hid (by simp [okCell]; omega)
    generalize okCell x = B at *
    go_enter Try.func117, Try.ntmps117
    go_wp2
    go_ret
    exact ⟨by rw [HB.out]; rfl, rfl⟩
end Go.Proofs.Ytcnkcbipkchoiag
