import Derived.Test.YtcnkcbipkchoiagK06
namespace Go.Proofs.Ytcnkcbipkchoiag
open Go.ChangeShapes Go.WideShapes Go.ChangeAt Go.RowKit Go.Maps
theorem At.ty {w : World} {b : Nat} {T U : TypeId} {c d : List Value} (h : At w b T c) (g : At w b U d) : T = U := by
  unfold At at h g
  rw [h] at g
  injection g with g
  injection g
structure CoN where
  bu : Nat
  ga : Option Addr
  gc : Nat
  ub : Int → Nat
  mb : Int → Nat
def ptrV (b : Nat) : Value := .pointer (some ⟨b, 0, none⟩)
def LnM.cells (ub : Int → Nat) (l : LnM) : List Value := [ptrV (ub l.who), .int .i64 (l.turn : Int)]
def cellsLn (ub : Int → Nat) (ls : List LnM) : List Value := ls.flatMap (LnM.cells ub)
def usV (N : CoN) (m : CoM) : Int → Option Value := fun k => (m.per k).map fun _ => ptrV (N.ub k)
def opV (who : Int) (ls : List LnM) : Int → Option Value := fun g => if 1 ≤ g ∧ g ≤ (ls.length : Int) ∧ (ls.getD (g.toNat - 1) .zero).who = who ∧ (ls.getD (g.toNat - 1) .zero).shut = false then some (.int .i64 (((ls.getD (g.toNat - 1) .zero).bytes - (ls.getD (g.toNat - 1) .zero).used : Nat) : Int)) else none
def userRow (N : CoN) (m : CoM) (k : Int) (p : PrM) : List Value := [.int .i64 (m.left k p : Nat), .int .i64 (m.lent k : Nat), .int .i64 (m.chgd k : Nat), .int .i64 (p.st : Nat), .int .i64 (p.cell : Nat), .map (some (N.mb k))]
structure PCore (w : World) (c : Nat) (N : CoN) (m : CoM) (n : Nat) : Prop where
  hd : At w c 136 [.int .i64 (m.unit : Int), .map (some N.bu), .slice N.ga m.loans.length N.gc]
  us : IMap w N.bu n (usV N m)
  ur : ∀ k p, m.per k = some p → At w (N.ub k) 145 (userRow N m k p)
  op : ∀ k p, m.per k = some p → IMap w (N.mb k) n (opV k m.loans)
  gr : w.ownsRow 0 156 2 (.slice N.ga m.loans.length N.gc) m.loans.length (cellsLn N.ub m.loans)
  ui : ∀ j k p q, m.per j = some p → m.per k = some q → N.ub j = N.ub k → j = k
  mi : ∀ j k p q, m.per j = some p → m.per k = some q → N.mb j = N.mb k → j = k
  mn : ∀ k p, m.per k = some p → N.mb k ≠ N.bu
  ok : m.Ok n
theorem cellsLn_len (ub : Int → Nat) (ls : List LnM) : (cellsLn ub ls).length = ls.length * 2 := by
  induction ls with
  | nil => rfl
  | cons x ls ih =>
    have e : cellsLn ub (x :: ls) = x.cells ub ++ cellsLn ub ls := rfl
    rw [e, List.length_append, ih, List.length_cons]
    show 2 + _ = _
    omega
theorem cellsLn_app (ub : Int → Nat) (l r : List LnM) : cellsLn ub (l ++ r) = cellsLn ub l ++ cellsLn ub r := by simp [cellsLn]
theorem cellsLn_at (ub : Int → Nat) : ∀ (ls : List LnM) (i k : Nat), i < ls.length → k < 2 → (cellsLn ub ls)[i * 2 + k]? = ((ls.getD i .zero).cells ub)[k]?
  | [], i, _, h, _ => by simp at h
  | x :: l, 0, k, _, hk => by
    have e : cellsLn ub (x :: l) = x.cells ub ++ cellsLn ub l := rfl
    rw [e, List.getElem?_append_left (by show 0 * 2 + k < 2; omega)]
    simp
  | x :: l, i + 1, k, h, hk => by
    have e : cellsLn ub (x :: l) = x.cells ub ++ cellsLn ub l := rfl
    have ih := cellsLn_at ub l i k (by simpa using h) hk
    have h4 : (x.cells ub).length = 2 := rfl
    rw [e, List.getElem?_append_right (by rw [h4]; omega), h4, show (i + 1) * 2 + k - 2 = i * 2 + k by omega, ih]
    rfl
theorem cellsLn_congr {ub ub' : Int → Nat} {ls ls' : List LnM} (hl : ls'.length = ls.length) (h : ∀ i, i < ls.length → (ls'.getD i .zero).cells ub' = (ls.getD i .zero).cells ub) : cellsLn ub' ls' = cellsLn ub ls := by
  refine List.ext_getElem? fun t => ?_
  by_cases ht : t < ls.length * 2
  · have e1 := cellsLn_at ub' ls' (t / 2) (t % 2) (by omega) (by omega)
    have e2 := cellsLn_at ub ls (t / 2) (t % 2) (by omega) (by omega)
    rw [show t / 2 * 2 + t % 2 = t by omega] at e1 e2
    rw [e1, e2, h _ (by omega)]
  · rw [List.getElem?_eq_none (by rw [cellsLn_len]; omega), List.getElem?_eq_none (by rw [cellsLn_len]; omega)]
/-- One cell of a grant is written: its turn. -/
theorem cellsLn_set {ub : Int → Nat} {ls : List LnM} {i : Nat} {x : LnM} (hi : i < ls.length) (hw : x.who = (ls.getD i .zero).who) : (cellsLn ub ls).set (i * 2 + 1) (.int .i64 (x.turn : Int)) = cellsLn ub (ls.set i x) := by
  refine List.ext_getElem? fun t => ?_
  rw [List.getElem?_set, cellsLn_len]
  by_cases ht : t < ls.length * 2
  · have e1 := cellsLn_at ub (ls.set i x) (t / 2) (t % 2) (by rw [List.length_set]; omega) (by omega)
    have e2 := cellsLn_at ub ls (t / 2) (t % 2) (by omega) (by omega)
    rw [show t / 2 * 2 + t % 2 = t by omega] at e1 e2
    rw [e1, e2]
    by_cases hti : t / 2 = i
    · have e3 : (ls.set i x).getD (t / 2) .zero = x := by rw [hti, List.getD_eq_getElem?_getD, List.getElem?_set_self hi]; rfl
      rw [e3, hti]
      rcases (show t = i * 2 ∨ t = i * 2 + 1 by omega) with ht' | ht'
      · rw [if_neg (by omega), show t % 2 = 0 by omega]
        show some (ptrV (ub _)) = some (ptrV (ub _))
        rw [hw]
      · rw [if_pos (by omega), if_pos (by omega), show t % 2 = 1 by omega]
        rfl
    · have e3 : (ls.set i x).getD (t / 2) .zero = ls.getD (t / 2) .zero := by rw [List.getD_eq_getElem?_getD, List.getElem?_set_ne (fun e => hti e.symm), ← List.getD_eq_getElem?_getD]
      rw [e3, if_neg (by omega)]
  · rw [if_neg (by omega), List.getElem?_eq_none (by rw [cellsLn_len]; omega), List.getElem?_eq_none (by rw [cellsLn_len, List.length_set]; omega)]
/-- The blocks of a core. -/
def coF (c : Nat) (N : CoN) (m : CoM) : List Nat := c :: N.bu :: ((N.ga.map (·.block)).toList ++ (List.range 17).flatMap fun k : Nat => if (m.per (k : Int)).isSome then [N.ub (k : Int), N.mb (k : Int)] else [])
theorem coF_mem {c : Nat} {N : CoN} {m : CoM} {x : Nat} (h : x ∈ coF c N m) : x = c ∨ x = N.bu ∨ (∃ y, N.ga = some y ∧ x = y.block) ∨ ∃ (k : Int) (p : PrM), m.per k = some p ∧ (x = N.ub k ∨ x = N.mb k) := by
  unfold coF at h
  rw [List.mem_cons, List.mem_cons, List.mem_append, List.mem_flatMap] at h
  rcases h with h | h | h | ⟨k, _, h⟩
  · exact .inl h
  · exact .inr (.inl h)
  · cases hg : N.ga with
    | none => rw [hg] at h; simp at h
    | some y => rw [hg] at h; exact .inr (.inr (.inl ⟨y, rfl, by simpa using h⟩))
  · split at h
    · rename_i hs
      obtain ⟨p, hp⟩ := Option.isSome_iff_exists.1 hs
      exact .inr (.inr (.inr ⟨k, p, hp, by simpa using h⟩))
    · simp at h
theorem coF_c (c : Nat) (N : CoN) (m : CoM) : c ∈ coF c N m := List.mem_cons_self
theorem coF_b (c : Nat) (N : CoN) (m : CoM) : N.bu ∈ coF c N m := List.mem_cons_of_mem _ List.mem_cons_self
theorem coF_g {c : Nat} {N : CoN} {m : CoM} {y : Addr} (h : N.ga = some y) : y.block ∈ coF c N m := List.mem_cons_of_mem _ (List.mem_cons_of_mem _ (List.mem_append_left _ (by rw [h]; simp)))
theorem coF_u {c n : Nat} {N : CoN} {m : CoM} {k : Int} {p : PrM} (ho : m.Ok n) (h : m.per k = some p) : N.ub k ∈ coF c N m ∧ N.mb k ∈ coF c N m := by
  obtain ⟨h1, h2, _⟩ := ho.pr k p h
  have key : ∀ x, x = N.ub k ∨ x = N.mb k → x ∈ coF c N m := fun x hx => by
    refine List.mem_cons_of_mem _ (List.mem_cons_of_mem _ (List.mem_append_right _ (List.mem_flatMap.2 ⟨k.toNat, List.mem_range.2 (by omega), ?_⟩)))
    rw [show ((k.toNat : Nat) : Int) = k by omega, h]
    simpa using hx
  exact ⟨key _ (.inl rfl), key _ (.inr rfl)⟩
theorem PCore.gblock {w : World} {c : Nat} {N : CoN} {m : CoM} {n : Nat} (h : PCore w c N m n) {y : Addr} (hy : N.ga = some y) : ∃ cur, y = ⟨y.block, 0, none⟩ ∧ At w y.block 156 cur := by
  obtain ⟨a', c', e, _, _, hx⟩ := row_shape h.gr
  simp only [Value.slice.injEq] at e
  obtain ⟨rfl, -, rfl⟩ := e
  obtain ⟨g, rfl, h2⟩ := hx y hy
  have := h.gr
  rw [hy] at this
  obtain ⟨cur, hA, _⟩ := row_at this
  exact ⟨cur, rfl, hA⟩
theorem PCore.lt {w : World} {c : Nat} {N : CoN} {m : CoM} {n : Nat} (h : PCore w c N m n) : ∀ x ∈ coF c N m, x < w.heap.size := fun x hx => by
  rcases coF_mem hx with rfl | rfl | ⟨y, hy, rfl⟩ | ⟨k, p, hp, rfl | rfl⟩
  · exact h.hd.lt
  · exact h.us.lt
  · obtain ⟨cur, -, hA⟩ := h.gblock hy
    exact hA.lt
  · exact (h.ur k p hp).lt
  · exact (h.op k p hp).lt
theorem PCore.mono {w : World} {c : Nat} {N : CoN} {m : CoM} {n n' : Nat} (h : PCore w c N m n) (hn : n ≤ n') : PCore w c N m n' :=
  ⟨h.hd, h.us.mono hn, h.ur, fun k p hp => (h.op k p hp).mono hn, h.gr, h.ui, h.mi, h.mn, h.ok.mono hn⟩
theorem PCore.kept {w w' : World} {c : Nat} {N : CoN} {m : CoM} {n : Nat} {T : List Nat} (h : PCore w c N m n) (hk : Kept T w w') (hd : ∀ x ∈ coF c N m, x ∉ T) : PCore w' c N m n := by
  refine ⟨h.hd.kept hk (hd _ (coF_c _ _ _)), h.us.kept hk (hd _ (coF_b _ _ _)), fun k p hp => (h.ur k p hp).kept hk (hd _ (coF_u h.ok hp).1), fun k p hp => (h.op k p hp).kept hk (hd _ (coF_u h.ok hp).2), keptRow h.gr hk (fun g hg => ?_), h.ui, h.mi, h.mn, h.ok⟩
  cases hq : N.ga with
  | none => rw [hq] at hg; simp [Value.ownBlock] at hg
  | some y =>
    obtain ⟨cur, he, -⟩ := h.gblock hq
    rw [hq, he] at hg
    simp [Value.ownBlock] at hg
    rw [← hg]
    exact hd _ (coF_g hq)
/-- What lies apart, by its kind. -/
theorem PCore.apart {w : World} {c : Nat} {N : CoN} {m : CoM} {n : Nat} (h : PCore w c N m n) : N.bu ≠ c ∧ (∀ y, N.ga = some y → y.block ≠ c ∧ y.block ≠ N.bu) ∧ ∀ k p, m.per k = some p → N.ub k ≠ c ∧ N.ub k ≠ N.bu ∧ N.mb k ≠ c ∧ N.mb k ≠ N.bu ∧ (∀ y, N.ga = some y → N.ub k ≠ y.block ∧ N.mb k ≠ y.block) ∧ ∀ j q, m.per j = some q → N.ub k ≠ N.mb j := by
  refine ⟨fun e => ?_, fun y hy => ?_, fun k p hp => ⟨fun e => ?_, fun e => ?_, fun e => ?_, h.mn k p hp, fun y hy => ?_, fun j q hq e => ?_⟩⟩
  · have := h.us
    rw [e] at this
    exact this.cells h.hd
  · obtain ⟨cur, -, hA⟩ := h.gblock hy
    refine ⟨fun e => ?_, fun e => ?_⟩
    · rw [e] at hA
      exact absurd (hA.ty h.hd) (by decide)
    · rw [e] at hA
      exact h.us.cells hA
  · have := h.ur k p hp
    rw [e] at this
    exact absurd (this.ty h.hd) (by decide)
  · have := h.ur k p hp
    rw [e] at this
    exact h.us.cells this
  · have := h.op k p hp
    rw [e] at this
    exact this.cells h.hd
  · obtain ⟨cur, -, hA⟩ := h.gblock hy
    refine ⟨fun e => ?_, fun e => ?_⟩
    · rw [← e] at hA
      exact absurd (hA.ty (h.ur k p hp)) (by decide)
    · rw [← e] at hA
      exact (h.op k p hp).cells hA
  · have := h.ur k p hp
    rw [e] at this
    exact (h.op j q hq).cells this
/-- A step that concerns one user. -/
theorem PCore.next {w w' : World} {c : Nat} {N N' : CoN} {m m' : CoM} {n n' : Nat} {S : List Nat} {k : Int} {p p' : PrM} (h : PCore w c N m n) (hp : m.per k = some p) (hk : Kept S w w') (hS : ∀ x ∈ S, x = c ∨ (∃ y, N.ga = some y ∧ x = y.block) ∨ x = N.ub k ∨ x = N.mb k)
    (hb : N'.bu = N.bu) (hu : N'.ub = N.ub) (hm : ∀ j, j ≠ k → N'.mb j = N.mb j) (hmk : N'.mb k = N.mb k ∨ w.heap.size ≤ N'.mb k)
    (hper : ∀ j, m'.per j = if j = k then some p' else m.per j) (hlo : ∀ j, j ≠ k → m'.lent j = m.lent j ∧ m'.chgd j = m.chgd j ∧ opV j m'.loans = opV j m.loans)
    (hd : At w' c 136 [.int .i64 (m'.unit : Int), .map (some N'.bu), .slice N'.ga m'.loans.length N'.gc]) (ur : At w' (N.ub k) 145 (userRow N' m' k p')) (op : IMap w' (N'.mb k) n' (opV k m'.loans))
    (gr : w'.ownsRow 0 156 2 (.slice N'.ga m'.loans.length N'.gc) m'.loans.length (cellsLn N'.ub m'.loans)) (ok : m'.Ok n') (hn : n ≤ n') : PCore w' c N' m' n' := by
  obtain ⟨a1, a2, a3⟩ := h.apart
  have hold : ∀ j q, m'.per j = some q → j ≠ k → m.per j = some q := fun j q hj e => by rw [hper, if_neg e] at hj; exact hj
  have hex : ∀ j q, m'.per j = some q → ∃ q', m.per j = some q' := fun j q hj => by
    by_cases e : j = k
    · exact ⟨p, by rw [e]; exact hp⟩
    · exact ⟨q, hold j q hj e⟩
  refine ⟨hd, ?_, fun j q hj => ?_, fun j q hj => ?_, gr, fun i j q r hi hj e => ?_, fun i j q r hi hj e => ?_, fun j q hj => ?_, ok⟩
  · rw [hb]
    refine ((h.us.kept hk (fun hx => ?_)).mono hn).congr fun j => ?_
    · rcases hS _ hx with e | ⟨y, hy, e⟩ | e | e
      · exact a1 e
      · exact (a2 y hy).2 e.symm
      · exact (a3 k p hp).2.1 e.symm
      · exact (a3 k p hp).2.2.2.1 e.symm
    · unfold usV
      rw [hper, hu]
      split
      · rename_i e
        rw [e, hp]
        rfl
      · rfl
  · rw [hu]
    by_cases e : j = k
    · subst e
      rw [hper, if_pos rfl] at hj
      injection hj with hj
      subst hj
      exact ur
    · have hj' := hold j q hj e
      have e3 := a3 j q hj'
      have : userRow N' m' j q = userRow N m j q := by
        unfold userRow CoM.left
        rw [(hlo j e).1, (hlo j e).2.1, hm j e]
      rw [this]
      refine (h.ur j q hj').kept hk (fun hx => ?_)
      rcases hS _ hx with e' | ⟨y, hy, e'⟩ | e' | e'
      · exact e3.1 e'
      · exact (e3.2.2.2.2.1 y hy).1 e'
      · exact e (h.ui j k q p hj' hp e')
      · exact e3.2.2.2.2.2 k p hp e'
  · by_cases e : j = k
    · subst e
      exact op
    · have hj' := hold j q hj e
      have e3 := a3 j q hj'
      rw [hm j e, (hlo j e).2.2]
      refine ((h.op j q hj').kept hk (fun hx => ?_)).mono hn
      rcases hS _ hx with e' | ⟨y, hy, e'⟩ | e' | e'
      · exact e3.2.2.1 e'
      · exact (e3.2.2.2.2.1 y hy).2 e'
      · exact (a3 k p hp).2.2.2.2.2 j q hj' e'.symm
      · exact e (h.mi j k q p hj' hp e')
  · obtain ⟨q', hi'⟩ := hex i q hi
    obtain ⟨r', hj'⟩ := hex j r hj
    rw [hu] at e
    exact h.ui i j q' r' hi' hj' e
  · obtain ⟨q', hi'⟩ := hex i q hi
    obtain ⟨r', hj'⟩ := hex j r hj
    have l1 := (h.op i q' hi').lt
    have l2 := (h.op j r' hj').lt
    by_cases ei : i = k
    · by_cases ej : j = k
      · rw [ei, ej]
      · rw [ei, hm j ej] at e
        rcases hmk with g | g
        · rw [g] at e
          rw [ei]
          exact h.mi k j p r' hp hj' e
        · omega
    · by_cases ej : j = k
      · rw [ej, hm i ei] at e
        rcases hmk with g | g
        · rw [g] at e
          rw [ej]
          exact h.mi i k q' p hi' hp e
        · omega
      · rw [hm i ei, hm j ej] at e
        exact h.mi i j q' r' hi' hj' e
  · obtain ⟨q', hj'⟩ := hex j q hj
    have l1 := h.us.lt
    rw [hb]
    by_cases ej : j = k
    · rw [ej]
      rcases hmk with g | g
      · rw [g]
        exact h.mn k p hp
      · omega
    · rw [hm j ej]
      exact h.mn j q' hj'
/-- And its blocks. -/
theorem coF_next {w : World} {c : Nat} {N N' : CoN} {m m' : CoM} {n : Nat} {k : Int} {p p' : PrM} (h : PCore w c N m n) (hp : m.per k = some p) (hb : N'.bu = N.bu) (hu : N'.ub = N.ub) (hm : ∀ j, j ≠ k → N'.mb j = N.mb j) (hmk : N'.mb k = N.mb k ∨ w.heap.size ≤ N'.mb k) (hper : ∀ j, m'.per j = if j = k then some p' else m.per j) (hga : ∀ y, N'.ga = some y → N.ga = some y ∨ w.heap.size ≤ y.block) : Grown w.heap.size (coF c N m) (coF c N' m') := fun x hx => by
  rcases coF_mem hx with rfl | rfl | ⟨y, hy, rfl⟩ | ⟨j, q, hq, e⟩
  · exact .inl (coF_c _ _ _)
  · rw [hb]
    exact .inl (coF_b _ _ _)
  · rcases hga y hy with g | g
    · exact .inl (coF_g g)
    · exact .inr g
  · rw [hper] at hq
    rw [hu] at e
    by_cases ej : j = k
    · subst ej
      rcases e with rfl | rfl
      · exact .inl (coF_u h.ok hp).1
      · rcases hmk with g | g
        · rw [g]
          exact .inl (coF_u h.ok hp).2
        · exact .inr g
    · rw [if_neg ej] at hq
      rw [hm j ej] at e
      rcases e with rfl | rfl
      · exact .inl (coF_u h.ok hq).1
      · exact .inl (coF_u h.ok hq).2
/-- Its cells. -/
theorem PCore.head {w : World} {c : Nat} {N : CoN} {m : CoM} {n : Nat} (h : PCore w c N m n) : w.cell? ⟨c, 0, none⟩ = some (.int .i64 (m.unit : Int)) ∧ w.cell? ⟨c, 1, none⟩ = some (.map (some N.bu)) ∧ w.cell? ⟨c, 2, none⟩ = some (.slice N.ga m.loans.length N.gc) := ⟨h.hd.cell 0, h.hd.cell 1, h.hd.cell 2⟩
end Go.Proofs.Ytcnkcbipkchoiag
