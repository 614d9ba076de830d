import Derived.Test.YtmdfjhnibhmdkafDoorSt03
import Derived.BigRegion
import Derived.Deep.Cut
import Derived.Deep.LoopGhost
import Derived.Laws.AppendOwnNone
namespace Go.Proofs.YtmdfjhnibhmdkafDoor
open Go.ChangeShapes Go.WideShapes Go.ChangeAt Go.RowKit
def UsM.cells (t : UsM) : List Value := [.int .i64 t.who, .int .i64 t.byt, .int .i64 t.fit]
def cellsU (l : List UsM) : List Value := l.flatMap UsM.cells
theorem cellsU_length (l : List UsM) : (cellsU l).length = l.length * 3 := by
  induction l with
  | nil => rfl
  | cons x l ih =>
    have : cellsU (x :: l) = x.cells ++ cellsU l := rfl
    rw [this, List.length_append, ih]
    simp [UsM.cells]
    omega
theorem cellsU_at : ∀ (l : List UsM) (i k : Nat), i < l.length → k < 3 → (cellsU l)[i * 3 + k]? = (l.getD i .zero).cells[k]?
  | [], i, k, h, _ => by simp at h
  | x :: l, 0, k, _, hk => by
    have e : cellsU (x :: l) = x.cells ++ cellsU l := rfl
    rw [e, Nat.zero_mul, Nat.zero_add, List.getElem?_append_left (by simpa [UsM.cells] using hk)]
    rfl
  | x :: l, i + 1, k, h, hk => by
    have e : cellsU (x :: l) = x.cells ++ cellsU l := rfl
    have ih := cellsU_at l i k (by simpa using h) hk
    have h5 : x.cells.length = 3 := rfl
    rw [e, List.getElem?_append_right (by rw [h5]; omega), h5, show (i + 1) * 3 + k - 3 = i * 3 + k by omega]
    exact ih
theorem cellsU_set : ∀ (l : List UsM) (i : Nat) (x : Int), i < l.length → (cellsU l).set (i * 3 + 1) (.int .i64 x) = cellsU (l.set i ⟨(l.getD i .zero).who, x, (l.getD i .zero).fit⟩)
  | [], i, x, h => by simp at h
  | y :: l, 0, x, _ => by
    have e : cellsU (y :: l) = y.cells ++ cellsU l := rfl
    rw [e]
    rfl
  | y :: l, i + 1, x, h => by
    have e : cellsU (y :: l) = y.cells ++ cellsU l := rfl
    have ih := cellsU_set l i x (by simpa using h)
    have h5 : y.cells.length = 3 := rfl
    rw [e, List.set_append_right _ _ (by rw [h5]; omega), h5, show (i + 1) * 3 + 1 - 3 = i * 3 + 1 by omega, ih]
    rfl
def OwnU (w : World) (B : Nat) (v : Value) (l : List UsM) : Prop := w.ownsRow B 47 3 v l.length (cellsU l)
theorem OwnU.shape {w : World} {B : Nat} {v : Value} {l : List UsM} (h : OwnU w B v l) : ∃ a c, v = .slice a l.length c ∧ l.length ≤ c ∧ c ≤ maxLen := by
  rcases h.2 with ⟨rfl, h0⟩ | ⟨g, cap, cur, rfl, _, _, h1, h2, _⟩
  · exact ⟨none, 0, by rw [h0], by omega, by unfold maxLen; omega⟩
  · exact ⟨_, cap, rfl, h1, h2⟩
theorem OwnU.below {w w' : World} {B : Nat} {v : Value} {l : List UsM} (h : OwnU w B v l) (hb : Below w.heap.size w w') : OwnU w' B v l := by
  refine ⟨h.1, ?_⟩
  rcases h.2 with h' | ⟨g, cap, cur, h1, h2, h3, h4⟩
  · exact .inl h'
  · have hlt : g < w.heap.size := (Array.getElem?_eq_some_iff.1 h3).1
    exact .inr ⟨g, cap, cur, h1, h2, (hb.block g hlt).trans h3, h4⟩
theorem OwnU.other {w : World} {B : Nat} {v : Value} {l : List UsM} (h : OwnU w B v l) {p : Addr} (hne : v.ownBlock ≠ some p.block) (x : Value) : OwnU (w.setCell p x) B v l := by
  refine ⟨h.1, ?_⟩
  rcases h.2 with h' | ⟨g, cap, cur, h1, h2, h3, h4⟩
  · exact .inl h'
  · have hgp : g ≠ p.block := fun e => hne (by rw [h1, ← e]; rfl)
    exact .inr ⟨g, cap, cur, h1, h2, (heap_setCell_other w p g x hgp).trans h3, h4⟩
theorem OwnU.at {w : World} {B : Nat} {v : Value} {l : List UsM} (h : OwnU w B v l) (hl : 0 < l.length) : ∃ gb c, v = .slice (some ⟨gb, 0, none⟩) l.length c ∧ B ≤ gb ∧ gb < w.heap.size ∧ ∀ i, i < l.length →
    (w.cell? ⟨gb, i * 3, none⟩ = some (.int .i64 (l.getD i .zero).who) ∧ w.cell? ⟨gb, i * 3 + 1, none⟩ = some (.int .i64 (l.getD i .zero).byt) ∧ w.cell? ⟨gb, i * 3 + 2, none⟩ = some (.int .i64 (l.getD i .zero).fit)) ∧ w.frozen? ⟨gb, i * 3 + 1, none⟩ = false := by
  rcases h.2 with ⟨h', h0⟩ | ⟨g, cap, cur, h', hB, hg, hlc, _, hcs, ht⟩
  · omega
  · refine ⟨g, cap, h', hB, (Array.getElem?_eq_some_iff.1 hg).1, fun i hi => ?_⟩
    have hc := fun k hk => cellsU_at l i k hi hk
    have hat : ∀ j, j < l.length * 3 → cur[j]? = (cellsU l)[j]? := fun j hj => by
      rw [← ht, List.getElem?_take_of_lt hj]
      simp
    refine ⟨⟨?_, ?_, ?_⟩, frozen_of_row _ _ _ _ _ hg⟩
    · rw [cell_of_row _ _ _ _ _ _ hg, hat _ (by omega)]; exact hc 0 (by omega)
    · rw [cell_of_row _ _ _ _ _ _ hg, hat _ (by omega)]; exact hc 1 (by omega)
    · rw [cell_of_row _ _ _ _ _ _ hg, hat _ (by omega)]; exact hc 2 (by omega)
theorem OwnU.setBy {w : World} {B gb n c : Nat} {l : List UsM} (h : OwnU w B (.slice (some ⟨gb, 0, none⟩) n c) l) {i : Nat} (hi : i < l.length) (x : Int) : OwnU (w.setCell ⟨gb, i * 3 + 1, none⟩ (.int .i64 x)) B (.slice (some ⟨gb, 0, none⟩) n c) (l.set i ⟨(l.getD i .zero).who, x, (l.getD i .zero).fit⟩) := by
  refine ⟨by rw [List.length_set, cellsU_length, List.length_set], ?_⟩
  rcases h.2 with ⟨h', h0⟩ | ⟨g, cap, cur, h', hB, hg, hlc, hcm, hcs, ht⟩
  · cases h'
  · simp only [Value.slice.injEq, Option.some.injEq, Addr.mk.injEq, and_true] at h'
    obtain ⟨rfl, rfl, rfl⟩ := h'
    refine .inr ⟨gb, c, cur.set! (i * 3 + 1) (.int .i64 x), by rw [List.length_set], hB, ?_, by rw [List.length_set]; exact hlc, hcm, by simpa using hcs, ?_⟩
    · have := heap_setCell_same w gb (i * 3 + 1) _ _ (.int .i64 x) hg
      simpa [Array.set!_eq_setIfInBounds] using this
    · rw [List.length_set, ← cellsU_set l i x hi, ← ht]
      simp [Array.set!_eq_setIfInBounds, List.take_set]
/-- Turns: four numbers, the last of them seventeen; under whatever type. -/
def turnCells (q : Int) (last : Nat) (opn : Bool) (cr : Nat → Int) : List Value := [.int .i64 q, .int .i64 (last : Int), .bool opn] ++ (List.range 17).map fun a => .int .i64 (cr a)
def TurnAt (T : TypeId) (w : World) (r : Nat) (q : Int) (last : Nat) (opn : Bool) (cr : Nat → Int) : Prop := w.heap[r]? = some (.cells (turnCells q last opn cr).toArray T (0, 0))
theorem TurnAt.lt {T : TypeId} {w : World} {r : Nat} {q : Int} {last : Nat} {opn : Bool} {cr : Nat → Int} (h : TurnAt T w r q last opn cr) : r < w.heap.size := (Array.getElem?_eq_some_iff.1 h).1
theorem TurnAt.below {T : TypeId} {w w' : World} {r : Nat} {q : Int} {last : Nat} {opn : Bool} {cr : Nat → Int} (h : TurnAt T w r q last opn cr) (hb : Below w.heap.size w w') : TurnAt T w' r q last opn cr := (hb.block r h.lt).trans h
theorem TurnAt.other {T : TypeId} {w : World} {r : Nat} {q : Int} {last : Nat} {opn : Bool} {cr : Nat → Int} (h : TurnAt T w r q last opn cr) (p : Addr) (x : Value) (hp : r ≠ p.block) : TurnAt T (w.setCell p x) r q last opn cr := (heap_setCell_other w p r x hp).trans h
theorem TurnAt.free {T : TypeId} {w : World} {r : Nat} {q : Int} {last : Nat} {opn : Bool} {cr : Nat → Int} (h : TurnAt T w r q last opn cr) (j : Nat) : w.frozen? ⟨r, j, none⟩ = false := frozen_of_row w r j _ T h
theorem TurnAt.head {T : TypeId} {w : World} {r : Nat} {q : Int} {last : Nat} {opn : Bool} {cr : Nat → Int} (h : TurnAt T w r q last opn cr) : w.cell? ⟨r, 0, none⟩ = some (.int .i64 q) ∧ w.cell? ⟨r, 1, none⟩ = some (.int .i64 (last : Int)) ∧ w.cell? ⟨r, 2, none⟩ = some (.bool opn) := by
  refine ⟨?_, ?_, ?_⟩ <;> (rw [cell_of_row _ _ _ _ _ _ h]; rfl)
theorem TurnAt.credit {T : TypeId} {w : World} {r : Nat} {q : Int} {last : Nat} {opn : Bool} {cr : Nat → Int} (h : TurnAt T w r q last opn cr) {a : Nat} (ha : a ≤ 16) : w.cell? ⟨r, 3 + a, none⟩ = some (.int .i64 (cr a)) := by
  rw [cell_of_row _ _ _ _ _ _ h]
  unfold turnCells
  rw [List.getElem?_toArray, List.getElem?_append_right (by simp)]
  have e : 3 + a - ([.int .i64 q, .int .i64 (last : Int), .bool opn] : List Value).length = a := by simp
  rw [e, List.getElem?_map, List.getElem?_range (by omega)]
  rfl
theorem TurnAt.setLast {T : TypeId} {w : World} {r : Nat} {q : Int} {last : Nat} {opn : Bool} {cr : Nat → Int} (h : TurnAt T w r q last opn cr) (x : Nat) : TurnAt T (w.setCell ⟨r, 1, none⟩ (.int .i64 (x : Int))) r q x opn cr := heap_setCell_same w r 1 _ _ _ h
theorem TurnAt.setOpn {T : TypeId} {w : World} {r : Nat} {q : Int} {last : Nat} {opn : Bool} {cr : Nat → Int} (h : TurnAt T w r q last opn cr) (b : Bool) : TurnAt T (w.setCell ⟨r, 2, none⟩ (.bool b)) r q last b cr := heap_setCell_same w r 2 _ _ _ h
theorem TurnAt.setCr {T : TypeId} {w : World} {r : Nat} {q : Int} {last : Nat} {opn : Bool} {cr : Nat → Int} (h : TurnAt T w r q last opn cr) (a : Nat) (x : Int) : TurnAt T (w.setCell ⟨r, 3 + a, none⟩ (.int .i64 x)) r q last opn (upd cr a x) := by
  have h1 := heap_setCell_same w r (3 + a) _ _ (.int .i64 x) h
  refine h1.trans ?_
  have e : ((turnCells q last opn cr).toArray.setIfInBounds (3 + a) (.int .i64 x)) = (turnCells q last opn (upd cr a x)).toArray := by
    rw [List.setIfInBounds_toArray]
    congr 1
    unfold turnCells
    rw [List.set_append_right _ _ (by simp)]
    have e : 3 + a - ([.int .i64 q, .int .i64 (last : Int), .bool opn] : List Value).length = a := by simp
    rw [e]
    congr 1
    refine List.ext_getElem (by simp) fun j h1 h2 => ?_
    rw [List.getElem_set]
    simp only [List.getElem_map, List.getElem_range]
    by_cases ej : a = j
    · subst ej
      rw [if_pos rfl, upd_at]
    · rw [if_neg ej, upd_ne _ _ (fun e => ej e.symm)]
  rw [← e]
end Go.Proofs.YtmdfjhnibhmdkafDoor
namespace Go.Proofs.YtmdfjhnibhmdkafDoor
open Go.ChangeShapes Go.WideShapes Go.ChangeAt Go.RowKit
/-- Blocks that are somebody's, then noughts. -/
def fillO (out : List Int) (blocks : Nat) : List Int := out ++ List.replicate (blocks - out.length) 0
theorem fillO_length {out : List Int} {blocks : Nat} (h : out.length ≤ blocks) : (fillO out blocks).length = blocks := by unfold fillO; simp; omega
theorem fillO_set {out : List Int} {blocks : Nat} (h : out.length < blocks) (x : Int) : (fillO out blocks).set out.length x = fillO (out ++ [x]) blocks := by
  unfold fillO
  obtain ⟨m, hm⟩ : ∃ m, blocks - out.length = m + 1 := ⟨blocks - out.length - 1, by omega⟩
  rw [hm, set_fill _ _ m _ rfl]
  simp
  omega
/-- What stands in memory while a Slot is under way. -/
structure SlA (T : TypeId) (w00 w : World) (B r go : Nat) (q : Int) (v : Value) (l : List UsM) (blocks : Nat) (s : SlM) : Prop where
  t : TurnAt T w r q s.last s.opn s.cr
  u : OwnU w B v (curU l s.bw)
  o : ArrAt .i64 3 w go (fillO s.out blocks)
  k : Kept [r] w00 w
structure ApaT (w00 : World) (B r go : Nat) (v : Value) : Prop where
  r1 : r < B
  g1 : B ≤ go
  v1 : v.ownBlock ≠ some go
  b : w00.heap.size = B
theorem SlA.drew {T : TypeId} {w00 w : World} {B r go : Nat} {q : Int} {v : Value} {l : List UsM} {blocks : Nat} {s : SlM} (h : SlA T w00 w B r go q v l blocks s) : SlA T w00 w.drew B r go q v l blocks s := ⟨h.t, h.u, h.o, ⟨h.k.1, h.k.2, h.k.3, h.k.4, h.k.5⟩⟩
/-- Credits stay small. -/
def CrB (s : SlM) : Prop := ∀ a, s.cr a < 10000 ∨ (s.opn = true ∧ a = s.last ∧ s.cr a < 20000)
theorem CrB.le {s : SlM} (h : CrB s) (a : Nat) : s.cr a < 20000 := by rcases h a with h | h <;> omega
structure CrV (s : SlM) : Prop where
  own : s.cr s.last < 20000
  low : ∀ a, a ≠ s.last → s.cr a < 10000
theorem CrV.lose {s : SlM} (h : ∀ a, a ≠ s.last → s.cr a < 10000) : CrB s.lose := fun a => by
  left
  show upd s.cr s.last 0 a < 10000
  by_cases e : a = s.last
  · rw [e, upd_at]; omega
  · rw [upd_ne _ _ e]; exact h a e
theorem CrV.serve {fits : Nat → Int} {blocks : Nat} : ∀ (f : Nat) (s : SlM), blocks < f + s.out.length → s.out.length ≤ blocks → (∀ a, 0 ≤ s.bw a) → FitOk fits s.bw → CrV s → CrB (serveM fits blocks f s).leave
  | 0, s, hf, ho, _, _, _ => by omega
  | f + 1, s, hf, ho, hb, hF, h => by
    by_cases hc : 0 < s.bw s.last ∧ fits s.last ≤ s.cr s.last
    · by_cases hof : s.out.length = blocks
      · rw [serve_full hc hof]
        unfold SlM.leave
        have hne : ¬ ({ s with opn := true } : SlM).bw ({ s with opn := true } : SlM).last = 0 := by show ¬ s.bw s.last = 0; omega
        rw [if_neg hne]
        intro a
        by_cases e : a = s.last
        · exact .inr ⟨rfl, e, by rw [e]; exact h.own⟩
        · exact .inl (h.low a e)
      · rw [serve_give hc hof]
        have hfit := hF.pos s.last hc.1
        refine CrV.serve f (s.give fits) ?_ ?_ ?_ (hF.less (give_less s hc.1)) ⟨?_, ?_⟩
        · show blocks < f + (s.out ++ [(s.last : Int)]).length
          simp; omega
        · show (s.out ++ [(s.last : Int)]).length ≤ blocks
          simp; omega
        · intro a
          show 0 ≤ upd s.bw s.last (max (s.bw s.last - fits s.last) 0) a
          by_cases e : a = s.last
          · rw [e, upd_at]; omega
          · rw [upd_ne _ _ e]; exact hb a
        · show upd s.cr s.last (s.cr s.last - fits s.last) s.last < 20000
          rw [upd_at]
          have := h.own
          omega
        · intro a e
          show upd s.cr s.last (s.cr s.last - fits s.last) a < 10000
          rw [upd_ne _ _ (show a ≠ s.last from e)]
          exact h.low a e
    · rw [serve_stop hc]
      unfold SlM.leave
      by_cases hz : s.bw s.last = 0
      · rw [if_pos hz]
        exact CrV.lose h.low
      · rw [if_neg hz]
        intro a
        left
        by_cases e : a = s.last
        · have hp : 0 < s.bw s.last := by have := hb s.last; omega
          have := hF.pos s.last hp
          rw [e]
          omega
        · exact h.low a e
theorem CrB.visit {q : Int} {fits : Nat → Int} {blocks : Nat} {s : SlM} (hq : 0 ≤ q ∧ q ≤ 10000) (h : CrB s) (hok : s.Ok blocks) (hF : FitOk fits s.bw) : CrB (visitM q fits blocks s) := by
  have hlow : ∀ a, a ≠ s.come.last → s.cr a < 10000 := fun a e => by
    rcases h a with h' | ⟨h1, h2, _⟩
    · exact h'
    · exact absurd (h2.trans (show s.last = s.come.last from (if_pos h1).symm)) e
  unfold visitM
  split
  · refine CrV.serve _ _ ?_ ?_ ?_ ?_ ⟨?_, ?_⟩
    · have e : (s.come.gain q (!s.opn)).out = s.out := by unfold SlM.gain; split <;> rfl
      rw [e]; omega
    · have e : (s.come.gain q (!s.opn)).out = s.out := by unfold SlM.gain; split <;> rfl
      rw [e]; exact hok.out
    · have e : (s.come.gain q (!s.opn)).bw = s.bw := by unfold SlM.gain; split <;> rfl
      rw [e]; exact hok.bw
    · have e : (s.come.gain q (!s.opn)).bw = s.bw := by unfold SlM.gain; split <;> rfl
      rw [e]; exact hF
    · unfold SlM.gain
      by_cases ho : s.opn = true
      · rw [ho]
        exact h.le _
      · have hof : s.opn = false := by simpa using ho
        rw [hof]
        show upd s.cr s.come.last (s.cr s.come.last + q) s.come.last < 20000
        rw [upd_at]
        rcases h s.come.last with h' | h'
        · omega
        · exact absurd h'.1 ho
    · intro a e
      have e2 : (s.come.gain q (!s.opn)).last = s.come.last := by unfold SlM.gain; split <;> rfl
      rw [e2] at e
      unfold SlM.gain
      split
      · show upd s.cr s.come.last (s.cr s.come.last + q) a < 10000
        rw [upd_ne _ _ e]
        exact hlow a e
      · exact hlow a e
  · exact CrV.lose hlow
theorem Only.visit {l : List UsM} {q : Int} {fits : Nat → Int} {blocks : Nat} {s : SlM} (h : Only l s.bw) (hok : (visitM q fits blocks s).Ok blocks) : Only l (visitM q fits blocks s).bw := fun a ha => by
  have h1 := h a ha
  have h2 := hok.bw a
  rcases Int.lt_or_le 0 ((visitM q fits blocks s).bw a) with hp | hp
  · have := visit_less a hp
    omega
  · omega
end Go.Proofs.YtmdfjhnibhmdkafDoor
