import Derived.Test.YtmdfjhnibhmdkafTnD
import Derived.Test.YtmdfjhnibhmdkafInts
namespace Go.Proofs.Ytmdfjhnibhmdkaf
open Go.ChangeShapes Go.WideShapes Go.ChangeAt Go.RowKit

/-! USERS OF ONE'S OWN; the document's turns in memory. -/

theorem Try.infoUs : (Try.prog.info? 41).map (fun i => (i.zero, i.size, i.bytes)) = some (some (.agg #[.int .i64 0, .int .i64 0, .int .i64 0]), 3, 24) := by kernel_rfl
def UsM.cells (t : UsM) : List Value := [.int .i64 t.who, .int .i64 t.byt, .int .i64 t.fit]
def cellsU (l : List UsM) : List Value := l.flatMap UsM.cells
theorem cellsU_length (l : List UsM) : (cellsU l).length = l.length * 3 := by
  induction l with
  | nil => rfl
  | cons x l ih =>
    have : cellsU (x :: l) = x.cells ++ cellsU l := rfl
    rw [this, List.length_append, ih]
    simp [UsM.cells]
    omega
theorem cellsU_at : ∀ (l : List UsM) (i k : Nat), i < l.length → k < 3 → (cellsU l)[i * 3 + k]? = (l.getD i .zero).cells[k]?
  | [], i, k, h, _ => by simp at h
  | x :: l, 0, k, _, hk => by
    have e : cellsU (x :: l) = x.cells ++ cellsU l := rfl
    rw [e, Nat.zero_mul, Nat.zero_add, List.getElem?_append_left (by simpa [UsM.cells] using hk)]
    rfl
  | x :: l, i + 1, k, h, hk => by
    have e : cellsU (x :: l) = x.cells ++ cellsU l := rfl
    have ih := cellsU_at l i k (by simpa using h) hk
    have h5 : x.cells.length = 3 := rfl
    rw [e, List.getElem?_append_right (by rw [h5]; omega), h5, show (i + 1) * 3 + k - 3 = i * 3 + k by omega]
    exact ih
theorem cellsU_set : ∀ (l : List UsM) (i : Nat) (x : Int), i < l.length → (cellsU l).set (i * 3 + 1) (.int .i64 x) = cellsU (l.set i ⟨(l.getD i .zero).who, x, (l.getD i .zero).fit⟩)
  | [], i, x, h => by simp at h
  | y :: l, 0, x, _ => by
    have e : cellsU (y :: l) = y.cells ++ cellsU l := rfl
    rw [e]
    rfl
  | y :: l, i + 1, x, h => by
    have e : cellsU (y :: l) = y.cells ++ cellsU l := rfl
    have ih := cellsU_set l i x (by simpa using h)
    have h5 : y.cells.length = 3 := rfl
    rw [e, List.set_append_right _ _ (by rw [h5]; omega), h5, show (i + 1) * 3 + 1 - 3 = i * 3 + 1 by omega, ih]
    rfl
def OwnU (w : World) (B : Nat) (v : Value) (l : List UsM) : Prop := w.ownsRow B 41 3 v l.length (cellsU l)
theorem OwnU.shape {w : World} {B : Nat} {v : Value} {l : List UsM} (h : OwnU w B v l) : ∃ a c, v = .slice a l.length c ∧ l.length ≤ c ∧ c ≤ maxLen := by
  rcases h.2 with ⟨rfl, h0⟩ | ⟨g, cap, cur, rfl, _, _, h1, h2, _⟩
  · exact ⟨none, 0, by rw [h0], by omega, by unfold maxLen; omega⟩
  · exact ⟨_, cap, rfl, h1, h2⟩
theorem OwnU.below {w w' : World} {B : Nat} {v : Value} {l : List UsM} (h : OwnU w B v l) (hb : Below w.heap.size w w') : OwnU w' B v l := by
  refine ⟨h.1, ?_⟩
  rcases h.2 with h' | ⟨g, cap, cur, h1, h2, h3, h4⟩
  · exact .inl h'
  · have hlt : g < w.heap.size := (Array.getElem?_eq_some_iff.1 h3).1
    exact .inr ⟨g, cap, cur, h1, h2, (hb.block g hlt).trans h3, h4⟩
theorem OwnU.other {w : World} {B : Nat} {v : Value} {l : List UsM} (h : OwnU w B v l) {p : Addr} (hne : v.ownBlock ≠ some p.block) (x : Value) : OwnU (w.setCell p x) B v l := by
  refine ⟨h.1, ?_⟩
  rcases h.2 with h' | ⟨g, cap, cur, h1, h2, h3, h4⟩
  · exact .inl h'
  · have hgp : g ≠ p.block := fun e => hne (by rw [h1, ← e]; rfl)
    exact .inr ⟨g, cap, cur, h1, h2, (heap_setCell_other w p g x hgp).trans h3, h4⟩
theorem OwnU.at {w : World} {B : Nat} {v : Value} {l : List UsM} (h : OwnU w B v l) (hl : 0 < l.length) : ∃ gb c, v = .slice (some ⟨gb, 0, none⟩) l.length c ∧ B ≤ gb ∧ gb < w.heap.size ∧ ∀ i, i < l.length →
    (w.cell? ⟨gb, i * 3, none⟩ = some (.int .i64 (l.getD i .zero).who) ∧ w.cell? ⟨gb, i * 3 + 1, none⟩ = some (.int .i64 (l.getD i .zero).byt) ∧ w.cell? ⟨gb, i * 3 + 2, none⟩ = some (.int .i64 (l.getD i .zero).fit)) ∧ w.frozen? ⟨gb, i * 3 + 1, none⟩ = false := by
  rcases h.2 with ⟨h', h0⟩ | ⟨g, cap, cur, h', hB, hg, hlc, _, hcs, ht⟩
  · omega
  · refine ⟨g, cap, h', hB, (Array.getElem?_eq_some_iff.1 hg).1, fun i hi => ?_⟩
    have hc := fun k hk => cellsU_at l i k hi hk
    have hat : ∀ j, j < l.length * 3 → cur[j]? = (cellsU l)[j]? := fun j hj => by
      rw [← ht, List.getElem?_take_of_lt hj]
      simp
    refine ⟨⟨?_, ?_, ?_⟩, frozen_of_row _ _ _ _ _ hg⟩
    · rw [cell_of_row _ _ _ _ _ _ hg, hat _ (by omega)]; exact hc 0 (by omega)
    · rw [cell_of_row _ _ _ _ _ _ hg, hat _ (by omega)]; exact hc 1 (by omega)
    · rw [cell_of_row _ _ _ _ _ _ hg, hat _ (by omega)]; exact hc 2 (by omega)
theorem OwnU.setBy {w : World} {B gb n c : Nat} {l : List UsM} (h : OwnU w B (.slice (some ⟨gb, 0, none⟩) n c) l) {i : Nat} (hi : i < l.length) (x : Int) : OwnU (w.setCell ⟨gb, i * 3 + 1, none⟩ (.int .i64 x)) B (.slice (some ⟨gb, 0, none⟩) n c) (l.set i ⟨(l.getD i .zero).who, x, (l.getD i .zero).fit⟩) := by
  refine ⟨by rw [List.length_set, cellsU_length, List.length_set], ?_⟩
  rcases h.2 with ⟨h', h0⟩ | ⟨g, cap, cur, h', hB, hg, hlc, hcm, hcs, ht⟩
  · cases h'
  · simp only [Value.slice.injEq, Option.some.injEq, Addr.mk.injEq, and_true] at h'
    obtain ⟨rfl, rfl, rfl⟩ := h'
    refine .inr ⟨gb, c, cur.set! (i * 3 + 1) (.int .i64 x), by rw [List.length_set], hB, ?_, by rw [List.length_set]; exact hlc, hcm, by simpa using hcs, ?_⟩
    · have := heap_setCell_same w gb (i * 3 + 1) _ _ (.int .i64 x) hg
      simpa [Array.set!_eq_setIfInBounds] using this
    · rw [List.length_set, ← cellsU_set l i x hi, ← ht]
      simp [Array.set!_eq_setIfInBounds, List.take_set]
/-- Turns: four numbers, the last of them seventeen; under whatever type. -/
def turnCells (q : Int) (last : Nat) (opn : Bool) (cr : Nat → Int) : List Value := [.int .i64 q, .int .i64 (last : Int), .bool opn] ++ (List.range 17).map fun a => .int .i64 (cr a)
def TurnAt (T : TypeId) (w : World) (r : Nat) (q : Int) (last : Nat) (opn : Bool) (cr : Nat → Int) : Prop := w.heap[r]? = some (.cells (turnCells q last opn cr).toArray T (0, 0))
theorem TurnAt.lt {T : TypeId} {w : World} {r : Nat} {q : Int} {last : Nat} {opn : Bool} {cr : Nat → Int} (h : TurnAt T w r q last opn cr) : r < w.heap.size := (Array.getElem?_eq_some_iff.1 h).1
theorem TurnAt.below {T : TypeId} {w w' : World} {r : Nat} {q : Int} {last : Nat} {opn : Bool} {cr : Nat → Int} (h : TurnAt T w r q last opn cr) (hb : Below w.heap.size w w') : TurnAt T w' r q last opn cr := (hb.block r h.lt).trans h
theorem TurnAt.other {T : TypeId} {w : World} {r : Nat} {q : Int} {last : Nat} {opn : Bool} {cr : Nat → Int} (h : TurnAt T w r q last opn cr) (p : Addr) (x : Value) (hp : r ≠ p.block) : TurnAt T (w.setCell p x) r q last opn cr := (heap_setCell_other w p r x hp).trans h
theorem TurnAt.free {T : TypeId} {w : World} {r : Nat} {q : Int} {last : Nat} {opn : Bool} {cr : Nat → Int} (h : TurnAt T w r q last opn cr) (j : Nat) : w.frozen? ⟨r, j, none⟩ = false := frozen_of_row w r j _ T h
theorem TurnAt.head {T : TypeId} {w : World} {r : Nat} {q : Int} {last : Nat} {opn : Bool} {cr : Nat → Int} (h : TurnAt T w r q last opn cr) : w.cell? ⟨r, 0, none⟩ = some (.int .i64 q) ∧ w.cell? ⟨r, 1, none⟩ = some (.int .i64 (last : Int)) ∧ w.cell? ⟨r, 2, none⟩ = some (.bool opn) := by
  refine ⟨?_, ?_, ?_⟩ <;> (rw [cell_of_row _ _ _ _ _ _ h]; rfl)
theorem TurnAt.credit {T : TypeId} {w : World} {r : Nat} {q : Int} {last : Nat} {opn : Bool} {cr : Nat → Int} (h : TurnAt T w r q last opn cr) {a : Nat} (ha : a ≤ 16) : w.cell? ⟨r, 3 + a, none⟩ = some (.int .i64 (cr a)) := by
  rw [cell_of_row _ _ _ _ _ _ h]
  unfold turnCells
  rw [List.getElem?_toArray, List.getElem?_append_right (by simp)]
  have e : 3 + a - ([.int .i64 q, .int .i64 (last : Int), .bool opn] : List Value).length = a := by simp
  rw [e, List.getElem?_map, List.getElem?_range (by omega)]
  rfl
theorem TurnAt.setLast {T : TypeId} {w : World} {r : Nat} {q : Int} {last : Nat} {opn : Bool} {cr : Nat → Int} (h : TurnAt T w r q last opn cr) (x : Nat) : TurnAt T (w.setCell ⟨r, 1, none⟩ (.int .i64 (x : Int))) r q x opn cr := heap_setCell_same w r 1 _ _ _ h
theorem TurnAt.setOpn {T : TypeId} {w : World} {r : Nat} {q : Int} {last : Nat} {opn : Bool} {cr : Nat → Int} (h : TurnAt T w r q last opn cr) (b : Bool) : TurnAt T (w.setCell ⟨r, 2, none⟩ (.bool b)) r q last b cr := heap_setCell_same w r 2 _ _ _ h
theorem TurnAt.setCr {T : TypeId} {w : World} {r : Nat} {q : Int} {last : Nat} {opn : Bool} {cr : Nat → Int} (h : TurnAt T w r q last opn cr) (a : Nat) (x : Int) : TurnAt T (w.setCell ⟨r, 3 + a, none⟩ (.int .i64 x)) r q last opn (upd cr a x) := by
  have h1 := heap_setCell_same w r (3 + a) _ _ (.int .i64 x) h
  refine h1.trans ?_
  have e : ((turnCells q last opn cr).toArray.setIfInBounds (3 + a) (.int .i64 x)) = (turnCells q last opn (upd cr a x)).toArray := by
    rw [List.setIfInBounds_toArray]
    congr 1
    unfold turnCells
    rw [List.set_append_right _ _ (by simp)]
    have e : 3 + a - ([.int .i64 q, .int .i64 (last : Int), .bool opn] : List Value).length = a := by simp
    rw [e]
    congr 1
    refine List.ext_getElem (by simp) fun j h1 h2 => ?_
    rw [List.getElem_set]
    simp only [List.getElem_map, List.getElem_range]
    by_cases ej : a = j
    · subst ej
      rw [if_pos rfl, upd_at]
    · rw [if_neg ej, upd_ne _ _ (fun e => ej e.symm)]
  rw [← e]
end Go.Proofs.Ytmdfjhnibhmdkaf
