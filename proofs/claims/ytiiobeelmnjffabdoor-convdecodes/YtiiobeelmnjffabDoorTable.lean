import Derived.Test.YtiiobeelmnjffabDoorWays
namespace Go.Proofs.YtiiobeelmnjffabDoor
open Go.ChangeShapes Go.WideShapes Go.ChangeAt Go.RowKit

/-- One entry anew. -/
def upd {α : Type} (f : Nat → α) (s : Nat) (x : α) : Nat → α := fun j => if j = s then x else f j
theorem upd_same {α : Type} (f : Nat → α) (s : Nat) (x : α) : upd f s x s = x := by simp [upd]
theorem upd_other {α : Type} (f : Nat → α) {s j : Nat} (x : α) (h : j ≠ s) : upd f s x j = f j := by simp [upd, h]

theorem flat_ext (A : List Value) (f : Nat → List Value) (hf : ∀ s, (f s).length = 3) (N : Nat) (hA : A.length = 3 * N) (h : ∀ s r, s < N → r < 3 → A[3 * s + r]? = (f s)[r]?) : A = (List.range N).flatMap f := by
  refine List.ext_getElem? fun k => ?_
  by_cases hk : k < 3 * N
  · have e : k = 3 * (k / 3) + k % 3 := by omega
    rw [e, h _ _ (by omega) (by omega), flat_get f hf N _ _ (by omega) (by omega)]
  · rw [List.getElem?_eq_none (by omega), List.getElem?_eq_none (by rw [flat_len f hf]; omega)]

theorem rowC_get (vv : Nat → Value) (qq : Nat → Int) (tt : Nat → Bool) {s r : Nat} (hs : s < 64) (hr : r < 3) : (rowC vv qq tt)[3 * s + r]? = ([vv s, .int .i64 (qq s), .bool (tt s)] : List Value)[r]? := flat_get _ (fun _ => rfl) 64 s r hs hr

theorem rowC_set0 (vv : Nat → Value) (qq : Nat → Int) (tt : Nat → Bool) {s : Nat} (hs : s < 64) (x : Value) : (rowC vv qq tt).set (3 * s) x = rowC (upd vv s x) qq tt := by
  refine flat_ext _ _ (fun _ => rfl) 64 (by rw [List.length_set, rowC_length]) fun j r hj hr => ?_
  rw [List.getElem?_set, rowC_length]
  by_cases h : 3 * s = 3 * j + r
  · obtain rfl : r = 0 := by omega
    obtain rfl : j = s := by omega
    rw [if_pos h, if_pos (by omega), upd_same]; rfl
  · rw [if_neg h, rowC_get _ _ _ hj hr]
    by_cases e : j = s
    · subst e
      match r, hr, h with
      | 0, _, h => omega
      | 1, _, _ | 2, _, _ => rfl
    · rw [upd_other _ _ e]

theorem rowC_set1 (vv : Nat → Value) (qq : Nat → Int) (tt : Nat → Bool) {s : Nat} (hs : s < 64) (x : Int) : (rowC vv qq tt).set (3 * s + 1) (.int .i64 x) = rowC vv (upd qq s x) tt := by
  refine flat_ext _ _ (fun _ => rfl) 64 (by rw [List.length_set, rowC_length]) fun j r hj hr => ?_
  rw [List.getElem?_set, rowC_length]
  by_cases h : 3 * s + 1 = 3 * j + r
  · obtain rfl : r = 1 := by omega
    obtain rfl : j = s := by omega
    rw [if_pos h, if_pos (by omega), upd_same]; rfl
  · rw [if_neg h, rowC_get _ _ _ hj hr]
    by_cases e : j = s
    · subst e
      match r, hr, h with
      | 1, _, h => omega
      | 0, _, _ | 2, _, _ => rfl
    · rw [upd_other _ _ e]

theorem rowC_set2 (vv : Nat → Value) (qq : Nat → Int) (tt : Nat → Bool) {s : Nat} (hs : s < 64) (x : Bool) : (rowC vv qq tt).set (3 * s + 2) (.bool x) = rowC vv qq (upd tt s x) := by
  refine flat_ext _ _ (fun _ => rfl) 64 (by rw [List.length_set, rowC_length]) fun j r hj hr => ?_
  rw [List.getElem?_set, rowC_length]
  by_cases h : 3 * s + 2 = 3 * j + r
  · obtain rfl : r = 2 := by omega
    obtain rfl : j = s := by omega
    rw [if_pos h, if_pos (by omega), upd_same]; rfl
  · rw [if_neg h, rowC_get _ _ _ hj hr]
    by_cases e : j = s
    · subst e
      match r, hr, h with
      | 2, _, h => omega
      | 0, _, _ | 1, _, _ => rfl
    · rw [upd_other _ _ e]

theorem Row.free {w : World} {g : Nat} {vv : Nat → Value} {qq : Nat → Int} {tt : Nat → Bool} (h : Row w g vv qq tt) (i : Nat) : w.frozen? ⟨g, i, none⟩ = false := frozen_of_row w g i _ 54 h
theorem Row.lt {w : World} {g : Nat} {vv : Nat → Value} {qq : Nat → Int} {tt : Nat → Bool} (h : Row w g vv qq tt) : g < w.heap.size := by
  rcases Nat.lt_or_ge g w.heap.size with hl | hl
  · exact hl
  · unfold Row at h; rw [Array.getElem?_eq_none hl] at h; cases h
theorem Row.below {w w' : World} {g : Nat} {vv : Nat → Value} {qq : Nat → Int} {tt : Nat → Bool} (h : Row w g vv qq tt) (hb : Below w.heap.size w w') : Row w' g vv qq tt := (hb.block g h.lt).trans h
theorem Row.set0 {w : World} {g : Nat} {vv : Nat → Value} {qq : Nat → Int} {tt : Nat → Bool} (h : Row w g vv qq tt) {s : Nat} (hs : s < 64) (x : Value) : Row (w.setCell ⟨g, 3 * s, none⟩ x) g (upd vv s x) qq tt := by
  unfold Row
  rw [heap_setCell_same w g _ _ 54 _ h, ← rowC_set0 vv qq tt hs x]
  simp
theorem Row.set1 {w : World} {g : Nat} {vv : Nat → Value} {qq : Nat → Int} {tt : Nat → Bool} (h : Row w g vv qq tt) {s : Nat} (hs : s < 64) (x : Int) : Row (w.setCell ⟨g, 3 * s + 1, none⟩ (.int .i64 x)) g vv (upd qq s x) tt := by
  unfold Row
  rw [heap_setCell_same w g _ _ 54 _ h, ← rowC_set1 vv qq tt hs x]
  simp
theorem Row.set2 {w : World} {g : Nat} {vv : Nat → Value} {qq : Nat → Int} {tt : Nat → Bool} (h : Row w g vv qq tt) {s : Nat} (hs : s < 64) (x : Bool) : Row (w.setCell ⟨g, 3 * s + 2, none⟩ (.bool x)) g vv qq (upd tt s x) := by
  unfold Row
  rw [heap_setCell_same w g _ _ 54 _ h, ← rowC_set2 vv qq tt hs x]
  simp
theorem Row.apart {w : World} {g g' : Nat} {vv : Nat → Value} {qq : Nat → Int} {tt : Nat → Bool} (h : Row w g vv qq tt) (hne : g ≠ g') (i : Nat) (x : Value) : Row (w.setCell ⟨g', i, none⟩ x) g vv qq tt := (heap_setCell_other w ⟨g', i, none⟩ g x hne).trans h

/-- What is written into a row of ways is no way's list of bits. -/
theorem Own.apart {w : World} {B g : Nat} {v : Value} {L : List Int} {vv : Nat → Value} {qq : Nat → Int} {tt : Nat → Bool} (h : Own w B v L) (hr : Row w g vv qq tt) (i : Nat) (x : Value) : Own (w.setCell ⟨g, i, none⟩ x) B v L := by
  refine ⟨h.1, ?_⟩
  rcases h.2 with h' | ⟨g', cap, cur, h1, h2, h3, h4⟩
  · exact .inl h'
  · have hne : g' ≠ g := by
      rintro rfl
      unfold Row at hr
      rw [hr] at h3
      simp at h3
    exact .inr ⟨g', cap, cur, h1, h2, (heap_setCell_other w ⟨g, i, none⟩ g' x hne).trans h3, h4⟩
end Go.Proofs.YtiiobeelmnjffabDoor
