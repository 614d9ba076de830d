import Derived.Test.YtaggbkhpoaacjacDoorMatchM
import Derived.Test.YtaggbkhpoaacjacDoorInts
import Derived.Test.YtaggbkhpoaacjacDoorPush
import Derived.Maps.AppendAt
namespace Go.Proofs.YtaggbkhpoaacjacDoor
open Go.ChangeShapes Go.WideShapes Go.ChangeAt Go.RowKit

/-! A TABLE OF ROWS OF NUMBERS: a slice of slices, each of one's own. -/

theorem Tryd.infoS : (Tryd.prog.info? 23).map (fun i => (i.zero, i.size, i.bytes)) = some (some (.slice none 0 0), 1, 24) := by kernel_rfl

def ApartV (v u : Value) : Prop := ∀ k, v.ownBlock = some k → u.ownBlock ≠ some k
theorem ApartV.symm {v u : Value} (h : ApartV v u) : ApartV u v := fun k hk hv => h k hv hk
/-- A list of slices of one's own. -/
def OwnS (w : World) (B : Nat) (v : Value) (vs : List Value) : Prop := w.ownsRow B 23 1 v vs.length vs
theorem own_grow {w w' : World} {B : Nat} {e : TypeId} {v : Value} {n : Nat} {xs : List Value} {row : Option Nat} (h : w.ownsRow B e 1 v n xs) (hg : w.grownBy w' row) (hr : ∀ k, row = some k → v.ownBlock ≠ some k) : w'.ownsRow B e 1 v n xs := by
  refine ⟨h.1, ?_⟩
  rcases h.2 with h' | ⟨g, cap, cur, h1, h2, h3, h4⟩
  · exact .inl h'
  · have hlt : g < w.heap.size := by
      rcases Nat.lt_or_ge g w.heap.size with hl | hl
      · exact hl
      · rw [Array.getElem?_eq_none hl] at h3; cases h3
    refine .inr ⟨g, cap, cur, h1, h2, (hg.block g hlt (fun e => hr g e.symm ?_)).trans h3, h4⟩
    rw [h1]; rfl
/-- Rows of two kinds lie in two blocks. -/
theorem apart_types {w : World} {B B' : Nat} {e e' : TypeId} {v u : Value} {n n' : Nat} {xs ys : List Value} (h : w.ownsRow B e 1 v n xs) (h' : w.ownsRow B' e' 1 u n' ys) (he : e ≠ e') : ApartV v u := by
  intro k hk hu
  rcases h.2 with ⟨rfl, _⟩ | ⟨g, cap, cur, rfl, _, hg, _⟩
  · cases hk
  · rcases h'.2 with ⟨rfl, _⟩ | ⟨g', cap', cur', rfl, _, hg', _⟩
    · cases hu
    · have e1 : g = k := by simpa [Value.ownBlock] using hk
      have e2 : g' = k := by simpa [Value.ownBlock] using hu
      subst e1
      subst e2
      rw [hg] at hg'
      simp only [Option.some.injEq, Obj.cells.injEq] at hg'
      exact he hg'.2.1

/-- The table when i numbers are written (R rows). -/
structure Tab (w : World) (B : Nat) (vT : Value) (i R : Nat) (vs : List Value) : Prop where
  len : vs.length = R
  tab : OwnS w B vT vs
  row : ∀ r, r < R → OwnI w B (vs.getD r undef) (rowM i r)
  apart : ∀ r s, r < s → s < R → ApartV (vs.getD r undef) (vs.getD s undef)

theorem Tab.start (w : World) (B : Nat) : Tab w B (.slice none 0 0) 0 0 [] :=
  ⟨rfl, World.ownsRow_nil _ _ _ _, fun r hr => by omega, fun r s h1 h2 => by omega⟩
theorem Tab.blocks {w : World} {B : Nat} {vT : Value} {i R : Nat} {vs : List Value} (h : Tab w B vT i R vs) {r : Nat} (hr : r < R) : ApartV vT (vs.getD r undef) :=
  apart_types h.tab (h.row r hr) (by decide)

/-- A new row, behind the others. -/
theorem Tab.more {w w' : World} {B : Nat} {vT v' : Value} {i R : Nat} {vs : List Value} (h : Tab w B vT i R vs) (hi : i % 8 = 0) (hR : R = i / 8) (hg : w.grownBy w' vT.ownBlock) (hn : OwnS w' B v' (vs ++ [.slice none 0 0])) : Tab w' B v' i (R + 1) (vs ++ [.slice none 0 0]) := by
  have hl := h.len
  have hat : ∀ r, r < R → (vs ++ [Value.slice none 0 0]).getD r undef = vs.getD r undef := fun r hr => by
    unfold List.getD
    rw [List.getElem?_append_left (by omega)]
  have hlast : (vs ++ [Value.slice none 0 0]).getD R undef = .slice none 0 0 := by
    unfold List.getD
    rw [List.getElem?_append_right (by omega), hl, Nat.sub_self]
    rfl
  refine ⟨by simp [hl], hn, fun r hr => ?_, fun r s h1 h2 => ?_⟩
  · by_cases e : r = R
    · subst e
      rw [hlast, hR, rowM_new hi]
      exact OwnI.nil _ _
    · rw [hat r (by omega)]
      exact own_grow (h.row r (by omega)) hg (fun k hk => h.blocks (by omega) k hk)
  · by_cases e : s = R
    · subst e
      rw [hlast]
      intro k _ hk
      cases hk
    · rw [hat r (by omega), hat s (by omega)]
      exact h.apart r s h1 (by omega)

/-- A number behind the last row, laid back into the table. -/
theorem Tab.push {w w1 : World} {B g cap : Nat} {v' : Value} {i R : Nat} {vs : List Value} (h : Tab w B (.slice (some ⟨g, 0, none⟩) R cap) i R vs) (hR : R = i / 8 + 1)
    (hg : w.grownBy w1 (vs.getD (i / 8) undef).ownBlock) (hn : OwnI w1 B v' (rowM i (i / 8) ++ [(i : Int)])) (hloc : v'.ownBlock = (vs.getD (i / 8) undef).ownBlock ∨ ∃ k, v'.ownBlock = some k ∧ w.heap.size ≤ k) :
    Tab (w1.setCell ⟨g, i / 8, none⟩ v') B (.slice (some ⟨g, 0, none⟩) R cap) (i + 1) R (vs.set (i / 8) v') ∧ w1.grownBy (w1.setCell ⟨g, i / 8, none⟩ v') (some g) := by
  have hl := h.len
  have hT1 : w1.ownsRow B 23 1 (.slice (some ⟨g, 0, none⟩) R cap) R vs := by
    have := own_grow h.tab hg (fun k hk => (h.blocks (r := i / 8) (by omega)).symm k hk)
    rw [hl] at this
    exact this
  obtain ⟨s1, s2⟩ := hT1.stored (i / 8) v'
  have gT : ∀ r, r < R → (vs.getD r undef).ownBlock ≠ some g := fun r hr hk => h.blocks hr g rfl hk
  have hlt : ∀ r, r < R → ∀ k, (vs.getD r undef).ownBlock = some k → k < w.heap.size := fun r hr k hk => ((h.row r hr).lt k hk).2
  have hgl : g < w.heap.size := ((h.tab).lt g rfl).2
  have nv : v'.ownBlock ≠ some g := by
    rcases hloc with e | ⟨k, e, hk⟩
    · rw [e]; exact gT _ (by omega)
    · rw [e]; intro e'; simp at e'; omega
  have hset : ∀ r, (vs.set (i / 8) v').getD r undef = if r = i / 8 ∧ r < R then v' else vs.getD r undef := fun r => by
    unfold List.getD
    rw [List.getElem?_set]
    by_cases e : i / 8 = r
    · subst e
      rw [if_pos rfl]
      by_cases hr : i / 8 < R
      · rw [if_pos (by omega), if_pos ⟨rfl, hr⟩]; rfl
      · rw [if_neg (by omega), if_neg (by omega), List.getElem?_eq_none (by omega)]
    · rw [if_neg e, if_neg (by omega)]
  refine ⟨⟨by simp [hl], ?_, fun r hr => ?_, fun r s h1 h2 => ?_⟩, s2⟩
  · unfold OwnS
    rw [List.length_set, hl]
    exact s1
  · rw [hset r]
    by_cases e : r = i / 8
    · subst e
      rw [if_pos ⟨rfl, hr⟩, ← rowM_push]
      exact own_grow hn s2 (fun k hk => by simp at hk; subst hk; exact nv)
    · rw [if_neg (by omega), rowM_same (by omega)]
      have h1 : OwnI w1 B (vs.getD r undef) (rowM i r) := own_grow (h.row r hr) hg (fun k hk => (h.apart r (i / 8) (by omega) (by omega)).symm k hk)
      exact own_grow h1 s2 (fun k hk => by simp at hk; subst hk; exact gT r hr)
  · rw [hset r, hset s]
    by_cases e : s = i / 8
    · subst e
      rw [if_neg (by omega), if_pos ⟨rfl, h2⟩]
      intro k hk hv
      rcases hloc with e' | ⟨j, e', hj⟩
      · rw [e'] at hv; exact h.apart r (i / 8) h1 h2 k hk hv
      · have := hlt r (by omega) k hk
        rw [e'] at hv
        simp at hv
        omega
    · rw [if_neg (by omega), if_neg (by omega)]
      exact h.apart r s h1 h2
end Go.Proofs.YtaggbkhpoaacjacDoor
