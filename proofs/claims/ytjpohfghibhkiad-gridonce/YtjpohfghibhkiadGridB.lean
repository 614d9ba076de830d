import Derived.Test.YtjpohfghibhkiadGridN
import Derived.Test.YtjpohfghibhkiadPairsR
namespace Go.Proofs.Ytjpohfghibhkiad
open Go.ChangeShapes Go.WideShapes Go.ChangeAt Go.RowKit Go.Maps

/-! GridOnce: lists and the map do not lie in one another's way. -/

theorem own_ne_map {T : TypeId} {w : World} {B n gM : Nat} {v : Value} {cs : List Value} {S : List (Int × Int)} (h : w.ownsRow B T 2 v n cs) (hM : WhoMap w gM S) : v.ownBlock = none ∨ v.ownBlock ≠ some gM := by
  obtain ⟨D, ⟨es, clock, hb, _⟩, _⟩ := hM
  rcases h.2 with ⟨rfl, _⟩ | ⟨g, cap, cur, rfl, _, hg, _⟩
  · exact .inl rfl
  · refine .inr fun e => ?_
    have e' : g = gM := by simpa [Value.ownBlock] using e
    subst e'
    rw [hg] at hb
    simp at hb
theorem own_ne_own {T T' : TypeId} {w : World} {B B' n n' : Nat} {v v' : Value} {cs cs' : List Value} (hT : T ≠ T') (h : w.ownsRow B T 2 v n cs) (h' : w.ownsRow B' T' 2 v' n' cs') : v.ownBlock = none ∨ v.ownBlock ≠ v'.ownBlock := by
  rcases h.2 with ⟨rfl, _⟩ | ⟨g, cap, cur, rfl, _, hg, _⟩
  · exact .inl rfl
  · refine .inr fun e => ?_
    rcases h'.2 with ⟨rfl, _⟩ | ⟨g', cap', cur', rfl, _, hg', _⟩
    · simp [Value.ownBlock] at e
    · have e' : g = g' := by simpa [Value.ownBlock] using e
      subst e'
      rw [hg] at hg'
      simp at hg'
      exact hT hg'.2
theorem OwnT.kept {T : TypeId} {w w' : World} {B : Nat} {v : Value} {ps : List (Int × Int)} {row : Option Nat} (h : OwnT T w B v ps) (hg : w.grownBy w' row) (hne : v.ownBlock = none ∨ v.ownBlock ≠ row) : OwnT T w' B v ps := World.ownsRow.kept h hg hne
theorem OwnT.ptsB {T : TypeId} {w : World} {B n c : Nat} {a : Option Addr} {ps : List (Int × Int)} (h : OwnT T w B (.slice a n c) ps) : Pts w a ps := by
  intro hne
  have h0 : 0 < ps.length := List.length_pos_iff.2 hne
  obtain ⟨g, rfl, -⟩ := h.cells h0
  refine ⟨g, 0, rfl, fun i hi => ?_⟩
  obtain ⟨g', e, h1, h2⟩ := h.cells hi
  simp only [Option.some.injEq, Addr.mk.injEq, and_true] at e
  subst e
  rw [Nat.zero_add]
  exact ⟨h1, h2⟩
/-- The first k parts, each a list of its own. -/
structure PartsAt (w : World) (B N : Nat) (ss : List Sh) (xs : List (Int × Int)) (k : Nat) (v : Value) : Prop where
  own : ∃ qs, OwnR 45 w B v qs ∧ qs.length = k ∧ ∀ i, i < k → (qs.getD i (0, undef)).1 = ((i + 1 : Nat) : Int) ∧ OwnT 47 w B (qs.getD i (0, undef)).2 (oncePart N ss xs i).pts
theorem PartsAt.nil (w : World) (B N : Nat) (ss : List Sh) (xs : List (Int × Int)) : PartsAt w B N ss xs 0 (.slice none 0 0) := ⟨[], OwnR.nil _ _ _, rfl, fun i hi => by omega⟩
theorem PartsAt.below {w w' : World} {B N : Nat} {ss : List Sh} {xs : List (Int × Int)} {k : Nat} {v : Value} (h : PartsAt w B N ss xs k v) (hb : Below w.heap.size w w') : PartsAt w' B N ss xs k v := by
  obtain ⟨qs, h1, h2, h3⟩ := h.own
  exact ⟨qs, h1.below hb, h2, fun i hi => ⟨(h3 i hi).1, (h3 i hi).2.below hb⟩⟩
theorem PartsAt.turn {w w' : World} {B N gM : Nat} {ss : List Sh} {xs S : List (Int × Int)} {k : Nat} {v : Value} (h : PartsAt w B N ss xs k v) (hM : WhoMap w gM S) (hg : w.grownBy w' (some gM)) : PartsAt w' B N ss xs k v := by
  obtain ⟨qs, h1, h2, h3⟩ := h.own
  exact ⟨qs, h1.kept hg (own_ne_map h1 hM), h2, fun i hi => ⟨(h3 i hi).1, (h3 i hi).2.kept hg (own_ne_map (h3 i hi).2 hM)⟩⟩
theorem PartsAt.parts {w : World} {B N : Nat} {ss : List Sh} {xs : List (Int × Int)} {k n c : Nat} {a : Option Addr} (h : PartsAt w B N ss xs k (.slice a n c)) : PrtsP w a (onceParts N ss xs k) := by
  obtain ⟨qs, h1, h2, h3⟩ := h.own
  intro hne
  have hk : 0 < k := by
    rcases Nat.eq_zero_or_pos k with e | e
    · subst e; exact absurd rfl hne
    · exact e
  obtain ⟨g, rfl, -⟩ := h1.cells (i := 0) (by omega)
  refine ⟨g, 0, rfl, fun i hi => ?_⟩
  rw [onceParts_length] at hi
  obtain ⟨g', e, c1, c2⟩ := h1.cells (i := i) (by omega)
  simp only [Option.some.injEq, Addr.mk.injEq, and_true] at e
  subst e
  obtain ⟨e1, ho⟩ := h3 i hi
  obtain ⟨ra, rc, e2, _, _⟩ := ho.shape
  rw [onceParts_at N ss xs hi, Nat.zero_add]
  rw [e1] at c1
  rw [e2] at c2 ho
  exact ⟨c1, ra, rc, c2, OwnT.ptsB ho⟩
theorem PartsAt.push {w w' : World} {B N : Nat} {ss : List Sh} {xs : List (Int × Int)} {k : Nat} {v v' pv : Value} {qs : List (Int × Value)} (h1 : OwnR 45 w B v qs) (h2 : qs.length = k) (h3 : ∀ i, i < k → (qs.getD i (0, undef)).1 = ((i + 1 : Nat) : Int) ∧ OwnT 47 w B (qs.getD i (0, undef)).2 (oncePart N ss xs i).pts)
    (hp : OwnT 47 w B pv (oncePart N ss xs k).pts) (hg : w.grownBy w' v.ownBlock) (hw : OwnR 45 w' B v' (qs ++ [(((k + 1 : Nat) : Int), pv)])) : PartsAt w' B N ss xs (k + 1) v' := by
  refine ⟨_, hw, by simp [h2], fun i hi => ?_⟩
  by_cases e : i = k
  · subst e
    rw [show (qs ++ [(((i + 1 : Nat) : Int), pv)]).getD i (0, undef) = (((i + 1 : Nat) : Int), pv) by simp [List.getD, ← h2]]
    exact ⟨rfl, hp.kept hg (own_ne_own (by decide) hp h1)⟩
  · have hi' : i < k := by omega
    rw [show (qs ++ [(((k + 1 : Nat) : Int), pv)]).getD i (0, undef) = qs.getD i (0, undef) by simp only [List.getD, List.getElem?_append_left (show i < qs.length by omega)]]
    exact ⟨(h3 i hi').1, (h3 i hi').2.kept hg (own_ne_own (by decide) (h3 i hi').2 h1)⟩
/-- A part in a block of its own. -/
def BoxAt (w : World) (g : Nat) (who : Int) (v : Value) : Prop := w.heap[g]? = some (.cells #[.int .i64 who, v] 45 (0, 0))
theorem BoxAt.lt {w : World} {g : Nat} {who : Int} {v : Value} (h : BoxAt w g who v) : g < w.heap.size := (Array.getElem?_eq_some_iff.1 h).1
theorem BoxAt.cells {w : World} {g : Nat} {who : Int} {v : Value} (h : BoxAt w g who v) : w.cell? ⟨g, 0, none⟩ = some (.int .i64 who) ∧ w.cell? ⟨g, 1, none⟩ = some v := by
  rw [cell_of_row w g _ _ _ (0, 0) h, cell_of_row w g _ _ _ (0, 0) h]
  exact ⟨rfl, rfl⟩
theorem BoxAt.free {w : World} {g : Nat} {who : Int} {v : Value} (h : BoxAt w g who v) (j : Nat) : w.frozen? ⟨g, j, none⟩ = false := frozen_of_row w g j _ _ h
theorem BoxAt.set {w : World} {g : Nat} {who : Int} {v : Value} (h : BoxAt w g who v) (u : Value) : BoxAt (w.setCell ⟨g, 1, none⟩ u) g who u := heap_setCell_same w g 1 _ _ u h
theorem BoxAt.same {w w' : World} {g : Nat} {who : Int} {v : Value} (h : BoxAt w g who v) (e : w'.heap[g]? = w.heap[g]?) : BoxAt w' g who v := e.trans h
theorem box_ne_map {w : World} {g gM : Nat} {who : Int} {v : Value} {S : List (Int × Int)} (h : BoxAt w g who v) (hM : WhoMap w gM S) : g ≠ gM := by
  obtain ⟨D, ⟨es, clock, hb, _⟩, _⟩ := hM
  rintro rfl
  unfold BoxAt at h
  rw [h] at hb
  simp at hb
theorem box_ne_own {w : World} {g B : Nat} {who : Int} {v u : Value} {ps : List (Int × Int)} (h : BoxAt w g who v) (h' : OwnT 47 w B u ps) : some g ≠ u.ownBlock := by
  rcases h'.2 with ⟨rfl, _⟩ | ⟨g', cap', cur', rfl, _, hg', _⟩
  · simp [Value.ownBlock]
  · intro e
    have e' : g = g' := by simpa [Value.ownBlock] using e
    subst e'
    unfold BoxAt at h
    rw [h] at hg'
    simp at hg'
theorem cell_ne_map {w : World} {b o gM : Nat} {v : Value} {S : List (Int × Int)} (h : w.cell? ⟨b, o, none⟩ = some v) (hM : WhoMap w gM S) : b ≠ gM := by
  obtain ⟨D, ⟨es, clock, hb, _⟩, _⟩ := hM
  rintro rfl
  simp [World.cell?, hb] at h
theorem grown_set (w : World) (g o : Nat) (v : Value) : w.grownBy (w.setCell ⟨g, o, none⟩ v) (some g) :=
  ⟨by simp [World.setCell], by simp [World.setCell], by simp [World.setCell], by simp [World.setCell], fun k _ hn => heap_setCell_other w ⟨g, o, none⟩ k v (fun e => hn (by rw [e]))⟩
/-- What holds in a round for one user: i places marked, j points gathered. -/
structure InnerAt (wl w : World) (gM gx N : Nat) (ss : List Sh) (xs : List (Int × Int)) (k i j : Nat) (pv : Value) : Prop where
  grown : wl.grownBy w (some gM)
  map : WhoMap w gM (seenAll N ss k ++ (placesOfM N ss ((k + 1 : Nat) : Int)).take i)
  box : BoxAt w gx ((k + 1 : Nat) : Int) pv
  out : wl.heap.size ≤ gx
  own : OwnT 47 w wl.heap.size pv (fillM xs (k + 1) j)
theorem grown_below {wl w w' : World} {row : Option Nat} (h : wl.grownBy w row) (hb : Below wl.heap.size w w') : wl.grownBy w' row :=
  ⟨hb.os.trans h.os, hb.tape.trans h.tape, hb.output.trans h.output, Nat.le_trans h.size hb.size, fun i hi hn => (hb.block i hi).trans (h.block i hi hn)⟩
theorem InnerAt.below {wl w w' : World} {gM gx N : Nat} {ss : List Sh} {xs : List (Int × Int)} {k i j : Nat} {pv : Value} (h : InnerAt wl w gM gx N ss xs k i j pv) (hM : gM < wl.heap.size) (hb : Below w.heap.size w w') : InnerAt wl w' gM gx N ss xs k i j pv :=
  ⟨grown_below h.grown (hb.mono h.grown.size), h.map.same (hb.block gM (Nat.lt_of_lt_of_le hM h.grown.size)), h.box.same (hb.block gx h.box.lt), h.out, h.own.below hb⟩
theorem InnerAt.marked {wl w w' : World} {gM gx N : Nat} {ss : List Sh} {xs : List (Int × Int)} {k i j : Nat} {pv : Value} (h : InnerAt wl w gM gx N ss xs k i j pv) (hg : w.grownBy w' (some gM)) (hm : WhoMap w' gM (seenAll N ss k ++ (placesOfM N ss ((k + 1 : Nat) : Int)).take (i + 1))) : InnerAt wl w' gM gx N ss xs k (i + 1) j pv :=
  ⟨⟨hg.os.trans h.grown.os, hg.tape.trans h.grown.tape, hg.output.trans h.grown.output, Nat.le_trans h.grown.size hg.size, fun b hb hn => (hg.block b (Nat.lt_of_lt_of_le hb h.grown.size) hn).trans (h.grown.block b hb hn)⟩, hm, h.box.same (hg.block gx h.box.lt (fun e => box_ne_map h.box h.map (by simpa using e))), h.out, h.own.kept hg (own_ne_map h.own h.map)⟩
theorem InnerAt.pushed {wl w w' : World} {gM gx N : Nat} {ss : List Sh} {xs : List (Int × Int)} {k i j : Nat} {pv v' : Value} (h : InnerAt wl w gM gx N ss xs k i j pv) (hM : gM < wl.heap.size) (hO : OwnT 47 w' wl.heap.size v' (fillM xs (k + 1) (j + 1))) (hb : Below wl.heap.size w w') (hg : w.grownBy w' pv.ownBlock) :
    BoxAt w' gx ((k + 1 : Nat) : Int) pv ∧ InnerAt wl (w'.setCell ⟨gx, 1, none⟩ v') gM gx N ss xs k i (j + 1) v' := by
  have hbx : BoxAt w' gx ((k + 1 : Nat) : Int) pv := h.box.same (hg.block gx h.box.lt (box_ne_own h.box h.own))
  have hm : WhoMap w' gM (seenAll N ss k ++ (placesOfM N ss ((k + 1 : Nat) : Int)).take i) := h.map.same (hb.block gM hM)
  refine ⟨hbx, grown_below (grown_below h.grown hb) ((Below.refl _ w').setCell h.out v'), hm.same (heap_setCell_other w' ⟨gx, 1, none⟩ gM v' (by have := h.out; show gM ≠ gx; omega)), hbx.set v', h.out, hO.kept (grown_set w' gx 1 v') ?_⟩
  cases hv : v'.ownBlock with
  | none => exact .inl rfl
  | some g => exact .inr (by rw [← hv]; exact (box_ne_own hbx hO).symm)
end Go.Proofs.Ytjpohfghibhkiad
