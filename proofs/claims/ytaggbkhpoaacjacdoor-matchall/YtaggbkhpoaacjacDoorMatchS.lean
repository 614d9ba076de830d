import Derived.Test.YtaggbkhpoaacjacDoorMatchL
import Derived.Maps.Own
import Derived.Maps.OwnOps
import Derived.Maps.OwnSet
import Derived.Maps.Views
namespace Go.Proofs.YtaggbkhpoaacjacDoor
open Go.ChangeShapes Go.WideShapes Go.ChangeAt Go.RowKit Go.Maps

/-! WHAT IS SEEN, counted in a map. -/

/-- The map of what is seen once each, as it is filled. -/
def sM (P : List Nat) : Nat → DataW Unit
  | 0 => .map []
  | i + 1 => (sM P i).put (.int .i64 (P.getD i 0 : Nat)) (.lit (.int .i64 1))
theorem sM_tidy (P : List Nat) : ∀ i, Tidy (sM P i)
  | 0 => tidy_empty
  | i + 1 => (sM_tidy P i).put (show WideAt.IsKeyLit (.int .i64 (P.getD i 0 : Nat)) from trivial) _
theorem keyS_ne {a b : Nat} (h : a ≠ b) : (Lit.int .i64 (a : Int)) ≠ Lit.int .i64 (b : Int) := by
  intro e
  simp only [Lit.int.injEq, true_and] at e
  omega
theorem sM_has (P : List Nat) (p : Nat) : ∀ i, (∀ j, j < i → P.getD j 0 ≠ p) → Maps.has (sM P i) (.int .i64 (p : Int)) = false
  | 0, _ => rfl
  | i + 1, h => by
    rw [sM, has_put_other (keyS_ne (fun e => h i (by omega) e.symm))]
    exact sM_has P p i (fun j hj => h j (by omega))
theorem nodup_ne {P : List Nat} (h : P.Nodup) {i j : Nat} (hj : j < i) (hi : i < P.length) : P.getD j 0 ≠ P.getD i 0 := by
  have gi : P.getD i 0 = P[i] := by simp [List.getD, hi]
  have gj : P.getD j 0 = P[j] := by simp [List.getD, show j < P.length by omega]
  rw [gi, gj]
  exact (List.pairwise_iff_getElem.1 h) j i (by omega) hi hj
theorem sM_size {P : List Nat} (h : P.Nodup) : ∀ i, i ≤ P.length → Maps.size (sM P i) = i
  | 0, _ => rfl
  | i + 1, hi => by
    rw [sM, size_put (sM_tidy P i), sM_has P _ i (fun j hj => nodup_ne h hj (by omega)), sM_size h i (by omega)]
    simp

theorem ord_mem {n j : Nat} (h : j < n) : (ordM n).getD j 0 ∈ ordM n := by
  have hl : j < (ordM n).length := by rw [ordM_length]; exact h
  have e : (ordM n).getD j 0 = (ordM n)[j] := by simp [List.getD, hl]
  rw [e]
  exact List.getElem_mem hl

/-- What could be read before a block was made is read as it was. -/
theorem Rd.keptB {k : IntKind} {w w' : World} {a : Option Addr} {zs : List Int} (h : Rd k w a zs) (hk : Kept [w.heap.size] w w') : Rd k w' a zs := by
  intro hne
  obtain ⟨b, off, rfl, hc⟩ := h hne
  refine ⟨b, off, rfl, fun j hj => hk.cellO (hc j hj) ?_⟩
  have hlt : b < w.heap.size := World.block_lt_of_cell? w _ (hc j hj)
  simp
  omega
theorem Kept.of_grownS {w w' : World} {b : Nat} (h : w.grownBy w' (some b)) : Kept [b] w w' := ⟨h.os, h.tape, h.output, h.size, fun k hk hn => h.block k hk (fun e => hn (by simpa using e))⟩

theorem Tryd.law3s : Keyed Tryd.prog 3 := int_keyed Tryd.underlying3
theorem Tryd.zero3s (w : World) : (zeroValue 3).run Tryd.prog w = .ok (.int .i64 0) w := by kernel_rfl
theorem run_make_mapS (w : World) : (Instr.makeMap 54 none).run Tryd.prog w = .ok (.map (some w.heap.size)) (w.alloc (.map #[] 0)) := by
  simp [Instr.makeMap]
/-- The entries of a map of one's own are as many as it is said to hold. -/
theorem map_count {w : World} {b n : Nat} {D : DataW Unit} (h : w.ownsMap Tryd.prog 3 (plainElem Tryd.prog 3) b n D) : ∃ es clock, w.heap[b]? = some (.map es clock) ∧ es.size = Maps.size D := by
  obtain ⟨es, clock, hb, _, _, rfl⟩ := h
  exact ⟨es, clock, hb, by rw [size_eq, length_read]⟩
end Go.Proofs.YtaggbkhpoaacjacDoor
