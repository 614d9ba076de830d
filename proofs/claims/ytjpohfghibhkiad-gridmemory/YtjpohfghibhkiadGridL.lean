import Derived.Test.YtjpohfghibhkiadGridT
import Derived.Test.YtjpohfghibhkiadGrowU
import Derived.Maps.Own
import Derived.Maps.OwnOps
import Derived.Maps.OwnSet
import Derived.Maps.Views
namespace Go.Proofs.Ytjpohfghibhkiad
open Go.ChangeShapes Go.WideShapes Go.ChangeAt Go.RowKit Go.Maps

/-! WHAT THE LAW ASKS OF WHAT IS LAID: parts; which point lies where. -/

structure Prt where
  who : Int
  pts : List (Int × Int)
def prAt (ps : List Prt) (i : Nat) : Prt := ps.getD i ⟨0, []⟩
def PrtsP (w : World) (a : Option Addr) (ps : List Prt) : Prop := ps ≠ [] → ∃ b off, a = some ⟨b, off, none⟩ ∧ ∀ i, i < ps.length → w.cell? ⟨b, off + i * 2, none⟩ = some (.int .i64 (prAt ps i).who) ∧ ∃ ra rc, w.cell? ⟨b, off + i * 2 + 1, none⟩ = some (.slice ra (prAt ps i).pts.length rc) ∧ Pts w ra (prAt ps i).pts
theorem PrtsP.at {w : World} {a : Option Addr} {ps : List Prt} (h : PrtsP w a ps) {i : Nat} (hi : i < ps.length) : ∃ b off, a = some ⟨b, off, none⟩ ∧ ∀ i, i < ps.length → w.cell? ⟨b, off + i * 2, none⟩ = some (.int .i64 (prAt ps i).who) ∧ ∃ ra rc, w.cell? ⟨b, off + i * 2 + 1, none⟩ = some (.slice ra (prAt ps i).pts.length rc) ∧ Pts w ra (prAt ps i).pts :=
  h (by rintro rfl; simp at hi)
theorem PrtsP.below {w w' : World} {a : Option Addr} {ps : List Prt} (h : PrtsP w a ps) (hb : Below w.heap.size w w') : PrtsP w' a ps := by
  intro hne
  obtain ⟨b, off, rfl, hc⟩ := h hne
  refine ⟨b, off, rfl, fun i hi => ?_⟩
  obtain ⟨h0, ra, rc, h1, h2⟩ := hc i hi
  exact ⟨(hb.cell (World.block_lt_of_cell? w _ h0)).trans h0, ra, rc, (hb.cell (World.block_lt_of_cell? w _ h1)).trans h1, h2.below hb⟩
def NoDups (ps : List Prt) (i : Nat) : Prop := ∀ i', i' < i → ∀ j, j < i' → (prAt ps i').who ≠ (prAt ps j).who
def seenAt (N : Nat) (ss : List Sh) (who : Int) (t z : Nat) : Nat := (placesTo N ss who t).length + (rowOf ss who t z).length
def partTo (ps : List Prt) (who : Int) (idx : Nat) : Nat → Int × Int
  | 0 => (0, 0)
  | k + 1 => if (prAt ps k).who = who then (prAt ps k).pts.getD idx (0, 0) else partTo ps who idx k
def layAt (N : Nat) (ss : List Sh) (ps : List Prt) (t z : Nat) : Int × Int :=
  if pilotM z t then (1, if t % 2 = 1 then -1 else 1) else if 0 < (ownM ss z t).2 then partTo ps (ownM ss z t).1 (seenAt N ss (ownM ss z t).1 t z) ps.length else (0, 0)
theorem seen_succ (N : Nat) (ss : List Sh) (who : Int) (t z : Nat) : seenAt N ss who t (z + 1) = seenAt N ss who t z + if placeOf ss who z t then 1 else 0 := by
  unfold seenAt
  rw [rowOf_succ, List.length_append]
  split <;> simp <;> omega
theorem seen_row (N : Nat) (ss : List Sh) (who : Int) (t : Nat) : seenAt N ss who (t + 1) 0 = seenAt N ss who t N := by
  unfold seenAt
  rw [placesTo_succ, List.length_append]
  simp [rowOf]
theorem row_mono (ss : List Sh) (who : Int) (t : Nat) {z N : Nat} (h : z ≤ N) : (rowOf ss who t z).length ≤ (rowOf ss who t N).length := by
  obtain ⟨d, rfl⟩ : ∃ d, N = z + d := ⟨N - z, by omega⟩
  induction d with
  | zero => exact Nat.le_refl _
  | succ d ih =>
    have := ih (by omega)
    rw [← Nat.add_assoc, rowOf_succ, List.length_append]
    omega
theorem places_mono (N : Nat) (ss : List Sh) (who : Int) {T T' : Nat} (h : T ≤ T') : (placesTo N ss who T).length ≤ (placesTo N ss who T').length := by
  obtain ⟨d, rfl⟩ : ∃ d, T' = T + d := ⟨T' - T, by omega⟩
  induction d with
  | zero => exact Nat.le_refl _
  | succ d ih =>
    have := ih (by omega)
    rw [← Nat.add_assoc, placesTo_succ, List.length_append]
    omega
theorem seen_lt {N : Nat} {ss : List Sh} {who : Int} {t z : Nat} (hz : z < N) (ht : t < 14) (h : placeOf ss who z t = true) : seenAt N ss who t z < (placesOfM N ss who).length := by
  have h1 := seen_succ N ss who t z
  rw [h] at h1
  have h2 := row_mono ss who t (show z + 1 ≤ N by omega)
  have h3 := places_mono N ss who (show t + 1 ≤ 14 by omega)
  rw [placesTo_succ, List.length_append] at h3
  unfold placesOfM
  unfold seenAt at *
  simp at h1
  omega
/-- The map: how many places of each have been met. -/
def SeenMap (w : World) (gM N : Nat) (ss : List Sh) (t z : Nat) : Prop := ∃ (n : Nat) (D : DataW Unit), n ≤ t * N + z ∧ w.ownsMap Try.prog 3 (plainElem Try.prog 3) gM n D ∧ ∀ who : Int, D.atKey (.int .i64 who) (.lit (.int .i64 0)) = .lit (.int .i64 (seenAt N ss who t z))
theorem SeenMap.same {w w' : World} {gM N t z : Nat} {ss : List Sh} (h : SeenMap w gM N ss t z) (e : w'.heap[gM]? = w.heap[gM]?) : SeenMap w' gM N ss t z := by
  obtain ⟨n, D, hn, ⟨es, clock, hb, r⟩, hD⟩ := h
  exact ⟨n, D, hn, ⟨es, clock, e.trans hb, r⟩, hD⟩
theorem SeenMap.step {w : World} {gM N t z : Nat} {ss : List Sh} (h : SeenMap w gM N ss t z) (hno : ∀ who, placeOf ss who z t = false) : SeenMap w gM N ss t (z + 1) := by
  obtain ⟨n, D, hn, hM, hD⟩ := h
  refine ⟨n, D, by omega, hM, fun who => ?_⟩
  rw [hD who, seen_succ, hno who]
  rfl
theorem SeenMap.next {w : World} {gM N t : Nat} {ss : List Sh} (h : SeenMap w gM N ss t N) : SeenMap w gM N ss (t + 1) 0 := by
  obtain ⟨n, D, hn, hM, hD⟩ := h
  refine ⟨n, D, by rw [Nat.add_mul]; omega, hM, fun who => ?_⟩
  rw [hD who, seen_row]
end Go.Proofs.Ytjpohfghibhkiad
