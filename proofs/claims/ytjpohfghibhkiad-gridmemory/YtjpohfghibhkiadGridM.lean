import Derived.Test.YtjpohfghibhkiadFrame
import Derived.Deep.MidRow
import Derived.Laws.StructEq
namespace Go.Proofs.Ytjpohfghibhkiad
open Go.ChangeShapes Go.WideShapes Go.ChangeAt Go.RowKit

/-! GRIDS: shares that lie in memory; whose a place is. -/

structure Sh where
  who : Int
  fr : Int
  cnt : Int
  bg : Int
  en : Int
def shAt (ss : List Sh) (i : Nat) : Sh := ss.getD i ⟨0, 0, 0, 0, 0⟩
def ShCells (w : World) (b o : Nat) (s : Sh) : Prop := w.cell? ⟨b, o, none⟩ = some (.int .i64 s.who) ∧ w.cell? ⟨b, o + 1, none⟩ = some (.int .i64 s.fr) ∧ w.cell? ⟨b, o + 2, none⟩ = some (.int .i64 s.cnt) ∧ w.cell? ⟨b, o + 3, none⟩ = some (.int .i64 s.bg) ∧ w.cell? ⟨b, o + 4, none⟩ = some (.int .i64 s.en)
def Shs (w : World) (a : Option Addr) (ss : List Sh) : Prop := ss ≠ [] → ∃ b off, a = some ⟨b, off, none⟩ ∧ ∀ i, i < ss.length → ShCells w b (off + i * 5) (shAt ss i)
theorem Shs.at {w : World} {a : Option Addr} {ss : List Sh} (h : Shs w a ss) {i : Nat} (hi : i < ss.length) : ∃ b off, a = some ⟨b, off, none⟩ ∧ ∀ i, i < ss.length → ShCells w b (off + i * 5) (shAt ss i) :=
  h (by rintro rfl; simp at hi)
theorem Shs.below {w w' : World} {a : Option Addr} {ss : List Sh} (h : Shs w a ss) (hb : Below w.heap.size w w') : Shs w' a ss := by
  intro hne
  obtain ⟨b, off, rfl, hc⟩ := h hne
  refine ⟨b, off, rfl, fun i hi => ?_⟩
  obtain ⟨c0, c1, c2, c3, c4⟩ := hc i hi
  have h : ∀ q v, w.cell? q = some v → w'.cell? q = some v := fun q v hc => (hb.cell (World.block_lt_of_cell? w _ hc)).trans hc
  exact ⟨h _ _ c0, h _ _ c1, h _ _ c2, h _ _ c3, h _ _ c4⟩
/-- A share that may be, in a grid of so many blocks. -/
def shOk (B : Int) (s : Sh) : Bool := decide (1 ≤ s.who ∧ s.who ≤ 16 ∧ 0 ≤ s.fr ∧ 1 ≤ s.cnt ∧ s.fr < B ∧ s.cnt ≤ B - s.fr ∧ 0 ≤ s.bg ∧ s.en ≤ 14 ∧ s.bg < s.en)
def hasM (s : Sh) (tone t : Int) : Bool := decide (s.bg ≤ t ∧ t < s.en ∧ 12 * s.fr ≤ tone ∧ tone < 12 * (s.fr + s.cnt))
/-- Whose a place is, and how many shares have it: of the first k shares. -/
def ownTo (ss : List Sh) (tone t : Int) : Nat → Int × Nat
  | 0 => (0, 0)
  | k + 1 => if hasM (shAt ss k) tone t then ((shAt ss k).who, (ownTo ss tone t k).2 + 1) else ownTo ss tone t k
def ownM (ss : List Sh) (tone t : Int) : Int × Nat := ownTo ss tone t ss.length
theorem ownTo_le (ss : List Sh) (tone t : Int) : ∀ k, (ownTo ss tone t k).2 ≤ k
  | 0 => Nat.le_refl _
  | k + 1 => by
    have := ownTo_le ss tone t k
    rw [ownTo]
    split
    · simp; omega
    · omega
def pilotM (tone t : Int) : Bool := decide (tone % 3 = 0 ∧ (t = 3 ∨ t = 10))
/-- May it be somebody's place? -/
def placeOf (ss : List Sh) (who tone t : Int) : Bool := decide (0 < (ownM ss tone t).2) && (decide ((ownM ss tone t).1 = who) && !pilotM tone t)
def rowOf (ss : List Sh) (who : Int) (t : Nat) (m : Nat) : List (Int × Int) := ((List.range m).filter fun (tone : Nat) => placeOf ss who (tone : Int) (t : Int)).map fun (tone : Nat) => ((tone : Int), (t : Int))
def placesTo (N : Nat) (ss : List Sh) (who : Int) (T : Nat) : List (Int × Int) := (List.range T).flatMap fun t => rowOf ss who t N
def placesOfM (N : Nat) (ss : List Sh) (who : Int) : List (Int × Int) := placesTo N ss who 14
/-- No place is two shares'. -/
def clashFree (B : Nat) (ss : List Sh) : Bool := (List.range B).all fun b => (List.range 14).all fun t => decide ((ownM ss (12 * b : Nat) t).2 ≤ 1)
def gridErrM (B : Int) (ss : List Sh) : Int := if decide (1 ≤ B ∧ B ≤ 12) && decide (ss.length ≤ 100) && ss.all (shOk B) then (if clashFree B.toNat ss then 0 else 5) else 1

theorem rowOf_succ (ss : List Sh) (who : Int) (t m : Nat) : rowOf ss who t (m + 1) = rowOf ss who t m ++ (if placeOf ss who m t then [((m : Int), (t : Int))] else []) := by
  unfold rowOf
  rw [List.range_succ, List.filter_append, List.map_append]
  congr 1
  by_cases h : placeOf ss who m t = true
  · simp [h]
  · simp [h]
theorem rowOf_length (ss : List Sh) (who : Int) (t m : Nat) : (rowOf ss who t m).length ≤ m := by
  unfold rowOf
  rw [List.length_map]
  exact Nat.le_trans (List.length_filter_le _ _) (by simp)
theorem placesTo_succ (N : Nat) (ss : List Sh) (who : Int) (T : Nat) : placesTo N ss who (T + 1) = placesTo N ss who T ++ rowOf ss who T N := by
  unfold placesTo
  rw [List.range_succ, List.flatMap_append]
  simp
theorem placesTo_length (N : Nat) (ss : List Sh) (who : Int) : ∀ T, (placesTo N ss who T).length ≤ T * N
  | 0 => by simp [placesTo]
  | T + 1 => by
    have h1 := placesTo_length N ss who T
    have h2 := rowOf_length ss who T N
    rw [placesTo_succ, List.length_append, Nat.add_mul]
    omega
end Go.Proofs.Ytjpohfghibhkiad
