import Derived.Test.YtjpohfghibhkiadWaveM
import Derived.Test.YtjpohfghibhkiadFrame
import Derived.Test.YtjpohfghibhkiadOwn
import Derived.Deep.SlicePairs
import Derived.Deep.MidRow
import Derived.Laws.StructEq
namespace Go.Proofs.Ytjpohfghibhkiad
open Go.ChangeShapes Go.WideShapes Go.ChangeAt Go.RowKit

/-! POINTS THAT LIE IN MEMORY. -/

def Pts (w : World) (a : Option Addr) (ps : List (Int × Int)) : Prop := ps ≠ [] → ∃ b off, a = some ⟨b, off, none⟩ ∧ ∀ i, i < ps.length → w.cell? ⟨b, off + i * 2, none⟩ = some (.int .i64 (ps.getD i (0, 0)).1) ∧ w.cell? ⟨b, off + i * 2 + 1, none⟩ = some (.int .i64 (ps.getD i (0, 0)).2)
theorem Pts.at {w : World} {a : Option Addr} {ps : List (Int × Int)} (h : Pts w a ps) {i : Nat} (hi : i < ps.length) : ∃ b off, a = some ⟨b, off, none⟩ ∧ ∀ i, i < ps.length → w.cell? ⟨b, off + i * 2, none⟩ = some (.int .i64 (ps.getD i (0, 0)).1) ∧ w.cell? ⟨b, off + i * 2 + 1, none⟩ = some (.int .i64 (ps.getD i (0, 0)).2) :=
  h (by rintro rfl; simp at hi)
theorem Pts.below {w w' : World} {a : Option Addr} {ps : List (Int × Int)} (h : Pts w a ps) (hb : Below w.heap.size w w') : Pts w' a ps := by
  intro hne
  obtain ⟨b, off, rfl, hc⟩ := h hne
  exact ⟨b, off, rfl, fun i hi => ⟨(hb.cell (World.block_lt_of_cell? w _ (hc i hi).1)).trans (hc i hi).1, (hb.cell (World.block_lt_of_cell? w _ (hc i hi).2)).trans (hc i hi).2⟩⟩
theorem pts_range {w : World} {b o : Nat} {p : Int × Int} (h : w.cell? ⟨b, o, none⟩ = some (.int .i64 p.1) ∧ w.cell? ⟨b, o + 1, none⟩ = some (.int .i64 p.2)) : w.rangeAt b o [.int .i64 p.1, .int .i64 p.2] := by
  intro j v hv
  match j, hv with
  | 0, hv => simp at hv; rw [← hv]; simpa using h.1
  | 1, hv => simp at hv; rw [← hv]; simpa using h.2

/-- Every point within a square. -/
def PtsIn (M : Int) (ps : List (Int × Int)) : Prop := ∀ i, (-M ≤ (ps.getD i (0, 0)).1 ∧ (ps.getD i (0, 0)).1 ≤ M) ∧ -M ≤ (ps.getD i (0, 0)).2 ∧ (ps.getD i (0, 0)).2 ≤ M

end Go.Proofs.Ytjpohfghibhkiad
