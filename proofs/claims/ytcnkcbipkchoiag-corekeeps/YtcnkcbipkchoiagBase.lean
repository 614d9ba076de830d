import Derived.Test.YtcnkcbipkchoiagRows
import Derived.WalkKit
import Derived.ProofKit
import Derived.OpenShut
import Derived.ShutString
import Derived.ChangeOld
import Derived.Below
import Derived.WalkLawsBesides
import Derived.WalkSpells
import Derived.BigQuiet
import Derived.Deep.QuietTactic
import Derived.Laws.CopyOwn
import Derived.Laws.AppendOwnNone
import Derived.Laws.BitsAllLaws
namespace Go.Proofs.Ytcnkcbipkchoiag
open Go.ChangeShapes Go.WideShapes Go.ChangeAt Go.RowKit

/-- What a reader is told of a slice of integers: where it has elements, it leads to a row of cells that hold them. -/
def Rd (k : IntKind) (w : World) (a : Option Addr) (zs : List Int) : Prop :=
  zs ≠ [] → ∃ b off, a = some ⟨b, off, none⟩ ∧ ∀ j, j < zs.length → w.cell? ⟨b, off + j, none⟩ = some (.int k (zs.getD j 0))

theorem Rd.at {k : IntKind} {w : World} {a : Option Addr} {zs : List Int} (h : Rd k w a zs) {i : Nat} (hi : i < zs.length) :
    ∃ b off, a = some ⟨b, off, none⟩ ∧ ∀ j, j < zs.length → w.cell? ⟨b, off + j, none⟩ = some (.int k (zs.getD j 0)) :=
  h (by intro e; subst e; simp at hi)

theorem Rd.below {k : IntKind} {w w' : World} {a : Option Addr} {zs : List Int} (h : Rd k w a zs) (hb : Below w.heap.size w w') : Rd k w' a zs := by
  intro hne
  obtain ⟨b, off, rfl, hc⟩ := h hne
  exact ⟨b, off, rfl, fun j hj => (hb.cell (World.block_lt_of_cell? w _ (hc j hj))).trans (hc j hj)⟩

theorem Rd.nil (k : IntKind) (w : World) (a : Option Addr) : Rd k w a [] := fun h => absurd rfl h

/-- A row that a call owns can be read. -/
theorem Rd.own {k : IntKind} {w : World} {base : Nat} {e : TypeId} {a : Option Addr} {n c : Nat} {zs : List Int} (h : w.ownsRow base e 1 (.slice a n c) zs.length (zs.map (Value.int k))) : Rd k w a zs := by
  intro hne
  rcases h.2 with ⟨_, h0⟩ | ⟨g, cap, cur, h', _⟩
  · exact absurd (List.eq_nil_of_length_eq_zero h0) hne
  · simp only [Value.slice.injEq] at h'
    obtain ⟨rfl, rfl, rfl⟩ := h'
    refine ⟨g, 0, rfl, fun j hj => ?_⟩
    rw [Nat.zero_add, h.cellAt j (by omega)]
    simp [List.getD, hj]

theorem rd_block {k : IntKind} {w : World} {b : Nat} {e : TypeId} {m : Nat × Nat} {zs : List Int} (h : w.heap[b]? = some (.cells (zs.map (Value.int k)).toArray e m)) : Rd k w (some ⟨b, 0, none⟩) zs := by
  intro _
  refine ⟨b, 0, rfl, fun j hj => ?_⟩
  rw [Nat.zero_add, cell_of_row w b j _ e m h]
  simp [List.getD, hj]

/-- One call behind another: nothing that was there at the first has turned. -/
theorem bthen {w w1 w2 : World} (h1 : Below w.heap.size w w1) (h2 : Below w1.heap.size w1 w2) : Below w.heap.size w w2 := h1.trans (h2.mono h1.size)

theorem Rd.take {k : IntKind} {w : World} {b o : Nat} {zs : List Int} (h : ∀ j, j < zs.length → w.cell? ⟨b, o + j, none⟩ = some (.int k (zs.getD j 0))) (n : Nat) : Rd k w (some ⟨b, o, none⟩) (zs.take n) := by
  intro _
  refine ⟨b, o, rfl, fun j hj => ?_⟩
  have hj' : j < zs.length ∧ j < n := by rw [List.length_take] at hj; omega
  rw [h j hj'.1]
  simp [List.getD, hj'.2]

theorem Rd.drop {k : IntKind} {w : World} {b o : Nat} {zs : List Int} (h : ∀ j, j < zs.length → w.cell? ⟨b, o + j, none⟩ = some (.int k (zs.getD j 0))) (n : Nat) : Rd k w (some ⟨b, o + n, none⟩) (zs.drop n) := by
  intro _
  refine ⟨b, o + n, rfl, fun j hj => ?_⟩
  have hj' : n + j < zs.length := by rw [List.length_drop] at hj; omega
  have := h (n + j) hj'
  rw [← Nat.add_assoc] at this
  rw [this]
  simp [List.getD]

theorem hid {p : Prop} (h : p) : Hid p := h

end Go.Proofs.Ytcnkcbipkchoiag
