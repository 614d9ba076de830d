import Derived.Test.YtpeidccpplfbaaeDoorHqV
namespace Go.Proofs.YtpeidccpplfbaaeDoor
open Go.ChangeShapes Go.WideShapes Go.ChangeAt Go.RowKit

/-! STEPS. -/

/-- A step that came in. -/
structure StepM where
  kind : Int
  n : Int
  m : Int
  yes : Bool
  text : ByteArray
def StepM.zero : StepM := ⟨0, 0, 0, false, ByteArray.empty⟩
def Steps (w : World) (a : Option Addr) (ts : List StepM) : Prop := ts ≠ [] → ∃ b o, a = some ⟨b, o, none⟩ ∧ ∀ i, i < ts.length →
  w.cell? ⟨b, o + i * 5, none⟩ = some (.int .i64 (ts.getD i .zero).kind) ∧ w.cell? ⟨b, o + i * 5 + 1, none⟩ = some (.int .i64 (ts.getD i .zero).n) ∧ w.cell? ⟨b, o + i * 5 + 2, none⟩ = some (.int .i64 (ts.getD i .zero).m) ∧ w.cell? ⟨b, o + i * 5 + 3, none⟩ = some (.bool (ts.getD i .zero).yes) ∧ w.cell? ⟨b, o + i * 5 + 4, none⟩ = some (.string (ts.getD i .zero).text)
end Go.Proofs.YtpeidccpplfbaaeDoor
