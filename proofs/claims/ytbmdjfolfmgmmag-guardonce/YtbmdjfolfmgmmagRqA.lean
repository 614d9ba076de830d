import Derived.Test.YtbmdjfolfmgmmagRpE
import Derived.Test.YtbmdjfolfmgmmagInts
namespace Go.Proofs.Ytbmdjfolfmgmmag
open Go.ChangeShapes Go.WideShapes Go.ChangeAt Go.RowKit

/-! WHAT THE LAWS ASK OF A SENDER AND A RECEIVER OF UNITS (P25, P26). -/

def PieceM.cells (p : PieceM) : List Value := [.int .i64 p.num, .int .i64 p.frm, .bool p.last, .string p.data]
def PieceM.val (p : PieceM) : Value := .agg #[.int .i64 p.num, .int .i64 p.frm, .bool p.last, .string p.data]
def GapM.cells (g : GapM) : List Value := [.int .i64 g.num, .int .i64 g.frm, .int .i64 g.til]
def GapM.zero : GapM := ⟨0, 0, 0⟩

/-- Texts that can be read. -/
def Txs (w : World) (a : Option Addr) (l : List ByteArray) : Prop := l ≠ [] → ∃ b o, a = some ⟨b, o, none⟩ ∧ ∀ i, i < l.length → w.cell? ⟨b, o + i, none⟩ = some (.string (l.getD i ByteArray.empty))
theorem Txs.at {w : World} {a : Option Addr} {l : List ByteArray} (h : Txs w a l) {i : Nat} (hi : i < l.length) : ∃ b o, a = some ⟨b, o, none⟩ ∧ ∀ i, i < l.length → w.cell? ⟨b, o + i, none⟩ = some (.string (l.getD i ByteArray.empty)) := h (by rintro rfl; simp at hi)
/-- Gaps that can be read. -/
def Gps (w : World) (a : Option Addr) (l : List GapM) : Prop := l ≠ [] → ∃ b o, a = some ⟨b, o, none⟩ ∧ ∀ i, i < l.length → w.cell? ⟨b, o + i * 3, none⟩ = some (.int .i64 (l.getD i .zero).num) ∧ w.cell? ⟨b, o + i * 3 + 1, none⟩ = some (.int .i64 (l.getD i .zero).frm) ∧ w.cell? ⟨b, o + i * 3 + 2, none⟩ = some (.int .i64 (l.getD i .zero).til)
/-- It lies in new memory. -/
def NewAt (n : Nat) (a : Option Addr) : Prop := ∀ x, a = some x → n ≤ x.block
def NotIn (F : List Nat) (a : Option Addr) : Prop := ∀ x, a = some x → x.block ∉ F
def Grown (n : Nat) (F F' : List Nat) : Prop := ∀ x ∈ F', x ∈ F ∨ n ≤ x
theorem keptCellQ {S : List Nat} {w w' : World} (hk : Kept S w w') {a : Addr} {v : Value} (h : w.cell? a = some v) (hn : a.block ∉ S) : w'.cell? a = some v := (World.cell?_of_block (hk.block a.block (World.block_lt_of_cell? w a h) hn)).trans h
theorem Txs.kept {w w' : World} {a : Option Addr} {l : List ByteArray} {S : List Nat} (h : Txs w a l) (hk : Kept S w w') (hn : NotIn S a) : Txs w' a l := by
  intro hne
  obtain ⟨b, o, rfl, hC⟩ := h hne
  exact ⟨b, o, rfl, fun i hi => keptCellQ hk (hC i hi) (hn ⟨b, o, none⟩ rfl)⟩
theorem Gps.kept {w w' : World} {a : Option Addr} {l : List GapM} {S : List Nat} (h : Gps w a l) (hk : Kept S w w') (hn : NotIn S a) : Gps w' a l := by
  intro hne
  obtain ⟨b, o, rfl, hC⟩ := h hne
  exact ⟨b, o, rfl, fun i hi => ⟨keptCellQ hk (hC i hi).1 (hn ⟨b, o, none⟩ rfl), keptCellQ hk (hC i hi).2.1 (hn ⟨b, o, none⟩ rfl), keptCellQ hk (hC i hi).2.2 (hn ⟨b, o, none⟩ rfl)⟩⟩
theorem NewAt.notIn {n : Nat} {a : Option Addr} {F : List Nat} (h : NewAt n a) (hF : ∀ x ∈ F, x < n) : NotIn F a := fun x e hx => by
  have h1 := h x e
  have h2 := hF _ hx
  omega

/-- How many units, at the most, a law speaks of. -/
def manyU : Nat := 70368744177664
/-- How long, at the most, a text is. -/
def manyB : Nat := 140737488355328

end Go.Proofs.Ytbmdjfolfmgmmag
