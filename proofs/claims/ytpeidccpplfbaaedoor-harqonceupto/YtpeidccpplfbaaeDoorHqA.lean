import Derived.Test.YtpeidccpplfbaaeDoorRegE
import Derived.Test.YtpeidccpplfbaaeDoorHqV
namespace Go.Proofs.YtpeidccpplfbaaeDoor
open Go.ChangeShapes Go.WideShapes Go.ChangeAt Go.RowKit

/-! WHAT A RECEIVER TAKES (P21): mathematics, and the document's Takes. -/

structure ShotM where
  process : Int
  version : Int
  flag : Bool
  data : ByteArray
def ShotM.val (x : ShotM) : Value := .agg #[.int .i64 x.process, .int .i64 x.version, .bool x.flag, .string x.data]
def shotOk (x : ShotM) : Bool := decide (0 ≤ x.process ∧ x.process ≤ 7 ∧ 0 ≤ x.version ∧ x.version ≤ 3)
/-- The flags of a receiver, and whether the blocks with them were heard. -/
structure RecvM where
  flag : List Bool
  heard : List Bool
def RecvM.new : RecvM := ⟨List.replicate 8 false, List.replicate 8 true⟩
def RecvM.ok (r : RecvM) : Prop := r.flag.length = 8 ∧ r.heard.length = 8
def RecvM.turned (r : RecvM) (x : ShotM) : RecvM := if r.flag.getD x.process.toNat false = x.flag then r else ⟨r.flag.set x.process.toNat x.flag, r.heard.set x.process.toNat false⟩
structure TookM where
  data : ByteArray
  fresh : Bool
  yes : Bool
  err : Int
def TookM.val (t : TookM) : Value := .tuple #[.string t.data, .bool t.fresh, .bool t.yes, .int .i64 t.err]
def RecvM.says (r : RecvM) (x : ShotM) (heard : Bool) : TookM :=
  if shotOk x = false then ⟨ByteArray.empty, false, false, 1⟩ else if 1500 < x.data.size then ⟨ByteArray.empty, false, false, 2⟩
  else if (r.turned x).heard.getD x.process.toNat false then ⟨ByteArray.empty, false, true, 0⟩ else if heard then ⟨x.data, true, true, 0⟩ else ⟨ByteArray.empty, false, false, 0⟩
def RecvM.next (r : RecvM) (x : ShotM) (heard : Bool) : RecvM :=
  if shotOk x = false ∨ 1500 < x.data.size then r else if heard then ⟨(r.turned x).flag, (r.turned x).heard.set x.process.toNat true⟩ else r.turned x
theorem turned_ok {r : RecvM} (h : r.ok) (x : ShotM) : (r.turned x).ok := by
  unfold RecvM.turned
  split
  · exact h
  · exact ⟨by simp [h.1], by simp [h.2]⟩
theorem next_ok {r : RecvM} (h : r.ok) (x : ShotM) (heard : Bool) : (r.next x heard).ok := by
  unfold RecvM.next
  split
  · exact h
  · split
    · have := turned_ok h x
      exact ⟨this.1, by simp [this.2]⟩
    · exact turned_ok h x

/-- A block that holds a receiver's state as the document lays it. -/
def RTakes (t : TypeId) (w : World) (g : Nat) (r : RecvM) : Prop := w.heap[g]? = some (.cells ((r.flag ++ r.heard).map Value.bool).toArray t (0, 0)) ∧ r.ok
theorem RTakes.lt {t : TypeId} {w : World} {g : Nat} {r : RecvM} (h : RTakes t w g r) : g < w.heap.size := (Array.getElem?_eq_some_iff.1 h.1).1
theorem RTakes.drew {t : TypeId} {w : World} {g : Nat} {r : RecvM} (h : RTakes t w g r) : RTakes t w.drew g r := ⟨h.1, h.2⟩
theorem RTakes.kept {t : TypeId} {w w' : World} {g : Nat} {r : RecvM} {L : List Nat} (h : RTakes t w g r) (hk : ∀ i, i < w.heap.size → i ∉ L → w'.heap[i]? = w.heap[i]?) (hg : g ∉ L) : RTakes t w' g r := ⟨(hk g h.lt hg).trans h.1, h.2⟩
theorem RTakes.flag {t : TypeId} {w : World} {g : Nat} {r : RecvM} (h : RTakes t w g r) {k : Nat} (hk : k < 8) : w.cell? ⟨g, k, none⟩ = some (.bool (r.flag.getD k false)) := by
  obtain ⟨hb, h1, h2⟩ := h
  rw [cell_of_row _ _ _ _ _ _ hb]
  simp [List.getD, h1, hk, List.getElem?_append_left]
theorem RTakes.heard {t : TypeId} {w : World} {g : Nat} {r : RecvM} (h : RTakes t w g r) {k : Nat} (hk : k < 8) : w.cell? ⟨g, 8 + k, none⟩ = some (.bool (r.heard.getD k false)) := by
  obtain ⟨hb, h1, h2⟩ := h
  rw [cell_of_row _ _ _ _ _ _ hb]
  simp [List.getD, h1, h2, hk, List.getElem?_append_right]
theorem RTakes.setFlag {t : TypeId} {w : World} {g : Nat} {r : RecvM} (h : RTakes t w g r) {k : Nat} (hk : k < 8) (b : Bool) : RTakes t (w.setCell ⟨g, k, none⟩ (.bool b)) g ⟨r.flag.set k b, r.heard⟩ := by
  obtain ⟨hb, h1, h2⟩ := h
  refine ⟨(heap_setCell_same w g k _ _ (.bool b) hb).trans ?_, by simp [h1], h2⟩
  simp [List.set_append_left, h1, hk]
theorem RTakes.setHeard {t : TypeId} {w : World} {g : Nat} {r : RecvM} (h : RTakes t w g r) {k : Nat} (_hk : k < 8) (b : Bool) : RTakes t (w.setCell ⟨g, 8 + k, none⟩ (.bool b)) g ⟨r.flag, r.heard.set k b⟩ := by
  obtain ⟨hb, h1, h2⟩ := h
  refine ⟨(heap_setCell_same w g (8 + k) _ _ (.bool b) hb).trans ?_, h1, by simp [h2]⟩
  simp [List.set_append_right, h1]
end Go.Proofs.YtpeidccpplfbaaeDoor
