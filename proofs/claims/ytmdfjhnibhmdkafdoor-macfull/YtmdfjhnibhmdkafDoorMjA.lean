import Derived.Test.YtmdfjhnibhmdkafDoorFrame
import Derived.Test.YtmdfjhnibhmdkafDoorArrs
import Derived.Lib.AppendStr
namespace Go.Proofs.YtmdfjhnibhmdkafDoor
open Go.ChangeShapes Go.WideShapes Go.ChangeAt Go.RowKit

/-! ITEMS JOINED TO ONE TEXT (P22): mathematics; items that can be read; bytes appended. -/

structure ItemM where
  ch : Int
  data : ByteArray
def ItemM.zero : ItemM := ⟨0, ByteArray.empty⟩
def bytesI (s : ByteArray) : List Int := s.data.toList.map fun b => (b.toNat : Int)
theorem bytesI_length (s : ByteArray) : (bytesI s).length = s.size := by
  unfold bytesI
  rw [List.length_map, Array.length_toList]
  rfl
theorem strCells_bytes (s : ByteArray) : Lib.strCells s = (bytesI s).map (Value.int .u8) := by
  unfold Lib.strCells bytesI
  rw [List.map_map]
  rfl
def ItemM.ok (t : ItemM) : Bool := decide (1 ≤ t.ch ∧ t.ch ≤ 32 ∧ t.data.size ≤ 1500)
def ItemM.head (t : ItemM) : List Int := [t.ch, ((t.data.size / 256 : Nat) : Int), ((t.data.size % 256 : Nat) : Int)]
def ItemM.bytes (t : ItemM) : List Int := t.head ++ bytesI t.data
def itemsB (l : List ItemM) : List Int := l.flatMap ItemM.bytes
theorem itemsB_take {l : List ItemM} {k : Nat} (h : k < l.length) : itemsB (l.take (k + 1)) = itemsB (l.take k) ++ (l.getD k .zero).head ++ bytesI (l.getD k .zero).data := by
  have e : l.getD k .zero = l[k] := by simp [List.getD, h]
  have e2 : l.take (k + 1) = l.take k ++ [l[k]] := List.take_succ_eq_append_getElem h
  rw [e, e2, List.append_assoc]
  unfold itemsB
  rw [List.flatMap_append, List.flatMap_singleton]
  rfl
theorem itemsB_take_le (l : List ItemM) (k : Nat) : (itemsB (l.take k)).length ≤ (itemsB l).length := by
  have h : itemsB l = itemsB (l.take k) ++ itemsB (l.drop k) := by
    unfold itemsB
    rw [← List.flatMap_append, List.take_append_drop]
  rw [h, List.length_append]
  omega
def padB (L : List Int) (n : Nat) : List Int := if L.length < n then L ++ [63] ++ List.replicate (n - L.length - 1) 0 else L
theorem padB_length {L : List Int} {n : Nat} (h : L.length ≤ n) : (padB L n).length = n := by
  unfold padB
  split
  · simp; omega
  · omega
structure JoinM where
  text : ByteArray
  err : Int
def joinM (l : List ItemM) (size : Int) : JoinM := if size < 0 ∨ 65535 < size then ⟨ByteArray.empty, 1⟩ else if l.all ItemM.ok = false then ⟨ByteArray.empty, 1⟩ else if size < ((itemsB l).length : Int) then ⟨ByteArray.empty, 2⟩ else ⟨strOfNums (padB (itemsB l) size.toNat), 0⟩

/-- Items that can be read. -/
def Itms (w : World) (a : Option Addr) (l : List ItemM) : Prop := l ≠ [] → ∃ b o, a = some ⟨b, o, none⟩ ∧ ∀ i, i < l.length → w.cell? ⟨b, o + i * 2, none⟩ = some (.int .i64 (l.getD i .zero).ch) ∧ w.cell? ⟨b, o + i * 2 + 1, none⟩ = some (.string (l.getD i .zero).data)
theorem Itms.at {w : World} {a : Option Addr} {l : List ItemM} (h : Itms w a l) {i : Nat} (hi : i < l.length) : ∃ b o, a = some ⟨b, o, none⟩ ∧ ∀ i, i < l.length → w.cell? ⟨b, o + i * 2, none⟩ = some (.int .i64 (l.getD i .zero).ch) ∧ w.cell? ⟨b, o + i * 2 + 1, none⟩ = some (.string (l.getD i .zero).data) := h (by rintro rfl; simp at hi)
theorem cellOldJ {w w' : World} (hb : Below w.heap.size w w') {p : Addr} {v : Value} (h : w.cell? p = some v) : w'.cell? p = some v := (hb.cell (World.block_lt_of_cell? w _ h)).trans h

theorem Own.cat {w : World} {B : Nat} {v : Value} {L M : List Int} {n : Nat} (hn : n = L.length + M.length) (h : w.ownsRow B 5 1 v n (L.map (Value.int .u8) ++ M.map (Value.int .u8))) : Own w B v (L ++ M) := by
  unfold Own
  rw [List.length_append, List.map_append, ← hn]
  exact h
/-- 'append(v, x, y, z)'. -/
theorem wpList_push3 {ops : Array Oper} {rest : List Oper} {o : Oper} {a : Act} {Q : Exit → Act → World → Prop} {w0 : World} {v : Value} {L : List Int} (B : Nat) (w00 : World) (x0 x1 x2 : Int) (hown : Own w0 B v L) (hgd : o.guard = none) (s x : Operand)
    (ho : o.op = .call { callee := .builtin .append, args := #[s, x], argTypes := #[68, 68] }) (hs : a.eval s = v)
    (hx : a.eval x = .slice (some ⟨w0.heap.size, 0, none⟩) 3 3) (hlen : L.length < 70368744177664) (hbel : Below B w00 w0) (hB : B ≤ w0.heap.size)
    (h : ∀ v' w', Own w' B v' (L ++ [x0, x1, x2]) → Below B w00 w' → wpList Tryd.prog ops Q rest (a.put o.dst v') w') : wpList Tryd.prog ops Q (o :: rest) a (w0.alloc (.cells #[.int .u8 x0, .int .u8 x1, .int .u8 x2] 5)) := by
  obtain ⟨i0, hi, hz0, hz1, hz2⟩ := info_parts Tryd.info5
  have hq := heap_alloc_new w0 (.cells #[.int .u8 x0, .int .u8 x1, .int .u8 x2] 5)
  refine wpList_append_own _ hgd s x 68 ho B 5 i0 (.int .u8 0) 1 1 Tryd.underlying68 hi hz0 hz1 hz2 rfl (by decide) v _ _ hs (World.ownsRow.alloc hown _) ⟨w0.heap.size, 0, none⟩ 3 3 [.int .u8 x0, .int .u8 x1, .int .u8 x2] hx rfl ?_ ?_ ?_ ?_ ?_ ?_
  · intro j u hu
    have e1 : (⟨w0.heap.size, 0, none⟩ : Addr).add j = ⟨w0.heap.size, j, none⟩ := by unfold Addr.add; split <;> simp_all
    rw [e1, cell_of_row _ _ _ _ _ _ hq]
    simpa using hu
  · intro u hu; simp at hu; rcases hu with rfl | rfl | rfl <;> rfl
  · unfold maxLen; omega
  · omega
  · simp; omega
  · intro v' w' h1 h2 _
    exact h v' w' (Own.cat (M := [x0, x1, x2]) rfl h1) ((hbel.alloc hB _).grown h2 (by simp; omega) (own_blocks hown))
/-- 'append(v, s...)', s a text. -/
theorem wpList_pushS {ops : Array Oper} {rest : List Oper} {o : Oper} {a : Act} {Q : Exit → Act → World → Prop} {w0 : World} {v : Value} {L : List Int} (B : Nat) (w00 : World) (t : ByteArray) (hown : Own w0 B v L) (hgd : o.guard = none) (s x : Operand)
    (ho : o.op = .call { callee := .builtin .append, args := #[s, x], argTypes := #[68, 9] }) (hs : a.eval s = v)
    (hx : a.eval x = .string t) (hlen : L.length + t.size ≤ 70368744177664) (hbel : Below B w00 w0) (hB : B ≤ w0.heap.size)
    (h : ∀ v' w', Own w' B v' (L ++ bytesI t) → Below B w00 w' → wpList Tryd.prog ops Q rest (a.put o.dst v') w') : wpList Tryd.prog ops Q (o :: rest) a w0 := by
  obtain ⟨i0, hi, hz0, hz1, hz2⟩ := info_parts Tryd.info5
  refine Lib.wpList_append_own_string w0 hgd s x 68 9 ho B 5 i0 Tryd.underlying68 Tryd.underlying9 hi hz0 hz1 hz2 v _ _ hs hown t hx (by unfold maxLen; omega) (by omega) hB ?_
  intro v' w' h1 h2 _
  rw [strCells_bytes] at h1
  exact h v' w' (Own.cat (M := bytesI t) (by rw [bytesI_length]) h1) (hbel.grown h2 hB (own_blocks hown))
end Go.Proofs.YtmdfjhnibhmdkafDoor
