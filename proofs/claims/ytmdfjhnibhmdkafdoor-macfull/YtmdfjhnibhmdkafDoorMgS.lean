import Derived.Test.YtmdfjhnibhmdkafDoorFrame
import Derived.Test.YtmdfjhnibhmdkafDoorArrs
import Derived.Test.YtmdfjhnibhmdkafDoorInts
import Derived.Test.YtmdfjhnibhmdkafDoorShelf
import Derived.Deep.RegionHeld3
import Derived.Deep.DeepFit
import Derived.Deep.Cut
import Derived.BigRegion
namespace Go.Proofs.YtmdfjhnibhmdkafDoor
open Go.ChangeShapes Go.WideShapes Go.ChangeAt Go.RowKit

/-! A SORT OF PLACES: what is of no program; 'cmp.Or' and 'cmp.Compare' of numbers. -/

def intsG (l : List Nat) : List Int := l.map fun x : Nat => (x : Int)
theorem ints_lengthG (l : List Nat) : (intsG l).length = l.length := by simp [intsG]
theorem ints_atG (l : List Nat) (j : Nat) : (intsG l).getD j 0 = ((l.getD j 0 : Nat) : Int) := by
  unfold intsG List.getD
  rw [List.getElem?_map]
  cases l[j]? <;> rfl
theorem sort_rowG {α : Type} [Inhabited α] {enc : α → Value} {w : World} {g T n : Nat} {fr : Nat × Nat} {c : Array Value} {d : Array α} {os : Array Obj} (hw : w.heap[g]? = some (.cells c T fr)) (hs : c.size = d.size) :
    (Sort.grow (Sort.putRow enc (Sort.ahead w n) g 0 d) os).heap[g]? = some (.cells (d.map enc) T fr) := by
  have hlt : g < w.heap.size := by
    rcases Nat.lt_or_ge g w.heap.size with h | h
    · exact h
    · rw [Array.getElem?_eq_none h] at hw; cases hw
  rw [Sort.heap_grow_old _ _ (by simpa using hlt)]
  unfold Sort.putRow Sort.mapBlock
  have e : Sort.putCells enc 0 d c = d.map enc := by
    refine Array.ext (by simp [Sort.putCells, hs]) fun j h1 h2 => ?_
    have hj : j < d.size := by simpa using h2
    simp only [Sort.putCells, Array.getElem_mapIdx, Array.getElem_map]
    rw [if_pos ⟨Nat.zero_le _, by omega⟩, Nat.sub_zero, getElem!_pos d j hj]
  simp only [Sort.heap_ahead, Array.getElem?_modify, hw, if_true, Option.map_some, Sort.onCells, e]
theorem sort_keptG {α : Type} [Inhabited α] {enc : α → Value} {w : World} {g n : Nat} {d : Array α} {os : Array Obj} : Kept [g] w (Sort.grow (Sort.putRow enc (Sort.ahead w n) g 0 d) os) := by
  refine ⟨rfl, rfl, rfl, by simp, fun k hk hn => ?_⟩
  rw [Sort.heap_grow_old _ _ (by simpa using hk)]
  unfold Sort.putRow Sort.mapBlock
  simp only [Sort.heap_ahead, Array.getElem?_modify]
  rw [if_neg (by intro e; exact hn (by simp [e]))]
theorem sort_sortedG {α : Type} [Inhabited α] {enc : α → Value} {w : World} {g n : Nat} {d : Array α} {os : Array Obj} : Kept [g] w (sortWorld enc w g 0 n d os) := sort_keptG

/-- 'cmp.Or' of two numbers. -/
def orIG (x y : Int) : Int := if x = 0 then y else x
set_option maxRecDepth 100000 in
set_option maxHeartbeats 1000000 in
theorem or_anyG (x y : Int) (g : Nat) (w : World) (h0 : w.cell? ⟨g, 0, none⟩ = some (.int .i64 x)) (h1 : w.cell? ⟨g, 1, none⟩ = some (.int .i64 y)) :
    Calls Tryd.prog 55 #[.slice (some ⟨g, 0, none⟩) 2 2] w fun e w' => e = .returned (.int .i64 (orIG x y)) ∧ w' = w := by
  go_enter Tryd.func55, Tryd.ntmps55
  go_wp2
  go_loop [8] (fun q => ∃ k : Nat, q = .int .i64 k ∧ (k = 0 ∨ (k = 1 ∧ x = 0) ∨ (k = 2 ∧ x = 0 ∧ y = 0))) (fun q => 2 - (intOf q).toNat)
  case atStart => exact ⟨0, rfl, .inl rfl⟩
  case round =>
    obtain ⟨k, rfl, rfl | ⟨rfl, rfl⟩ | ⟨rfl, rfl, rfl⟩⟩ := hrel
    · by_cases hx : x = 0
      · subst hx
        go_wp2
        go_round
        case rel => exact ⟨1, rfl, by simp⟩
        case measure => simp [intOf]
      · have hb : (x != 0) = true := by simpa using hx
        have E := hid (show x = orIG x y from (if_neg hx).symm)
        clear hx
        go_wp2
        go_ret
        exact ⟨ret_int E.out, rfl⟩
    · by_cases hy : y = 0
      · subst hy
        go_wp2
        go_round
        case rel => exact ⟨2, rfl, by simp⟩
        case measure => simp [intOf]
      · have hb : (y != 0) = true := by simpa using hy
        have E := hid (show y = orIG 0 y from (if_pos rfl).symm)
        clear hy
        go_wp2
        go_ret
        exact ⟨ret_int E.out, rfl⟩
    · go_wp2
      go_ret
      exact ⟨rfl, rfl⟩

theorem two_cell0G (w : World) (r s : Int) (T : TypeId) : (w.alloc (.cells #[.int .i64 r, .int .i64 s] T)).cell? ⟨w.heap.size, 0, none⟩ = some (.int .i64 r) := by
  rw [cell_of_row _ _ _ _ _ _ (heap_alloc_new w _)]; rfl
theorem two_cell1G (w : World) (r s : Int) (T : TypeId) : (w.alloc (.cells #[.int .i64 r, .int .i64 s] T)).cell? ⟨w.heap.size, 1, none⟩ = some (.int .i64 s) := by
  rw [cell_of_row _ _ _ _ _ _ (heap_alloc_new w _)]; rfl

def cmpIG (x y : Int) : Int := Lib.compareInt x y
theorem comp_anyG (x y : Int) (W : World) : Calls Tryd.prog 56 #[.int .i64 x, .int .i64 y] W fun e w' => e = .returned (.int .i64 (cmpIG x y)) ∧ w' = W := AnyG.cmp_Compare_int Tryd.cmpL x y W
def encFG (n : Nat) (i : Fin n) : Value := .int .i64 (i.val : Int)
theorem val_rangeG (n : Nat) : (List.finRange n).map Fin.val = List.range n := by
  refine List.ext_getElem (by simp) fun j h1 h2 => ?_
  simp
theorem holds_finG {w : World} {g T n : Nat} [Inhabited (Fin n)] (h : ArrAt .i64 T w g (intsG (List.range n))) : Go.Sort.Holds (encFG n) w g 0 (List.finRange n).toArray := fun j hj => by
  have hj' : j < n := by simpa using hj
  rw [Nat.zero_add, h.cell (by simpa [intsG] using hj'), getElem!_pos _ j hj, ints_atG]
  refine ⟨?_, h.free j⟩
  simp [encFG, List.getD, hj']

/-- The numbers 0, 1, .., as they are laid. -/
def idToG (n i : Nat) : List Int := intsG (List.range i) ++ List.replicate (n - i) 0
theorem idTo_setG {n i : Nat} (h : i < n) : (idToG n i).set i (i : Int) = idToG n (i + 1) := by
  unfold idToG intsG
  obtain ⟨m, hm⟩ : ∃ m, n - i = m + 1 := ⟨n - i - 1, by omega⟩
  rw [hm, set_fill _ i m _ (by simp), show n - (i + 1) = m by omega, List.range_succ, List.map_append]
  rfl
theorem idTo_lengthG {n i : Nat} (h : i ≤ n) : (idToG n i).length = n := by simp [idToG, ints_lengthG]; omega
theorem idTo_allG (n : Nat) : idToG n n = intsG (List.range n) := by simp [idToG]
end Go.Proofs.YtmdfjhnibhmdkafDoor
