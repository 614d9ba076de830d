import Derived.Test.YtdndeegpbjlibadGreatDoorK19
import Derived.Test.YtdndeegpbjlibadGreatDoorK03
import Derived.Test.YtdndeegpbjlibadGreatDoorK18
import Derived.Deep.RegionHeld3
import Derived.Deep.DeepFit
namespace Go.Proofs.YtdndeegpbjlibadGreatDoor
open Go.ChangeShapes Go.WideShapes Go.ChangeAt Go.RowKit

/-! THE PROGRAM'S worthOf. -/

/-- The table of worths lies where it was laid. -/
def Wor (w : World) : Prop := ∃ T fr, w.heap[1]? = some (.cells (wTab.map (Value.int .i64)).toArray T fr)
theorem Wor.below {w w' : World} {B : Nat} (h : Wor w) (hb : Below B w w') (hB : 1 < B) : Wor w' := by
  obtain ⟨T, fr, e⟩ := h
  exact ⟨T, fr, (hb.block _ hB).trans e⟩
theorem Wor.lt {w : World} (h : Wor w) : 1 < w.heap.size := by
  obtain ⟨T, fr, e⟩ := h
  rcases Nat.lt_or_ge 1 w.heap.size with h | h
  · exact h
  · rw [Array.getElem?_eq_none h] at e; cases e

theorem and1_tab0 : ∀ q : Fin 512, bits BinOp.and IntKind.i64 (q.val : Int) 1 = ((q.val % 2 : Nat) : Int) := by decide +kernel
theorem and1_tab (p k : Nat) (hp : p < 512) : bits BinOp.and IntKind.i64 ((p : Int) / 2 ^ k) 1 = ((p / 2 ^ k % 2 : Nat) : Int) := by
  have hlt : p / 2 ^ k < 512 := Nat.lt_of_le_of_lt (Nat.div_le_self _ _) hp
  have := and1_tab0 ⟨p / 2 ^ k, hlt⟩
  rw [← this]
  simp

set_option maxRecDepth 100000 in
set_option maxHeartbeats 1000000 in
theorem worthOf_any (p : Nat) (w : World) (hp : p < 512) (hW : Wor w) :
    Calls Tryz.prog 53 #[.int .i64 p] w fun e w' => e = .returned (.int .i64 (worthI p)) ∧ w = w' := by
  obtain ⟨T, fr, hh⟩ := hW
  go_enter Tryz.func53, Tryz.ntmps53
  go_wp2_with (first | (refine wpList_load_row rfl 105 (.global 1) rfl 1 rfl T _ fr _ hh Tryz.underlying105 rfl (by kernel_rfl) ?_))
  go_loop [3, 7] (fun q3 q7 => ∃ k : Nat, k ≤ 9 ∧ q3 = .int .i64 (worthTo p k) ∧ q7 = .int .i64 k) (fun _ q7 => 9 - (intOf q7).toNat)
  case atStart => exact ⟨0, by omega, rfl, rfl⟩
  case round =>
    obtain ⟨k, hk, rfl, rfl⟩ := hrel
    by_cases hlt : k < 9
    · have ht := tab9 k hlt
      have hwb := worthTo_bd p k hk
      have HCS : Hid ((wTab.map (Value.int .i64)).toArray[k]? = some (.int .i64 (wTab.getD k 0))) := by
        unfold Hid
        have : k < wTab.length := by simpa [wTab] using hlt
        simp [List.getD, this]
      have HW := hid (show worthTo p (k + 1) = worthTo p k + if p / 2 ^ k % 2 = 1 then wTab.getD k 0 else 0 from rfl)
      have HA := hid (and1_tab p k hp)
      generalize wTab.getD k 0 = y at *
      generalize worthTo p k = z at *
      by_cases h1 : p / 2 ^ k % 2 = 1
      · have HZ : Hid (z + y = worthTo p (k + 1)) := by unfold Hid; rw [HW.out, if_pos h1]
        have hd : (bits BinOp.and IntKind.i64 ((p : Int) / 2 ^ k) 1 == 1) = true := by rw [HA.out, h1]; rfl
        clear HW h1 HA
        go_wp2_with (first | (refine wpList_index rfl 105 (.tmp 6) (.tmp 7) rfl 3 _ 9 k (.int .i64 y) (.int .i64) .i64 rfl rfl Tryz.underlying105 Tryz.underlying3 rfl (by kernel_rfl) hlt HCS.out ?_))
        go_round
        case rel => exact ⟨k + 1, by omega, by rw [← HZ.out], by go_num⟩
        case measure => simp [intOf]; omega
      · have HZ : Hid (z = worthTo p (k + 1)) := by unfold Hid; rw [HW.out, if_neg h1, Int.add_zero]
        have hd : (bits BinOp.and IntKind.i64 ((p : Int) / 2 ^ k) 1 == 1) = false := by rw [HA.out, show p / 2 ^ k % 2 = 0 by omega]; rfl
        clear HW h1 HA
        go_wp2_with (first | (refine wpList_index rfl 105 (.tmp 6) (.tmp 7) rfl 3 _ 9 k (.int .i64 y) (.int .i64) .i64 rfl rfl Tryz.underlying105 Tryz.underlying3 rfl (by kernel_rfl) hlt HCS.out ?_))
        go_round
        case rel => exact ⟨k + 1, by omega, by rw [← HZ.out], by go_num⟩
        case measure => simp [intOf]; omega
    · obtain rfl : k = 9 := by omega
      go_wp2
      go_ret
      exact ⟨rfl, rfl⟩
end Go.Proofs.YtdndeegpbjlibadGreatDoor

namespace Go.Proofs.YtdndeegpbjlibadGreatDoor
open Go.ChangeShapes Go.WideShapes Go.ChangeAt Go.RowKit

/-! WHAT A SORT LEAVES: the block holds what was sorted; the others are as they were. -/

theorem sort_row {α : Type} [Inhabited α] {enc : α → Value} {w : World} {g T n : Nat} {fr : Nat × Nat} {c : Array Value} {d : Array α} {os : Array Obj} (hw : w.heap[g]? = some (.cells c T fr)) (hs : c.size = d.size) :
    (Sort.grow (Sort.putRow enc (Sort.ahead w n) g 0 d) os).heap[g]? = some (.cells (d.map enc) T fr) := by
  have hlt : g < w.heap.size := by
    rcases Nat.lt_or_ge g w.heap.size with h | h
    · exact h
    · rw [Array.getElem?_eq_none h] at hw; cases hw
  rw [Sort.heap_grow_old _ _ (by simpa using hlt)]
  unfold Sort.putRow Sort.mapBlock
  have e : Sort.putCells enc 0 d c = d.map enc := by
    refine Array.ext (by simp [Sort.putCells, hs]) fun j h1 h2 => ?_
    have hj : j < d.size := by simpa using h2
    simp only [Sort.putCells, Array.getElem_mapIdx, Array.getElem_map]
    rw [if_pos ⟨Nat.zero_le _, by omega⟩, Nat.sub_zero, getElem!_pos d j hj]
  simp only [Sort.heap_ahead, Array.getElem?_modify, hw, if_true, Option.map_some, Sort.onCells, e]
theorem sort_kept {α : Type} [Inhabited α] {enc : α → Value} {w : World} {g n : Nat} {d : Array α} {os : Array Obj} : Kept [g] w (Sort.grow (Sort.putRow enc (Sort.ahead w n) g 0 d) os) := by
  refine ⟨rfl, rfl, rfl, by simp, fun k hk hn => ?_⟩
  rw [Sort.heap_grow_old _ _ (by simpa using hk)]
  unfold Sort.putRow Sort.mapBlock
  simp only [Sort.heap_ahead, Array.getElem?_modify]
  rw [if_neg (by intro e; exact hn (by simp [e]))]
theorem sort_sorted {α : Type} [Inhabited α] {enc : α → Value} {w : World} {g n : Nat} {d : Array α} {os : Array Obj} : Kept [g] w (sortWorld enc w g 0 n d os) := sort_kept

/-- 'cmp.Or' of two numbers. -/
def orI (x y : Int) : Int := if x = 0 then y else x
set_option maxRecDepth 100000 in
set_option maxHeartbeats 1000000 in
theorem or_any (x y : Int) (g : Nat) (w : World) (h0 : w.cell? ⟨g, 0, none⟩ = some (.int .i64 x)) (h1 : w.cell? ⟨g, 1, none⟩ = some (.int .i64 y)) :
    Calls Tryz.prog 67 #[.slice (some ⟨g, 0, none⟩) 2 2] w fun e w' => e = .returned (.int .i64 (orI x y)) ∧ w' = w := by
  go_enter Tryz.func67, Tryz.ntmps67
  go_wp2
  go_loop [8] (fun q => ∃ k : Nat, q = .int .i64 k ∧ (k = 0 ∨ (k = 1 ∧ x = 0) ∨ (k = 2 ∧ x = 0 ∧ y = 0))) (fun q => 2 - (intOf q).toNat)
  case atStart => exact ⟨0, rfl, .inl rfl⟩
  case round =>
    obtain ⟨k, rfl, rfl | ⟨rfl, rfl⟩ | ⟨rfl, rfl, rfl⟩⟩ := hrel
    · by_cases hx : x = 0
      · subst hx
        go_wp2
        go_round
        case rel => exact ⟨1, rfl, by simp⟩
        case measure => simp [intOf]
      · have hb : (x != 0) = true := by simpa using hx
        have E := hid (show x = orI x y from (if_neg hx).symm)
        clear hx
        go_wp2
        go_ret
        exact ⟨ret_int E.out, rfl⟩
    · by_cases hy : y = 0
      · subst hy
        go_wp2
        go_round
        case rel => exact ⟨2, rfl, by simp⟩
        case measure => simp [intOf]
      · have hb : (y != 0) = true := by simpa using hy
        have E := hid (show y = orI 0 y from (if_pos rfl).symm)
        clear hy
        go_wp2
        go_ret
        exact ⟨ret_int E.out, rfl⟩
    · go_wp2
      go_ret
      exact ⟨rfl, rfl⟩

theorem two_cell0 (w : World) (r s : Int) (T : TypeId) : (w.alloc (.cells #[.int .i64 r, .int .i64 s] T)).cell? ⟨w.heap.size, 0, none⟩ = some (.int .i64 r) := by
  rw [cell_of_row _ _ _ _ _ _ (heap_alloc_new w _)]; rfl
theorem two_cell1 (w : World) (r s : Int) (T : TypeId) : (w.alloc (.cells #[.int .i64 r, .int .i64 s] T)).cell? ⟨w.heap.size, 1, none⟩ = some (.int .i64 s) := by
  rw [cell_of_row _ _ _ _ _ _ (heap_alloc_new w _)]; rfl

def cmpI (x y : Int) : Int := Lib.compareInt x y
/-- The order of two places, by worth. -/
def cfPI (n : Nat) (p q : Fin n) : Int := orI (cmpI (worthI q.val) (worthI p.val)) (cmpI (q.val : Int) (p.val : Int))
theorem comp_any (x y : Int) (W : World) : Calls Tryz.prog 68 #[.int .i64 x, .int .i64 y] W fun e w' => e = .returned (.int .i64 (cmpI x y)) ∧ w' = W := AnyG.cmp_Compare_int Tryz.cmpL x y W

set_option maxRecDepth 100000 in
set_option maxHeartbeats 1000000 in
theorem clos_any (n p q gw bx c : Nat) (hp : p < n) (hq : q < n) (x y : Int) (W : World) (hb : W.cell? ⟨bx, 0, none⟩ = some (.slice (some ⟨gw, 0, none⟩) n c)) (h0 : W.cell? ⟨gw, p, none⟩ = some (.int .i64 x)) (h1 : W.cell? ⟨gw, q, none⟩ = some (.int .i64 y)) :
    Calls Tryz.prog 66 #[.int .i64 p, .int .i64 q, .pointer (some ⟨bx, 0, none⟩)] W fun e w' => e = .returned (.int .i64 (orI (cmpI y x) (cmpI q p))) ∧ ∃ k os, w' = Sort.grow (W.drewN k) os := by
  have p0 : (0 : Int) ≤ (p : Int) := by omega
  have pn : (p : Int) < (n : Int) := by omega
  have q0 : (0 : Int) ≤ (q : Int) := by omega
  have qn : (q : Int) < (n : Int) := by omega
  have hor := or_any (cmpI y x) (cmpI q p) W.heap.size (W.alloc (.cells #[.int .i64 (cmpI y x), .int .i64 (cmpI q p)] 3)).drew (two_cell0 W _ _ 3) (two_cell1 W _ _ 3)
  go_enter Tryz.func66, Tryz.ntmps66
  go_wp2_with fail
  go_region_held3 (fun w' => w'.cell? ⟨bx, 0, none⟩ = some (.slice (some ⟨gw, 0, none⟩) n c) ∧ w'.cell? ⟨gw, p, none⟩ = some (.int .i64 x) ∧ w'.cell? ⟨gw, q, none⟩ = some (.int .i64 y)) (go_keep) (first
    | (go_at_call 68; refine (comp_any _ _ _).mono ?_; rintro e w1 ⟨rfl, rfl⟩)
    | (go_at_call 67; go_fit hor; rintro e w1 ⟨rfl, rfl⟩))
  go_wp2
  go_ret
  exact ⟨rfl, 1, _, by rw [Sort.alloc_eq_grow]; rfl⟩
end Go.Proofs.YtdndeegpbjlibadGreatDoor
