import Derived.Shelf.SlSortCmp.NoneTotal
import Derived.Shelf.SlicesG.Cmp
import Derived.Shelf.Sort.Plain
import Derived.Test.YtmdfjhnibhmdkafDoorSt01
import Derived.Test.YtmdfjhnibhmdkafDoorSt03
import Derived.Deep.RegionHeld3
import Derived.Deep.DeepFit
import Derived.Deep.Cut
import Derived.BigRegion
namespace Go.Proofs.YtmdfjhnibhmdkafDoor
open Go.Shelf
def Tryd.sortL_ren : Go.Shelf.Ren := ⟨fun | 6 => 53 | 15 => 65 | 14 => 64 | 28 => 78 | 29 => 79 | 20 => 70 | 21 => 71 | 22 => 72 | 23 => 73 | 24 => 74 | 25 => 75 | 26 => 76 | 27 => 77 | 46 => 84 | 47 => 85 | 48 => 86 | 49 => 87 | 50 => 88 | 57 => 90 | n => n, fun | 22 => 23 | 24 => 3 | 25 => 115 | 3 => 3 | 39 => 69 | 0 => 0 | 53 => 136 | 55 => 138 | 4 => 4 | 46 => 129 | 45 => 128 | 50 => 133 | 5 => 5 | 9 => 9 | 66 => 146 | 70 => 150 | 76 => 152 | 77 => 153 | n => n, fun | n => n⟩
theorem Tryd.sortL : Go.Proofs.SlLaysF.n6 Tryd.prog Tryd.sortL_ren := {
  mixed := by kernel_rfl
  f6 := ⟨Tryd.f53.name, by decide, Tryd.func53.trans (congrArg some (by kernel_rfl))⟩
  f14 := ⟨Tryd.f64.name, by decide, Tryd.func64.trans (congrArg some (by kernel_rfl))⟩
  f15 := Tryd.func65.trans (congrArg some (by kernel_rfl))
  f20 := ⟨Tryd.f70.name, by decide, Tryd.func70.trans (congrArg some (by kernel_rfl))⟩
  f21 := ⟨Tryd.f71.name, by decide, Tryd.func71.trans (congrArg some (by kernel_rfl))⟩
  f22 := ⟨Tryd.f72.name, by decide, Tryd.func72.trans (congrArg some (by kernel_rfl))⟩
  f23 := ⟨Tryd.f73.name, by decide, Tryd.func73.trans (congrArg some (by kernel_rfl))⟩
  f24 := ⟨Tryd.f74.name, by decide, Tryd.func74.trans (congrArg some (by kernel_rfl))⟩
  f25 := ⟨Tryd.f75.name, by decide, Tryd.func75.trans (congrArg some (by kernel_rfl))⟩
  f26 := ⟨Tryd.f76.name, by decide, Tryd.func76.trans (congrArg some (by kernel_rfl))⟩
  f27 := ⟨Tryd.f77.name, by decide, Tryd.func77.trans (congrArg some (by kernel_rfl))⟩
  f28 := Tryd.func78.trans (congrArg some (by kernel_rfl))
  f29 := Tryd.func79.trans (congrArg some (by kernel_rfl))
  f46 := ⟨Tryd.f84.name, by decide, Tryd.func84.trans (congrArg some (by kernel_rfl))⟩
  f47 := Tryd.func85.trans (congrArg some (by kernel_rfl))
  f48 := Tryd.func86.trans (congrArg some (by kernel_rfl))
  f49 := ⟨Tryd.f87.name, by decide, Tryd.func87.trans (congrArg some (by kernel_rfl))⟩
  f50 := ⟨Tryd.f88.name, by decide, Tryd.func88.trans (congrArg some (by kernel_rfl))⟩
  f57 := ⟨Tryd.f90.name, by decide, Tryd.func90.trans (congrArg some (by kernel_rfl))⟩
  t0 := Tryd.underlying0
  a0 := Tryd.isAgg0
  z0 := Tryd.sizeOf0
  v0 := Tryd.zeroValue0
  t3 := Tryd.underlying3
  a3 := Tryd.isAgg3
  z3 := Tryd.sizeOf3
  v3 := Tryd.zeroValue3
  t4 := Tryd.underlying4
  a4 := Tryd.isAgg4
  z4 := Tryd.sizeOf4
  v4 := Tryd.zeroValue4
  t5 := Tryd.underlying5
  a5 := Tryd.isAgg5
  z5 := Tryd.sizeOf5
  v5 := Tryd.zeroValue5
  t9 := Tryd.underlying9
  a9 := Tryd.isAgg9
  z9 := Tryd.sizeOf9
  v9 := Tryd.zeroValue9
  t22 := Tryd.underlying23
  a22 := Tryd.isAgg23
  z22 := Tryd.sizeOf23
  v22 := Tryd.zeroValue23
  a24 := Tryd.isAgg3
  z24 := Tryd.sizeOf3
  t25 := Tryd.underlying115
  a25 := Tryd.isAgg115
  z25 := Tryd.sizeOf115
  v25 := Tryd.zeroValue115
  t39 := Tryd.underlying69
  a39 := Tryd.isAgg69
  z39 := Tryd.sizeOf69
  v39 := Tryd.zeroValue69
  t45 := Tryd.underlying128
  a45 := Tryd.isAgg128
  z45 := Tryd.sizeOf128
  v45 := Tryd.zeroValue128
  t46 := Tryd.underlying129
  a46 := Tryd.isAgg129
  z46 := Tryd.sizeOf129
  v46 := Tryd.zeroValue129
  t50 := Tryd.underlying133
  a50 := Tryd.isAgg133
  z50 := Tryd.sizeOf133
  v50 := Tryd.zeroValue133
  t53 := Tryd.underlying136
  a53 := Tryd.isAgg136
  z53 := Tryd.sizeOf136
  v53 := Tryd.zeroValue136
  t55 := Tryd.underlying138
  a55 := Tryd.isAgg138
  z55 := Tryd.sizeOf138
  v55 := Tryd.zeroValue138
  t66 := Tryd.underlying146
  a66 := Tryd.isAgg146
  z66 := Tryd.sizeOf146
  v66 := Tryd.zeroValue146
  t70 := Tryd.underlying150
  a70 := Tryd.isAgg150
  z70 := Tryd.sizeOf150
  v70 := Tryd.zeroValue150
  t76 := Tryd.underlying152
  a76 := Tryd.isAgg152
  z76 := Tryd.sizeOf152
  v76 := Tryd.zeroValue152
  t77 := Tryd.underlying153
  a77 := Tryd.isAgg153
  z77 := Tryd.sizeOf153
  v77 := Tryd.zeroValue153 }
def Tryd.cmpL_ren : Go.Shelf.Ren := ⟨fun | 5 => 56 | 7 => 66 | n => n, fun | 22 => 3 | 3 => 3 | 4 => 4 | n => n, fun | n => n⟩
theorem Tryd.cmpL : Go.Proofs.SlLaysC2.n5 Tryd.prog Tryd.cmpL_ren := {
  mixed := by kernel_rfl
  f5 := ⟨Tryd.f56.name, by decide, Tryd.func56.trans (congrArg some (by kernel_rfl))⟩
  f7 := ⟨Tryd.f66.name, by decide, Tryd.func66.trans (congrArg some (by kernel_rfl))⟩
  t3 := Tryd.underlying3
  a3 := Tryd.isAgg3
  z3 := Tryd.sizeOf3
  v3 := Tryd.zeroValue3
  t4 := Tryd.underlying4
  a4 := Tryd.isAgg4
  z4 := Tryd.sizeOf4
  v4 := Tryd.zeroValue4
  t22 := Tryd.underlying3
  a22 := Tryd.isAgg3
  z22 := Tryd.sizeOf3
  v22 := Tryd.zeroValue3 }
end Go.Proofs.YtmdfjhnibhmdkafDoor
namespace Go.Proofs.YtmdfjhnibhmdkafDoor
open Go.ChangeShapes Go.WideShapes Go.ChangeAt Go.RowKit
def intsG (l : List Nat) : List Int := l.map fun x : Nat => (x : Int)
theorem ints_lengthG (l : List Nat) : (intsG l).length = l.length := by simp [intsG]
theorem ints_atG (l : List Nat) (j : Nat) : (intsG l).getD j 0 = ((l.getD j 0 : Nat) : Int) := by
  unfold intsG List.getD
  rw [List.getElem?_map]
  cases l[j]? <;> rfl
theorem sort_rowG {α : Type} [Inhabited α] {enc : α → Value} {w : World} {g T n : Nat} {fr : Nat × Nat} {c : Array Value} {d : Array α} {os : Array Obj} (hw : w.heap[g]? = some (.cells c T fr)) (hs : c.size = d.size) :
    (Sort.grow (Sort.putRow enc (Sort.ahead w n) g 0 d) os).heap[g]? = some (.cells (d.map enc) T fr) := by
  have hlt : g < w.heap.size := by
    rcases Nat.lt_or_ge g w.heap.size with h | h
    · exact h
    · rw [Array.getElem?_eq_none h] at hw; cases hw
  rw [Sort.heap_grow_old _ _ (by simpa using hlt)]
  unfold Sort.putRow Sort.mapBlock
  have e : Sort.putCells enc 0 d c = d.map enc := by
    refine Array.ext (by simp [Sort.putCells, hs]) fun j h1 h2 => ?_
    have hj : j < d.size := by simpa using h2
    simp only [Sort.putCells, Array.getElem_mapIdx, Array.getElem_map]
    rw [if_pos ⟨Nat.zero_le _, by omega⟩, Nat.sub_zero, getElem!_pos d j hj]
  simp only [Sort.heap_ahead, Array.getElem?_modify, hw, if_true, Option.map_some, Sort.onCells, e]
theorem sort_keptG {α : Type} [Inhabited α] {enc : α → Value} {w : World} {g n : Nat} {d : Array α} {os : Array Obj} : Kept [g] w (Sort.grow (Sort.putRow enc (Sort.ahead w n) g 0 d) os) := by
  refine ⟨rfl, rfl, rfl, by simp, fun k hk hn => ?_⟩
  rw [Sort.heap_grow_old _ _ (by simpa using hk)]
  unfold Sort.putRow Sort.mapBlock
  simp only [Sort.heap_ahead, Array.getElem?_modify]
  rw [if_neg (by intro e; exact hn (by simp [e]))]
theorem sort_sortedG {α : Type} [Inhabited α] {enc : α → Value} {w : World} {g n : Nat} {d : Array α} {os : Array Obj} : Kept [g] w (sortWorld enc w g 0 n d os) := sort_keptG
/-- 'cmp.Or' of two numbers. -/
def orIG (x y : Int) : Int := if x = 0 then y else x
set_option maxRecDepth 100000 in
set_option maxHeartbeats 1000000 in
theorem or_anyG (x y : Int) (g : Nat) (w : World) (h0 : w.cell? ⟨g, 0, none⟩ = some (.int .i64 x)) (h1 : w.cell? ⟨g, 1, none⟩ = some (.int .i64 y)) :
    Calls Tryd.prog 55 #[.slice (some ⟨g, 0, none⟩) 2 2] w fun e w' => e = .returned (.int .i64 (orIG x y)) ∧ w' = w := by
  go_enter Tryd.func55, Tryd.ntmps55
  go_wp2
  go_loop [8] (fun q => ∃ k : Nat, q = .int .i64 k ∧ (k = 0 ∨ (k = 1 ∧ x = 0) ∨ (k = 2 ∧ x = 0 ∧ y = 0))) (fun q => 2 - (intOf q).toNat)
  case atStart => exact ⟨0, rfl, .inl rfl⟩
  case round =>
    obtain ⟨k, rfl, rfl | ⟨rfl, rfl⟩ | ⟨rfl, rfl, rfl⟩⟩ := hrel
    · by_cases hx : x = 0
      · subst hx
        go_wp2
        go_round
        case rel => exact ⟨1, rfl, by simp⟩
        case measure => simp [intOf]
      · have hb : (x != 0) = true := by simpa using hx
        have E := hid (show x = orIG x y from (if_neg hx).symm)
        clear hx
        go_wp2
        go_ret
        exact ⟨ret_int E.out, rfl⟩
    · by_cases hy : y = 0
      · subst hy
        go_wp2
        go_round
        case rel => exact ⟨2, rfl, by simp⟩
        case measure => simp [intOf]
      · have hb : (y != 0) = true := by simpa using hy
        have E := hid (show y = orIG 0 y from (if_pos rfl).symm)
        clear hy
        go_wp2
        go_ret
        exact ⟨ret_int E.out, rfl⟩
    · go_wp2
      go_ret
      exact ⟨rfl, rfl⟩
theorem two_cell0G (w : World) (r s : Int) (T : TypeId) : (w.alloc (.cells #[.int .i64 r, .int .i64 s] T)).cell? ⟨w.heap.size, 0, none⟩ = some (.int .i64 r) := by
  rw [cell_of_row _ _ _ _ _ _ (heap_alloc_new w _)]; rfl
theorem two_cell1G (w : World) (r s : Int) (T : TypeId) : (w.alloc (.cells #[.int .i64 r, .int .i64 s] T)).cell? ⟨w.heap.size, 1, none⟩ = some (.int .i64 s) := by
  rw [cell_of_row _ _ _ _ _ _ (heap_alloc_new w _)]; rfl
def cmpIG (x y : Int) : Int := Lib.compareInt x y
theorem comp_anyG (x y : Int) (W : World) : Calls Tryd.prog 56 #[.int .i64 x, .int .i64 y] W fun e w' => e = .returned (.int .i64 (cmpIG x y)) ∧ w' = W := AnyG.cmp_Compare_int Tryd.cmpL x y W
def encFG (n : Nat) (i : Fin n) : Value := .int .i64 (i.val : Int)
theorem val_rangeG (n : Nat) : (List.finRange n).map Fin.val = List.range n := by
  refine List.ext_getElem (by simp) fun j h1 h2 => ?_
  simp
theorem holds_finG {w : World} {g T n : Nat} [Inhabited (Fin n)] (h : ArrAt .i64 T w g (intsG (List.range n))) : Go.Sort.Holds (encFG n) w g 0 (List.finRange n).toArray := fun j hj => by
  have hj' : j < n := by simpa using hj
  rw [Nat.zero_add, h.cell (by simpa [intsG] using hj'), getElem!_pos _ j hj, ints_atG]
  refine ⟨?_, h.free j⟩
  simp [encFG, List.getD, hj']
/-- The numbers 0, 1, .., as they are laid. -/
def idToG (n i : Nat) : List Int := intsG (List.range i) ++ List.replicate (n - i) 0
theorem idTo_setG {n i : Nat} (h : i < n) : (idToG n i).set i (i : Int) = idToG n (i + 1) := by
  unfold idToG intsG
  obtain ⟨m, hm⟩ : ∃ m, n - i = m + 1 := ⟨n - i - 1, by omega⟩
  rw [hm, set_fill _ i m _ (by simp), show n - (i + 1) = m by omega, List.range_succ, List.map_append]
  rfl
theorem idTo_lengthG {n i : Nat} (h : i ≤ n) : (idToG n i).length = n := by simp [idToG, ints_lengthG]; omega
theorem idTo_allG (n : Nat) : idToG n n = intsG (List.range n) := by simp [idToG]
end Go.Proofs.YtmdfjhnibhmdkafDoor
namespace Go.Proofs.YtmdfjhnibhmdkafDoor
open Go.ChangeShapes Go.WideShapes Go.ChangeAt Go.RowKit
structure ChM where
  id : Int
  prio : Int
  rate : Int
  depth : Int
theorem grow2 (W : World) (o1 o2 : Obj) : ((W.alloc o1).alloc o2).drew = Sort.grow (W.drewN 1) #[o1, o2] := by
  show (W.drew.alloc o1).alloc o2 = _
  rw [Sort.alloc_eq_grow, Sort.alloc_eq_grow, Sort.grow_grow]
  rfl
theorem grow3 {W w2 : World} {n : Nat} {os : Array Obj} (h : w2 = Sort.grow (W.drewN n) os) (o : Obj) : ∃ k os, (w2.alloc o).drew = Sort.grow (W.drewN k) os := by
  subst h
  refine ⟨n + 1, os ++ #[o], ?_⟩
  show (Sort.grow (W.drewN n).drew os).alloc o = _
  rw [Sort.alloc_eq_grow, Sort.grow_grow]
  rfl
set_option maxRecDepth 100000 in
set_option maxHeartbeats 2000000 in
theorem tclos_any (p q n g gb bx c : Nat) (hp : p < n) (hq : q < n) (x y : ChM) (W : World) (hbx : W.cell? ⟨bx, 0, none⟩ = some (.pointer (some ⟨g, 0, none⟩))) (hg : W.cell? ⟨g, 0, none⟩ = some (.slice (some ⟨gb, 0, none⟩) n c))
    (x0 : W.cell? ⟨gb, p * 5, none⟩ = some (.int .i64 x.id)) (x1 : W.cell? ⟨gb, p * 5 + 1, none⟩ = some (.int .i64 x.prio)) (x2 : W.cell? ⟨gb, p * 5 + 2, none⟩ = some (.int .i64 x.rate)) (x3 : W.cell? ⟨gb, p * 5 + 3, none⟩ = some (.int .i64 x.depth))
    (y0 : W.cell? ⟨gb, q * 5, none⟩ = some (.int .i64 y.id)) (y1 : W.cell? ⟨gb, q * 5 + 1, none⟩ = some (.int .i64 y.prio)) (y2 : W.cell? ⟨gb, q * 5 + 2, none⟩ = some (.int .i64 y.rate)) (y3 : W.cell? ⟨gb, q * 5 + 3, none⟩ = some (.int .i64 y.depth)) :
    Calls Tryd.prog 54 #[.int .i64 p, .int .i64 q, .pointer (some ⟨bx, 0, none⟩)] W fun e w' => e = .returned (.int .i64 (orIG (cmpIG x.prio y.prio) (cmpIG x.id y.id))) ∧ ∃ k os, w' = Sort.grow (W.drewN k) os := by
  have p0 : (0 : Int) ≤ (p : Int) := by omega
  have pn : (p : Int) < (n : Int) := by omega
  have q0 : (0 : Int) ≤ (q : Int) := by omega
  have qn : (q : Int) < (n : Int) := by omega
  have n0 := World.new_ne W _ hbx
  have n1 := World.new_ne W _ hg
  have n2 := World.new_ne W _ x0
  have l0 := World.block_lt_of_cell? W _ hbx
  have l1 := World.block_lt_of_cell? W _ hg
  have l2 := World.block_lt_of_cell? W _ x0
  simp only at l0 l1 l2
  have m0 : bx ≠ W.heap.size + 1 := by omega
  have m1 : g ≠ W.heap.size + 1 := by omega
  have m2 : gb ≠ W.heap.size + 1 := by omega
  go_enter Tryd.func54, Tryd.ntmps54
  go_upto_region 1 with fail
  go_region_held3 (fun w' => w'.cell? ⟨bx, 0, none⟩ = some (.pointer (some ⟨g, 0, none⟩)) ∧ w'.cell? ⟨g, 0, none⟩ = some (.slice (some ⟨gb, 0, none⟩) n c) ∧ w'.cell? ⟨gb, p * 5, none⟩ = some (.int .i64 x.id) ∧ w'.cell? ⟨gb, p * 5 + 1, none⟩ = some (.int .i64 x.prio) ∧ w'.cell? ⟨gb, p * 5 + 2, none⟩ = some (.int .i64 x.rate) ∧ w'.cell? ⟨gb, p * 5 + 3, none⟩ = some (.int .i64 x.depth) ∧ w'.cell? ⟨gb, q * 5, none⟩ = some (.int .i64 y.id) ∧ w'.cell? ⟨gb, q * 5 + 1, none⟩ = some (.int .i64 y.prio) ∧ w'.cell? ⟨gb, q * 5 + 2, none⟩ = some (.int .i64 y.rate) ∧ w'.cell? ⟨gb, q * 5 + 3, none⟩ = some (.int .i64 y.depth)) (go_keep) (fail)
  · have hA : ((W.alloc (.cells #[.int .i64 x.id, .int .i64 x.prio, .int .i64 x.rate, .int .i64 x.depth] 38)).alloc (.cells #[.int .i64 y.id, .int .i64 y.prio, .int .i64 y.rate, .int .i64 y.depth] 38)).drew.heap[W.heap.size]? = some (.cells #[.int .i64 x.id, .int .i64 x.prio, .int .i64 x.rate, .int .i64 x.depth] 38 (0, 0)) := (heap_alloc_old _ _ (by simp)).trans (heap_alloc_new W _)
    have hB : ((W.alloc (.cells #[.int .i64 x.id, .int .i64 x.prio, .int .i64 x.rate, .int .i64 x.depth] 38)).alloc (.cells #[.int .i64 y.id, .int .i64 y.prio, .int .i64 y.rate, .int .i64 y.depth] 38)).drew.heap[W.heap.size + 1]? = some (.cells #[.int .i64 y.id, .int .i64 y.prio, .int .i64 y.rate, .int .i64 y.depth] 38 (0, 0)) := by
      have h := heap_alloc_new (W.alloc (.cells #[.int .i64 x.id, .int .i64 x.prio, .int .i64 x.rate, .int .i64 x.depth] 38)) (.cells #[.int .i64 y.id, .int .i64 y.prio, .int .i64 y.rate, .int .i64 y.depth] 38)
      rw [show (W.alloc (.cells #[.int .i64 x.id, .int .i64 x.prio, .int .i64 x.rate, .int .i64 x.depth] 38)).heap.size = W.heap.size + 1 by simp] at h
      exact h
    have HG := hid (grow2 W (.cells #[.int .i64 x.id, .int .i64 x.prio, .int .i64 x.rate, .int .i64 x.depth] 38) (.cells #[.int .i64 y.id, .int .i64 y.prio, .int .i64 y.rate, .int .i64 y.depth] 38))
    go_upto_region 2 with fail
    generalize ((W.alloc (.cells #[.int .i64 x.id, .int .i64 x.prio, .int .i64 x.rate, .int .i64 x.depth] 38)).alloc (.cells #[.int .i64 y.id, .int .i64 y.prio, .int .i64 y.rate, .int .i64 y.depth] 38)).drew = w2 at *
    have c1 : w2.cell? ⟨W.heap.size, 1, none⟩ = some (.int .i64 x.prio) := by rw [cell_of_row _ _ _ _ _ _ hA]; rfl
    have c0 : w2.cell? ⟨W.heap.size, 0, none⟩ = some (.int .i64 x.id) := by rw [cell_of_row _ _ _ _ _ _ hA]; rfl
    have d1 : w2.cell? ⟨W.heap.size + 1, 1, none⟩ = some (.int .i64 y.prio) := by rw [cell_of_row _ _ _ _ _ _ hB]; rfl
    have d0 : w2.cell? ⟨W.heap.size + 1, 0, none⟩ = some (.int .i64 y.id) := by rw [cell_of_row _ _ _ _ _ _ hB]; rfl
    clear hA hB n0 n1 n2 l0 l1 l2 m0 m1 m2 hbx hg x0 x1 x2 x3 y0 y1 y2 y3
    have hor := or_anyG (cmpIG x.prio y.prio) (cmpIG x.id y.id) w2.heap.size (w2.alloc (.cells #[.int .i64 (cmpIG x.prio y.prio), .int .i64 (cmpIG x.id y.id)] 3)).drew (two_cell0G w2 _ _ 3) (two_cell1G w2 _ _ 3)
    go_region_held3 (fun w' => w'.cell? ⟨W.heap.size, 1, none⟩ = some (.int .i64 x.prio) ∧ w'.cell? ⟨W.heap.size, 0, none⟩ = some (.int .i64 x.id) ∧ w'.cell? ⟨W.heap.size + 1, 1, none⟩ = some (.int .i64 y.prio) ∧ w'.cell? ⟨W.heap.size + 1, 0, none⟩ = some (.int .i64 y.id)) (go_keep) (first
      | (go_at_call 56; refine (comp_anyG _ _ _).mono ?_; rintro e w1 ⟨rfl, rfl⟩)
      | (go_at_call 55; go_fit hor; rintro e w1 ⟨rfl, rfl⟩))
    all_goals
      go_wp2
      go_ret
      exact ⟨rfl, grow3 HG.out _⟩
  · have hA : ((W.alloc (.cells #[.int .i64 y.id, .int .i64 y.prio, .int .i64 y.rate, .int .i64 y.depth] 38)).alloc (.cells #[.int .i64 x.id, .int .i64 x.prio, .int .i64 x.rate, .int .i64 x.depth] 38)).drew.heap[W.heap.size]? = some (.cells #[.int .i64 y.id, .int .i64 y.prio, .int .i64 y.rate, .int .i64 y.depth] 38 (0, 0)) := (heap_alloc_old _ _ (by simp)).trans (heap_alloc_new W _)
    have hB : ((W.alloc (.cells #[.int .i64 y.id, .int .i64 y.prio, .int .i64 y.rate, .int .i64 y.depth] 38)).alloc (.cells #[.int .i64 x.id, .int .i64 x.prio, .int .i64 x.rate, .int .i64 x.depth] 38)).drew.heap[W.heap.size + 1]? = some (.cells #[.int .i64 x.id, .int .i64 x.prio, .int .i64 x.rate, .int .i64 x.depth] 38 (0, 0)) := by
      have h := heap_alloc_new (W.alloc (.cells #[.int .i64 y.id, .int .i64 y.prio, .int .i64 y.rate, .int .i64 y.depth] 38)) (.cells #[.int .i64 x.id, .int .i64 x.prio, .int .i64 x.rate, .int .i64 x.depth] 38)
      rw [show (W.alloc (.cells #[.int .i64 y.id, .int .i64 y.prio, .int .i64 y.rate, .int .i64 y.depth] 38)).heap.size = W.heap.size + 1 by simp] at h
      exact h
    have HG := hid (grow2 W (.cells #[.int .i64 y.id, .int .i64 y.prio, .int .i64 y.rate, .int .i64 y.depth] 38) (.cells #[.int .i64 x.id, .int .i64 x.prio, .int .i64 x.rate, .int .i64 x.depth] 38))
    go_upto_region 2 with fail
    generalize ((W.alloc (.cells #[.int .i64 y.id, .int .i64 y.prio, .int .i64 y.rate, .int .i64 y.depth] 38)).alloc (.cells #[.int .i64 x.id, .int .i64 x.prio, .int .i64 x.rate, .int .i64 x.depth] 38)).drew = w2 at *
    have c1 : w2.cell? ⟨W.heap.size + 1, 1, none⟩ = some (.int .i64 x.prio) := by rw [cell_of_row _ _ _ _ _ _ hB]; rfl
    have c0 : w2.cell? ⟨W.heap.size + 1, 0, none⟩ = some (.int .i64 x.id) := by rw [cell_of_row _ _ _ _ _ _ hB]; rfl
    have d1 : w2.cell? ⟨W.heap.size, 1, none⟩ = some (.int .i64 y.prio) := by rw [cell_of_row _ _ _ _ _ _ hA]; rfl
    have d0 : w2.cell? ⟨W.heap.size, 0, none⟩ = some (.int .i64 y.id) := by rw [cell_of_row _ _ _ _ _ _ hA]; rfl
    clear hA hB n0 n1 n2 l0 l1 l2 m0 m1 m2 hbx hg x0 x1 x2 x3 y0 y1 y2 y3
    have hor := or_anyG (cmpIG x.prio y.prio) (cmpIG x.id y.id) w2.heap.size (w2.alloc (.cells #[.int .i64 (cmpIG x.prio y.prio), .int .i64 (cmpIG x.id y.id)] 3)).drew (two_cell0G w2 _ _ 3) (two_cell1G w2 _ _ 3)
    go_region_held3 (fun w' => w'.cell? ⟨W.heap.size + 1, 1, none⟩ = some (.int .i64 x.prio) ∧ w'.cell? ⟨W.heap.size + 1, 0, none⟩ = some (.int .i64 x.id) ∧ w'.cell? ⟨W.heap.size, 1, none⟩ = some (.int .i64 y.prio) ∧ w'.cell? ⟨W.heap.size, 0, none⟩ = some (.int .i64 y.id)) (go_keep) (first
      | (go_at_call 56; refine (comp_anyG _ _ _).mono ?_; rintro e w1 ⟨rfl, rfl⟩)
      | (go_at_call 55; go_fit hor; rintro e w1 ⟨rfl, rfl⟩))
    all_goals
      go_wp2
      go_ret
      exact ⟨rfl, grow3 HG.out _⟩
end Go.Proofs.YtmdfjhnibhmdkafDoor
