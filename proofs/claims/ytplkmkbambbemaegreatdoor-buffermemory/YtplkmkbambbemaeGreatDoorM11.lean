import Derived.Shelf.SlSortCmp.NoneTotal
import Derived.Shelf.SlicesG.Cmp
import Derived.Shelf.Sort.Plain
import Derived.Test.YtplkmkbambbemaeGreatDoorM01
import Derived.Test.YtplkmkbambbemaeGreatDoorM02
import Derived.Test.YtplkmkbambbemaeGreatDoorM08
import Derived.Deep.RegionHeld3
import Derived.Deep.DeepFit
import Derived.Laws.CopyOwn
import Derived.Deep.MidRow
namespace Go.Proofs.YtplkmkbambbemaeGreatDoor
open Go.Shelf
def Tryz.sortL_ren : Go.Shelf.Ren := ⟨fun | 6 => 77 | 15 => 89 | 14 => 88 | 28 => 100 | 29 => 101 | 20 => 92 | 21 => 93 | 22 => 94 | 23 => 95 | 24 => 96 | 25 => 97 | 26 => 98 | 27 => 99 | 46 => 111 | 47 => 112 | 48 => 113 | 49 => 114 | 50 => 115 | 57 => 119 | n => n, fun | 22 => 22 | 24 => 3 | 25 => 80 | 3 => 3 | 39 => 103 | 0 => 0 | 53 => 83 | 55 => 121 | 4 => 4 | 46 => 139 | 45 => 138 | 50 => 136 | 5 => 5 | 9 => 9 | 66 => 149 | 70 => 153 | 76 => 157 | 77 => 158 | n => n, fun | n => n⟩
theorem Tryz.sortL : Go.Proofs.SlLaysF.n6 Tryz.prog Tryz.sortL_ren := {
  mixed := by kernel_rfl
  f6 := ⟨Tryz.f77.name, by decide, Tryz.func77.trans (congrArg some (by kernel_rfl))⟩
  f14 := ⟨Tryz.f88.name, by decide, Tryz.func88.trans (congrArg some (by kernel_rfl))⟩
  f15 := Tryz.func89.trans (congrArg some (by kernel_rfl))
  f20 := ⟨Tryz.f92.name, by decide, Tryz.func92.trans (congrArg some (by kernel_rfl))⟩
  f21 := ⟨Tryz.f93.name, by decide, Tryz.func93.trans (congrArg some (by kernel_rfl))⟩
  f22 := ⟨Tryz.f94.name, by decide, Tryz.func94.trans (congrArg some (by kernel_rfl))⟩
  f23 := ⟨Tryz.f95.name, by decide, Tryz.func95.trans (congrArg some (by kernel_rfl))⟩
  f24 := ⟨Tryz.f96.name, by decide, Tryz.func96.trans (congrArg some (by kernel_rfl))⟩
  f25 := ⟨Tryz.f97.name, by decide, Tryz.func97.trans (congrArg some (by kernel_rfl))⟩
  f26 := ⟨Tryz.f98.name, by decide, Tryz.func98.trans (congrArg some (by kernel_rfl))⟩
  f27 := ⟨Tryz.f99.name, by decide, Tryz.func99.trans (congrArg some (by kernel_rfl))⟩
  f28 := Tryz.func100.trans (congrArg some (by kernel_rfl))
  f29 := Tryz.func101.trans (congrArg some (by kernel_rfl))
  f46 := ⟨Tryz.f111.name, by decide, Tryz.func111.trans (congrArg some (by kernel_rfl))⟩
  f47 := Tryz.func112.trans (congrArg some (by kernel_rfl))
  f48 := Tryz.func113.trans (congrArg some (by kernel_rfl))
  f49 := ⟨Tryz.f114.name, by decide, Tryz.func114.trans (congrArg some (by kernel_rfl))⟩
  f50 := ⟨Tryz.f115.name, by decide, Tryz.func115.trans (congrArg some (by kernel_rfl))⟩
  f57 := ⟨Tryz.f119.name, by decide, Tryz.func119.trans (congrArg some (by kernel_rfl))⟩
  t0 := Tryz.underlying0
  a0 := Tryz.isAgg0
  z0 := Tryz.sizeOf0
  v0 := Tryz.zeroValue0
  t3 := Tryz.underlying3
  a3 := Tryz.isAgg3
  z3 := Tryz.sizeOf3
  v3 := Tryz.zeroValue3
  t4 := Tryz.underlying4
  a4 := Tryz.isAgg4
  z4 := Tryz.sizeOf4
  v4 := Tryz.zeroValue4
  t5 := Tryz.underlying5
  a5 := Tryz.isAgg5
  z5 := Tryz.sizeOf5
  v5 := Tryz.zeroValue5
  t9 := Tryz.underlying9
  a9 := Tryz.isAgg9
  z9 := Tryz.sizeOf9
  v9 := Tryz.zeroValue9
  t22 := Tryz.underlying22
  a22 := Tryz.isAgg22
  z22 := Tryz.sizeOf22
  v22 := Tryz.zeroValue22
  a24 := Tryz.isAgg3
  z24 := Tryz.sizeOf3
  t25 := Tryz.underlying80
  a25 := Tryz.isAgg80
  z25 := Tryz.sizeOf80
  v25 := Tryz.zeroValue80
  t39 := Tryz.underlying103
  a39 := Tryz.isAgg103
  z39 := Tryz.sizeOf103
  v39 := Tryz.zeroValue103
  t45 := Tryz.underlying138
  a45 := Tryz.isAgg138
  z45 := Tryz.sizeOf138
  v45 := Tryz.zeroValue138
  t46 := Tryz.underlying139
  a46 := Tryz.isAgg139
  z46 := Tryz.sizeOf139
  v46 := Tryz.zeroValue139
  t50 := Tryz.underlying136
  a50 := Tryz.isAgg136
  z50 := Tryz.sizeOf136
  v50 := Tryz.zeroValue136
  t53 := Tryz.underlying83
  a53 := Tryz.isAgg83
  z53 := Tryz.sizeOf83
  v53 := Tryz.zeroValue83
  t55 := Tryz.underlying121
  a55 := Tryz.isAgg121
  z55 := Tryz.sizeOf121
  v55 := Tryz.zeroValue121
  t66 := Tryz.underlying149
  a66 := Tryz.isAgg149
  z66 := Tryz.sizeOf149
  v66 := Tryz.zeroValue149
  t70 := Tryz.underlying153
  a70 := Tryz.isAgg153
  z70 := Tryz.sizeOf153
  v70 := Tryz.zeroValue153
  t76 := Tryz.underlying157
  a76 := Tryz.isAgg157
  z76 := Tryz.sizeOf157
  v76 := Tryz.zeroValue157
  t77 := Tryz.underlying158
  a77 := Tryz.isAgg158
  z77 := Tryz.sizeOf158
  v77 := Tryz.zeroValue158 }
def Tryz.cmpL_ren : Go.Shelf.Ren := ⟨fun | 5 => 80 | 7 => 90 | n => n, fun | 22 => 3 | 3 => 3 | 4 => 4 | n => n, fun | n => n⟩
theorem Tryz.cmpL : Go.Proofs.SlLaysC2.n5 Tryz.prog Tryz.cmpL_ren := {
  mixed := by kernel_rfl
  f5 := ⟨Tryz.f80.name, by decide, Tryz.func80.trans (congrArg some (by kernel_rfl))⟩
  f7 := ⟨Tryz.f90.name, by decide, Tryz.func90.trans (congrArg some (by kernel_rfl))⟩
  t3 := Tryz.underlying3
  a3 := Tryz.isAgg3
  z3 := Tryz.sizeOf3
  v3 := Tryz.zeroValue3
  t4 := Tryz.underlying4
  a4 := Tryz.isAgg4
  z4 := Tryz.sizeOf4
  v4 := Tryz.zeroValue4
  t22 := Tryz.underlying3
  a22 := Tryz.isAgg3
  z22 := Tryz.sizeOf3
  v22 := Tryz.zeroValue3 }
def Tryz.lays189_ren : Go.Shelf.Ren := ⟨fun | 189 => 81 | 125 => 89 | 257 => 91 | 128 => 100 | 129 => 101 | 294 => 102 | 295 => 103 | 296 => 104 | 297 => 105 | 298 => 106 | 299 => 107 | 216 => 108 | 300 => 109 | 301 => 110 | 328 => 116 | 329 => 112 | 330 => 113 | 331 => 117 | 332 => 118 | 215 => 90 | 343 => 120 | n => n, fun | 28 => 22 | 3 => 3 | 46 => 103 | 0 => 0 | 51 => 83 | 53 => 121 | 4 => 4 | 183 => 139 | 182 => 138 | 131 => 136 | 5 => 5 | 9 => 9 | 218 => 149 | 222 => 153 | 228 => 157 | 229 => 158 | n => n, fun | n => n⟩
theorem Tryz.lays189 : Go.Proofs.Lays.n189 Tryz.prog Tryz.lays189_ren := {
  mixed := by kernel_rfl
  f125 := Tryz.func89.trans (congrArg some (by kernel_rfl))
  f128 := Tryz.func100.trans (congrArg some (by kernel_rfl))
  f129 := Tryz.func101.trans (congrArg some (by kernel_rfl))
  f189 := Tryz.func81.trans (congrArg some (by kernel_rfl))
  f215 := Tryz.func90.trans (congrArg some (by kernel_rfl))
  f216 := Tryz.func108.trans (congrArg some (by kernel_rfl))
  f257 := Tryz.func91.trans (congrArg some (by kernel_rfl))
  f294 := Tryz.func102.trans (congrArg some (by kernel_rfl))
  f295 := Tryz.func103.trans (congrArg some (by kernel_rfl))
  f296 := Tryz.func104.trans (congrArg some (by kernel_rfl))
  f297 := Tryz.func105.trans (congrArg some (by kernel_rfl))
  f298 := Tryz.func106.trans (congrArg some (by kernel_rfl))
  f299 := Tryz.func107.trans (congrArg some (by kernel_rfl))
  f300 := Tryz.func109.trans (congrArg some (by kernel_rfl))
  f301 := Tryz.func110.trans (congrArg some (by kernel_rfl))
  f328 := Tryz.func116.trans (congrArg some (by kernel_rfl))
  f329 := Tryz.func112.trans (congrArg some (by kernel_rfl))
  f330 := Tryz.func113.trans (congrArg some (by kernel_rfl))
  f331 := Tryz.func117.trans (congrArg some (by kernel_rfl))
  f332 := Tryz.func118.trans (congrArg some (by kernel_rfl))
  f343 := Tryz.func120.trans (congrArg some (by kernel_rfl))
  t0 := Tryz.underlying0
  a0 := Tryz.isAgg0
  z0 := Tryz.sizeOf0
  v0 := Tryz.zeroValue0
  t3 := Tryz.underlying3
  a3 := Tryz.isAgg3
  z3 := Tryz.sizeOf3
  v3 := Tryz.zeroValue3
  t4 := Tryz.underlying4
  a4 := Tryz.isAgg4
  z4 := Tryz.sizeOf4
  v4 := Tryz.zeroValue4
  t5 := Tryz.underlying5
  a5 := Tryz.isAgg5
  z5 := Tryz.sizeOf5
  v5 := Tryz.zeroValue5
  t9 := Tryz.underlying9
  a9 := Tryz.isAgg9
  z9 := Tryz.sizeOf9
  v9 := Tryz.zeroValue9
  t28 := Tryz.underlying22
  a28 := Tryz.isAgg22
  z28 := Tryz.sizeOf22
  v28 := Tryz.zeroValue22
  t46 := Tryz.underlying103
  a46 := Tryz.isAgg103
  z46 := Tryz.sizeOf103
  v46 := Tryz.zeroValue103
  t51 := Tryz.underlying83
  a51 := Tryz.isAgg83
  z51 := Tryz.sizeOf83
  v51 := Tryz.zeroValue83
  t53 := Tryz.underlying121
  a53 := Tryz.isAgg121
  z53 := Tryz.sizeOf121
  v53 := Tryz.zeroValue121
  t131 := Tryz.underlying136
  a131 := Tryz.isAgg136
  z131 := Tryz.sizeOf136
  v131 := Tryz.zeroValue136
  t182 := Tryz.underlying138
  a182 := Tryz.isAgg138
  z182 := Tryz.sizeOf138
  v182 := Tryz.zeroValue138
  t183 := Tryz.underlying139
  a183 := Tryz.isAgg139
  z183 := Tryz.sizeOf139
  v183 := Tryz.zeroValue139
  t218 := Tryz.underlying149
  a218 := Tryz.isAgg149
  z218 := Tryz.sizeOf149
  v218 := Tryz.zeroValue149
  t222 := Tryz.underlying153
  a222 := Tryz.isAgg153
  z222 := Tryz.sizeOf153
  v222 := Tryz.zeroValue153
  t228 := Tryz.underlying157
  a228 := Tryz.isAgg157
  z228 := Tryz.sizeOf157
  v228 := Tryz.zeroValue157
  t229 := Tryz.underlying158
  a229 := Tryz.isAgg158
  z229 := Tryz.sizeOf158
  v229 := Tryz.zeroValue158 }
end Go.Proofs.YtplkmkbambbemaeGreatDoor
namespace Go.Proofs.YtplkmkbambbemaeGreatDoor
open Go.ChangeShapes Go.WideShapes Go.ChangeAt Go.RowKit
/-- The table of worths lies where it was laid. -/
def Wor (w : World) : Prop := ∃ T fr, w.heap[2]? = some (.cells (wTab.map (Value.int .i64)).toArray T fr)
theorem Wor.below {w w' : World} {B : Nat} (h : Wor w) (hb : Below B w w') (hB : 2 < B) : Wor w' := by
  obtain ⟨T, fr, e⟩ := h
  exact ⟨T, fr, (hb.block _ hB).trans e⟩
theorem Wor.lt {w : World} (h : Wor w) : 2 < w.heap.size := by
  obtain ⟨T, fr, e⟩ := h
  rcases Nat.lt_or_ge 2 w.heap.size with h | h
  · exact h
  · rw [Array.getElem?_eq_none h] at e; cases e
theorem and1_tab0 : ∀ q : Fin 512, bits BinOp.and IntKind.i64 (q.val : Int) 1 = ((q.val % 2 : Nat) : Int) := by decide +kernel
theorem and1_tab (p k : Nat) (hp : p < 512) : bits BinOp.and IntKind.i64 ((p : Int) / 2 ^ k) 1 = ((p / 2 ^ k % 2 : Nat) : Int) := by
  have hlt : p / 2 ^ k < 512 := Nat.lt_of_le_of_lt (Nat.div_le_self _ _) hp
  have := and1_tab0 ⟨p / 2 ^ k, hlt⟩
  rw [← this]
  simp
set_option maxRecDepth 100000 in
set_option maxHeartbeats 1000000 in
theorem worthOf_any (p : Nat) (w : World) (hp : p < 512) (hW : Wor w) :
    Calls Tryz.prog 71 #[.int .i64 p] w fun e w' => e = .returned (.int .i64 (worthI p)) ∧ w = w' := by
  obtain ⟨T, fr, hh⟩ := hW
  go_enter Tryz.func71, Tryz.ntmps71
  go_wp2_with (first | (refine wpList_load_row rfl 122 (.global 2) rfl 2 rfl T _ fr _ hh Tryz.underlying122 rfl (by kernel_rfl) ?_))
  go_loop [3, 7] (fun q3 q7 => ∃ k : Nat, k ≤ 9 ∧ q3 = .int .i64 (worthTo p k) ∧ q7 = .int .i64 k) (fun _ q7 => 9 - (intOf q7).toNat)
  case atStart => exact ⟨0, by omega, rfl, rfl⟩
  case round =>
    obtain ⟨k, hk, rfl, rfl⟩ := hrel
    by_cases hlt : k < 9
    · have ht := tab9 k hlt
      have hwb := worthTo_bd p k hk
      have HCS : Hid ((wTab.map (Value.int .i64)).toArray[k]? = some (.int .i64 (wTab.getD k 0))) := by
        unfold Hid
        have : k < wTab.length := by simpa [wTab] using hlt
        simp [List.getD, this]
      have HW := hid (show worthTo p (k + 1) = worthTo p k + if p / 2 ^ k % 2 = 1 then wTab.getD k 0 else 0 from rfl)
      have HA := hid (and1_tab p k hp)
      generalize wTab.getD k 0 = y at *
      generalize worthTo p k = z at *
      by_cases h1 : p / 2 ^ k % 2 = 1
      · have HZ : Hid (z + y = worthTo p (k + 1)) := by unfold Hid; rw [HW.out, if_pos h1]
        have hd : (bits BinOp.and IntKind.i64 ((p : Int) / 2 ^ k) 1 == 1) = true := by rw [HA.out, h1]; rfl
        clear HW h1 HA
        go_wp2_with (first | (refine wpList_index rfl 122 (.tmp 6) (.tmp 7) rfl 3 _ 9 k (.int .i64 y) (.int .i64) .i64 rfl rfl Tryz.underlying122 Tryz.underlying3 rfl (by kernel_rfl) hlt HCS.out ?_))
        go_round
        case rel => exact ⟨k + 1, by omega, by rw [← HZ.out], by go_num⟩
        case measure => simp [intOf]; omega
      · have HZ : Hid (z = worthTo p (k + 1)) := by unfold Hid; rw [HW.out, if_neg h1, Int.add_zero]
        have hd : (bits BinOp.and IntKind.i64 ((p : Int) / 2 ^ k) 1 == 1) = false := by rw [HA.out, show p / 2 ^ k % 2 = 0 by omega]; rfl
        clear HW h1 HA
        go_wp2_with (first | (refine wpList_index rfl 122 (.tmp 6) (.tmp 7) rfl 3 _ 9 k (.int .i64 y) (.int .i64) .i64 rfl rfl Tryz.underlying122 Tryz.underlying3 rfl (by kernel_rfl) hlt HCS.out ?_))
        go_round
        case rel => exact ⟨k + 1, by omega, by rw [← HZ.out], by go_num⟩
        case measure => simp [intOf]; omega
    · obtain rfl : k = 9 := by omega
      go_wp2
      go_ret
      exact ⟨rfl, rfl⟩
end Go.Proofs.YtplkmkbambbemaeGreatDoor
namespace Go.Proofs.YtplkmkbambbemaeGreatDoor
open Go.ChangeShapes Go.WideShapes Go.ChangeAt Go.RowKit
theorem sort_row {α : Type} [Inhabited α] {enc : α → Value} {w : World} {g T n : Nat} {fr : Nat × Nat} {c : Array Value} {d : Array α} {os : Array Obj} (hw : w.heap[g]? = some (.cells c T fr)) (hs : c.size = d.size) :
    (Sort.grow (Sort.putRow enc (Sort.ahead w n) g 0 d) os).heap[g]? = some (.cells (d.map enc) T fr) := by
  have hlt : g < w.heap.size := by
    rcases Nat.lt_or_ge g w.heap.size with h | h
    · exact h
    · rw [Array.getElem?_eq_none h] at hw; cases hw
  rw [Sort.heap_grow_old _ _ (by simpa using hlt)]
  unfold Sort.putRow Sort.mapBlock
  have e : Sort.putCells enc 0 d c = d.map enc := by
    refine Array.ext (by simp [Sort.putCells, hs]) fun j h1 h2 => ?_
    have hj : j < d.size := by simpa using h2
    simp only [Sort.putCells, Array.getElem_mapIdx, Array.getElem_map]
    rw [if_pos ⟨Nat.zero_le _, by omega⟩, Nat.sub_zero, getElem!_pos d j hj]
  simp only [Sort.heap_ahead, Array.getElem?_modify, hw, if_true, Option.map_some, Sort.onCells, e]
theorem sort_kept {α : Type} [Inhabited α] {enc : α → Value} {w : World} {g n : Nat} {d : Array α} {os : Array Obj} : Kept [g] w (Sort.grow (Sort.putRow enc (Sort.ahead w n) g 0 d) os) := by
  refine ⟨rfl, rfl, rfl, by simp, fun k hk hn => ?_⟩
  rw [Sort.heap_grow_old _ _ (by simpa using hk)]
  unfold Sort.putRow Sort.mapBlock
  simp only [Sort.heap_ahead, Array.getElem?_modify]
  rw [if_neg (by intro e; exact hn (by simp [e]))]
theorem sort_sorted {α : Type} [Inhabited α] {enc : α → Value} {w : World} {g n : Nat} {d : Array α} {os : Array Obj} : Kept [g] w (sortWorld enc w g 0 n d os) := sort_kept
/-- 'cmp.Or' of two numbers. -/
def orI (x y : Int) : Int := if x = 0 then y else x
set_option maxRecDepth 100000 in
set_option maxHeartbeats 1000000 in
theorem or_any (x y : Int) (g : Nat) (w : World) (h0 : w.cell? ⟨g, 0, none⟩ = some (.int .i64 x)) (h1 : w.cell? ⟨g, 1, none⟩ = some (.int .i64 y)) :
    Calls Tryz.prog 79 #[.slice (some ⟨g, 0, none⟩) 2 2] w fun e w' => e = .returned (.int .i64 (orI x y)) ∧ w' = w := by
  go_enter Tryz.func79, Tryz.ntmps79
  go_wp2
  go_loop [8] (fun q => ∃ k : Nat, q = .int .i64 k ∧ (k = 0 ∨ (k = 1 ∧ x = 0) ∨ (k = 2 ∧ x = 0 ∧ y = 0))) (fun q => 2 - (intOf q).toNat)
  case atStart => exact ⟨0, rfl, .inl rfl⟩
  case round =>
    obtain ⟨k, rfl, rfl | ⟨rfl, rfl⟩ | ⟨rfl, rfl, rfl⟩⟩ := hrel
    · by_cases hx : x = 0
      · subst hx
        go_wp2
        go_round
        case rel => exact ⟨1, rfl, by simp⟩
        case measure => simp [intOf]
      · have hb : (x != 0) = true := by simpa using hx
        have E := hid (show x = orI x y from (if_neg hx).symm)
        clear hx
        go_wp2
        go_ret
        exact ⟨ret_int E.out, rfl⟩
    · by_cases hy : y = 0
      · subst hy
        go_wp2
        go_round
        case rel => exact ⟨2, rfl, by simp⟩
        case measure => simp [intOf]
      · have hb : (y != 0) = true := by simpa using hy
        have E := hid (show y = orI 0 y from (if_pos rfl).symm)
        clear hy
        go_wp2
        go_ret
        exact ⟨ret_int E.out, rfl⟩
    · go_wp2
      go_ret
      exact ⟨rfl, rfl⟩
theorem two_cell0 (w : World) (r s : Int) (T : TypeId) : (w.alloc (.cells #[.int .i64 r, .int .i64 s] T)).cell? ⟨w.heap.size, 0, none⟩ = some (.int .i64 r) := by
  rw [cell_of_row _ _ _ _ _ _ (heap_alloc_new w _)]; rfl
theorem two_cell1 (w : World) (r s : Int) (T : TypeId) : (w.alloc (.cells #[.int .i64 r, .int .i64 s] T)).cell? ⟨w.heap.size, 1, none⟩ = some (.int .i64 s) := by
  rw [cell_of_row _ _ _ _ _ _ (heap_alloc_new w _)]; rfl
def cmpI (x y : Int) : Int := Lib.compareInt x y
/-- The order of two places, by worth. -/
def cfPI (n : Nat) (p q : Fin n) : Int := orI (cmpI (worthI q.val) (worthI p.val)) (cmpI (q.val : Int) (p.val : Int))
theorem comp_any (x y : Int) (W : World) : Calls Tryz.prog 80 #[.int .i64 x, .int .i64 y] W fun e w' => e = .returned (.int .i64 (cmpI x y)) ∧ w' = W := AnyG.cmp_Compare_int Tryz.cmpL x y W
set_option maxRecDepth 100000 in
set_option maxHeartbeats 1000000 in
theorem clos_any (n p q gw bx c : Nat) (hp : p < n) (hq : q < n) (x y : Int) (W : World) (hb : W.cell? ⟨bx, 0, none⟩ = some (.slice (some ⟨gw, 0, none⟩) n c)) (h0 : W.cell? ⟨gw, p, none⟩ = some (.int .i64 x)) (h1 : W.cell? ⟨gw, q, none⟩ = some (.int .i64 y)) :
    Calls Tryz.prog 78 #[.int .i64 p, .int .i64 q, .pointer (some ⟨bx, 0, none⟩)] W fun e w' => e = .returned (.int .i64 (orI (cmpI y x) (cmpI q p))) ∧ ∃ k os, w' = Sort.grow (W.drewN k) os := by
  have p0 : (0 : Int) ≤ (p : Int) := by omega
  have pn : (p : Int) < (n : Int) := by omega
  have q0 : (0 : Int) ≤ (q : Int) := by omega
  have qn : (q : Int) < (n : Int) := by omega
  have hor := or_any (cmpI y x) (cmpI q p) W.heap.size (W.alloc (.cells #[.int .i64 (cmpI y x), .int .i64 (cmpI q p)] 3)).drew (two_cell0 W _ _ 3) (two_cell1 W _ _ 3)
  go_enter Tryz.func78, Tryz.ntmps78
  go_wp2_with fail
  go_region_held3 (fun w' => w'.cell? ⟨bx, 0, none⟩ = some (.slice (some ⟨gw, 0, none⟩) n c) ∧ w'.cell? ⟨gw, p, none⟩ = some (.int .i64 x) ∧ w'.cell? ⟨gw, q, none⟩ = some (.int .i64 y)) (go_keep) (first
    | (go_at_call 80; refine (comp_any _ _ _).mono ?_; rintro e w1 ⟨rfl, rfl⟩)
    | (go_at_call 79; go_fit hor; rintro e w1 ⟨rfl, rfl⟩))
  go_wp2
  go_ret
  exact ⟨rfl, 1, _, by rw [Sort.alloc_eq_grow]; rfl⟩
end Go.Proofs.YtplkmkbambbemaeGreatDoor
namespace Go.Proofs.YtplkmkbambbemaeGreatDoor
open Go.ChangeShapes Go.WideShapes Go.ChangeAt Go.RowKit
theorem Tryz.one3 : (Tryz.prog.info? 3).map (·.size) = some 1 := by kernel_rfl
/-- 'copy(d, s)' of numbers, d filling its block. -/
theorem run_copy_ints {w : World} {g k n : Nat} {O L : List Int} {a : Addr} {sc : Nat} (hd : ArrAt .i64 3 w g L) (hl : L.length = k) (hs : ∀ j, j < n → w.cell? (a.add j) = some (.int .i64 (O.getD j 0))) (hO : O.length = n) (hk : k ≤ n) (ty : TypeId) :
    ∃ w', (Builtin.copy_ #[22, 22] ty #[.slice (some ⟨g, 0, none⟩) k k, .slice (some a) n sc]).run Tryz.prog w = .ok (goInt k) w' ∧ ArrAt .i64 3 w' g (O.take k) ∧ Kept [g] w w' := by
  by_cases h0 : k = 0
  · subst h0
    refine ⟨w, ?_, ?_, Kept.refl _ _⟩
    · exact run_copy_none (P := Tryz.prog) w 22 22 ty 3 _ _ 0 0 n sc Tryz.underlying22 Tryz.one3 (by simp)
    · have : L = [] := List.eq_nil_of_length_eq_zero hl
      subst this
      simpa using hd
  · have hn : ((O.take k).map (Value.int .i64)).length = k := by simp; omega
    have hrun := run_copy_row (P := Tryz.prog) w 22 22 ty 3 g 0 k k a n sc _ 3 ((O.take k).map (Value.int .i64)) Tryz.underlying22 Tryz.one3 hd (hn.trans (Nat.min_eq_right hk).symm) ?_ ?_ ?_
    · rw [hn] at hrun
      refine ⟨_, hrun, ?_, ⟨rfl, rfl, rfl, by simp, fun j _ hj => setRow_other w g j _ (fun e => hj (by simp [e]))⟩⟩
      refine (setRow_heap w g _ _ 3 _ hd).trans ?_
      simp [hl]
    · intro j u hj
      have hjl : j < k := by
        rcases Nat.lt_or_ge j k with h' | h'
        · exact h'
        · rw [List.getElem?_eq_none (by rw [hn]; exact h')] at hj; cases hj
      have hjO : j < O.length := by omega
      rw [hs j (by omega), ← hj]
      simp [List.getD, hjO, hjl]
    · rw [hn]; simp; omega
    · intro u hu
      obtain ⟨y, _, rfl⟩ := List.mem_map.1 hu
      rfl
theorem wpList_copyInts {w : World} {ops : Array Oper} {rest : List Oper} {o : Oper} {a : Act} {Q : Exit → Act → World → Prop} {g k n sc : Nat} {O L : List Int} {ad : Addr} (hd : ArrAt .i64 3 w g L) (hl : L.length = k) (hs : ∀ j, j < n → w.cell? (ad.add j) = some (.int .i64 (O.getD j 0))) (hO : O.length = n) (hk : k ≤ n)
    (hgd : o.guard = none) (d s : Operand) (ho : o.op = .call { callee := .builtin .copy, args := #[d, s], argTypes := #[22, 22] }) (hde : a.eval d = .slice (some ⟨g, 0, none⟩) k k) (hse : a.eval s = .slice (some ad) n sc)
    (h : ∀ w', ArrAt .i64 3 w' g (O.take k) → Kept [g] w w' → wpList Tryz.prog ops Q rest (a.put o.dst (goInt k)) w') :
    wpList Tryz.prog ops Q (o :: rest) a w := by
  obtain ⟨w', hrun, h1, h2⟩ := run_copy_ints hd hl hs hO hk (sc := sc) o.type
  refine wpList_plain hgd fun K hK => ?_
  unfold Oper.wp
  simp [execOp, ho, resolve, invoke, builtin, hde, hse, hrun, Result.andThen]
  exact hK _ _ (h w' h1 h2)
theorem src_cells {w : World} {g n : Nat} {L : List Int} (h : ArrAt .i64 3 w g L) (hl : L.length = n) : ∀ j, j < n → w.cell? ((⟨g, 0, none⟩ : Addr).add j) = some (.int .i64 (L.getD j 0)) := fun j hj => by
  have e1 : (⟨g, 0, none⟩ : Addr).add j = ⟨g, j, none⟩ := by unfold Addr.add; split <;> simp_all
  rw [e1, h.cell (by omega)]
end Go.Proofs.YtplkmkbambbemaeGreatDoor
namespace Go.Proofs.YtplkmkbambbemaeGreatDoor
open Go.ChangeShapes Go.WideShapes Go.ChangeAt Go.RowKit
def encF (n : Nat) (i : Fin n) : Value := .int .i64 (i.val : Int)
theorem ltP (n : Nat) (p q : Fin n) : ltOf (cfPI n) p q = btr p.val q.val := by
  unfold ltOf cfPI orI cmpI Lib.compareInt btr
  generalize worthI p.val = x
  generalize worthI q.val = y
  obtain ⟨p, hp⟩ := p
  obtain ⟨q, hq⟩ := q
  simp only
  congr 1
  (repeat' split) <;> simp only [eq_iff_iff] <;> constructor <;> intro h <;> omega
theorem swoP (n : Nat) : Go.Sort.SWO (ltOf (cfPI n)) := {
  irrefl := fun x => by rw [ltP]; exact btr_irrefl _
  trans := fun x y z h1 h2 => by rw [ltP] at *; exact btr_trans h1 h2
  ntrans := fun x y z h1 h2 => by rw [ltP] at *; exact btr_neg h1 h2 }
theorem totP (n : Nat) (x y : Fin n) (h1 : ltOf (cfPI n) x y = false) (h2 : ltOf (cfPI n) y x = false) : x = y := by
  rw [ltP] at *
  apply Fin.ext
  rcases Nat.decEq x.val y.val with h | h
  · rcases btr_total h with h' | h'
    · rw [h1] at h'; cases h'
    · rw [h2] at h'; cases h'
  · exact h
theorem val_range (n : Nat) : (List.finRange n).map Fin.val = List.range n := by
  refine List.ext_getElem (by simp) fun j h1 h2 => ?_
  simp
theorem sorted_order (n : Nat) : ((List.finRange n).mergeSort fun x y => !ltOf (cfPI n) y x).map Fin.val = orderM n := by
  rw [List.map_mergeSort (s := fun x y => !btr y x) (by intro a _ b _; rw [ltP]), val_range]
  rfl
theorem sorted_cells (n : Nat) : (((List.finRange n).mergeSort fun x y => !ltOf (cfPI n) y x).toArray.map (encF n)) = ((ints (orderM n)).map (Value.int .i64)).toArray := by
  rw [← sorted_order]
  simp [ints, encF]
/-- The numbers 0, 1, .., as they are laid. -/
def idTo (n i : Nat) : List Int := ints (List.range i) ++ List.replicate (n - i) 0
theorem idTo_set {n i : Nat} (h : i < n) : (idTo n i).set i (i : Int) = idTo n (i + 1) := by
  unfold idTo ints
  obtain ⟨m, hm⟩ : ∃ m, n - i = m + 1 := ⟨n - i - 1, by omega⟩
  rw [hm, set_fill _ i m _ (by simp), show n - (i + 1) = m by omega, List.range_succ, List.map_append]
  rfl
theorem idTo_length {n i : Nat} (h : i ≤ n) : (idTo n i).length = n := by simp [idTo, ints_length]; omega
theorem idTo_all (n : Nat) : idTo n n = ints (List.range n) := by simp [idTo]
def worthsTo (n i : Nat) : List Int := (List.range i).map worthI ++ List.replicate (n - i) 0
theorem worthsTo_set {n i : Nat} (h : i < n) : (worthsTo n i).set i (worthI i) = worthsTo n (i + 1) := by
  unfold worthsTo
  obtain ⟨m, hm⟩ : ∃ m, n - i = m + 1 := ⟨n - i - 1, by omega⟩
  rw [hm, set_fill _ i m _ (by simp), show n - (i + 1) = m by omega, List.range_succ, List.map_append]
  rfl
theorem worthsTo_length {n i : Nat} (h : i ≤ n) : (worthsTo n i).length = n := by simp [worthsTo]; omega
theorem worthsTo_at {n j : Nat} (h : j < n) : (worthsTo n n).getD j 0 = worthI j := by simp [worthsTo, List.getD, h]
/-- Numbers as a sort wants them told. -/
theorem holds_arr {w : World} {g T : Nat} {L : List Int} (h : ArrAt .i64 T w g L) : Go.Sort.Holds (Value.int .i64) w g 0 L.toArray := fun j hj => by
  have hj' : j < L.length := by simpa using hj
  rw [Nat.zero_add, h.cell hj', getElem!_pos L.toArray j hj]
  exact ⟨by simp [List.getD, hj'], h.free j⟩
theorem holds_fin {w : World} {g T n : Nat} [Inhabited (Fin n)] (h : ArrAt .i64 T w g (ints (List.range n))) : Go.Sort.Holds (encF n) w g 0 (List.finRange n).toArray := fun j hj => by
  have hj' : j < n := by simpa using hj
  rw [Nat.zero_add, h.cell (by simpa [ints] using hj'), getElem!_pos _ j hj, ints_at]
  refine ⟨?_, h.free j⟩
  simp [encF, List.getD, hj']
/-- 'slices.SortFunc' of all places, by worth. -/
theorem psort_any (n gw bx go T : Nat) (W : World) (h1 : 1 ≤ n) (h5 : n ≤ 512) (hbx : W.heap[bx]? = some (.cells #[.slice (some ⟨gw, 0, none⟩) n n] T (0, 0))) (hw : ArrAt .i64 3 W gw (worthsTo n n)) (ho : ArrAt .i64 3 W go (ints (List.range n))) (hg : gw ≠ go) (hb : bx ≠ go) :
    Calls Tryz.prog 77 #[.slice (some ⟨go, 0, none⟩) n n, .func (.func 78) #[] #[.pointer (some ⟨bx, 0, none⟩)]] W fun e w' => e = .returned (.tuple #[]) ∧ ArrAt .i64 3 w' go (ints (orderM n)) ∧ Kept [go] W w' := by
  have : Inhabited (Fin n) := ⟨⟨0, h1⟩⟩
  have hbl : bx < W.heap.size := by
    rcases Nat.lt_or_ge bx W.heap.size with h | h
    · exact h
    · rw [Array.getElem?_eq_none h] at hbx; cases hbx
  have eg : ∀ args w, (callFunc 78 args).run Tryz.prog w = .ok (.enter 78 args) w := enters_of Tryz.func78 (by kernel_rfl) rfl
  have hcmp : CmpLays1 Tryz.prog 78 #[.pointer (some ⟨bx, 0, none⟩)] (encF n) (cfPI n) go 0 (List.finRange n).toArray.size W := by
    intro m os dk _ x y
    have hk := sort_sorted (enc := encF n) (w := W) (g := go) (n := m) (d := dk) (os := os)
    have hb' := (hk.block bx hbl (by simp; omega)).trans hbx
    have hw' : ArrAt .i64 3 (sortWorld (encF n) W go 0 m dk os) gw (worthsTo n n) := hw.kept hk (by simp; omega)
    have l := worthsTo_length (Nat.le_refl n)
    have c0 := hw'.cell (j := x.val) (by rw [l]; exact x.isLt)
    have c1 := hw'.cell (j := y.val) (by rw [l]; exact y.isLt)
    rw [worthsTo_at x.isLt] at c0
    rw [worthsTo_at y.isLt] at c1
    exact clos_any n x.val y.val gw bx n x.isLt y.isLt (worthI x.val) (worthI y.val) _ (by rw [cell_of_row _ _ _ _ _ _ hb']; rfl) c0 c1
  have hS := Any.slices_SortFunc_total Tryz.sortL (encF n) (fun _ => rfl) (cfPI n) (swoP n) 78 #[.pointer (some ⟨bx, 0, none⟩)] go 0 n (List.finRange n).toArray W eg hcmp (holds_fin ho) ho.lt (by simp; omega) (totP n)
  have hsz : (List.finRange n).toArray.size = n := by simp
  rw [hsz] at hS
  change Calls Tryz.prog 77 _ _ _ at hS
  refine hS.mono fun e w' h' => ?_
  obtain ⟨he, q, os, hq⟩ := h'
  subst hq
  refine ⟨he, ?_, sort_sorted⟩
  have hr := sort_row (enc := encF n) (n := q) (os := os) (d := ((List.finRange n).toArray.toList.mergeSort fun x y => !(ltOf (cfPI n)) y x).toArray) ho (by simp [ints])
  refine hr.trans ?_
  rw [show (List.finRange n).toArray.toList = List.finRange n from rfl, sorted_cells]
/-- 'slices.Sort' of numbers that fill their block. -/
theorem isort_any (g k : Nat) (L : List Int) (W : World) (hl : L.length = k) (hk : k ≤ 512) (ha : ArrAt .i64 3 W g L) :
    Calls Tryz.prog 81 #[.slice (some ⟨g, 0, none⟩) k k] W fun e w' => e = .returned (.tuple #[]) ∧ ArrAt .i64 3 w' g (L.mergeSort fun x y => decide (x ≤ y)) ∧ Kept [g] W w' := by
  have hS := Any.slices_Sort_int Tryz.lays189 g 0 k L W (holds_arr ha) ha.lt (by omega)
  rw [hl] at hS
  change Calls Tryz.prog 81 _ _ _ at hS
  refine hS.mono fun e w' h' => ?_
  obtain ⟨he, q, os, hq⟩ := h'
  subst hq
  refine ⟨he, ?_, sort_kept⟩
  have hr := sort_row (enc := Value.int .i64) (n := q) (os := os) (d := (L.mergeSort fun x y => decide (x ≤ y)).toArray) ha (by simp)
  refine hr.trans ?_
  simp
set_option maxRecDepth 100000 in
set_option maxHeartbeats 2000000 in
theorem best_any (n k gw : Nat) (w : World) (h1 : 1 ≤ n) (h5 : n ≤ 512) (hk : k ≤ n) (hw : ArrAt .i64 3 w gw (worthsTo n n)) :
    Calls Tryz.prog 72 #[.slice (some ⟨gw, 0, none⟩) n n, .int .i64 k] w fun e w' => ∃ g, e = .returned (.slice (some ⟨g, 0, none⟩) k k) ∧ ArrAt .i64 3 w' g (ints (placesM n k)) ∧ w.heap.size ≤ g ∧ Below w.heap.size w w' := by
  have hgl := hw.lt
  go_enter Tryz.func72, Tryz.ntmps72
  go_wp2_with (first | (refine wpList_makeInts w.heap.size w n rfl _ _ rfl _ _ rfl rfl rfl rfl (by omega) ((Below.refl _ _).alloc (Nat.le_refl _) _) (by simp) ?_; intro w1 hown1 hbel1 hlt1 hfr1))
  have e1 : (w.alloc (.cells #[.slice (some ⟨gw, 0, none⟩) n n] 22)).heap.size = w.heap.size + 1 := by simp
  have hbx1 : w1.heap[w.heap.size]? = some (.cells #[.slice (some ⟨gw, 0, none⟩) n n] 22 (0, 0)) := (hfr1.block w.heap.size (by rw [e1]; omega)).trans (heap_alloc_new w _)
  rw [e1] at hown1 hlt1
  have har1 := hown1.arr.1
  have HBX := hid hbx1
  clear hown1 hfr1 e1 hbx1
  go_loopw [13] (fun q wr => ∃ i : Nat, i ≤ n ∧ q = .int .i64 i ∧ ArrAt .i64 3 wr (w.heap.size + 1) (idTo n i) ∧ Kept [w.heap.size + 1] w1 wr) (fun q _ => n - (intOf q).toNat)
  case atStart => exact ⟨0, Nat.zero_le _, rfl, by simpa [idTo, ints] using har1, Kept.refl _ _⟩
  case round =>
    obtain ⟨i, hi, rfl, har, hkept⟩ := hrel
    by_cases hlt : i < n
    · have hset := har.set i (i : Int)
      rw [idTo_set hlt] at hset
      have hf := har.free i
      have hcz := har.cell (j := i) (by rw [idTo_length hi]; exact hlt)
      have hkept' := hkept.setCell (p := ⟨w.heap.size + 1, i, none⟩) (by simp) (.int .i64 (i : Int))
      generalize (idTo n i).getD i 0 = z at *
      clear har hkept
      go_wp2
      go_roundw
      case rel => exact ⟨i + 1, by omega, by go_num, hset, hkept'⟩
      case measure => simp [intOf]; omega
    · obtain rfl : i = n := by omega
      rw [idTo_all] at har
      have hbr := (hkept.block w.heap.size (by omega) (by simp)).trans HBX.out
      have hwr := (hw.below hbel1 hgl).kept hkept (by simp; omega)
      have hS := psort_any i gw w.heap.size (w.heap.size + 1) 22 wr h1 h5 hbr hwr har (by omega) (by omega)
      have hbel2 := hbel1.trans (hkept.below (B := w.heap.size) (by omega) (by simp))
      have hs2 := hkept.size
      have HOL := hid ((ints_length (orderM i)).trans (order_length i))
      clear hbr har hwr hkept
      go_wp2_with fail
      refine hS.mono ?_
      rintro e w2 ⟨rfl, har2, hk2⟩
      have hbel3 := hbel2.trans (hk2.below (B := w.heap.size) (by omega) (by simp))
      have hs3 := hk2.size
      go_wp2_with (first
        | (refine wpList_makeInts w2.heap.size w2 k rfl _ _ rfl _ _ rfl rfl rfl rfl (by omega) (Below.refl _ _) (Nat.le_refl _) ?_; intro w3 ho3 hb3 hlt3 _hx3; obtain ⟨har3, -, -⟩ := ho3.arr; have hao := har2.below hb3 har2.lt; have hsrc := src_cells hao HOL.out)
        | (refine wpList_copyInts har3 (by simp) hsrc HOL.out hk rfl (.tmp 26) (.tmp 27) rfl rfl rfl ?_; intro w4 har4 hk4; have hso := isort_any w2.heap.size k _ w4 (by rw [List.length_take, HOL.out]; omega) (by omega) har4)
        | (go_at_call 81; refine hso.mono ?_; rintro e w5 ⟨rfl, har5, hk5⟩))
      go_ret
      have e5 := order_best i k
      have e6 : (ints (orderM i)).take k = ints ((orderM i).take k) := by unfold ints; rw [List.map_take]
      rw [e6, e5] at har5
      refine ⟨w2.heap.size, rfl, har5, by omega, ?_⟩
      have hb4 := (hk4.trans hk5).below (B := w.heap.size) (by omega) (by simp; omega)
      exact (hbel3.trans (hb3.mono (by omega))).trans hb4
end Go.Proofs.YtplkmkbambbemaeGreatDoor
namespace Go.Proofs.YtplkmkbambbemaeGreatDoor
open Go.ChangeShapes Go.WideShapes Go.ChangeAt Go.RowKit
theorem size_yes {n : Int} (h : powI n = true) : sizeErr n = 0 := by unfold sizeErr; rw [h]; rfl
set_option maxRecDepth 100000 in
set_option maxHeartbeats 2000000 in
theorem pplaces_any (m n k : Nat) (w : World) (hm : m ≤ 9) (hn : n = 2 ^ m) (hk : k ≤ n) (hW : Wor w) :
    Calls Tryz.prog 61 #[.int .i64 n, .int .i64 k] w fun e w' => ∃ g, e = .returned (.tuple #[.slice (some ⟨g, 0, none⟩) k k, .int .i64 0]) ∧ ArrAt .i64 3 w' g (ints (placesM n k)) ∧ w.heap.size ≤ g ∧ Below w.heap.size w w' := by
  have h5 : n ≤ 512 := by rw [hn]; exact Nat.pow_le_pow_right (by omega) hm
  have h1 : 1 ≤ n := by rw [hn]; exact Nat.one_le_two_pow
  have hsz := size_any n w (by omega)
  rw [size_yes (by rw [hn]; exact of_pow hm)] at hsz
  have hWl := hW.lt
  have hk0 : ¬ (k : Int) < 0 := by omega
  have hkn : ¬ (n : Int) < (k : Int) := by omega
  clear hn
  go_enter Tryz.func61, Tryz.ntmps61
  go_wp2_with (first
    | (go_at_call 70; refine hsz.mono ?_; rintro e w1 ⟨rfl, rfl⟩)
    | (refine wpList_makeInts w.heap.size w n rfl _ _ rfl _ _ rfl rfl rfl rfl (by omega) (Below.refl _ _) (Nat.le_refl _) ?_; intro w1 hown1 hbel1 hlt1 _hx1; obtain ⟨har1, -, -⟩ := hown1.arr; clear hown1))
  go_loopw [25] (fun q wr => ∃ i : Nat, i ≤ n ∧ q = .int .i64 i ∧ ArrAt .i64 3 wr w.heap.size (worthsTo n i) ∧ Kept [w.heap.size] w1 wr) (fun q _ => n - (intOf q).toNat)
  case atStart => exact ⟨0, Nat.zero_le _, rfl, by simpa [worthsTo] using har1, Kept.refl _ _⟩
  case round =>
    obtain ⟨i, hi, rfl, har, hkept⟩ := hrel
    have hbel := hbel1.trans (hkept.below (B := w.heap.size) (by omega) (by simp))
    by_cases hlt : i < n
    · have hset := har.set i (worthI i)
      rw [worthsTo_set hlt] at hset
      have hf := har.free i
      have hcz := har.cell (j := i) (by rw [worthsTo_length hi]; exact hlt)
      have hkept' := hkept.setCell (p := ⟨w.heap.size, i, none⟩) (by simp) (.int .i64 (worthI i))
      have hwo := worthOf_any i wr (by omega) (hW.below hbel hWl)
      generalize (worthsTo n i).getD i 0 = z at *
      generalize worthI i = y at *
      clear har hkept
      go_wp2_with (first | (go_at_call 71; refine hwo.mono ?_; rintro e w2 ⟨rfl, rfl⟩))
      go_roundw
      case rel => exact ⟨i + 1, by omega, by go_num, hset, hkept'⟩
      case measure => simp [intOf]; omega
    · obtain rfl : i = n := by omega
      have hbe := best_any i k w.heap.size wr h1 h5 hk har
      go_wp2_with fail
      refine hbe.mono ?_
      rintro e w2 ⟨g, rfl, har2, hg2, hb2⟩
      have hs := hkept.size
      go_wp2
      go_ret2
      exact ⟨g, rfl, har2, by omega, hbel.trans (hb2.mono hbel.size)⟩
set_option maxRecDepth 100000 in
set_option maxHeartbeats 2000000 in
theorem pencode_any (m : Nat) (b : List Int) (a : Option Addr) (n k c : Nat) (w : World) (ha : Rd .u8 w a b) (hb : AllBits b) (hl : b.length = k) (hm : m ≤ 9) (hn : n = 2 ^ m) (hk : k ≤ n) (hW : Wor w) :
    Calls Tryz.prog 48 #[.slice a k c, .int .i64 n] w fun e w' => ∃ g, e = .returned (.tuple #[.slice (some ⟨g, 0, none⟩) n n, .int .i64 0]) ∧ Own w' w.heap.size (.slice (some ⟨g, 0, none⟩) n n) (turnM m (spreadM n (placesM n k) b k)) ∧ Below w.heap.size w w' := by
  have h5 : n ≤ 512 := by rw [hn]; exact Nat.pow_le_pow_right (by omega) hm
  have hck := check_any b a c w ha (by unfold maxLen; omega)
  rw [hl, err_none (fun j _ => (hb.at j).2) (by omega)] at hck
  have hpl := pplaces_any m n k w hm hn hk hW
  have HL := hid hl
  have HN := hid hn
  have HPI := hid ((ints_length (placesM n k)).trans (places_length hk))
  have hbb := spread_bits n (placesM n k) b hb.at k
  have HSL := hid (spread_length n (placesM n k) b k)
  clear hl hn
  go_enter Tryz.func48, Tryz.ntmps48
  go_wp2_with (first
    | (go_at_call 38; refine hck.mono ?_; rintro e w1 ⟨rfl, rfl⟩)
    | fail)
  refine hpl.mono ?_
  rintro e w1 ⟨gp, rfl, harP, hgp, hbel1⟩
  have hs1 := hbel1.size
  have hgpl := harP.lt
  go_wp2_with (first
    | (refine wpList_makeBytes w1.heap.size w1 n rfl _ _ rfl _ _ rfl rfl rfl rfl (by omega) (Below.refl _ _) (Nat.le_refl _) ?_; intro w2 hown2 hbel2 hlt2; obtain ⟨har2, -, -⟩ := hown2.arr; clear hown2))
  have harP2 := harP.below hbel2 hgpl
  go_loopw [31] (fun q wr => ∃ i : Nat, i ≤ k ∧ q = .int .i64 i ∧ ArrAt .u8 5 wr w1.heap.size (spreadM n (placesM n k) b i) ∧ Kept [w1.heap.size] w2 wr) (fun q _ => k - (intOf q).toNat)
  case atStart => exact ⟨0, Nat.zero_le _, rfl, har2, Kept.refl _ _⟩
  case round =>
    obtain ⟨i, hi, rfl, har, hkept⟩ := hrel
    have hbel := (hbel1.trans (hbel2.mono hs1)).trans (hkept.below (B := w.heap.size) (by omega) (by simp; omega))
    by_cases hlt : i < k
    · obtain ⟨b1, o1, rfl, hc1⟩ := (ha.below hbel).at (i := i) (by rw [HL.out]; exact hlt)
      have g1 := hc1 i (by rw [HL.out]; exact hlt)
      have g2 := (harP2.kept hkept (by simp; omega)).cell (j := i) (by rw [HPI.out]; exact hlt)
      rw [ints_at] at g2
      have hpl' := places_at hk hlt
      have hset := har.set ((placesM n k).getD i 0) (b.getD i 0)
      have HSP := hid (show (spreadM n (placesM n k) b i).set ((placesM n k).getD i 0) (b.getD i 0) = spreadM n (placesM n k) b (i + 1) from rfl)
      rw [HSP.out] at hset
      have hf := har.free ((placesM n k).getD i 0)
      have hcz := har.cell (j := (placesM n k).getD i 0) (by rw [spread_length]; exact hpl')
      have hkept' := hkept.setCell (p := ⟨w1.heap.size, (placesM n k).getD i 0, none⟩) (by simp) (.int .u8 (b.getD i 0))
      clear hc1 HSP har hkept
      generalize (placesM n k).getD i 0 = p at *
      generalize b.getD i 0 = y at *
      generalize (spreadM n (placesM n k) b i).getD p 0 = z at *
      have hpp : (p : Int) < (n : Int) := by omega
      go_wp2
      go_roundw
      case rel => exact ⟨i + 1, by omega, by go_num, hset, hkept'⟩
      case measure => simp [intOf]; omega
    · obtain rfl : i = k := by omega
      have hs := hkept.size
      have hT := turn_in m [] (spreadM n (placesM n i) b i) [] w1.heap.size 0 n n wr (by simpa using har) rfl HSL.out HN.out h5 (Nat.le_refl _) hbb
      go_wp2_with fail
      refine hT.mono ?_
      rintro e w3 ⟨rfl, har3, hk3⟩
      rw [List.nil_append, List.append_nil] at har3
      go_wp2
      go_ret2
      refine ⟨_, rfl, own_of_arr har3 (by omega) ?_ (by unfold maxLen; omega), hbel.trans (hk3.below (by omega) (by simp; omega))⟩
      rw [turn_length m _ (HSL.out.trans HN.out)]
      exact HN.out.symm
end Go.Proofs.YtplkmkbambbemaeGreatDoor
