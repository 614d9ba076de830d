import Derived.Test.YtmdfjhnibhmdkafDoorMgS
namespace Go.Proofs.YtmdfjhnibhmdkafDoor
open Go.ChangeShapes Go.WideShapes Go.ChangeAt Go.RowKit

/-! THE PROGRAM'S order of two places. -/

structure ChM where
  id : Int
  prio : Int
  rate : Int
  depth : Int

theorem grow2 (W : World) (o1 o2 : Obj) : ((W.alloc o1).alloc o2).drew = Sort.grow (W.drewN 1) #[o1, o2] := by
  show (W.drew.alloc o1).alloc o2 = _
  rw [Sort.alloc_eq_grow, Sort.alloc_eq_grow, Sort.grow_grow]
  rfl
theorem grow3 {W w2 : World} {n : Nat} {os : Array Obj} (h : w2 = Sort.grow (W.drewN n) os) (o : Obj) : ∃ k os, (w2.alloc o).drew = Sort.grow (W.drewN k) os := by
  subst h
  refine ⟨n + 1, os ++ #[o], ?_⟩
  show (Sort.grow (W.drewN n).drew os).alloc o = _
  rw [Sort.alloc_eq_grow, Sort.grow_grow]
  rfl

set_option maxRecDepth 100000 in
set_option maxHeartbeats 2000000 in
theorem tclos_any (p q n g gb bx c : Nat) (hp : p < n) (hq : q < n) (x y : ChM) (W : World) (hbx : W.cell? ⟨bx, 0, none⟩ = some (.pointer (some ⟨g, 0, none⟩))) (hg : W.cell? ⟨g, 0, none⟩ = some (.slice (some ⟨gb, 0, none⟩) n c))
    (x0 : W.cell? ⟨gb, p * 5, none⟩ = some (.int .i64 x.id)) (x1 : W.cell? ⟨gb, p * 5 + 1, none⟩ = some (.int .i64 x.prio)) (x2 : W.cell? ⟨gb, p * 5 + 2, none⟩ = some (.int .i64 x.rate)) (x3 : W.cell? ⟨gb, p * 5 + 3, none⟩ = some (.int .i64 x.depth))
    (y0 : W.cell? ⟨gb, q * 5, none⟩ = some (.int .i64 y.id)) (y1 : W.cell? ⟨gb, q * 5 + 1, none⟩ = some (.int .i64 y.prio)) (y2 : W.cell? ⟨gb, q * 5 + 2, none⟩ = some (.int .i64 y.rate)) (y3 : W.cell? ⟨gb, q * 5 + 3, none⟩ = some (.int .i64 y.depth)) :
    Calls Tryd.prog 54 #[.int .i64 p, .int .i64 q, .pointer (some ⟨bx, 0, none⟩)] W fun e w' => e = .returned (.int .i64 (orIG (cmpIG x.prio y.prio) (cmpIG x.id y.id))) ∧ ∃ k os, w' = Sort.grow (W.drewN k) os := by
  have p0 : (0 : Int) ≤ (p : Int) := by omega
  have pn : (p : Int) < (n : Int) := by omega
  have q0 : (0 : Int) ≤ (q : Int) := by omega
  have qn : (q : Int) < (n : Int) := by omega
  have n0 := World.new_ne W _ hbx
  have n1 := World.new_ne W _ hg
  have n2 := World.new_ne W _ x0
  have l0 := World.block_lt_of_cell? W _ hbx
  have l1 := World.block_lt_of_cell? W _ hg
  have l2 := World.block_lt_of_cell? W _ x0
  simp only at l0 l1 l2
  have m0 : bx ≠ W.heap.size + 1 := by omega
  have m1 : g ≠ W.heap.size + 1 := by omega
  have m2 : gb ≠ W.heap.size + 1 := by omega
  go_enter Tryd.func54, Tryd.ntmps54
  go_upto_region 1 with fail
  go_region_held3 (fun w' => w'.cell? ⟨bx, 0, none⟩ = some (.pointer (some ⟨g, 0, none⟩)) ∧ w'.cell? ⟨g, 0, none⟩ = some (.slice (some ⟨gb, 0, none⟩) n c) ∧ w'.cell? ⟨gb, p * 5, none⟩ = some (.int .i64 x.id) ∧ w'.cell? ⟨gb, p * 5 + 1, none⟩ = some (.int .i64 x.prio) ∧ w'.cell? ⟨gb, p * 5 + 2, none⟩ = some (.int .i64 x.rate) ∧ w'.cell? ⟨gb, p * 5 + 3, none⟩ = some (.int .i64 x.depth) ∧ w'.cell? ⟨gb, q * 5, none⟩ = some (.int .i64 y.id) ∧ w'.cell? ⟨gb, q * 5 + 1, none⟩ = some (.int .i64 y.prio) ∧ w'.cell? ⟨gb, q * 5 + 2, none⟩ = some (.int .i64 y.rate) ∧ w'.cell? ⟨gb, q * 5 + 3, none⟩ = some (.int .i64 y.depth)) (go_keep) (fail)
  · have hA : ((W.alloc (.cells #[.int .i64 x.id, .int .i64 x.prio, .int .i64 x.rate, .int .i64 x.depth] 38)).alloc (.cells #[.int .i64 y.id, .int .i64 y.prio, .int .i64 y.rate, .int .i64 y.depth] 38)).drew.heap[W.heap.size]? = some (.cells #[.int .i64 x.id, .int .i64 x.prio, .int .i64 x.rate, .int .i64 x.depth] 38 (0, 0)) := (heap_alloc_old _ _ (by simp)).trans (heap_alloc_new W _)
    have hB : ((W.alloc (.cells #[.int .i64 x.id, .int .i64 x.prio, .int .i64 x.rate, .int .i64 x.depth] 38)).alloc (.cells #[.int .i64 y.id, .int .i64 y.prio, .int .i64 y.rate, .int .i64 y.depth] 38)).drew.heap[W.heap.size + 1]? = some (.cells #[.int .i64 y.id, .int .i64 y.prio, .int .i64 y.rate, .int .i64 y.depth] 38 (0, 0)) := by
      have h := heap_alloc_new (W.alloc (.cells #[.int .i64 x.id, .int .i64 x.prio, .int .i64 x.rate, .int .i64 x.depth] 38)) (.cells #[.int .i64 y.id, .int .i64 y.prio, .int .i64 y.rate, .int .i64 y.depth] 38)
      rw [show (W.alloc (.cells #[.int .i64 x.id, .int .i64 x.prio, .int .i64 x.rate, .int .i64 x.depth] 38)).heap.size = W.heap.size + 1 by simp] at h
      exact h
    have HG := hid (grow2 W (.cells #[.int .i64 x.id, .int .i64 x.prio, .int .i64 x.rate, .int .i64 x.depth] 38) (.cells #[.int .i64 y.id, .int .i64 y.prio, .int .i64 y.rate, .int .i64 y.depth] 38))
    go_upto_region 2 with fail
    generalize ((W.alloc (.cells #[.int .i64 x.id, .int .i64 x.prio, .int .i64 x.rate, .int .i64 x.depth] 38)).alloc (.cells #[.int .i64 y.id, .int .i64 y.prio, .int .i64 y.rate, .int .i64 y.depth] 38)).drew = w2 at *
    have c1 : w2.cell? ⟨W.heap.size, 1, none⟩ = some (.int .i64 x.prio) := by rw [cell_of_row _ _ _ _ _ _ hA]; rfl
    have c0 : w2.cell? ⟨W.heap.size, 0, none⟩ = some (.int .i64 x.id) := by rw [cell_of_row _ _ _ _ _ _ hA]; rfl
    have d1 : w2.cell? ⟨W.heap.size + 1, 1, none⟩ = some (.int .i64 y.prio) := by rw [cell_of_row _ _ _ _ _ _ hB]; rfl
    have d0 : w2.cell? ⟨W.heap.size + 1, 0, none⟩ = some (.int .i64 y.id) := by rw [cell_of_row _ _ _ _ _ _ hB]; rfl
    clear hA hB n0 n1 n2 l0 l1 l2 m0 m1 m2 hbx hg x0 x1 x2 x3 y0 y1 y2 y3
    have hor := or_anyG (cmpIG x.prio y.prio) (cmpIG x.id y.id) w2.heap.size (w2.alloc (.cells #[.int .i64 (cmpIG x.prio y.prio), .int .i64 (cmpIG x.id y.id)] 3)).drew (two_cell0G w2 _ _ 3) (two_cell1G w2 _ _ 3)
    go_region_held3 (fun w' => w'.cell? ⟨W.heap.size, 1, none⟩ = some (.int .i64 x.prio) ∧ w'.cell? ⟨W.heap.size, 0, none⟩ = some (.int .i64 x.id) ∧ w'.cell? ⟨W.heap.size + 1, 1, none⟩ = some (.int .i64 y.prio) ∧ w'.cell? ⟨W.heap.size + 1, 0, none⟩ = some (.int .i64 y.id)) (go_keep) (first
      | (go_at_call 56; refine (comp_anyG _ _ _).mono ?_; rintro e w1 ⟨rfl, rfl⟩)
      | (go_at_call 55; go_fit hor; rintro e w1 ⟨rfl, rfl⟩))
    all_goals
      go_wp2
      go_ret
      exact ⟨rfl, grow3 HG.out _⟩
  · have hA : ((W.alloc (.cells #[.int .i64 y.id, .int .i64 y.prio, .int .i64 y.rate, .int .i64 y.depth] 38)).alloc (.cells #[.int .i64 x.id, .int .i64 x.prio, .int .i64 x.rate, .int .i64 x.depth] 38)).drew.heap[W.heap.size]? = some (.cells #[.int .i64 y.id, .int .i64 y.prio, .int .i64 y.rate, .int .i64 y.depth] 38 (0, 0)) := (heap_alloc_old _ _ (by simp)).trans (heap_alloc_new W _)
    have hB : ((W.alloc (.cells #[.int .i64 y.id, .int .i64 y.prio, .int .i64 y.rate, .int .i64 y.depth] 38)).alloc (.cells #[.int .i64 x.id, .int .i64 x.prio, .int .i64 x.rate, .int .i64 x.depth] 38)).drew.heap[W.heap.size + 1]? = some (.cells #[.int .i64 x.id, .int .i64 x.prio, .int .i64 x.rate, .int .i64 x.depth] 38 (0, 0)) := by
      have h := heap_alloc_new (W.alloc (.cells #[.int .i64 y.id, .int .i64 y.prio, .int .i64 y.rate, .int .i64 y.depth] 38)) (.cells #[.int .i64 x.id, .int .i64 x.prio, .int .i64 x.rate, .int .i64 x.depth] 38)
      rw [show (W.alloc (.cells #[.int .i64 y.id, .int .i64 y.prio, .int .i64 y.rate, .int .i64 y.depth] 38)).heap.size = W.heap.size + 1 by simp] at h
      exact h
    have HG := hid (grow2 W (.cells #[.int .i64 y.id, .int .i64 y.prio, .int .i64 y.rate, .int .i64 y.depth] 38) (.cells #[.int .i64 x.id, .int .i64 x.prio, .int .i64 x.rate, .int .i64 x.depth] 38))
    go_upto_region 2 with fail
    generalize ((W.alloc (.cells #[.int .i64 y.id, .int .i64 y.prio, .int .i64 y.rate, .int .i64 y.depth] 38)).alloc (.cells #[.int .i64 x.id, .int .i64 x.prio, .int .i64 x.rate, .int .i64 x.depth] 38)).drew = w2 at *
    have c1 : w2.cell? ⟨W.heap.size + 1, 1, none⟩ = some (.int .i64 x.prio) := by rw [cell_of_row _ _ _ _ _ _ hB]; rfl
    have c0 : w2.cell? ⟨W.heap.size + 1, 0, none⟩ = some (.int .i64 x.id) := by rw [cell_of_row _ _ _ _ _ _ hB]; rfl
    have d1 : w2.cell? ⟨W.heap.size, 1, none⟩ = some (.int .i64 y.prio) := by rw [cell_of_row _ _ _ _ _ _ hA]; rfl
    have d0 : w2.cell? ⟨W.heap.size, 0, none⟩ = some (.int .i64 y.id) := by rw [cell_of_row _ _ _ _ _ _ hA]; rfl
    clear hA hB n0 n1 n2 l0 l1 l2 m0 m1 m2 hbx hg x0 x1 x2 x3 y0 y1 y2 y3
    have hor := or_anyG (cmpIG x.prio y.prio) (cmpIG x.id y.id) w2.heap.size (w2.alloc (.cells #[.int .i64 (cmpIG x.prio y.prio), .int .i64 (cmpIG x.id y.id)] 3)).drew (two_cell0G w2 _ _ 3) (two_cell1G w2 _ _ 3)
    go_region_held3 (fun w' => w'.cell? ⟨W.heap.size + 1, 1, none⟩ = some (.int .i64 x.prio) ∧ w'.cell? ⟨W.heap.size + 1, 0, none⟩ = some (.int .i64 x.id) ∧ w'.cell? ⟨W.heap.size, 1, none⟩ = some (.int .i64 y.prio) ∧ w'.cell? ⟨W.heap.size, 0, none⟩ = some (.int .i64 y.id)) (go_keep) (first
      | (go_at_call 56; refine (comp_anyG _ _ _).mono ?_; rintro e w1 ⟨rfl, rfl⟩)
      | (go_at_call 55; go_fit hor; rintro e w1 ⟨rfl, rfl⟩))
    all_goals
      go_wp2
      go_ret
      exact ⟨rfl, grow3 HG.out _⟩
end Go.Proofs.YtmdfjhnibhmdkafDoor
