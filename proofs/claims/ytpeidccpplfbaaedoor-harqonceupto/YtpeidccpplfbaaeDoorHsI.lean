import Derived.Test.YtpeidccpplfbaaeDoorHsH
import Derived.Deep.Cut
namespace Go.Proofs.YtpeidccpplfbaaeDoor
open Go.ChangeShapes Go.WideShapes Go.ChangeAt Go.RowKit

/-! THE DOCUMENT'S Next. -/

theorem procErr_cases (p : Int) : (procErr p = 1 ∧ p < 0) ∨ (procErr p = 1 ∧ 0 ≤ p ∧ 7 < p) ∨ (procErr p = 0 ∧ ∃ k : Nat, k < 8 ∧ p = (k : Int)) := by
  unfold procErr
  by_cases h0 : p < 0
  · left; rw [if_neg (by omega)]; exact ⟨rfl, h0⟩
  · by_cases h7 : 7 < p
    · right; left; rw [if_neg (by omega)]; exact ⟨rfl, by omega, h7⟩
    · right; right; rw [if_pos (by omega)]; exact ⟨rfl, p.toNat, by omega, by omega⟩

set_option maxHeartbeats 1000000 in
theorem rnext_bad {w : World} {g : Nat} (p : Int) (hp : procErr p = 1) :
    Calls Tryd.prog 9 #[.pointer (some ⟨g, 0, none⟩), .int .i64 p] w fun e w' => e = .returned (.tuple #[zeroShot, .int .i64 1]) ∧ Below w.heap.size w w' := by
  rcases procErr_cases p with ⟨_, h0⟩ | ⟨_, h0, h7⟩ | ⟨h, _⟩
  · have d0 : decide (p < 0) = true := decide_eq_true h0
    clear h0 hp
    go_enter Tryd.func9, Tryd.ntmps9
    go_wp2_with fail
    (try simp only [Exit.inBlock, Exit.then])
    refine bodyPost_ret (v := .tuple #[zeroShot, .int .i64 1]) ?_ rfl ⟨rfl, (Below.refl _ w).alloc (Nat.le_refl _) _⟩
    rw [results_cell_tmp rfl]
    unfold zeroShot
    go_simp
  · have d0 : decide (p < 0) = false := decide_eq_false (by omega)
    have d7 : decide (7 < p) = true := decide_eq_true h7
    clear h0 h7 hp
    go_enter Tryd.func9, Tryd.ntmps9
    go_wp2_with fail
    (try simp only [Exit.inBlock, Exit.then])
    refine bodyPost_ret (v := .tuple #[zeroShot, .int .i64 1]) ?_ rfl ⟨rfl, (Below.refl _ w).alloc (Nat.le_refl _) _⟩
    rw [results_cell_tmp rfl]
    unfold zeroShot
    go_simp
  · rw [hp] at h
    cases h

set_option maxHeartbeats 1000000 in
theorem rnext_absent {w : World} {g : Nat} {m : SendM} (h : RTries w g m) (hl : m.p.length = 8) (k : Nat) (hk : k < 8) (hb : (m.tat k).busy = false) :
    Calls Tryd.prog 9 #[.pointer (some ⟨g, 0, none⟩), .int .i64 (k : Int)] w fun e w' => e = .returned (.tuple #[zeroShot, .int .i64 6]) ∧ Below w.heap.size w w' := by
  have d0 : decide ((k : Int) < 0) = false := decide_eq_false (by omega)
  have d7 : decide ((7 : Int) < (k : Int)) = false := decide_eq_false (by omega)
  have hb0 : Below w.heap.size w (w.alloc (.cells #[.int .i64 0, .int .i64 0, .bool false, .string { data := #[] }] 38)) := (Below.refl _ w).alloc (Nat.le_refl _) _
  have c0 : (w.alloc (.cells #[.int .i64 0, .int .i64 0, .bool false, .string { data := #[] }] 38)).cell? ⟨g, 1 + k * 5, none⟩ = some (.bool (m.tat k).busy) := (h.old hb0).cell hl hk (j := 0) (by omega)
  rw [hb] at c0
  clear hb
  go_enter Tryd.func9, Tryd.ntmps9
  go_wp2_with fail
  (try simp only [Exit.inBlock, Exit.then])
  refine bodyPost_ret (v := .tuple #[zeroShot, .int .i64 6]) ?_ rfl ⟨rfl, hb0⟩
  rw [results_cell_tmp rfl]
  unfold zeroShot
  go_simp

set_option maxHeartbeats 1000000 in
theorem rnext_open {w : World} {g : Nat} {m : SendM} (h : RTries w g m) (hl : m.p.length = 8) (k : Nat) (hk : k < 8) (hb : (m.tat k).busy = true) (ho : (m.tat k).opn = true) :
    Calls Tryd.prog 9 #[.pointer (some ⟨g, 0, none⟩), .int .i64 (k : Int)] w fun e w' => e = .returned (.tuple #[zeroShot, .int .i64 9]) ∧ Below w.heap.size w w' := by
  have d0 : decide ((k : Int) < 0) = false := decide_eq_false (by omega)
  have d7 : decide ((7 : Int) < (k : Int)) = false := decide_eq_false (by omega)
  have hb0 : Below w.heap.size w (w.alloc (.cells #[.int .i64 0, .int .i64 0, .bool false, .string { data := #[] }] 38)) := (Below.refl _ w).alloc (Nat.le_refl _) _
  have c0 : (w.alloc (.cells #[.int .i64 0, .int .i64 0, .bool false, .string { data := #[] }] 38)).cell? ⟨g, 1 + k * 5, none⟩ = some (.bool (m.tat k).busy) := (h.old hb0).cell hl hk (j := 0) (by omega)
  have c2 : (w.alloc (.cells #[.int .i64 0, .int .i64 0, .bool false, .string { data := #[] }] 38)).cell? ⟨g, 1 + k * 5 + 2, none⟩ = some (.bool (m.tat k).opn) := (h.old hb0).cell hl hk (j := 2) (by omega)
  rw [hb] at c0
  rw [ho] at c2
  clear hb ho
  go_enter Tryd.func9, Tryd.ntmps9
  go_wp2_with fail
  (try simp only [Exit.inBlock, Exit.then])
  refine bodyPost_ret (v := .tuple #[zeroShot, .int .i64 9]) ?_ rfl ⟨rfl, hb0⟩
  rw [results_cell_tmp rfl]
  unfold zeroShot
  go_simp

theorem lit_ver {w : World} {b : Nat} {T : TypeId} {fr : Nat × Nat} (h : w.heap[b]? = some (.cells #[.int .i64 0, .int .i64 2, .int .i64 3, .int .i64 1, .int .i64 0, .int .i64 2, .int .i64 3, .int .i64 1] T fr)) {t : Nat} (ht : t < 8) : w.cell? ⟨b, t, none⟩ = some (.int .i64 (verAt t)) := by
  rw [cell_of_row _ _ _ _ _ _ h]
  have hor : t = 0 ∨ t = 1 ∨ t = 2 ∨ t = 3 ∨ t = 4 ∨ t = 5 ∨ t = 6 ∨ t = 7 := by omega
  rcases hor with rfl | rfl | rfl | rfl | rfl | rfl | rfl | rfl <;> rfl

set_option maxHeartbeats 2000000 in
theorem rnext_good {w : World} {g : Nat} {m : SendM} (h : RTries w g m) (hok : m.Ok) (k : Nat) (hk : k < 8) (hb : (m.tat k).busy = true) (ho : (m.tat k).opn = false) :
    Calls Tryd.prog 9 #[.pointer (some ⟨g, 0, none⟩), .int .i64 (k : Int)] w fun e w' => e = .returned (.tuple #[.agg #[.int .i64 (k : Int), .int .i64 (verAt (m.tat k).tries), .bool (m.tat k).flag, .string (m.tat k).data], .int .i64 0]) ∧ RTries w' g (m.set k (m.tat k).tried) ∧ Kept [g] w w' := by
  have hl := hok.len
  have hgl := h.lt
  have d0 : decide ((k : Int) < 0) = false := decide_eq_false (by omega)
  have d7 : decide ((7 : Int) < (k : Int)) = false := decide_eq_false (by omega)
  have htl := (hok.each k hk hb).2 ho
  have ht8 : (m.tat k).tries < 8 := Nat.lt_of_lt_of_le htl hok.high
  have hb0 : Below w.heap.size w (w.alloc (.cells #[.int .i64 0, .int .i64 0, .bool false, .string { data := #[] }] 38)) := (Below.refl _ w).alloc (Nat.le_refl _) _
  have c0 : (w.alloc (.cells #[.int .i64 0, .int .i64 0, .bool false, .string { data := #[] }] 38)).cell? ⟨g, 1 + k * 5, none⟩ = some (.bool (m.tat k).busy) := (h.old hb0).cell hl hk (j := 0) (by omega)
  have c2 : (w.alloc (.cells #[.int .i64 0, .int .i64 0, .bool false, .string { data := #[] }] 38)).cell? ⟨g, 1 + k * 5 + 2, none⟩ = some (.bool (m.tat k).opn) := (h.old hb0).cell hl hk (j := 2) (by omega)
  have hqx : (w.alloc (.cells #[.int .i64 0, .int .i64 0, .bool false, .string { data := #[] }] 38)).heap[w.heap.size]? = _ := heap_alloc_new w _
  have hR0 := h.old hb0
  rw [hb] at c0
  rw [ho] at c2
  clear hb ho htl
  go_enter Tryd.func9, Tryd.ntmps9
  go_upto_region 8 with fail
  have hxg : w.heap.size ≠ g := by omega
  have hKx : ∀ (W : World), Kept [g] w W → ∀ j v, Kept [g] w (W.setCell ⟨w.heap.size, j, none⟩ v) := fun W h j v => h.setNew (Nat.le_refl _) v
  have hKl : Kept [g] w (w.alloc (.cells #[.int .i64 0, .int .i64 0, .bool false, .string { data := #[] }] 38)) := Kept.of_below hb0
  have hs0 : w.heap.size ≤ (w.alloc (.cells #[.int .i64 0, .int .i64 0, .bool false, .string { data := #[] }] 38)).heap.size := hb0.size
  generalize (w.alloc (.cells #[.int .i64 0, .int .i64 0, .bool false, .string { data := #[] }] 38)) = w0 at *
  have hb1 : Below w0.heap.size w0 (w0.alloc (.cells #[.int .i64 0, .int .i64 2, .int .i64 3, .int .i64 1, .int .i64 0, .int .i64 2, .int .i64 3, .int .i64 1] 3)) := (Below.refl _ w0).alloc (Nat.le_refl _) _
  have hR1 := hR0.old hb1
  have hx1 := (hb1.block _ (Array.getElem?_eq_some_iff.1 hqx).1).trans hqx
  have hlv := lit_ver (heap_alloc_new w0 (.cells #[.int .i64 0, .int .i64 2, .int .i64 3, .int .i64 1, .int .i64 0, .int .i64 2, .int .i64 3, .int .i64 1] 3)) ht8
  have c4 : (w0.alloc (.cells #[.int .i64 0, .int .i64 2, .int .i64 3, .int .i64 1, .int .i64 0, .int .i64 2, .int .i64 3, .int .i64 1] 3)).cell? ⟨g, 1 + k * 5 + 4, none⟩ = some (.int .i64 (m.tat k).tries) := hR1.cell hl hk (j := 4) (by omega)
  have hK1 : Kept [g] w (w0.alloc (.cells #[.int .i64 0, .int .i64 2, .int .i64 3, .int .i64 1, .int .i64 0, .int .i64 2, .int .i64 3, .int .i64 1] 3)) := hKl.trans (Kept.of_below hb1)
  go_upto_region 9 with fail
  clear c0 c2 hb1 hlv hqx hR0 hKl hb0
  generalize (w0.alloc (.cells #[.int .i64 0, .int .i64 2, .int .i64 3, .int .i64 1, .int .i64 0, .int .i64 2, .int .i64 3, .int .i64 1] 3)) = wA at *
  have c2 : wA.cell? ⟨g, 1 + k * 5 + 2, none⟩ = some (.bool (m.tat k).opn) := hR1.cell hl hk (j := 2) (by omega)
  have f4 := hR1.free (1 + k * 5 + 4)
  have f2 := hR1.free (1 + k * 5 + 2)
  go_upto_region 11 with fail
  have hRS : RTries ((wA.setCell ⟨g, 1 + k * 5 + 4, none⟩ (.int .i64 (((m.tat k).tries : Int) + 1))).setCell ⟨g, 1 + k * 5 + 2, none⟩ (.bool true)) g (m.set k (m.tat k).tried) := RTries.setj (u := ⟨(m.tat k).busy, (m.tat k).flag, (m.tat k).opn, (m.tat k).data, (m.tat k).tries + 1⟩) (hR1.set hl hk (j := 4) (by omega) (.int .i64 (((m.tat k).tries : Int) + 1)) _ rfl) hl hk (j := 2) (by omega) (.bool true) _ rfl
  have hxS : ((wA.setCell ⟨g, 1 + k * 5 + 4, none⟩ (.int .i64 (((m.tat k).tries : Int) + 1))).setCell ⟨g, 1 + k * 5 + 2, none⟩ (.bool true)).heap[w.heap.size]? = _ := (Below.heap_setCell _ _ _ _ (by simpa using hxg)).trans ((Below.heap_setCell _ _ _ _ (by simpa using hxg)).trans hx1)
  have hKS : Kept [g] w ((wA.setCell ⟨g, 1 + k * 5 + 4, none⟩ (.int .i64 (((m.tat k).tries : Int) + 1))).setCell ⟨g, 1 + k * 5 + 2, none⟩ (.bool true)) := (hK1.setCell (by simp) _).setCell (by simp) _
  clear c2 f4 f2 c4 hR1 hx1 hK1
  have e1 : ((wA.setCell ⟨g, 1 + k * 5 + 4, none⟩ (.int .i64 (((m.tat k).tries : Int) + 1))).setCell ⟨g, 1 + k * 5 + 2, none⟩ (.bool true)).cell? ⟨g, 1 + k * 5 + 1, none⟩ = some (.bool (m.tat k).flag) := (hRS.cell (set_len hl k _) hk (j := 1) (by omega)).trans (by rw [tat_same hl hk]; rfl)
  have e3 : ((wA.setCell ⟨g, 1 + k * 5 + 4, none⟩ (.int .i64 (((m.tat k).tries : Int) + 1))).setCell ⟨g, 1 + k * 5 + 2, none⟩ (.bool true)).cell? ⟨g, 1 + k * 5 + 3, none⟩ = some (.string (m.tat k).data) := (hRS.cell (set_len hl k _) hk (j := 3) (by omega)).trans (by rw [tat_same hl hk]; rfl)
  generalize ((wA.setCell ⟨g, 1 + k * 5 + 4, none⟩ (.int .i64 (((m.tat k).tries : Int) + 1))).setCell ⟨g, 1 + k * 5 + 2, none⟩ (.bool true)) = wS at *
  have x0 : wS.cell? ⟨w.heap.size, 0, none⟩ = some (.int .i64 0) := by rw [cell_of_row _ _ _ _ _ _ hxS]; rfl
  have x1 : wS.cell? ⟨w.heap.size, 1, none⟩ = some (.int .i64 0) := by rw [cell_of_row _ _ _ _ _ _ hxS]; rfl
  have x2 : wS.cell? ⟨w.heap.size, 2, none⟩ = some (.bool false) := by rw [cell_of_row _ _ _ _ _ _ hxS]; rfl
  have x3 : wS.cell? ⟨w.heap.size, 3, none⟩ = some (.string { data := #[] }) := by rw [cell_of_row _ _ _ _ _ _ hxS]; rfl
  have y0 := frozen_of_row wS w.heap.size 0 _ _ hxS
  have y1 := frozen_of_row wS w.heap.size 1 _ _ hxS
  have y2 := frozen_of_row wS w.heap.size 2 _ _ hxS
  have y3 := frozen_of_row wS w.heap.size 3 _ _ hxS
  generalize w.heap.size = bx at *
  go_region
  go_wp2_with fail
  (try simp only [Exit.inBlock, Exit.then])
  refine bodyPost_ret (v := .tuple #[.agg #[.int .i64 (k : Int), .int .i64 (verAt (m.tat k).tries), .bool (m.tat k).flag, .string (m.tat k).data], .int .i64 0]) ?_ rfl ⟨rfl, ?_, ?_⟩
  · rw [results_cell_tmp rfl]
    go_simp
  · exact (hRS.kept (S := [bx]) (((((Kept.refl [bx] wS).setCell (by simp) _).setCell (by simp) _).setCell (by simp) _).setCell (by simp) _) (by simpa using hxg.symm)).drew
  · exact (hKx _ (hKx _ (hKx _ (hKx _ hKS _ _) _ _) _ _) _ _).drew
end Go.Proofs.YtpeidccpplfbaaeDoor
