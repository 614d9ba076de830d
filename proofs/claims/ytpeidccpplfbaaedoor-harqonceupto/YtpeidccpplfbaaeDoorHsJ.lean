import Derived.Test.YtpeidccpplfbaaeDoorHsI
namespace Go.Proofs.YtpeidccpplfbaaeDoor
open Go.ChangeShapes Go.WideShapes Go.ChangeAt Go.RowKit

/-! THE DOCUMENT'S Answer. -/

set_option maxHeartbeats 1000000 in
theorem rans_bad {w : World} {g : Nat} (p : Int) (yes : Bool) (hp : procErr p = 1) :
    Calls Tryd.prog 11 #[.pointer (some ⟨g, 0, none⟩), .int .i64 p, .bool yes] w fun e w' => e = .returned (.tuple #[.bool false, .int .i64 1]) ∧ w = w' := by
  rcases procErr_cases p with ⟨_, h0⟩ | ⟨_, h0, h7⟩ | ⟨h, _⟩
  · have d0 : decide (p < 0) = true := decide_eq_true h0
    clear h0 hp
    go_enter Tryd.func11, Tryd.ntmps11
    go_wp2_with fail
    go_ret2
    exact ⟨rfl, rfl⟩
  · have d0 : decide (p < 0) = false := decide_eq_false (by omega)
    have d7 : decide (7 < p) = true := decide_eq_true h7
    clear h0 h7 hp
    go_enter Tryd.func11, Tryd.ntmps11
    go_wp2_with fail
    go_ret2
    exact ⟨rfl, rfl⟩
  · rw [hp] at h
    cases h

set_option maxHeartbeats 1000000 in
theorem rans_absent {w : World} {g : Nat} {m : SendM} (h : RTries w g m) (hl : m.p.length = 8) (k : Nat) (yes : Bool) (hk : k < 8) (hb : (m.tat k).busy = false) :
    Calls Tryd.prog 11 #[.pointer (some ⟨g, 0, none⟩), .int .i64 (k : Int), .bool yes] w fun e w' => e = .returned (.tuple #[.bool false, .int .i64 6]) ∧ w = w' := by
  have d0 : decide ((k : Int) < 0) = false := decide_eq_false (by omega)
  have d7 : decide ((7 : Int) < (k : Int)) = false := decide_eq_false (by omega)
  have c0 : w.cell? ⟨g, 1 + k * 5, none⟩ = some (.bool (m.tat k).busy) := h.cell hl hk (j := 0) (by omega)
  rw [hb] at c0
  clear hb
  go_enter Tryd.func11, Tryd.ntmps11
  go_wp2_with fail
  go_ret2
  exact ⟨rfl, rfl⟩

set_option maxHeartbeats 1000000 in
theorem rans_closed {w : World} {g : Nat} {m : SendM} (h : RTries w g m) (hl : m.p.length = 8) (k : Nat) (yes : Bool) (hk : k < 8) (hb : (m.tat k).busy = true) (ho : (m.tat k).opn = false) :
    Calls Tryd.prog 11 #[.pointer (some ⟨g, 0, none⟩), .int .i64 (k : Int), .bool yes] w fun e w' => e = .returned (.tuple #[.bool false, .int .i64 9]) ∧ w = w' := by
  have d0 : decide ((k : Int) < 0) = false := decide_eq_false (by omega)
  have d7 : decide ((7 : Int) < (k : Int)) = false := decide_eq_false (by omega)
  have c0 : w.cell? ⟨g, 1 + k * 5, none⟩ = some (.bool (m.tat k).busy) := h.cell hl hk (j := 0) (by omega)
  have c2 : w.cell? ⟨g, 1 + k * 5 + 2, none⟩ = some (.bool (m.tat k).opn) := h.cell hl hk (j := 2) (by omega)
  rw [hb] at c0
  rw [ho] at c2
  clear hb ho
  go_enter Tryd.func11, Tryd.ntmps11
  go_wp2_with fail
  go_ret2
  exact ⟨rfl, rfl⟩

set_option maxHeartbeats 1000000 in
theorem rans_yes {w : World} {g : Nat} {m : SendM} (h : RTries w g m) (hl : m.p.length = 8) (k : Nat) (hk : k < 8) (hb : (m.tat k).busy = true) (ho : (m.tat k).opn = true) :
    Calls Tryd.prog 11 #[.pointer (some ⟨g, 0, none⟩), .int .i64 (k : Int), .bool true] w fun e w' => e = .returned (.tuple #[.bool true, .int .i64 0]) ∧ RTries w' g (m.set k ⟨false, (m.tat k).flag, false, (m.tat k).data, (m.tat k).tries⟩) ∧ Kept [g] w w' := by
  have d0 : decide ((k : Int) < 0) = false := decide_eq_false (by omega)
  have d7 : decide ((7 : Int) < (k : Int)) = false := decide_eq_false (by omega)
  have c0 : w.cell? ⟨g, 1 + k * 5, none⟩ = some (.bool (m.tat k).busy) := h.cell hl hk (j := 0) (by omega)
  have c2 : w.cell? ⟨g, 1 + k * 5 + 2, none⟩ = some (.bool (m.tat k).opn) := h.cell hl hk (j := 2) (by omega)
  have f2 := h.free (1 + k * 5 + 2)
  rw [hb] at c0
  rw [ho] at c2
  have hR1 : RTries (w.setCell ⟨g, 1 + k * 5 + 2, none⟩ (.bool false)) g (m.set k ⟨true, (m.tat k).flag, false, (m.tat k).data, (m.tat k).tries⟩) := h.set hl hk (j := 2) (by omega) (.bool false) _ (by rw [← hb]; rfl)
  have hK1 : Kept [g] w (w.setCell ⟨g, 1 + k * 5 + 2, none⟩ (.bool false)) := (Kept.refl [g] w).setCell (by simp) _
  clear hb ho
  go_enter Tryd.func11, Tryd.ntmps11
  go_upto_region 9 with fail
  clear c0 c2 f2
  generalize (w.setCell ⟨g, 1 + k * 5 + 2, none⟩ (.bool false)) = wA at *
  have c0 : wA.cell? ⟨g, 1 + k * 5, none⟩ = some (.bool true) := (hR1.cell (set_len hl k _) hk (j := 0) (by omega)).trans (by rw [tat_same hl hk]; rfl)
  have c4 : wA.cell? ⟨g, 1 + k * 5 + 4, none⟩ = some (.int .i64 (m.tat k).tries) := (hR1.cell (set_len hl k _) hk (j := 4) (by omega)).trans (by rw [tat_same hl hk]; rfl)
  have cl : wA.cell? ⟨g, 0, none⟩ = some (.int .i64 m.limit) := hR1.limit
  have f0 := hR1.free (1 + k * 5)
  have hR2 : RTries (wA.setCell ⟨g, 1 + k * 5, none⟩ (.bool false)).drew g (m.set k ⟨false, (m.tat k).flag, false, (m.tat k).data, (m.tat k).tries⟩) := (hR1.setj hl hk (j := 0) (by omega) (.bool false) _ rfl).drew
  have hK2 : Kept [g] w (wA.setCell ⟨g, 1 + k * 5, none⟩ (.bool false)).drew := (hK1.setCell (by simp) _).drew
  go_region
  go_wp2_with fail
  go_ret2
  exact ⟨rfl, hR2, hK2⟩

set_option maxHeartbeats 1000000 in
theorem rans_limit {w : World} {g : Nat} {m : SendM} (h : RTries w g m) (hl : m.p.length = 8) (k : Nat) (hk : k < 8) (hb : (m.tat k).busy = true) (ho : (m.tat k).opn = true) (ht : m.limit ≤ (m.tat k).tries) :
    Calls Tryd.prog 11 #[.pointer (some ⟨g, 0, none⟩), .int .i64 (k : Int), .bool false] w fun e w' => e = .returned (.tuple #[.bool true, .int .i64 0]) ∧ RTries w' g (m.set k ⟨false, (m.tat k).flag, false, (m.tat k).data, (m.tat k).tries⟩) ∧ Kept [g] w w' := by
  have d0 : decide ((k : Int) < 0) = false := decide_eq_false (by omega)
  have d7 : decide ((7 : Int) < (k : Int)) = false := decide_eq_false (by omega)
  have dl : decide ((m.tat k).tries < m.limit) = false := decide_eq_false (by omega)
  have c0 : w.cell? ⟨g, 1 + k * 5, none⟩ = some (.bool (m.tat k).busy) := h.cell hl hk (j := 0) (by omega)
  have c2 : w.cell? ⟨g, 1 + k * 5 + 2, none⟩ = some (.bool (m.tat k).opn) := h.cell hl hk (j := 2) (by omega)
  have f2 := h.free (1 + k * 5 + 2)
  rw [hb] at c0
  rw [ho] at c2
  have hR1 : RTries (w.setCell ⟨g, 1 + k * 5 + 2, none⟩ (.bool false)) g (m.set k ⟨true, (m.tat k).flag, false, (m.tat k).data, (m.tat k).tries⟩) := h.set hl hk (j := 2) (by omega) (.bool false) _ (by rw [← hb]; rfl)
  have hK1 : Kept [g] w (w.setCell ⟨g, 1 + k * 5 + 2, none⟩ (.bool false)) := (Kept.refl [g] w).setCell (by simp) _
  clear hb ho
  go_enter Tryd.func11, Tryd.ntmps11
  go_upto_region 9 with fail
  clear c0 c2 f2
  generalize (w.setCell ⟨g, 1 + k * 5 + 2, none⟩ (.bool false)) = wA at *
  have c0 : wA.cell? ⟨g, 1 + k * 5, none⟩ = some (.bool true) := (hR1.cell (set_len hl k _) hk (j := 0) (by omega)).trans (by rw [tat_same hl hk]; rfl)
  have c4 : wA.cell? ⟨g, 1 + k * 5 + 4, none⟩ = some (.int .i64 (m.tat k).tries) := (hR1.cell (set_len hl k _) hk (j := 4) (by omega)).trans (by rw [tat_same hl hk]; rfl)
  have cl : wA.cell? ⟨g, 0, none⟩ = some (.int .i64 m.limit) := hR1.limit
  have f0 := hR1.free (1 + k * 5)
  have hR2 : RTries (wA.setCell ⟨g, 1 + k * 5, none⟩ (.bool false)).drew g (m.set k ⟨false, (m.tat k).flag, false, (m.tat k).data, (m.tat k).tries⟩) := (hR1.setj hl hk (j := 0) (by omega) (.bool false) _ rfl).drew
  have hK2 : Kept [g] w (wA.setCell ⟨g, 1 + k * 5, none⟩ (.bool false)).drew := (hK1.setCell (by simp) _).drew
  go_region
  go_wp2_with fail
  go_ret2
  exact ⟨rfl, hR2, hK2⟩

set_option maxHeartbeats 1000000 in
theorem rans_no {w : World} {g : Nat} {m : SendM} (h : RTries w g m) (hl : m.p.length = 8) (k : Nat) (hk : k < 8) (hb : (m.tat k).busy = true) (ho : (m.tat k).opn = true) (ht : (m.tat k).tries < m.limit) :
    Calls Tryd.prog 11 #[.pointer (some ⟨g, 0, none⟩), .int .i64 (k : Int), .bool false] w fun e w' => e = .returned (.tuple #[.bool false, .int .i64 0]) ∧ RTries w' g (m.set k ⟨true, (m.tat k).flag, false, (m.tat k).data, (m.tat k).tries⟩) ∧ Kept [g] w w' := by
  have d0 : decide ((k : Int) < 0) = false := decide_eq_false (by omega)
  have d7 : decide ((7 : Int) < (k : Int)) = false := decide_eq_false (by omega)
  have dl : decide (((m.tat k).tries : Int) < (m.limit : Int)) = true := decide_eq_true (by omega)
  have c0 : w.cell? ⟨g, 1 + k * 5, none⟩ = some (.bool (m.tat k).busy) := h.cell hl hk (j := 0) (by omega)
  have c2 : w.cell? ⟨g, 1 + k * 5 + 2, none⟩ = some (.bool (m.tat k).opn) := h.cell hl hk (j := 2) (by omega)
  have f2 := h.free (1 + k * 5 + 2)
  rw [hb] at c0
  rw [ho] at c2
  have hR1 : RTries (w.setCell ⟨g, 1 + k * 5 + 2, none⟩ (.bool false)) g (m.set k ⟨true, (m.tat k).flag, false, (m.tat k).data, (m.tat k).tries⟩) := h.set hl hk (j := 2) (by omega) (.bool false) _ (by rw [← hb]; rfl)
  have hK1 : Kept [g] w (w.setCell ⟨g, 1 + k * 5 + 2, none⟩ (.bool false)) := (Kept.refl [g] w).setCell (by simp) _
  clear hb ho
  go_enter Tryd.func11, Tryd.ntmps11
  go_upto_region 9 with fail
  clear c0 c2 f2
  generalize (w.setCell ⟨g, 1 + k * 5 + 2, none⟩ (.bool false)) = wA at *
  have c0 : wA.cell? ⟨g, 1 + k * 5, none⟩ = some (.bool true) := (hR1.cell (set_len hl k _) hk (j := 0) (by omega)).trans (by rw [tat_same hl hk]; rfl)
  have c4 : wA.cell? ⟨g, 1 + k * 5 + 4, none⟩ = some (.int .i64 (m.tat k).tries) := (hR1.cell (set_len hl k _) hk (j := 4) (by omega)).trans (by rw [tat_same hl hk]; rfl)
  have cl : wA.cell? ⟨g, 0, none⟩ = some (.int .i64 m.limit) := hR1.limit
  have f0 := hR1.free (1 + k * 5)
  have hR2 : RTries (wA.setCell ⟨g, 1 + k * 5, none⟩ (.bool true)).drew g (m.set k ⟨true, (m.tat k).flag, false, (m.tat k).data, (m.tat k).tries⟩) := (hR1.setj hl hk (j := 0) (by omega) (.bool true) _ rfl).drew
  have hK2 : Kept [g] w (wA.setCell ⟨g, 1 + k * 5, none⟩ (.bool true)).drew := (hK1.setCell (by simp) _).drew
  go_region
  go_wp2_with fail
  go_ret2
  exact ⟨rfl, hR2, hK2⟩

end Go.Proofs.YtpeidccpplfbaaeDoor
