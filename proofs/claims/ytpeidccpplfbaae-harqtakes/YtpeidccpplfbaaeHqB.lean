import Derived.Test.YtpeidccpplfbaaeHqA
namespace Go.Proofs.Ytpeidccpplfbaae
open Go.ChangeShapes Go.WideShapes Go.ChangeAt Go.RowKit

/-! THE DOCUMENT'S Takes: NewTakes, Take. -/

def heardTo (k : Nat) : List Bool := List.replicate k true ++ List.replicate (8 - k) false
theorem heardTo_set {k : Nat} (h : k < 8) : (heardTo k).set k true = heardTo (k + 1) := by
  unfold heardTo
  rw [show 8 - k = (8 - (k + 1)) + 1 by omega, List.set_append_right _ _ (by simp), List.replicate_succ]
  simp [List.replicate_succ', List.append_assoc]
theorem RTakes.free {t : TypeId} {w : World} {g : Nat} {r : RecvM} (h : RTakes t w g r) (k : Nat) : w.frozen? ⟨g, k, none⟩ = false := frozen_of_row w g k _ _ h.1

set_option maxHeartbeats 1000000 in
theorem rnewtakes_any (w : World) : Calls Try.prog 5 #[] w fun e w' => ∃ g, e = .returned (.pointer (some ⟨g, 0, none⟩)) ∧ w.heap.size ≤ g ∧ RTakes 39 w' g RecvM.new ∧ Below w.heap.size w w' := by
  go_enter Try.func5, Try.ntmps5
  go_wp2_with fail
  have h0 : RTakes 39 (w.alloc (.cells #[.bool false, .bool false, .bool false, .bool false, .bool false, .bool false, .bool false, .bool false, .bool false, .bool false, .bool false, .bool false, .bool false, .bool false, .bool false, .bool false] 39)) w.heap.size ⟨List.replicate 8 false, heardTo 0⟩ := ⟨heap_alloc_new w _, by simp, by simp [heardTo]⟩
  have hb0 : Below w.heap.size w (w.alloc (.cells #[.bool false, .bool false, .bool false, .bool false, .bool false, .bool false, .bool false, .bool false, .bool false, .bool false, .bool false, .bool false, .bool false, .bool false, .bool false, .bool false] 39)) := (Below.refl _ w).alloc (Nat.le_refl _) _
  go_loopw [2] (fun i wr => ∃ k : Nat, k ≤ 8 ∧ i = .int .i64 k ∧ RTakes 39 wr w.heap.size ⟨List.replicate 8 false, heardTo k⟩ ∧ Below w.heap.size w wr) (fun i _ => 8 - (intOf i).toNat)
  case atStart => exact ⟨0, by omega, rfl, h0, hb0⟩
  case round =>
    clear h0 hb0
    obtain ⟨k, hk, rfl, hT, hb⟩ := hrel
    by_cases hlt : k < 8
    · have hc := hT.heard hlt
      have hf := hT.free (8 + k)
      have hset := hT.setHeard hlt true
      rw [show (RecvM.mk (List.replicate 8 false) (heardTo k)).heard.set k true = heardTo (k + 1) from heardTo_set hlt] at hset
      have hb2 := hb.setCell (p := ⟨w.heap.size, 8 + k, none⟩) (Nat.le_refl _) (.bool true)
      clear hT hb
      go_wp2_with fail
      go_roundw
      case rel => exact ⟨k + 1, by omega, by go_num, hset, hb2⟩
      case measure => simp [intOf]; omega
    · have e : k = 8 := by omega
      subst e
      go_wp2_with fail
      go_ret
      exact ⟨_, rfl, Nat.le_refl _, hT, hb⟩

set_option maxHeartbeats 1000000 in
theorem pnewreceiver_any (w : World) : Calls Try.prog 4 #[] w fun e w' => ∃ g, e = .returned (.pointer (some ⟨g, 0, none⟩)) ∧ w.heap.size ≤ g ∧ RTakes 37 w' g RecvM.new ∧ Below w.heap.size w w' := by
  go_enter Try.func4, Try.ntmps4
  go_wp2_with fail
  have h0 : RTakes 37 (w.alloc (.cells #[.bool false, .bool false, .bool false, .bool false, .bool false, .bool false, .bool false, .bool false, .bool false, .bool false, .bool false, .bool false, .bool false, .bool false, .bool false, .bool false] 37)) w.heap.size ⟨List.replicate 8 false, heardTo 0⟩ := ⟨heap_alloc_new w _, by simp, by simp [heardTo]⟩
  have hb0 : Below w.heap.size w (w.alloc (.cells #[.bool false, .bool false, .bool false, .bool false, .bool false, .bool false, .bool false, .bool false, .bool false, .bool false, .bool false, .bool false, .bool false, .bool false, .bool false, .bool false] 37)) := (Below.refl _ w).alloc (Nat.le_refl _) _
  go_loopw [2, 5] (fun z i wr => ∃ k : Nat, k ≤ 8 ∧ i = .int .i64 k ∧ RTakes 37 wr w.heap.size ⟨List.replicate 8 false, heardTo k⟩ ∧ Below w.heap.size w wr) (fun z i _ => 8 - (intOf i).toNat)
  case atStart => exact ⟨0, by omega, rfl, h0, hb0⟩
  case round =>
    clear h0 hb0
    obtain ⟨k, hk, rfl, hT, hb⟩ := hrel
    by_cases hlt : k < 8
    · have hc := hT.heard hlt
      have hf := hT.free (8 + k)
      have hset := hT.setHeard hlt true
      rw [show (RecvM.mk (List.replicate 8 false) (heardTo k)).heard.set k true = heardTo (k + 1) from heardTo_set hlt] at hset
      have hb2 := hb.setCell (p := ⟨w.heap.size, 8 + k, none⟩) (Nat.le_refl _) (.bool true)
      clear hT hb
      go_wp2_with fail
      go_roundw
      case rel => exact ⟨k + 1, by omega, by go_num, hset, hb2⟩
      case measure => simp [intOf]; omega
    · have e : k = 8 := by omega
      subst e
      go_wp2_with fail
      go_ret
      exact ⟨_, rfl, Nat.le_refl _, hT, hb⟩

/-! THE DOCUMENT'S Take of anything. -/

theorem run_fldTk0 {ρ : Operand → Value} (w : World) {o : Oper} {x : Operand} {g s : Nat} (ho : o.op = .fieldAddr 39 x 0) (h : ρ x = .pointer (some ⟨g, s, none⟩)) : (execOp ρ o).run Try.prog w = .ok (.value (.pointer (some ⟨g, s, none⟩))) w := by
  unfold execOp
  simp only [ho, h]
  simp [go_sem]
theorem run_fldTk1 {ρ : Operand → Value} (w : World) {o : Oper} {x : Operand} {g s : Nat} (ho : o.op = .fieldAddr 39 x 1) (h : ρ x = .pointer (some ⟨g, s, none⟩)) : (execOp ρ o).run Try.prog w = .ok (.value (.pointer (some ⟨g, s + 8, none⟩))) w := by
  unfold execOp
  simp only [ho, h]
  simp [go_sem]
theorem run_fldSh2 {ρ : Operand → Value} (w : World) {o : Oper} {x : Operand} {g s : Nat} (ho : o.op = .fieldAddr 30 x 2) (h : ρ x = .pointer (some ⟨g, s, none⟩)) : (execOp ρ o).run Try.prog w = .ok (.value (.pointer (some ⟨g, s + 2, none⟩))) w := by
  unfold execOp
  simp only [ho, h]
  simp [go_sem]
theorem run_idx8B {ρ : Operand → Value} (w : World) {o : Oper} {x y : Operand} {g s j : Nat} (ho : o.op = .indexAddr 35 x y) (h : ρ x = .pointer (some ⟨g, s, none⟩)) (h' : ρ y = .int .i64 j) (hj : j < 8) : (execOp ρ o).run Try.prog w = .ok (.value (.pointer (some ⟨g, s + j, none⟩))) w := by
  unfold execOp
  simp only [ho, h, h']
  simp [go_sem, Try.underlying35]
  all_goals omega
theorem run_loadBo {ρ : Operand → Value} (w : World) {o : Oper} {x : Operand} {g j : Nat} {v : Value} (ho : o.op = .load 4 x) (h : ρ x = .pointer (some ⟨g, j, none⟩)) (hc : w.cell? ⟨g, j, none⟩ = some v) : (execOp ρ o).run Try.prog w = .ok (.value v) w := by
  unfold execOp
  simp only [ho, h]
  simp [go_sem, hc]
theorem run_storeBo {ρ : Operand → Value} (w : World) {o : Oper} {x y : Operand} {g j : Nat} {p q : Bool} (ho : o.op = .store 4 x y) (h : ρ x = .pointer (some ⟨g, j, none⟩)) (h' : ρ y = .bool q) (hc : w.cell? ⟨g, j, none⟩ = some (.bool p)) (hf : w.frozen? ⟨g, j, none⟩ = false) : (execOp ρ o).run Try.prog w = .ok .skip (w.setCell ⟨g, j, none⟩ (.bool q)) := by
  unfold execOp
  simp only [ho, h, h']
  simp [go_sem, hc, hf]
theorem set_same {l : List Bool} {k : Nat} (h : l.getD k false = true) : l.set k true = l := by
  refine List.ext_getElem (by simp) fun i h1 h2 => ?_
  rw [List.getElem_set]
  split
  · rename_i e
    subst e
    simpa [List.getD, h2] using h.symm
  · rfl
theorem shot_right {k : Nat} {ve : Int} (fg : Bool) (da : ByteArray) (hk : k < 8) (hv : verOk ve = true) : shotOk ⟨(k : Int), ve, fg, da⟩ = true := by
  have h : 0 ≤ ve ∧ ve ≤ 3 := of_decide_eq_true hv
  refine decide_eq_true ⟨?_, ?_, h.1, h.2⟩ <;> (show _ ≤ _; dsimp only; omega)
theorem says_right (r : RecvM) (k : Nat) (ve : Int) (fg : Bool) (da : ByteArray) (hd : Bool) (hk : k < 8) (hv : verOk ve = true) (hs : da.size ≤ 1500) : r.says ⟨(k : Int), ve, fg, da⟩ hd = if (r.turned ⟨(k : Int), ve, fg, da⟩).heard.getD k false then ⟨ByteArray.empty, false, true, 0⟩ else if hd then ⟨da, true, true, 0⟩ else ⟨ByteArray.empty, false, false, 0⟩ := by
  unfold RecvM.says
  rw [shot_right fg da hk hv, if_neg (by simp), if_neg (by show ¬ 1500 < da.size; omega)]
  rfl
theorem next_right (r : RecvM) (k : Nat) (ve : Int) (fg : Bool) (da : ByteArray) (hd : Bool) (hk : k < 8) (hv : verOk ve = true) (hs : da.size ≤ 1500) : r.next ⟨(k : Int), ve, fg, da⟩ hd = if hd then ⟨(r.turned ⟨(k : Int), ve, fg, da⟩).flag, (r.turned ⟨(k : Int), ve, fg, da⟩).heard.set k true⟩ else r.turned ⟨(k : Int), ve, fg, da⟩ := by
  unfold RecvM.next
  rw [shot_right fg da hk hv, if_neg (by simp; omega)]
  rfl
theorem RTakes.old {t : TypeId} {w w' : World} {g : Nat} {r : RecvM} (h : RTakes t w g r) (hb : Below w.heap.size w w') : RTakes t w' g r := ⟨(hb.block g h.lt).trans h.1, h.2⟩

end Go.Proofs.Ytpeidccpplfbaae
