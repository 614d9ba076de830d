import Derived.Test.YtpeidccpplfbaaeDoorHqA
namespace Go.Proofs.YtpeidccpplfbaaeDoor
open Go.ChangeShapes Go.WideShapes Go.ChangeAt Go.RowKit

/-! THE DOCUMENT'S Takes: NewTakes, Take. -/

def heardTo (k : Nat) : List Bool := List.replicate k true ++ List.replicate (8 - k) false
theorem heardTo_set {k : Nat} (h : k < 8) : (heardTo k).set k true = heardTo (k + 1) := by
  unfold heardTo
  rw [show 8 - k = (8 - (k + 1)) + 1 by omega, List.set_append_right _ _ (by simp), List.replicate_succ]
  simp [List.replicate_succ', List.append_assoc]
theorem RTakes.free {t : TypeId} {w : World} {g : Nat} {r : RecvM} (h : RTakes t w g r) (k : Nat) : w.frozen? ⟨g, k, none⟩ = false := frozen_of_row w g k _ _ h.1

set_option maxHeartbeats 1000000 in
theorem pnewreceiver_any (w : World) : Calls Tryd.prog 15 #[] w fun e w' => ∃ g, e = .returned (.pointer (some ⟨g, 0, none⟩)) ∧ w.heap.size ≤ g ∧ RTakes 69 w' g RecvM.new ∧ Below w.heap.size w w' := by
  go_enter Tryd.func15, Tryd.ntmps15
  go_wp2_with fail
  have h0 : RTakes 69 (w.alloc (.cells #[.bool false, .bool false, .bool false, .bool false, .bool false, .bool false, .bool false, .bool false, .bool false, .bool false, .bool false, .bool false, .bool false, .bool false, .bool false, .bool false] 69)) w.heap.size ⟨List.replicate 8 false, heardTo 0⟩ := ⟨heap_alloc_new w _, by simp, by simp [heardTo]⟩
  have hb0 : Below w.heap.size w (w.alloc (.cells #[.bool false, .bool false, .bool false, .bool false, .bool false, .bool false, .bool false, .bool false, .bool false, .bool false, .bool false, .bool false, .bool false, .bool false, .bool false, .bool false] 69)) := (Below.refl _ w).alloc (Nat.le_refl _) _
  go_loopw [2, 5] (fun z i wr => ∃ k : Nat, k ≤ 8 ∧ i = .int .i64 k ∧ RTakes 69 wr w.heap.size ⟨List.replicate 8 false, heardTo k⟩ ∧ Below w.heap.size w wr) (fun z i _ => 8 - (intOf i).toNat)
  case atStart => exact ⟨0, by omega, rfl, h0, hb0⟩
  case round =>
    clear h0 hb0
    obtain ⟨k, hk, rfl, hT, hb⟩ := hrel
    by_cases hlt : k < 8
    · have hc := hT.heard hlt
      have hf := hT.free (8 + k)
      have hset := hT.setHeard hlt true
      rw [show (RecvM.mk (List.replicate 8 false) (heardTo k)).heard.set k true = heardTo (k + 1) from heardTo_set hlt] at hset
      have hb2 := hb.setCell (p := ⟨w.heap.size, 8 + k, none⟩) (Nat.le_refl _) (.bool true)
      clear hT hb
      go_wp2_with fail
      go_roundw
      case rel => exact ⟨k + 1, by omega, by go_num, hset, hb2⟩
      case measure => simp [intOf]; omega
    · have e : k = 8 := by omega
      subst e
      go_wp2_with fail
      go_ret
      exact ⟨_, rfl, Nat.le_refl _, hT, hb⟩

/-! THE DOCUMENT'S Take of anything. -/

theorem set_same {l : List Bool} {k : Nat} (h : l.getD k false = true) : l.set k true = l := by
  refine List.ext_getElem (by simp) fun i h1 h2 => ?_
  rw [List.getElem_set]
  split
  · rename_i e
    subst e
    simpa [List.getD, h2] using h.symm
  · rfl
theorem shot_right {k : Nat} {ve : Int} (fg : Bool) (da : ByteArray) (hk : k < 8) (hv : verOk ve = true) : shotOk ⟨(k : Int), ve, fg, da⟩ = true := by
  have h : 0 ≤ ve ∧ ve ≤ 3 := of_decide_eq_true hv
  refine decide_eq_true ⟨?_, ?_, h.1, h.2⟩ <;> (show _ ≤ _; dsimp only; omega)
theorem says_right (r : RecvM) (k : Nat) (ve : Int) (fg : Bool) (da : ByteArray) (hd : Bool) (hk : k < 8) (hv : verOk ve = true) (hs : da.size ≤ 1500) : r.says ⟨(k : Int), ve, fg, da⟩ hd = if (r.turned ⟨(k : Int), ve, fg, da⟩).heard.getD k false then ⟨ByteArray.empty, false, true, 0⟩ else if hd then ⟨da, true, true, 0⟩ else ⟨ByteArray.empty, false, false, 0⟩ := by
  unfold RecvM.says
  rw [shot_right fg da hk hv, if_neg (by simp), if_neg (by show ¬ 1500 < da.size; omega)]
  rfl
theorem next_right (r : RecvM) (k : Nat) (ve : Int) (fg : Bool) (da : ByteArray) (hd : Bool) (hk : k < 8) (hv : verOk ve = true) (hs : da.size ≤ 1500) : r.next ⟨(k : Int), ve, fg, da⟩ hd = if hd then ⟨(r.turned ⟨(k : Int), ve, fg, da⟩).flag, (r.turned ⟨(k : Int), ve, fg, da⟩).heard.set k true⟩ else r.turned ⟨(k : Int), ve, fg, da⟩ := by
  unfold RecvM.next
  rw [shot_right fg da hk hv, if_neg (by simp; omega)]
  rfl
theorem RTakes.old {t : TypeId} {w w' : World} {g : Nat} {r : RecvM} (h : RTakes t w g r) (hb : Below w.heap.size w w') : RTakes t w' g r := ⟨(hb.block g h.lt).trans h.1, h.2⟩

end Go.Proofs.YtpeidccpplfbaaeDoor
