import Derived.Test.YtcnkcbipkchoiagCoK
namespace Go.Proofs.Ytcnkcbipkchoiag
open Go.ChangeShapes Go.WideShapes Go.ChangeAt Go.RowKit Go.Maps

/-! THE PROGRAM'S charge, close. -/

def usageV (g t b : Int) (f : Bool) : Value := .agg #[.int .i64 g, .int .i64 t, .int .i64 b, .bool f]
set_option maxRecDepth 100000 in
set_option maxHeartbeats 2000000 in
theorem ccharge_any {w : World} {ub mb n : Nat} {L0 L1 L2 H g t b : Int} {f : Bool} {v3 v4 : Value} {M : Int → Option Value} (hA : At w ub 145 [.int .i64 L0, .int .i64 L1, .int .i64 L2, v3, v4, .map (some mb)]) (hI : IMap w mb n M) (hg : In64 g) (hM : M g = some (.int .i64 H)) (hb : 0 ≤ b ∧ b ≤ H) (hH : H ≤ L1) (h1 : L1 ≤ 1000000000) (h2 : 0 ≤ L2 ∧ L2 ≤ 1000000000) (hn : n < maxLen) :
    Calls Try.prog 83 #[ptrV ub, usageV g t b f] w fun e w' => e = .returned (.tuple #[]) ∧ At w' ub 145 [.int .i64 L0, .int .i64 (L1 - b), .int .i64 (L2 + b), v3, v4, .map (some mb)] ∧ IMap w' mb n (updI M g (some (.int .i64 (H - b)))) ∧ Kept [ub, mb] w w' := by
  obtain ⟨W, eW⟩ : ∃ W, W = w.alloc (.cells #[.int .i64 g, .int .i64 t, .int .i64 b, .bool f] 70) := ⟨_, rfl⟩
  have hkW : Kept [] w W := by rw [eW]; exact (Kept.refl _ w).alloc _
  have hAW := hA.kept hkW (by simp)
  have hIW := hI.kept hkW (by simp)
  have hUW : At W w.heap.size 70 [.int .i64 g, .int .i64 t, .int .i64 b, .bool f] := by rw [eW]; exact at_alloc w _ [.int .i64 g, .int .i64 t, .int .i64 b, .bool f]
  have hID := hIW.kept (S := []) (Kept.refl _ W).drew (by simp)
  have hlk := hID.look hg Try.underlying84 (Try.zeroMI W.drew) (x := .int .i64 H) (by rw [hM]; rfl) rfl false
  simp only [if_false, Bool.false_eq_true] at hlk
  obtain ⟨w2, hrun, hI2, hk2⟩ := hID.put hn hg Try.underlying84 (.int .i64 (H - b)) n (by rw [hM]; simp)
  have c5 : W.cell? ⟨ub, 5, none⟩ = some (.map (some mb)) := hAW.cell 5
  have u0 : W.cell? ⟨w.heap.size, 0, none⟩ = some (.int .i64 g) := hUW.cell 0
  have u2 : W.cell? ⟨w.heap.size, 2, none⟩ = some (.int .i64 b) := hUW.cell 2
  unfold ptrV usageV at *
  go_enter Try.func83, Try.ntmps83
  go_upto_region 1 with fail
  rw [← eW]
  have HW := hid eW
  clear eW
  go_region
  have hne : ub ≠ mb := fun e => hIW.cells (by rw [← e]; exact hAW)
  have hml := hI.lt
  have hA2 : At w2 ub 145 _ := (hAW.kept (S := []) (Kept.refl _ W).drew (by simp)).kept hk2 (by simpa using hne)
  have hU2 := (hUW.kept (S := []) (Kept.refl _ W).drew (by simp)).kept hk2 (by simp; omega)
  have hK2 : Kept [ub, mb] w w2 := (hkW.wider (by simp)).trans ((Kept.refl _ W).drew.trans (hk2.wider (by simp)))
  have k1 : w2.cell? ⟨ub, 1, none⟩ = some (.int .i64 L1) := hA2.cell 1
  have k2 : w2.cell? ⟨ub, 2, none⟩ = some (.int .i64 L2) := hA2.cell 2
  have y2 : w2.cell? ⟨w.heap.size, 2, none⟩ = some (.int .i64 b) := hU2.cell 2
  have f1 := hA2.free 1
  have f2 := hA2.free 2
  have hul := hA.lt
  have hsu : ¬ w.heap.size = ub := by omega
  have HF : Hid (At ((w2.setCell ⟨ub, 1, none⟩ (.int .i64 (L1 - b))).setCell ⟨ub, 2, none⟩ (.int .i64 (L2 + b))) ub 145 [.int .i64 L0, .int .i64 (L1 - b), .int .i64 (L2 + b), v3, v4, .map (some mb)] ∧ IMap ((w2.setCell ⟨ub, 1, none⟩ (.int .i64 (L1 - b))).setCell ⟨ub, 2, none⟩ (.int .i64 (L2 + b))) mb n (updI M g (some (.int .i64 (H - b)))) ∧ Kept [ub, mb] w ((w2.setCell ⟨ub, 1, none⟩ (.int .i64 (L1 - b))).setCell ⟨ub, 2, none⟩ (.int .i64 (L2 + b)))) :=
    hid ⟨(hA2.setCell (o := 1) (.int .i64 (L1 - b))).setCell (o := 2) (.int .i64 (L2 + b)), hI2.kept (S := [ub]) (((Kept.refl _ w2).setCell (by simp) _).setCell (by simp) _) (by simpa using fun e => hne e.symm), (hK2.setCell (by simp) _).setCell (by simp) _⟩
  clear hA hI hAW hIW hUW hID hlk hrun hA2 hU2 hK2 hI2 hk2 hkW c5 u0 u2 HW hne
  go_upto_region 2 with fail
  go_region
  go_upto_region 3 with fail
  go_region
  first | go_end0 | skip
  obtain ⟨r1, r2, r3⟩ := HF.out
  exact ⟨rfl, r1.kept (S := []) (Kept.refl _ _).drew.drew (by simp), r2.kept (S := []) (Kept.refl _ _).drew.drew (by simp), r3.drew.drew⟩
set_option maxRecDepth 100000 in
set_option maxHeartbeats 2000000 in
theorem cclose_any {w : World} {ub mb n : Nat} {L0 L1 H g : Int} {v2 v3 v4 : Value} {M : Int → Option Value} (hA : At w ub 145 [.int .i64 L0, .int .i64 L1, v2, v3, v4, .map (some mb)]) (hI : IMap w mb n M) (hg : In64 g) (hM : M g = some (.int .i64 H)) (hH : 0 ≤ H ∧ H ≤ L1) (h0 : 0 ≤ L0 ∧ L0 ≤ 1000000000) (h1 : L1 ≤ 1000000000) :
    Calls Try.prog 84 #[ptrV ub, .int .i64 g] w fun e w' => e = .returned (.tuple #[]) ∧ At w' ub 145 [.int .i64 (L0 + H), .int .i64 (L1 - H), v2, v3, v4, .map (some mb)] ∧ IMap w' mb n (updI M g none) ∧ Kept [ub, mb] w w' := by
  have hgv := cgive_any hA h0 (x := H) ⟨by omega, h1⟩ hH
  have hlk := hI.look hg Try.underlying84 (Try.zeroMI w) (x := .int .i64 H) (by rw [hM]; rfl) rfl false
  simp only [if_false, Bool.false_eq_true] at hlk
  have c5 : w.cell? ⟨ub, 5, none⟩ = some (.map (some mb)) := hA.cell 5
  have hne : ub ≠ mb := fun e => hI.cells (by rw [← e]; exact hA)
  have HF : Hid (∀ w1, At w1 ub 145 [.int .i64 (L0 + H), .int .i64 (L1 - H), v2, v3, v4, .map (some mb)] → Kept [ub] w w1 → w1.cell? ⟨ub, 5, none⟩ = some (.map (some mb)) ∧ ∃ w2, (∀ ty, (Builtin.delete_ #[84, 3] ty #[.map (some mb), .int .i64 g]).run Try.prog w1 = .ok (.tuple #[]) w2) ∧ At w2 ub 145 [.int .i64 (L0 + H), .int .i64 (L1 - H), v2, v3, v4, .map (some mb)] ∧ IMap w2 mb n (updI M g none) ∧ Kept [ub, mb] w w2) := hid fun w1 hA1 hk1 => by
    have hI1 := hI.kept hk1 (by simpa using fun e => hne e.symm)
    obtain ⟨w2, hrun, hI2, hk2⟩ := hI1.del hg Try.underlying84 0
    refine ⟨hA1.cell 5, w2, fun ty => ?_, hA1.kept hk2 (by simpa using hne), hI2, (hk1.wider (by simp)).trans (hk2.wider (by simp))⟩
    rw [← hrun]
    rfl
  clear hA hI
  unfold ptrV at *
  go_enter Try.func84, Try.ntmps84
  go_wp2_with (go_at_call 122; refine hgv.mono ?_; rintro e w1 ⟨rfl, hA1, hk1⟩; obtain ⟨d5, w2, hrun, hP⟩ := HF.out w1 hA1 hk1; have hr0 := hrun 0)
  first | go_end0 | skip
  exact ⟨rfl, hP⟩
end Go.Proofs.Ytcnkcbipkchoiag
