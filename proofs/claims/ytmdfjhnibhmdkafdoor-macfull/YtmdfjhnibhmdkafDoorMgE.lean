import Derived.Test.YtmdfjhnibhmdkafDoorMgD
namespace Go.Proofs.YtmdfjhnibhmdkafDoor
open Go.ChangeShapes Go.WideShapes Go.ChangeAt Go.RowKit

/-! THE PROGRAM'S checkGrant; a giver. -/

def grantOk (n : Nat) (bl : List Int) (bytes : Int) : Prop := bl.length = n ∧ withM bytes 1000000 = true ∧ ∀ i, i < bl.length → withM (bl.getD i 0) 1000000 = true

set_option maxRecDepth 100000 in
set_option maxHeartbeats 2000000 in
theorem cgrant_any (l : List ShM) (bl : List Int) (bytes : Int) (B g nb cb : Nat) (a : Option Addr) (v : Value) (w : World) (hP : PSh w B g v l) (hn : l.length ≤ 1000) (hR : Rd .i64 w a bl) (hnb : bl.length = nb) (hm : nb ≤ maxLen) :
    Calls Tryd.prog 33 #[.pointer (some ⟨g, 0, none⟩), .slice a nb cb, .int .i64 bytes] w fun e w' => ((grantOk l.length bl bytes ∧ e = .returned (.int .i64 0)) ∨ (¬ grantOk l.length bl bytes ∧ e = .returned (.int .i64 1))) ∧ w' = w := by
  obtain ⟨sa, c, rfl, -, -⟩ := hP.own.shape
  have p0 := hP.cell
  have hwi : ∀ (n m : Int) (wz : World), Calls Tryd.prog 49 #[.int .i64 n, .int .i64 m] wz fun e w' => e = .returned (.bool (withM n m)) ∧ wz = w' := fun n m wz => (within_any n m wz).mono fun e w' h => ⟨h.1, h.2.symm⟩
  obtain ⟨n, en⟩ : ∃ n, n = l.length := ⟨_, rfl⟩
  rw [← en] at p0 hn ⊢
  have HR := hid hR
  have HNB := hid hnb
  have hm' : nb ≤ 9223372036854775807 := by unfold maxLen at hm; omega
  have hn' : n ≤ 9223372036854775807 := by omega
  clear hP en hR hm
  by_cases hl : nb = n
  · subst hl
    have xl : ((nb : Int) != (nb : Int)) = false := by simp
    cases hby : withM bytes 1000000 with
    | false =>
      have HX : Hid (¬ grantOk nb bl bytes) := fun h => by have := h.2.1; rw [hby] at this; cases this
      clear hnb
      go_enter Tryd.func33, Tryd.ntmps33
      go_wp2_with (go_at_call 49; refine (hwi _ _ _).mono ?_; rintro e w1 ⟨rfl, rfl⟩)
      go_ret
      exact ⟨.inr ⟨HX.out, rfl⟩, rfl⟩
    | true =>
      have HBY := hid hby
      clear hnb
      go_enter Tryd.func33, Tryd.ntmps33
      go_wp2_with (go_at_call 49; refine (hwi _ _ _).mono ?_; rintro e w1 ⟨rfl, rfl⟩)
      go_loopw [24] (fun i wr => ∃ k : Nat, k ≤ nb ∧ i = .int .i64 k ∧ Hid (∀ j, j < k → withM (bl.getD j 0) 1000000 = true) ∧ w = wr) (fun i _ => nb - (intOf i).toNat)
      case atStart => exact ⟨0, by omega, rfl, fun j hj => absurd hj (Nat.not_lt_zero _), rfl⟩
      case round =>
        obtain ⟨k, hk, rfl, HK, rfl⟩ := hrel
        by_cases hlt : k < nb
        · obtain ⟨b, o, rfl, hC⟩ := HR.out.at (i := k) (by rw [HNB.out]; exact hlt)
          have q0 := hC k (by rw [HNB.out]; exact hlt)
          have HXF : Hid (withM (bl.getD k 0) 1000000 = false → ¬ grantOk nb bl bytes) := fun h hG => by
            have := hG.2.2 k (by rw [HNB.out]; exact hlt)
            rw [h] at this; cases this
          obtain ⟨z, ez⟩ : ∃ z, z = bl.getD k 0 := ⟨_, rfl⟩
          rw [← ez] at q0 HXF
          have HZ := hid ez
          clear hC ez
          cases hz : withM z 1000000 with
          | false =>
            have HX := hid (HXF.out hz)
            go_wp2_with (go_at_call 49; refine (hwi _ _ _).mono ?_; rintro e w1 ⟨rfl, rfl⟩)
            go_ret
            exact ⟨.inr ⟨HX.out, rfl⟩, rfl⟩
          | true =>
            have HZT := hid hz
            go_wp2_with (go_at_call 49; refine (hwi _ _ _).mono ?_; rintro e w1 ⟨rfl, rfl⟩)
            go_roundw
            case rel => exact ⟨k + 1, by omega, by go_num, (show Hid _ from fun j hj => by
              by_cases e : j = k
              · rw [e, ← HZ.out]; exact HZT.out
              · exact HK.out j (by omega)), by first | rfl | trivial⟩
            case measure => simp [intOf]; omega
        · have e : k = nb := by omega
          subst e
          have HX : Hid (grantOk k bl bytes) := ⟨HNB.out, HBY.out, fun i hi => HK.out i (by rw [← HNB.out]; exact hi)⟩
          go_wp2_with fail
          go_ret
          exact ⟨.inl ⟨HX.out, rfl⟩, rfl⟩
  · have xl : ((nb : Int) != (n : Int)) = true := by simp; omega
    have HX : Hid (¬ grantOk n bl bytes) := fun h => hl (by rw [← h.1, HNB.out])
    clear hl hnb
    go_enter Tryd.func33, Tryd.ntmps33
    go_wp2_with (go_at_call 49; refine (hwi _ _ _).mono ?_; rintro e w1 ⟨rfl, rfl⟩)
    go_ret
    exact ⟨.inr ⟨HX.out, rfl⟩, rfl⟩

set_option maxHeartbeats 1000000 in
theorem giver_any (left : Int) (w : World) : Calls Tryd.prog 34 #[.int .i64 left] w fun e w' => e = .returned (.func (.func 52) #[] #[.pointer (some ⟨w.heap.size, 0, none⟩)]) ∧ w' = w.alloc (.cells #[.int .i64 left] 3) := by
  go_enter Tryd.func34, Tryd.ntmps34
  go_wp2
  go_ret
  exact ⟨rfl, rfl⟩

set_option maxHeartbeats 1000000 in
theorem give_any (asked left : Int) (bx : Nat) (w : World) (h0 : w.cell? ⟨bx, 0, none⟩ = some (.int .i64 left)) (hz : w.frozen? ⟨bx, 0, none⟩ = false) (ha : 0 ≤ asked) (ha2 : asked ≤ 1000000) (hl : 0 ≤ left) (hl2 : left ≤ 1000000) :
    Calls Tryd.prog 52 #[.int .i64 asked, .pointer (some ⟨bx, 0, none⟩)] w fun e w' => e = .returned (.int .i64 (min asked left)) ∧ w' = w.setCell ⟨bx, 0, none⟩ (.int .i64 (left - min asked left)) := by
  have hm1 : 0 ≤ min asked left := by omega
  have hm2 : min asked left ≤ 1000000 := by omega
  go_enter Tryd.func52, Tryd.ntmps52
  go_wp2
  go_ret
  exact ⟨rfl, rfl⟩
end Go.Proofs.YtmdfjhnibhmdkafDoor
