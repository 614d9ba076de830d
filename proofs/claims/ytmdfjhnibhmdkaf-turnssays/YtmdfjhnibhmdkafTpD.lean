import Derived.Test.YtmdfjhnibhmdkafTpC
namespace Go.Proofs.Ytmdfjhnibhmdkaf
open Go.ChangeShapes Go.WideShapes Go.ChangeAt Go.RowKit

/-! THE PROGRAM'S checkSlot. -/

def slotOk (l : List UsM) (blocks : Int) : Prop := (0 ≤ blocks ∧ blocks ≤ 100) ∧ OkU l
theorem befU_succ (l : List UsM) (k : Nat) : befU l (k + 1) = (l.getD k .zero).who := by unfold befU; rw [if_neg (by omega), Nat.add_sub_cancel]

set_option maxRecDepth 100000 in
set_option maxHeartbeats 4000000 in
theorem cslot_any (l : List UsM) (blocks : Int) (nl c : Nat) (a : Option Addr) (w : World) (hU : Usr w a l) (hnl : l.length = nl) (hm : nl ≤ maxLen) :
    Calls Try.prog 10 #[.slice a nl c, .int .i64 blocks] w fun e w' => ((slotOk l blocks ∧ e = .returned (.int .i64 0)) ∨ (¬ slotOk l blocks ∧ e = .returned (.int .i64 1))) ∧ Below w.heap.size w w' := by
  have HU := hid hU
  have HNL := hid hnl
  have hm' : nl ≤ 9223372036854775807 := by unfold maxLen at hm; omega
  clear hU hnl hm
  by_cases h0 : blocks < 0
  · have d0 : decide (blocks < 0) = true := decide_eq_true h0
    have HX : Hid (¬ slotOk l blocks) := fun h => by have := h.1.1; omega
    clear h0
    go_enter Try.func10, Try.ntmps10
    go_wp2_with fail
    go_ret
    exact ⟨.inr ⟨HX.out, rfl⟩, Below.refl _ w⟩
  · have d0 : decide (blocks < 0) = false := decide_eq_false h0
    by_cases h1 : 100 < blocks
    · have d1 : decide (100 < blocks) = true := decide_eq_true h1
      have HX : Hid (¬ slotOk l blocks) := fun h => by have := h.1.2; omega
      clear h0 h1
      go_enter Try.func10, Try.ntmps10
      go_wp2_with fail
      go_ret
      exact ⟨.inr ⟨HX.out, rfl⟩, Below.refl _ w⟩
    · have d1 : decide (100 < blocks) = false := decide_eq_false h1
      have HB : Hid (0 ≤ blocks ∧ blocks ≤ 100) := ⟨by omega, by omega⟩
      clear h0 h1
      go_enter Try.func10, Try.ntmps10
      go_wp2_with fail
      go_loopw [5, 16] (fun b i wr => ∃ (k : Nat) (V : Int), k ≤ nl ∧ i = .int .i64 k ∧ b = .int .i64 V ∧ 0 ≤ V ∧ Hid (okUTo l k ∧ V = befU l k) ∧ Below w.heap.size w wr) (fun _ i _ => nl - (intOf i).toNat)
      case atStart => exact ⟨0, 0, by omega, rfl, rfl, by omega, ⟨fun j hj => absurd hj (Nat.not_lt_zero _), rfl⟩, Below.refl _ w⟩
      case round =>
        obtain ⟨k, V, hk, rfl, rfl, hV, HK, hb⟩ := hrel
        by_cases hlt : k < nl
        · have hkl : k < l.length := by rw [HNL.out]; exact hlt
          obtain ⟨b, o, rfl, hC⟩ := HU.out.at hkl
          obtain ⟨q0, q1, q2⟩ := hC k hkl
          have HBad : Hid ((l.getD k .zero).ok V = false → ¬ slotOk l blocks) := fun h hA => by
            have := hA.2 k hkl
            rw [← HK.out.2, h] at this; cases this
          have HOk : Hid ((l.getD k .zero).ok V = true → okUTo l (k + 1) ∧ (l.getD k .zero).who = befU l (k + 1)) := fun h => ⟨fun i hi => by
            by_cases e : i = k
            · rw [e, ← HK.out.2]; exact h
            · exact HK.out.1 i (by omega), (befU_succ l k).symm⟩
          have q0 := cellT hb q0
          have q1 := cellT hb q1
          have q2 := cellT hb q2
          generalize l.getD k .zero = u at *
          clear hC hkl HK
          by_cases g0 : u.who ≤ V
          · have x0 : decide (u.who ≤ V) = true := decide_eq_true g0
            have HX := hid (HBad.out (decide_eq_false (by omega)))
            clear g0
            go_wp2_with fail
            go_ret
            exact ⟨.inr ⟨HX.out, rfl⟩, hb.alloc hb.size _⟩
          · have x0 : decide (u.who ≤ V) = false := decide_eq_false g0
            by_cases g1 : 16 < u.who
            · have x1 : decide (16 < u.who) = true := decide_eq_true g1
              have HX := hid (HBad.out (decide_eq_false (by omega)))
              clear g0 g1
              go_wp2_with fail
              go_ret
              exact ⟨.inr ⟨HX.out, rfl⟩, hb.alloc hb.size _⟩
            · have x1 : decide (16 < u.who) = false := decide_eq_false g1
              by_cases g2 : u.byt < 0
              · have x2 : decide (u.byt < 0) = true := decide_eq_true g2
                have HX := hid (HBad.out (decide_eq_false (by omega)))
                clear g0 g1 g2
                go_wp2_with fail
                go_ret
                exact ⟨.inr ⟨HX.out, rfl⟩, hb.alloc hb.size _⟩
              · have x2 : decide (u.byt < 0) = false := decide_eq_false g2
                by_cases g3 : 1000000 < u.byt
                · have x3 : decide (1000000 < u.byt) = true := decide_eq_true g3
                  have HX := hid (HBad.out (decide_eq_false (by omega)))
                  clear g0 g1 g2 g3
                  go_wp2_with fail
                  go_ret
                  exact ⟨.inr ⟨HX.out, rfl⟩, hb.alloc hb.size _⟩
                · have x3 : decide (1000000 < u.byt) = false := decide_eq_false g3
                  by_cases g4 : u.fit < 1
                  · have x4 : decide (u.fit < 1) = true := decide_eq_true g4
                    have HX := hid (HBad.out (decide_eq_false (by omega)))
                    clear g0 g1 g2 g3 g4
                    go_wp2_with fail
                    go_ret
                    exact ⟨.inr ⟨HX.out, rfl⟩, hb.alloc hb.size _⟩
                  · have x4 : decide (u.fit < 1) = false := decide_eq_false g4
                    by_cases g5 : 10000 < u.fit
                    · have x5 : decide (10000 < u.fit) = true := decide_eq_true g5
                      have HX := hid (HBad.out (decide_eq_false (by omega)))
                      clear g0 g1 g2 g3 g4 g5
                      go_wp2_with fail
                      go_ret
                      exact ⟨.inr ⟨HX.out, rfl⟩, hb.alloc hb.size _⟩
                    · have x5 : decide (10000 < u.fit) = false := decide_eq_false g5
                      have HGood := hid (HOk.out (decide_eq_true (by omega)))
                      have hw0 : 0 ≤ u.who := by omega
                      clear g0 g1 g2 g3 g4 g5
                      go_wp2_with fail
                      go_roundw
                      case rel => exact ⟨k + 1, u.who, by omega, by go_num, rfl, hw0, HGood, hb.alloc hb.size _⟩
                      case measure => simp [intOf]; omega
        · have e : k = nl := by omega
          subst e
          have HX : Hid (slotOk l blocks) := ⟨HB.out, show okUTo l l.length by rw [HNL.out]; exact HK.out.1⟩
          clear hlt
          go_wp2_with fail
          go_ret
          exact ⟨.inl ⟨HX.out, rfl⟩, hb⟩
end Go.Proofs.Ytmdfjhnibhmdkaf
