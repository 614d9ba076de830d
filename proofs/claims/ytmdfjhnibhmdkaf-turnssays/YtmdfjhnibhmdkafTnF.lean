import Derived.Test.YtmdfjhnibhmdkafTnE
import Derived.BigRegion
import Derived.Deep.Cut
namespace Go.Proofs.Ytmdfjhnibhmdkaf
open Go.ChangeShapes Go.WideShapes Go.ChangeAt Go.RowKit

/-! THE DOCUMENT'S Slot: what it refuses. -/

theorem cellT2 {w : World} {a : Addr} {v : Value} (h : w.cell? a = some v) (o : Obj) : (w.alloc o).cell? a = some v := (World.cell?_alloc_lt _ _ _ (World.block_lt_of_cell? w a h)).trans h

set_option maxRecDepth 100000 in
set_option maxHeartbeats 1000000 in
theorem rslot_blocks (blocks : Int) (r v : Value) (w : World) (hs : blocks < 0 ∨ 100 < blocks) :
    Calls Try.prog 7 #[r, v, .int .i64 blocks] w fun e w' => e = .returned (.tuple #[.slice none 0 0, .int .i64 1]) ∧ w = w' := by
  by_cases h0 : blocks < 0
  · have d0 : decide (blocks < 0) = true := decide_eq_true h0
    clear h0 hs
    go_enter Try.func7, Try.ntmps7
    go_wp2
    go_ret2
    exact ⟨rfl, rfl⟩
  · have d0 : decide (blocks < 0) = false := decide_eq_false h0
    have d1 : decide (100 < blocks) = true := decide_eq_true (by omega)
    clear h0 hs
    go_enter Try.func7, Try.ntmps7
    go_wp2
    go_ret2
    exact ⟨rfl, rfl⟩

set_option maxRecDepth 100000 in
set_option maxHeartbeats 4000000 in
theorem rslot_bad (l : List UsM) (blocks nl c : Nat) (a : Option Addr) (r : Value) (w : World) (hb : blocks ≤ 100) (hU : Usr w a l) (hnl : l.length = nl) (hm : nl ≤ maxLen) (hbad : ¬ OkU l) :
    Calls Try.prog 7 #[r, .slice a nl c, .int .i64 (blocks : Int)] w fun e w' => (¬ OkU l ∧ e = .returned (.tuple #[.slice none 0 0, .int .i64 1]) ∨ False) ∧ Below w.heap.size w w' := by
  have HU := hid hU
  have HNL := hid hnl
  have HNO := hid hbad
  have hm' : nl ≤ 9223372036854775807 := by unfold maxLen at hm; omega
  have d0 : decide ((blocks : Int) < 0) = false := decide_eq_false (by omega)
  have d1 : decide ((100 : Int) < (blocks : Int)) = false := decide_eq_false (by omega)
  clear hU hnl hm hb hbad
  go_enter Try.func7, Try.ntmps7
  go_wp2_with fail
  go_loopw [8] (fun q wr => ∃ k : Nat, k ≤ nl ∧ q = .int .i64 k ∧ Hid (okUTo l k) ∧ Below w.heap.size w wr) (fun q _ => nl - (intOf q).toNat)
  case atStart => exact ⟨0, by omega, rfl, fun j hj => absurd hj (Nat.not_lt_zero _), Below.refl _ w⟩
  case round =>
    obtain ⟨k, hk, rfl, HK, hb⟩ := hrel
    by_cases hlt : k < nl
    · have hkl : k < l.length := by rw [HNL.out]; exact hlt
      obtain ⟨b, o, rfl, hC⟩ := HU.out.at hkl
      obtain ⟨q0, q1, q2⟩ := hC k hkl
      have HBad : Hid ((l.getD k .zero).ok (befU l k) = false → ¬ OkU l) := fun h hA => by
        have := hA k hkl
        rw [h] at this; cases this
      have HOk : Hid ((l.getD k .zero).ok (befU l k) = true → okUTo l (k + 1)) := fun h i hi => by
        by_cases e : i = k
        · rw [e]; exact h
        · exact HK.out i (by omega)
      have q0 := cellT hb q0
      have q1 := cellT hb q1
      have q2 := cellT hb q2
      rcases Nat.eq_zero_or_pos k with hk0 | hk0
      · have eb : befU l k = 0 := if_pos hk0
        rw [eb] at HBad HOk
        have xk : decide (0 < k) = false := decide_eq_false (by omega)
        generalize l.getD k .zero = u at *
        clear hC hkl eb hk0
        by_cases g0 : u.who < 1
        · have x0 : decide (u.who < 1) = true := decide_eq_true g0
          have HX := hid (HBad.out (decide_eq_false (by omega)))
          clear g0
          go_upto_region 7 with fail
          go_region
          go_wp2_with fail
          go_ret2
          exact ⟨.inl ⟨HX.out, rfl⟩, (hb.alloc hb.size _).drew⟩
        · have x0 : decide (u.who < 1) = false := decide_eq_false g0
          by_cases g1 : 16 < u.who
          · have x1 : decide (16 < u.who) = true := decide_eq_true g1
            have HX := hid (HBad.out (decide_eq_false (by omega)))
            clear g0 g1
            go_upto_region 7 with fail
            go_region
            go_wp2_with fail
            go_ret2
            exact ⟨.inl ⟨HX.out, rfl⟩, (hb.alloc hb.size _).drew⟩
          · have x1 : decide (16 < u.who) = false := decide_eq_false g1
            by_cases g2 : u.byt < 0
            · have x2 : decide (u.byt < 0) = true := decide_eq_true g2
              have HX := hid (HBad.out (decide_eq_false (by omega)))
              clear g0 g1 g2
              go_upto_region 7 with fail
              go_region
              go_wp2_with fail
              go_ret2
              exact ⟨.inl ⟨HX.out, rfl⟩, (hb.alloc hb.size _).drew⟩
            · have x2 : decide (u.byt < 0) = false := decide_eq_false g2
              by_cases g3 : 1000000 < u.byt
              · have x3 : decide (1000000 < u.byt) = true := decide_eq_true g3
                have HX := hid (HBad.out (decide_eq_false (by omega)))
                clear g0 g1 g2 g3
                go_upto_region 7 with fail
                go_region
                go_wp2_with fail
                go_ret2
                exact ⟨.inl ⟨HX.out, rfl⟩, (hb.alloc hb.size _).drew⟩
              · have x3 : decide (1000000 < u.byt) = false := decide_eq_false g3
                by_cases g4 : u.fit < 1
                · have x4 : decide (u.fit < 1) = true := decide_eq_true g4
                  have HX := hid (HBad.out (decide_eq_false (by omega)))
                  clear g0 g1 g2 g3 g4
                  go_upto_region 7 with fail
                  go_region
                  go_wp2_with fail
                  go_ret2
                  exact ⟨.inl ⟨HX.out, rfl⟩, (hb.alloc hb.size _).drew⟩
                · have x4 : decide (u.fit < 1) = false := decide_eq_false g4
                  by_cases g5 : 10000 < u.fit
                  · have x5 : decide (10000 < u.fit) = true := decide_eq_true g5
                    have HX := hid (HBad.out (decide_eq_false (by omega)))
                    clear g0 g1 g2 g3 g4 g5
                    go_upto_region 7 with fail
                    go_region
                    go_wp2_with fail
                    go_ret2
                    exact ⟨.inl ⟨HX.out, rfl⟩, (hb.alloc hb.size _).drew⟩
                  · have x5 : decide (10000 < u.fit) = false := decide_eq_false g5
                    have HGood := hid (HOk.out (decide_eq_true (by omega)))
                    clear g0 g1 g2 g3 g4 g5
                    go_upto_region 7 with fail
                    go_region
                    go_wp2_with fail
                    go_roundw
                    case rel => exact ⟨k + 1, by omega, by go_num, HGood, (hb.alloc hb.size _).drew⟩
                    case measure => simp [intOf]; omega
      · obtain ⟨j, rfl⟩ : ∃ j, k = j + 1 := ⟨k - 1, by omega⟩
        obtain ⟨p0, -, -⟩ := hC j (by omega)
        have p0 := cellT hb p0
        have eb : befU l (j + 1) = (l.getD j .zero).who := by unfold befU; rw [if_neg (by omega), Nat.add_sub_cancel]
        rw [eb] at HBad HOk
        have hpv := of_decide_eq_true (HK.out j (by omega))
        generalize l.getD (j + 1) .zero = u at *
        obtain ⟨V, eV⟩ : ∃ V, V = (l.getD j .zero).who := ⟨_, rfl⟩
        rw [← eV] at p0 HBad HOk hpv
        have hj0 : (0 : Int) ≤ (j : Int) := by omega
        have hjn : (j : Int) < (nl : Int) := by omega
        have p0' := cellT2 p0 (.cells #[.int .i64 u.who, .int .i64 u.byt, .int .i64 u.fit] 41)
        clear hC hkl eb eV
        by_cases g0 : u.who < 1
        · have x0 : decide (u.who < 1) = true := decide_eq_true g0
          have HX := hid (HBad.out (decide_eq_false (by omega)))
          clear g0
          go_upto_region 7 with fail
          go_region
          go_wp2_with fail
          go_ret2
          exact ⟨.inl ⟨HX.out, rfl⟩, (hb.alloc hb.size _).drew⟩
        · have x0 : decide (u.who < 1) = false := decide_eq_false g0
          by_cases g1 : 16 < u.who
          · have x1 : decide (16 < u.who) = true := decide_eq_true g1
            have HX := hid (HBad.out (decide_eq_false (by omega)))
            clear g0 g1
            go_upto_region 7 with fail
            go_region
            go_wp2_with fail
            go_ret2
            exact ⟨.inl ⟨HX.out, rfl⟩, (hb.alloc hb.size _).drew⟩
          · have x1 : decide (16 < u.who) = false := decide_eq_false g1
            by_cases g2 : u.who ≤ V
            · have x2 : decide (u.who ≤ V) = true := decide_eq_true g2
              have HX := hid (HBad.out (decide_eq_false (by omega)))
              clear g0 g1 g2
              go_upto_region 7 with fail
              go_region
              go_wp2_with fail
              go_ret2
              exact ⟨.inl ⟨HX.out, rfl⟩, (hb.alloc hb.size _).drew⟩
            · have x2 : decide (u.who ≤ V) = false := decide_eq_false g2
              by_cases g3 : u.byt < 0
              · have x3 : decide (u.byt < 0) = true := decide_eq_true g3
                have HX := hid (HBad.out (decide_eq_false (by omega)))
                clear g0 g1 g2 g3
                go_upto_region 7 with fail
                go_region
                go_wp2_with fail
                go_ret2
                exact ⟨.inl ⟨HX.out, rfl⟩, (hb.alloc hb.size _).drew⟩
              · have x3 : decide (u.byt < 0) = false := decide_eq_false g3
                by_cases g4 : 1000000 < u.byt
                · have x4 : decide (1000000 < u.byt) = true := decide_eq_true g4
                  have HX := hid (HBad.out (decide_eq_false (by omega)))
                  clear g0 g1 g2 g3 g4
                  go_upto_region 7 with fail
                  go_region
                  go_wp2_with fail
                  go_ret2
                  exact ⟨.inl ⟨HX.out, rfl⟩, (hb.alloc hb.size _).drew⟩
                · have x4 : decide (1000000 < u.byt) = false := decide_eq_false g4
                  by_cases g5 : u.fit < 1
                  · have x5 : decide (u.fit < 1) = true := decide_eq_true g5
                    have HX := hid (HBad.out (decide_eq_false (by omega)))
                    clear g0 g1 g2 g3 g4 g5
                    go_upto_region 7 with fail
                    go_region
                    go_wp2_with fail
                    go_ret2
                    exact ⟨.inl ⟨HX.out, rfl⟩, (hb.alloc hb.size _).drew⟩
                  · have x5 : decide (u.fit < 1) = false := decide_eq_false g5
                    by_cases g6 : 10000 < u.fit
                    · have x6 : decide (10000 < u.fit) = true := decide_eq_true g6
                      have HX := hid (HBad.out (decide_eq_false (by omega)))
                      clear g0 g1 g2 g3 g4 g5 g6
                      go_upto_region 7 with fail
                      go_region
                      go_wp2_with fail
                      go_ret2
                      exact ⟨.inl ⟨HX.out, rfl⟩, (hb.alloc hb.size _).drew⟩
                    · have x6 : decide (10000 < u.fit) = false := decide_eq_false g6
                      have HGood := hid (HOk.out (decide_eq_true (by omega)))
                      clear g0 g1 g2 g3 g4 g5 g6
                      go_upto_region 7 with fail
                      go_region
                      go_wp2_with fail
                      go_roundw
                      case rel => exact ⟨(j + 1) + 1, by omega, by go_num, HGood, (hb.alloc hb.size _).drew⟩
                      case measure => simp [intOf]; omega
    · have e : k = nl := by omega
      subst e
      exact absurd (show OkU l by show okUTo l l.length; rw [HNL.out]; exact HK.out) HNO.out
end Go.Proofs.Ytmdfjhnibhmdkaf
