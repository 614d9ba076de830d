import Derived.Test.YtmdfjhnibhmdkafDoorSt05
import Derived.Test.YtmdfjhnibhmdkafDoorSt04
namespace Go.Proofs.YtmdfjhnibhmdkafDoor
open Go.ChangeShapes Go.WideShapes Go.ChangeAt Go.RowKit
def slotOk (l : List UsM) (blocks : Int) : Prop := (0 ≤ blocks ∧ blocks ≤ 100) ∧ OkU l
theorem befU_succ (l : List UsM) (k : Nat) : befU l (k + 1) = (l.getD k .zero).who := by unfold befU; rw [if_neg (by omega), Nat.add_sub_cancel]
set_option maxRecDepth 100000 in
set_option maxHeartbeats 4000000 in
theorem cslot_any (l : List UsM) (blocks : Int) (nl c : Nat) (a : Option Addr) (w : World) (hU : Usr w a l) (hnl : l.length = nl) (hm : nl ≤ maxLen) :
    Calls Tryd.prog 36 #[.slice a nl c, .int .i64 blocks] w fun e w' => ((slotOk l blocks ∧ e = .returned (.int .i64 0)) ∨ (¬ slotOk l blocks ∧ e = .returned (.int .i64 1))) ∧ Below w.heap.size w w' := by
  have HU := hid hU
  have HNL := hid hnl
  have hm' : nl ≤ 9223372036854775807 := by unfold maxLen at hm; omega
  clear hU hnl hm
  by_cases h0 : blocks < 0
  · have d0 : decide (blocks < 0) = true := decide_eq_true h0
    have HX : Hid (¬ slotOk l blocks) := fun h => by have := h.1.1; omega
    clear h0
    go_enter Tryd.func36, Tryd.ntmps36
    go_wp2_with fail
    go_ret
    exact ⟨.inr ⟨HX.out, rfl⟩, Below.refl _ w⟩
  · have d0 : decide (blocks < 0) = false := decide_eq_false h0
    by_cases h1 : 100 < blocks
    · have d1 : decide (100 < blocks) = true := decide_eq_true h1
      have HX : Hid (¬ slotOk l blocks) := fun h => by have := h.1.2; omega
      clear h0 h1
      go_enter Tryd.func36, Tryd.ntmps36
      go_wp2_with fail
      go_ret
      exact ⟨.inr ⟨HX.out, rfl⟩, Below.refl _ w⟩
    · have d1 : decide (100 < blocks) = false := decide_eq_false h1
      have HB : Hid (0 ≤ blocks ∧ blocks ≤ 100) := ⟨by omega, by omega⟩
      clear h0 h1
      go_enter Tryd.func36, Tryd.ntmps36
      go_wp2_with fail
      go_loopw [5, 16] (fun b i wr => ∃ (k : Nat) (V : Int), k ≤ nl ∧ i = .int .i64 k ∧ b = .int .i64 V ∧ 0 ≤ V ∧ Hid (okUTo l k ∧ V = befU l k) ∧ Below w.heap.size w wr) (fun _ i _ => nl - (intOf i).toNat)
      case atStart => exact ⟨0, 0, by omega, rfl, rfl, by omega, ⟨fun j hj => absurd hj (Nat.not_lt_zero _), rfl⟩, Below.refl _ w⟩
      case round =>
        obtain ⟨k, V, hk, rfl, rfl, hV, HK, hb⟩ := hrel
        by_cases hlt : k < nl
        · have hkl : k < l.length := by rw [HNL.out]; exact hlt
          obtain ⟨b, o, rfl, hC⟩ := HU.out.at hkl
          obtain ⟨q0, q1, q2⟩ := hC k hkl
          have HBad : Hid ((l.getD k .zero).ok V = false → ¬ slotOk l blocks) := fun h hA => by
            have := hA.2 k hkl
            rw [← HK.out.2, h] at this; cases this
          have HOk : Hid ((l.getD k .zero).ok V = true → okUTo l (k + 1) ∧ (l.getD k .zero).who = befU l (k + 1)) := fun h => ⟨fun i hi => by
            by_cases e : i = k
            · rw [e, ← HK.out.2]; exact h
            · exact HK.out.1 i (by omega), (befU_succ l k).symm⟩
          have q0 := cellT hb q0
          have q1 := cellT hb q1
          have q2 := cellT hb q2
          generalize l.getD k .zero = u at *
          clear hC hkl HK
          by_cases g0 : u.who ≤ V
          · have x0 : decide (u.who ≤ V) = true := decide_eq_true g0
            have HX := hid (HBad.out (decide_eq_false (by omega)))
            clear g0
            go_wp2_with fail
            go_ret
            exact ⟨.inr ⟨HX.out, rfl⟩, hb.alloc hb.size _⟩
          · have x0 : decide (u.who ≤ V) = false := decide_eq_false g0
            by_cases g1 : 16 < u.who
            · have x1 : decide (16 < u.who) = true := decide_eq_true g1
              have HX := hid (HBad.out (decide_eq_false (by omega)))
              clear g0 g1
              go_wp2_with fail
              go_ret
              exact ⟨.inr ⟨HX.out, rfl⟩, hb.alloc hb.size _⟩
            · have x1 : decide (16 < u.who) = false := decide_eq_false g1
              by_cases g2 : u.byt < 0
              · have x2 : decide (u.byt < 0) = true := decide_eq_true g2
                have HX := hid (HBad.out (decide_eq_false (by omega)))
                clear g0 g1 g2
                go_wp2_with fail
                go_ret
                exact ⟨.inr ⟨HX.out, rfl⟩, hb.alloc hb.size _⟩
              · have x2 : decide (u.byt < 0) = false := decide_eq_false g2
                by_cases g3 : 1000000 < u.byt
                · have x3 : decide (1000000 < u.byt) = true := decide_eq_true g3
                  have HX := hid (HBad.out (decide_eq_false (by omega)))
                  clear g0 g1 g2 g3
                  go_wp2_with fail
                  go_ret
                  exact ⟨.inr ⟨HX.out, rfl⟩, hb.alloc hb.size _⟩
                · have x3 : decide (1000000 < u.byt) = false := decide_eq_false g3
                  by_cases g4 : u.fit < 1
                  · have x4 : decide (u.fit < 1) = true := decide_eq_true g4
                    have HX := hid (HBad.out (decide_eq_false (by omega)))
                    clear g0 g1 g2 g3 g4
                    go_wp2_with fail
                    go_ret
                    exact ⟨.inr ⟨HX.out, rfl⟩, hb.alloc hb.size _⟩
                  · have x4 : decide (u.fit < 1) = false := decide_eq_false g4
                    by_cases g5 : 10000 < u.fit
                    · have x5 : decide (10000 < u.fit) = true := decide_eq_true g5
                      have HX := hid (HBad.out (decide_eq_false (by omega)))
                      clear g0 g1 g2 g3 g4 g5
                      go_wp2_with fail
                      go_ret
                      exact ⟨.inr ⟨HX.out, rfl⟩, hb.alloc hb.size _⟩
                    · have x5 : decide (10000 < u.fit) = false := decide_eq_false g5
                      have HGood := hid (HOk.out (decide_eq_true (by omega)))
                      have hw0 : 0 ≤ u.who := by omega
                      clear g0 g1 g2 g3 g4 g5
                      go_wp2_with fail
                      go_roundw
                      case rel => exact ⟨k + 1, u.who, by omega, by go_num, rfl, hw0, HGood, hb.alloc hb.size _⟩
                      case measure => simp [intOf]; omega
        · have e : k = nl := by omega
          subst e
          have HX : Hid (slotOk l blocks) := ⟨HB.out, show okUTo l l.length by rw [HNL.out]; exact HK.out.1⟩
          clear hlt
          go_wp2_with fail
          go_ret
          exact ⟨.inl ⟨HX.out, rfl⟩, hb⟩
end Go.Proofs.YtmdfjhnibhmdkafDoor
namespace Go.Proofs.YtmdfjhnibhmdkafDoor
open Go.ChangeShapes Go.WideShapes Go.ChangeAt Go.RowKit
theorem byF_take {f : UsM → Int} {l : List UsM} (h : OkU l) {k : Nat} (hk : k < l.length) : byF f (l.take (k + 1)) = upd (byF f (l.take k)) (l.getD k .zero).who.toNat (f (l.getD k .zero)) := by
  funext a
  have e : l.getD k .zero = l[k] := by simp [List.getD, hk]
  have hb := (h.at hk).1
  unfold byF
  rw [List.take_succ_eq_append_getElem hk, List.find?_append]
  by_cases ea : a = (l.getD k .zero).who.toNat
  · have ew : l[k].who = (a : Int) := by rw [← e]; omega
    have hnone : (l.take k).find? (fun u => u.who == (a : Int)) = none := by
      rw [List.find?_eq_none]
      intro u hu
      obtain ⟨j, hj, rfl⟩ := List.getElem_of_mem hu
      have hj' : j < k := by rw [List.length_take] at hj; omega
      have ej : l.getD j .zero = l[j] := by simp [List.getD, show j < l.length by omega]
      intro hw
      have hw' : l[j].who = (a : Int) := by simpa using hw
      have := h.inj (i := j) (j := k) (by omega) hk (by rw [ej, e, hw', ew])
      omega
    rw [hnone, ea, upd_at]
    have : ([l[k]].find? fun u => u.who == (((l.getD k .zero).who.toNat : Nat) : Int)) = some l[k] := by
      rw [← ea]
      simp [ew]
    simp only [Option.none_or]
    rw [this, e]
  · rw [upd_ne _ _ ea]
    have hn : ([l[k]].find? fun u => u.who == (a : Int)) = none := by
      rw [List.find?_eq_none]
      intro u hu
      have hu' : u = l[k] := by simpa using hu
      subst hu'
      rw [← e]
      simp only [beq_iff_eq]
      omega
    rw [hn, Option.or_none]
theorem byF_fresh {f : UsM → Int} {l : List UsM} (h : OkU l) {k : Nat} (hk : k < l.length) : byF f (l.take k) (l.getD k .zero).who.toNat = 0 := by
  refine byF_none fun i hi e => ?_
  have hi' : i < k := by simp at hi; omega
  have e1 : (l.take k).getD i .zero = l.getD i .zero := by
    simp [List.getD, List.getElem?_take_of_lt hi']
  rw [e1] at e
  have hb := (h.at hk).1
  have := h.inj (i := i) (j := k) (by omega) hk (by omega)
  omega
/-- What stands in a slot when so many users are in. -/
def SlotK (w : World) (sb ob n : Nat) (l : List UsM) (k : Nat) : Prop := PSlot w sb (byF UsM.who (l.take k)) (byF UsM.byt (l.take k)) (byF UsM.fit (l.take k)) (cntW (byF UsM.byt (l.take k)) : Nat) ob n 0
def slotObj (ob n : Nat) : Obj := .cells #[.int .i64 0, .int .i64 0, .int .i64 0, .int .i64 0, .int .i64 0, .int .i64 0, .int .i64 0, .int .i64 0, .int .i64 0, .int .i64 0, .int .i64 0, .int .i64 0, .int .i64 0, .int .i64 0, .int .i64 0, .int .i64 0, .int .i64 0, .int .i64 0, .int .i64 0, .int .i64 0, .int .i64 0, .int .i64 0, .int .i64 0, .int .i64 0, .int .i64 0, .int .i64 0, .int .i64 0, .int .i64 0, .int .i64 0, .int .i64 0, .int .i64 0, .int .i64 0, .int .i64 0, .int .i64 0, .int .i64 0, .int .i64 0, .int .i64 0, .int .i64 0, .int .i64 0, .int .i64 0, .int .i64 0, .int .i64 0, .int .i64 0, .int .i64 0, .int .i64 0, .int .i64 0, .int .i64 0, .int .i64 0, .int .i64 0, .int .i64 0, .int .i64 0, .int .i64 0, .slice (some ⟨ob, 0, none⟩) n n, .int .i64 0] 92
theorem slotK_new (w : World) (ob n : Nat) (l : List UsM) : SlotK (w.alloc (slotObj ob n)) w.heap.size ob n l 0 := heap_alloc_new w _
set_option maxRecDepth 100000 in
set_option maxHeartbeats 4000000 in
theorem nslot_any (l : List UsM) (blocks nl c : Nat) (a : Option Addr) (w : World) (hU : Usr w a l) (hnl : l.length = nl) (hO : OkU l) (h16 : nl ≤ 16) (hb : blocks ≤ 100) :
    Calls Tryd.prog 37 #[.slice a nl c, .int .i64 (blocks : Int)] w fun e w' => ∃ sb ob, e = .returned (.pointer (some ⟨sb, 0, none⟩)) ∧ SlotK w' sb ob blocks l l.length ∧ ArrAt .i64 3 w' ob (List.replicate blocks 0) ∧ sb ≠ ob ∧ w.heap.size ≤ sb ∧ w.heap.size ≤ ob ∧ Below w.heap.size w w' := by
  have HU := hid hU
  have HNL := hid hnl
  have HO := hid hO
  clear hU hnl hO
  go_enter Tryd.func37, Tryd.ntmps37
  go_wp2_with (at_make; refine wpList_makeInts w.heap.size w blocks rfl _ _ rfl _ _ rfl rfl rfl rfl (by omega) (Below.refl _ w) (Nat.le_refl _) ?_; intro w1 ho1 hb1 hlt1 hfr1)
  obtain ⟨W, eW⟩ : ∃ W, W = w1.alloc (slotObj w.heap.size blocks) := ⟨_, rfl⟩
  have hS0 : SlotK W w1.heap.size w.heap.size blocks l 0 := by rw [eW]; exact slotK_new w1 _ _ l
  have hA0 : ArrAt .i64 3 W w.heap.size (List.replicate blocks 0) := by rw [eW]; exact ho1.arr.1.alloc _
  have hbW : Below w.heap.size w W := by rw [eW]; exact hb1.alloc hb1.size _
  unfold slotObj at eW
  rw [← eW]
  clear eW ho1 hb1 hfr1
  go_loopw [14] (fun i wr => ∃ k : Nat, k ≤ nl ∧ i = .int .i64 k ∧ SlotK wr w1.heap.size w.heap.size blocks l k ∧ ArrAt .i64 3 wr w.heap.size (List.replicate blocks 0) ∧ Below w.heap.size w wr) (fun i _ => nl - (intOf i).toNat)
  case atStart => exact ⟨0, by omega, rfl, hS0, hA0, hbW⟩
  case round =>
    clear hS0 hA0 hbW
    obtain ⟨k, hk, rfl, hS, hA, hw⟩ := hrel
    by_cases hlt : k < nl
    · have hkl : k < l.length := by rw [HNL.out]; exact hlt
      obtain ⟨b, o, rfl, hC⟩ := HU.out.at hkl
      obtain ⟨q0, q1, q2⟩ := hC k hkl
      have q0 := cellT hw q0
      have q1 := cellT hw q1
      have q2 := cellT hw q2
      have hok := HO.out.at hkl
      obtain ⟨u, eu⟩ : ∃ u, u = l.getD k .zero := ⟨_, rfl⟩
      rw [← eu] at q0 q1 q2 hok
      have HEU := hid eu
      clear eu
      have hS1 : PSlot (wr.alloc (.cells #[.int .i64 u.who, .int .i64 u.byt, .int .i64 u.fit] 47)) w1.heap.size _ _ _ _ w.heap.size blocks 0 := FunAt.below hS ((Below.refl _ wr).alloc (Nat.le_refl _) _)
      have hne : w1.heap.size ≠ wr.heap.size := Nat.ne_of_lt (FunAt.lt hS)
      obtain ⟨A, eA⟩ : ∃ A : Nat, u.who = (A : Int) := ⟨u.who.toNat, by omega⟩
      rw [eA] at q0 hS1 hok
      have HEA := hid eA
      clear eA
      have hA16 : A ≤ 16 := by omega
      obtain ⟨p0, p1, p2⟩ := hS1.user hA16
      have f0 := FunAt.free hS1 (A * 3)
      have f1 := FunAt.free hS1 (A * 3 + 1)
      have f2 := FunAt.free hS1 (A * 3 + 2)
      have a0 : (0 : Int) ≤ (A : Int) := by omega
      have a1 : (A : Int) < 17 := by omega
      have hS2 := hS1.setWho hA16 (A : Int)
      have hS3 := hS2.setBy hA16 u.byt
      have hS4 := hS3.setFt hA16 u.fit
      have hwA : (l.getD k .zero).who.toNat = A := by rw [← HEU.out, HEA.out, Int.toNat_natCast]
      have eW1 : byF UsM.who (l.take (k + 1)) = upd (byF UsM.who (l.take k)) A (A : Int) := by rw [byF_take HO.out hkl, hwA, ← HEU.out, HEA.out]
      have eW2 : byF UsM.byt (l.take (k + 1)) = upd (byF UsM.byt (l.take k)) A u.byt := by rw [byF_take HO.out hkl, hwA, ← HEU.out]
      have eW3 : byF UsM.fit (l.take (k + 1)) = upd (byF UsM.fit (l.take k)) A u.fit := by rw [byF_take HO.out hkl, hwA, ← HEU.out]
      have eF : byF UsM.byt (l.take k) A = 0 := by rw [← hwA]; exact byF_fresh HO.out hkl
      have eC := cnt_upd (bw := byF UsM.byt (l.take k)) (c := A) (by omega) hA16 u.byt
      rw [eF, if_neg (by omega), Nat.add_zero, ← eW2] at eC
      have hlec := cnt_le (byF UsM.byt (l.take k))
      rw [← eW1, ← eW2, ← eW3] at hS4
      have r0 := hS4.tail.1
      have r1 := FunAt.free hS4 51
      have hS5 := hS4.setWt (((cntW (byF UsM.byt (l.take k)) : Nat) : Int) + 1)
      obtain ⟨M, eM⟩ : ∃ M, M = cntW (byF UsM.byt (l.take k)) := ⟨_, rfl⟩
      rw [← eM] at r0 hS5 hlec eC
      obtain ⟨O, eO⟩ : ∃ O : Obj, O = .cells #[.int .i64 (A : Int), .int .i64 u.byt, .int .i64 u.fit] 47 := ⟨_, rfl⟩
      have hA1 : ArrAt .i64 3 ((((wr.alloc O).setCell ⟨w1.heap.size, A * 3, none⟩ (.int .i64 (A : Int))).setCell ⟨w1.heap.size, A * 3 + 1, none⟩ (.int .i64 u.byt)).setCell ⟨w1.heap.size, A * 3 + 2, none⟩ (.int .i64 u.fit)) w.heap.size (List.replicate blocks 0) := (((hA.alloc O).other _ _ (by show w.heap.size ≠ w1.heap.size; omega)).other _ _ (by show w.heap.size ≠ w1.heap.size; omega)).other _ _ (by show w.heap.size ≠ w1.heap.size; omega)
      have hw1 : Below w.heap.size w ((((wr.alloc O).setCell ⟨w1.heap.size, A * 3, none⟩ (.int .i64 (A : Int))).setCell ⟨w1.heap.size, A * 3 + 1, none⟩ (.int .i64 u.byt)).setCell ⟨w1.heap.size, A * 3 + 2, none⟩ (.int .i64 u.fit)) := (((hw.alloc hw.size O).setCell (by show w.heap.size ≤ w1.heap.size; omega) _).setCell (by show w.heap.size ≤ w1.heap.size; omega) _).setCell (by show w.heap.size ≤ w1.heap.size; omega) _
      have hA2 := hA1.other ⟨w1.heap.size, 51, none⟩ (.int .i64 ((M : Int) + 1)) (by show w.heap.size ≠ w1.heap.size; omega)
      have hw2 := hw1.setCell (p := ⟨w1.heap.size, 51, none⟩) (by show w.heap.size ≤ w1.heap.size; omega) (.int .i64 ((M : Int) + 1))
      have z1 : (((((wr.alloc O).setCell ⟨w1.heap.size, A * 3, none⟩ (.int .i64 (A : Int))).setCell ⟨w1.heap.size, A * 3 + 1, none⟩ (.int .i64 u.byt)).setCell ⟨w1.heap.size, A * 3 + 2, none⟩ (.int .i64 u.fit))).cell? ⟨wr.heap.size, 1, none⟩ = some (.int .i64 u.byt) := by
        have h0 : (wr.alloc O).heap[wr.heap.size]? = some O := heap_alloc_new wr O
        have h1 := (heap_setCell_other _ ⟨w1.heap.size, A * 3 + 2, none⟩ wr.heap.size (.int .i64 u.fit) hne.symm).trans ((heap_setCell_other _ ⟨w1.heap.size, A * 3 + 1, none⟩ wr.heap.size (.int .i64 u.byt) hne.symm).trans ((heap_setCell_other (wr.alloc O) ⟨w1.heap.size, A * 3, none⟩ wr.heap.size (.int .i64 (A : Int)) hne.symm).trans h0))
        rw [eO] at h1 ⊢
        rw [cell_of_row _ _ _ _ _ _ h1]
        rfl
      rw [eO] at z1 hA1 hA2 hw1 hw2
      have HA1 := hid hA1
      have HA2 := hid hA2
      have HW1 := hid hw1
      have HW2 := hid hw2
      have HS4 := hid hS4
      have HS5 := hid hS5
      have HEC := hid eC
      have HEM := hid eM
      clear hC hkl hS hS1 hS2 hS3 hS4 hS5 hA1 hA2 hw1 hw2 eW1 eW2 eW3 eF eC eM eO hwA hA hw
      by_cases hz : 0 < u.byt
      · have xz : decide (0 < u.byt) = true := decide_eq_true hz
        have HZ := hid hz
        clear hz
        go_upto_region 5 with fail
        go_big_region
        go_wp2_with fail
        go_roundw
        case rel => exact ⟨k + 1, by omega, by go_num, (show PSlot _ _ _ _ _ _ _ _ _ by
          have := HEC.out
          rw [if_pos HZ.out] at this
          rw [this]
          exact HS5.out), HA2.out, HW2.out.drew⟩
        case measure => simp [intOf]; omega
      · have xz : decide (0 < u.byt) = false := decide_eq_false hz
        have HZ := hid hz
        clear hz
        go_upto_region 5 with fail
        go_big_region
        go_wp2_with fail
        go_roundw
        case rel => exact ⟨k + 1, by omega, by go_num, (show PSlot _ _ _ _ _ _ _ _ _ by
          have := HEC.out
          rw [if_neg HZ.out, Nat.add_zero] at this
          rw [this, HEM.out]
          exact HS4.out), HA1.out, HW1.out.drew⟩
        case measure => simp [intOf]; omega
    · have e : k = nl := by omega
      subst e
      rw [← HNL.out] at hS
      have HS := hid hS
      clear hS hlt
      go_wp2_with fail
      go_ret
      exact ⟨w1.heap.size, w.heap.size, rfl, HS.out, hA, by omega, by omega, Nat.le_refl _, hw⟩
end Go.Proofs.YtmdfjhnibhmdkafDoor
namespace Go.Proofs.YtmdfjhnibhmdkafDoor
open Go.ChangeShapes Go.WideShapes Go.ChangeAt Go.RowKit
def slot0 (l : List UsM) (last : Nat) (opn : Bool) (cr : Nat → Int) : SlM := ⟨last, opn, cr, byF UsM.byt l, []⟩
theorem okU_few {l : List UsM} (h : OkU l) : l.length ≤ 16 := by
  rcases Nat.eq_zero_or_pos l.length with e | e
  · omega
  · have h1 : ∀ k, k < l.length → (k : Int) + 1 ≤ (l.getD k .zero).who := by
      intro k
      induction k with
      | zero => intro hk; have := (h.at hk).1; omega
      | succ k ih =>
        intro hk
        have h2 := ih (by omega)
        have h3 := h.rise 0 k (by omega)
        have e : k + 0 + 1 = k + 1 := by omega
        rw [e] at h3
        omega
    have h2 := h1 (l.length - 1) (by omega)
    have h3 := (h.at (i := l.length - 1) (by omega)).1
    omega
theorem upd_upd (f : Nat → Int) (a : Nat) (x y : Int) : upd (upd f a x) a y = upd f a y := by
  funext b
  unfold upd
  split <;> rfl
theorem SlA.as {T : TypeId} {w00 w : World} {B r go : Nat} {q : Int} {v : Value} {l : List UsM} {blocks : Nat} {s s' : SlM} (h : SlA T w00 w B r go q v l blocks s) (e : s' = s) : SlA T w00 w B r go q v l blocks s' := by rw [e]; exact h
def SlM.came (s : SlM) : SlM := ⟨s.come.last, s.opn, s.cr, s.bw, s.out⟩
theorem serve_le (fits : Nat → Int) (blocks : Nat) : ∀ (f : Nat) (s : SlM), FitOk fits s.bw → ∀ a, (serveM fits blocks f s).bw a ≤ s.bw a
  | 0, s, _, a => Int.le_refl _
  | f + 1, s, hF, a => by
    unfold serveM
    split
    · rename_i hc
      split
      · exact Int.le_refl _
      · refine Int.le_trans (serve_le fits blocks f (s.give fits) (hF.less (give_less s hc.1)) a) ?_
        have := hF.pos s.last hc.1
        show upd s.bw s.last (max (s.bw s.last - fits s.last) 0) a ≤ s.bw a
        by_cases e : a = s.last
        · rw [e, upd_at]; omega
        · rw [upd_ne _ _ e]; exact Int.le_refl _
    · exact Int.le_refl _
theorem visit_le {q : Int} {fits : Nat → Int} {blocks : Nat} {s : SlM} (hF : FitOk fits s.bw) (a : Nat) : (visitM q fits blocks s).bw a ≤ s.bw a := by
  unfold visitM
  split
  · have hl : ∀ t : SlM, t.leave.bw = t.bw := fun t => by unfold SlM.leave; split <;> rfl
    have hg : (s.come.gain q (!s.opn)).bw = s.bw := by unfold SlM.gain; split <;> rfl
    rw [hl]
    have := serve_le fits blocks (blocks + 1) (s.come.gain q (!s.opn)) (by rw [hg]; exact hF) a
    rwa [hg] at this
  · exact Int.le_refl _
def CrU (s : SlM) : Prop := CrB s ∧ ∀ a, s.bw a ≤ 1000000
theorem byF_le {l : List UsM} (h : OkU l) (a : Nat) : 0 ≤ byF UsM.byt l a ∧ byF UsM.byt l a ≤ 1000000 := by
  by_cases hex : ∃ i, i < l.length ∧ (l.getD i .zero).who = (a : Int)
  · obtain ⟨i, hi, e⟩ := hex
    have hf := byF_at (f := UsM.byt) h hi
    rw [e, Int.toNat_natCast] at hf
    rw [hf]
    exact (h.at hi).2.1
  · rw [byF_none fun i hi e => hex ⟨i, hi, e⟩]
    omega
end Go.Proofs.YtmdfjhnibhmdkafDoor
