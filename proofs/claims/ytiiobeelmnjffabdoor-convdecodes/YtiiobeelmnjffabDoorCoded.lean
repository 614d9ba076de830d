import Derived.Test.YtiiobeelmnjffabDoorSoft
namespace Go.Proofs.YtiiobeelmnjffabDoor
open Go.ChangeShapes Go.WideShapes Go.ChangeAt Go.RowKit

/-- The bit at a place, 0 outside. -/
def bitI (zs : List Int) (j : Int) : Int := if j < 0 then 0 else zs.getD j.toNat 0

theorem bitI_bd {zs : List Int} (h : Bits zs) (j : Int) : 0 ≤ bitI zs j ∧ bitI zs j ≤ 1 := by
  unfold bitI
  split
  · omega
  · exact h _

set_option maxHeartbeats 400000 in
theorem coded_at (zs : List Int) (a : Option Addr) (c B : Nat) (j : Int) (w : World) (hB : w.cell? ⟨B, 0, none⟩ = some (.slice a zs.length c)) (ha : Rd .u8 w a zs) :
    Calls Tryd.prog 22 #[.int .i64 j, .pointer (some ⟨B, 0, none⟩)] w fun e w' => e = .returned (.int .u8 (bitI zs j)) ∧ w = w' := by
  by_cases h1 : j < 0
  · have hv := hid (show (0 : Int) = bitI zs j by unfold bitI; rw [if_pos h1])
    go_enter Tryd.func22, Tryd.ntmps22
    go_wp2
    go_ret
    exact ⟨ret_int hv.out, rfl⟩
  · have d1 : decide (j < 0) = false := decide_eq_false h1
    obtain ⟨J, rfl⟩ := Int.eq_ofNat_of_zero_le (show 0 ≤ j by omega)
    by_cases h2 : J < zs.length
    · obtain ⟨b1, o1, rfl, hc1⟩ := ha.at h2
      have g1 := hc1 J h2
      have d2 : decide ((zs.length : Int) ≤ (J : Int)) = false := decide_eq_false (by omega)
      have hv := hid (show zs.getD J 0 = bitI zs J by unfold bitI; rw [if_neg h1, Int.toNat_natCast])
      clear hc1
      obtain ⟨x, ex⟩ : ∃ x, x = zs.getD J 0 := ⟨_, rfl⟩
      rw [← ex] at g1
      have EX := hid ex
      clear ex
      go_enter Tryd.func22, Tryd.ntmps22
      go_wp2
      go_ret
      exact ⟨ret_int (EX.out.trans hv.out), rfl⟩
    · have d2 : decide ((zs.length : Int) ≤ (J : Int)) = true := decide_eq_true (by omega)
      have hv := hid (show (0 : Int) = bitI zs J by
        unfold bitI
        rw [if_neg h1, Int.toNat_natCast]
        simp [List.getD, Nat.le_of_not_lt h2])
      go_enter Tryd.func22, Tryd.ntmps22
      go_wp2
      go_ret
      exact ⟨ret_int hv.out, rfl⟩

/-- The three coded bits of the place i. -/
def trip (zs : List Int) (i : Nat) : List Int :=
  [(bitI zs i + bitI zs (i - 1) + bitI zs (i - 2) + bitI zs (i - 3) + bitI zs (i - 6)) % 2, (bitI zs i + bitI zs (i - 2) + bitI zs (i - 3) + bitI zs (i - 5) + bitI zs (i - 6)) % 2, (bitI zs i + bitI zs (i - 1) + bitI zs (i - 2) + bitI zs (i - 4) + bitI zs (i - 6)) % 2]
def codedTo (zs : List Int) : Nat → List Int
  | 0 => []
  | i + 1 => codedTo zs i ++ trip zs i
theorem codedTo_length (zs : List Int) : ∀ i, (codedTo zs i).length = 3 * i
  | 0 => rfl
  | i + 1 => by rw [codedTo, List.length_append, codedTo_length zs i]; simp [trip]; omega

theorem codedTo_succ (zs : List Int) (i : Nat) : codedTo zs (i + 1) = codedTo zs i ++ trip zs i := rfl

def arrV (zs : List Int) (i k : Nat) : List Int := (List.range 7).map fun j => if j < k then bitI zs ((i : Int) - (j : Int)) else 0
theorem arrV_length (zs : List Int) (i k : Nat) : (arrV zs i k).length = 7 := by simp [arrV]
theorem arrV_at (zs : List Int) (i j : Nat) (h : j < 7) : (arrV zs i 7).getD j 0 = bitI zs ((i : Int) - (j : Int)) := by simp [arrV, List.getD, h]
theorem arrV_set (zs : List Int) (i k : Nat) : (arrV zs i k).set k (bitI zs ((i : Int) - (k : Int))) = arrV zs i (k + 1) := by
  refine List.ext_getElem (by simp [arrV]) fun j h1 h2 => ?_
  rw [List.getElem_set]
  split
  · rename_i e
    subst e
    simp [arrV]
  · rename_i e
    simp only [arrV, List.getElem_map, List.getElem_range]
    by_cases hj : j < k
    · rw [if_pos hj, if_pos (by omega)]
    · rw [if_neg hj, if_neg (by omega)]

theorem arr_cell {w : World} {g : Nat} {L : List Int} {T : TypeId} (hg : w.heap[g]? = some (.cells (L.map (Value.int .u8)).toArray T (0, 0))) {j : Nat} (h : j < L.length) : w.cell? ⟨g, j, none⟩ = some (.int .u8 (L.getD j 0)) := by
  rw [cell_of_row w g j _ T (0, 0) hg]
  simp [List.getD, h]
theorem arr_set {w : World} {g : Nat} {L : List Int} {T : TypeId} (hg : w.heap[g]? = some (.cells (L.map (Value.int .u8)).toArray T (0, 0))) (k : Nat) (x : Int) : (w.setCell ⟨g, k, none⟩ (.int .u8 x)).heap[g]? = some (.cells ((L.set k x).map (Value.int .u8)).toArray T (0, 0)) := by
  rw [heap_setCell_same w g k _ T _ hg, List.map_set]
  simp

theorem trip_eq (zs : List Int) (i : Nat) : trip zs i = [(bitI zs ((i : Int) - ((0 : Nat) : Int)) + bitI zs ((i : Int) - ((1 : Nat) : Int)) + bitI zs ((i : Int) - ((2 : Nat) : Int)) + bitI zs ((i : Int) - ((3 : Nat) : Int)) + bitI zs ((i : Int) - ((6 : Nat) : Int))) % 2,
    (bitI zs ((i : Int) - ((0 : Nat) : Int)) + bitI zs ((i : Int) - ((2 : Nat) : Int)) + bitI zs ((i : Int) - ((3 : Nat) : Int)) + bitI zs ((i : Int) - ((5 : Nat) : Int)) + bitI zs ((i : Int) - ((6 : Nat) : Int))) % 2,
    (bitI zs ((i : Int) - ((0 : Nat) : Int)) + bitI zs ((i : Int) - ((1 : Nat) : Int)) + bitI zs ((i : Int) - ((2 : Nat) : Int)) + bitI zs ((i : Int) - ((4 : Nat) : Int)) + bitI zs ((i : Int) - ((6 : Nat) : Int))) % 2] := by
  unfold trip
  simp

/-- 'append(out, x, y, z)'. -/
theorem wpList_push3 {ops : Array Oper} {rest : List Oper} {o : Oper} {a : Act} {Q : Exit → Act → World → Prop} {w0 : World} {v : Value} {L : List Int} (B : Nat) (w00 : World) (x y z : Int) (hown : Own w0 B v L) (hgd : o.guard = none) (s t : Operand)
    (ho : o.op = .call { callee := .builtin .append, args := #[s, t], argTypes := #[22, 22] }) (hs : a.eval s = v)
    (hx : a.eval t = .slice (some ⟨w0.heap.size, 0, none⟩) 3 3) (hlen : L.length < 70368744177664) (hbel : Below B w00 w0) (hB : B ≤ w0.heap.size)
    (h : ∀ v' w', Own w' B v' (L ++ [x, y, z]) → Below B w00 w' → wpList Tryd.prog ops Q rest (a.put o.dst v') w') : wpList Tryd.prog ops Q (o :: rest) a (w0.alloc (.cells #[.int .u8 x, .int .u8 y, .int .u8 z] 5)) := by
  obtain ⟨i0, hi, hz0, hz1, hz2⟩ := info_parts Tryd.info5
  refine wpList_append_own _ hgd s t 22 ho B 5 i0 (.int .u8 0) 1 1 Tryd.underlying22 hi hz0 hz1 hz2 rfl (by decide) v _ _ hs (World.ownsRow.alloc hown _) ⟨w0.heap.size, 0, none⟩ 3 3 [.int .u8 x, .int .u8 y, .int .u8 z] hx rfl ?_ ?_ ?_ ?_ ?_ ?_
  · intro j u hj
    have e1 : (⟨w0.heap.size, 0, none⟩ : Addr).add j = ⟨w0.heap.size, j, none⟩ := by unfold Addr.add; split <;> simp_all
    rw [e1, cell_of_row _ _ _ _ _ _ (heap_alloc_new w0 _), ← hj]
    simp
  · intro u hu; simp at hu; rcases hu with rfl | rfl | rfl <;> rfl
  · unfold maxLen; omega
  · omega
  · simp; omega
  · intro v' w' h1 h2 _
    refine h v' w' ?_ ((hbel.alloc hB _).grown h2 (by simp; omega) (own_blocks hown))
    unfold Own
    rw [List.length_append, List.map_append]
    exact h1

set_option maxRecDepth 100000 in
set_option maxHeartbeats 2000000 in
theorem rcoded_any (zs : List Int) (a : Option Addr) (c : Nat) (w : World) (ha : Rd .u8 w a zs) (hb : Bits zs) (hz : zs.length ≤ 400) :
    Calls Tryd.prog 10 #[.slice a zs.length c] w fun e w' => ∃ v, e = .returned v ∧ Own w' w.heap.size v (codedTo zs (zs.length + 6)) ∧ Below w.heap.size w w' := by
  go_enter Tryd.func10, Tryd.ntmps10
  have hcb : (w.alloc (.cells #[.slice a zs.length c] 22)).cell? ⟨w.heap.size, 0, none⟩ = some (.slice a zs.length c) := by
    rw [cell_of_row _ _ _ _ _ _ (heap_alloc_new w _)]; rfl
  have hszb : (w.alloc (.cells #[.slice a zs.length c] 22)).heap.size = w.heap.size + 1 := by simp
  have hbb : Below w.heap.size w (w.alloc (.cells #[.slice a zs.length c] 22)) := (Below.refl _ _).alloc (Nat.le_refl _) _
  go_wp2
  generalize hwb : w.alloc (.cells #[.slice a zs.length c] 22) = wb at *
  clear hwb
  have HSZ := hid hszb
  have hszb' : w.heap.size < wb.heap.size := by omega
  clear hszb
  have hab := ha.below hbb
  go_loopw [4, 5] (fun v q wr => ∃ i : Nat, i ≤ zs.length + 6 ∧ q = .int .i64 i ∧ Own wr wb.heap.size v (codedTo zs i) ∧ Below wb.heap.size wb wr) (fun _ q _ => zs.length + 6 - (intOf q).toNat)
  case atStart => exact ⟨0, Nat.zero_le _, rfl, Own.nil _ _, Below.refl _ _⟩
  case round =>
    obtain ⟨i, hi, rfl, hown, hbel⟩ := hrel
    have hcb1 := (hbel.cell (p := ⟨w.heap.size, 0, none⟩) hszb').trans hcb
    by_cases hlt : i < zs.length + 6
    · have hdec : decide ((i : Int) < (zs.length : Int) + 6) = true := decide_eq_true (by omega)
      go_wp2
      obtain ⟨wo, rfl⟩ : ∃ wo : World, wo = wr := ⟨_, rfl⟩
      have hszo := hbel.size
      go_loopw [7] (fun q wr => ∃ k : Nat, k ≤ 7 ∧ q = .int .i64 k ∧ wr.heap[wo.heap.size]? = some (.cells ((arrV zs i k).map (Value.int .u8)).toArray 47 (0, 0)) ∧ Below wo.heap.size wo wr) (fun q _ => 7 - (intOf q).toNat)
      case atStart => exact ⟨0, by omega, rfl, heap_alloc_new wo _, (Below.refl _ _).alloc (Nat.le_refl _) _⟩
      case round =>
        obtain ⟨k, hk, rfl, hg, hbi⟩ := hrel
        have hcb2 := (hbi.cell (p := ⟨w.heap.size, 0, none⟩) (by show w.heap.size < wo.heap.size; omega)).trans hcb1
        have hab2 := (hab.below hbel).below hbi
        by_cases hk7 : k < 7
        · have hcell := arr_cell hg (j := k) (by rw [arrV_length]; exact hk7)
          have hfr := frozen_of_row wr wo.heap.size k _ 47 hg
          go_wp2_with (go_at_call 22; refine (coded_at zs a c w.heap.size ((i : Int) - (k : Int)) _ hcb2 hab2).mono ?_; rintro e w' ⟨rfl, rfl⟩)
          have hset := arr_set hg k (bitI zs ((i : Int) - (k : Int)))
          rw [arrV_set zs i k] at hset
          have hbi' := hbi.setCell (p := ⟨wo.heap.size, k, none⟩) (Nat.le_refl _) (.int .u8 (bitI zs ((i : Int) - (k : Int))))
          go_roundw
          case rel => first | exact ⟨k + 1, by omega, by go_num, hset, hbi'⟩ | ((repeat apply Exists.intro); exact ⟨⟨k + 1, by omega, by go_num, hset, hbi'⟩, rfl⟩)
          case measure => simp [intOf]; omega
        · obtain rfl : k = 7 := by omega
          have c0 := arr_cell hg (j := 0) (by rw [arrV_length]; omega)
          have c1 := arr_cell hg (j := 1) (by rw [arrV_length]; omega)
          have c2 := arr_cell hg (j := 2) (by rw [arrV_length]; omega)
          have c3 := arr_cell hg (j := 3) (by rw [arrV_length]; omega)
          have c4 := arr_cell hg (j := 4) (by rw [arrV_length]; omega)
          have c5 := arr_cell hg (j := 5) (by rw [arrV_length]; omega)
          have c6 := arr_cell hg (j := 6) (by rw [arrV_length]; omega)
          rw [arrV_at _ _ _ (by omega)] at c0 c1 c2 c3 c4 c5 c6
          have hownI := hown.below hbi
          have hbI := hbel.trans (hbi.mono hszo)
          have b0 := bitI_bd hb ((i : Int) - ((0 : Nat) : Int))
          have b1 := bitI_bd hb ((i : Int) - ((1 : Nat) : Int))
          have b2 := bitI_bd hb ((i : Int) - ((2 : Nat) : Int))
          have b3 := bitI_bd hb ((i : Int) - ((3 : Nat) : Int))
          have b4 := bitI_bd hb ((i : Int) - ((4 : Nat) : Int))
          have b5 := bitI_bd hb ((i : Int) - ((5 : Nat) : Int))
          have b6 := bitI_bd hb ((i : Int) - ((6 : Nat) : Int))
          have htr := hid (trip_eq zs i)
          generalize bitI zs ((i : Int) - ((0 : Nat) : Int)) = x0 at *
          generalize bitI zs ((i : Int) - ((1 : Nat) : Int)) = x1 at *
          generalize bitI zs ((i : Int) - ((2 : Nat) : Int)) = x2 at *
          generalize bitI zs ((i : Int) - ((3 : Nat) : Int)) = x3 at *
          generalize bitI zs ((i : Int) - ((4 : Nat) : Int)) = x4 at *
          generalize bitI zs ((i : Int) - ((5 : Nat) : Int)) = x5 at *
          generalize bitI zs ((i : Int) - ((6 : Nat) : Int)) = x6 at *
          clear hg hcb2 hab2
          go_wp2_with (first | (at_builtin; refine wpList_push3 wb.heap.size wb ((x0 + x1 + x2 + x3 + x6) % 2) ((x0 + x2 + x3 + x5 + x6) % 2) ((x0 + x1 + x2 + x4 + x6) % 2) hownI rfl _ _ rfl rfl rfl (by rw [codedTo_length]; omega) hbI hbI.size ?_))
          intro v' w1 hown' hbel'
          rw [← htr.out, ← codedTo_succ] at hown'
          clear hown hbel hownI hbI
          go_wp2
          go_roundw
          case rel => first | exact ⟨i + 1, by omega, by go_num, hown', hbel'⟩ | ((repeat apply Exists.intro); exact ⟨⟨i + 1, by omega, by go_num, hown', hbel'⟩, rfl⟩)
          case measure => simp [intOf]; omega
    · obtain rfl : i = zs.length + 6 := by omega
      go_wp2
      go_ret
      exact ⟨_, rfl, hown.mono hbb.size, bthen hbb hbel⟩
end Go.Proofs.YtiiobeelmnjffabDoor
