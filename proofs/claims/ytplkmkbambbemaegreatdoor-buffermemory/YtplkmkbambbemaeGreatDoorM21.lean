import Derived.Test.YtplkmkbambbemaeGreatDoorM20
import Derived.Test.YtplkmkbambbemaeGreatDoorM06
import Derived.Test.YtplkmkbambbemaeGreatDoorM19
import Derived.OwnWalk
import Derived.Deep.CutRange
import Derived.Test.YtplkmkbambbemaeGreatDoorM16
import Derived.Test.YtplkmkbambbemaeGreatDoorM07
import Derived.Test.YtplkmkbambbemaeGreatDoorM08
namespace Go.Proofs.YtplkmkbambbemaeGreatDoor
open Go.ChangeShapes Go.WideShapes Go.ChangeAt Go.RowKit
theorem run_eqlT {ρ : Operand → Value} (w : World) {o : Oper} {x y : Operand} {p : Int × Int} (ho : o.op = .binOp .eql 44 x y 44) (h : ρ x = .agg #[.int .i64 p.1, .int .i64 p.2]) (h' : ρ y = .agg #[.int .i64 p.1, .int .i64 p.2]) : (execOp ρ o).run Tryz.prog w = .ok (.value (.bool true)) w := by
  have := run_eqlP w ho h h'
  simpa using this
theorem run_neqF {ρ : Operand → Value} (w : World) {o : Oper} {x y : Operand} {p : Int × Int} (ho : o.op = .binOp .neq 44 x y 44) (h : ρ x = .agg #[.int .i64 p.1, .int .i64 p.2]) (h' : ρ y = .agg #[.int .i64 p.1, .int .i64 p.2]) : (execOp ρ o).run Tryz.prog w = .ok (.value (.bool false)) w := by
  have := run_neqP w ho h h'
  simpa using this
set_option maxRecDepth 100000 in
set_option maxHeartbeats 2000000 in
theorem keptP (ps : List (Int × Int)) (x y : Int) (g n : Nat) (a : Option Addr) (c : Nat) (w : World) (hl : ps.length = n) (hz : n ≤ 8796093022208) (har : PArr w g (ps ++ [(x, y), (x, y), (x, y)])) (ha : Pts w a ps) :
    Calls Tryz.prog 16 #[.slice (some ⟨g, 0, none⟩) n (n + 3), .slice a n c, .agg #[.int .i64 x, .int .i64 y]] w fun e w' => e = .returned (.bool true) ∧ Below w.heap.size w w' := by
  have HL := hid hl
  obtain ⟨N, eN⟩ : ∃ N, N = n + 3 := ⟨_, rfl⟩
  have hNI : (n : Int) + 3 = (N : Int) := by rw [eN]; rfl
  have hN1 : n + 3 = N := eN.symm
  have hN2 : N ≤ 8796093022211 := by omega
  have hlt3 : ∀ i, i < 3 → (ps ++ [(x, y), (x, y), (x, y)]).getD (n + i) (0, 0) = (x, y) := fun i hi => by
    have h3 : i = 0 ∨ i = 1 ∨ i = 2 := by omega
    rcases h3 with rfl | rfl | rfl <;> simp [List.getD, ← hl]
  have HM := hid hlt3
  have hb0 : Below w.heap.size w (w.alloc (.cells #[.int .i64 x, .int .i64 y] 44)) := (Below.refl _ w).alloc (Nat.le_refl _) _
  have q0 : (w.alloc (.cells #[.int .i64 x, .int .i64 y] 44)).cell? ⟨w.heap.size, 0, none⟩ = some (.int .i64 x) := by rw [cell_of_row _ _ _ _ _ _ (heap_alloc_new w _)]; rfl
  have q1 : (w.alloc (.cells #[.int .i64 x, .int .i64 y] 44)).cell? ⟨w.heap.size, 1, none⟩ = some (.int .i64 y) := by rw [cell_of_row _ _ _ _ _ _ (heap_alloc_new w _)]; rfl
  have hmix : Tryz.prog.follows .mixedOrders = true := by kernel_rfl
  rw [← eN]
  clear eN hl hlt3
  go_enter Tryz.func16, Tryz.ntmps16
  go_wp2
  generalize w.alloc (.cells #[.int .i64 x, .int .i64 y] 44) = wb at *
  obtain ⟨gP, eP⟩ : ∃ gP, gP = w.heap.size := ⟨_, rfl⟩
  rw [← eP] at q0 q1
  rw [← eP]
  clear eP
  go_loopw [16] (fun i wr => ∃ k : Nat, k ≤ n ∧ i = .int .i64 k ∧ Below wb.heap.size wb wr) (fun i _ => n - (intOf i).toNat)
  case atStart => exact ⟨0, Nat.zero_le _, rfl, Below.refl _ _⟩
  case round =>
    obtain ⟨k, hk, rfl, hbel⟩ := hrel
    have hbw : Below w.heap.size w wr := hb0.trans (hbel.mono hb0.size)
    have har' := har.below hbw har.lt
    by_cases hlt : k < n
    · obtain ⟨b2, o2, rfl, hc2⟩ := (ha.below hbw).at (i := k) (by rw [HL.out]; exact hlt)
      have g2 := hc2 k (by rw [HL.out]; exact hlt)
      have g1 := har'.cells (i := k) (by simp [HL.out]; omega)
      rw [show (ps ++ [(x, y), (x, y), (x, y)]).getD k (0, 0) = ps.getD k (0, 0) by simp only [List.getD, List.getElem?_append_left (show k < ps.length by rw [HL.out]; exact hlt)]] at g1
      generalize ps.getD k (0, 0) = p at *
      clear hc2 har'
      go_upto_region 6 with fail
      refine wp_mono (region_known3 9 [(19, .slice (some ⟨g, 0, none⟩) n N), (20, .int .i64 k), (21, .pointer (some ⟨g, 0 + k * 2, none⟩)), (22, .agg #[.int .i64 p.1, .int .i64 p.2]), (23, .slice (some ⟨b2, o2, none⟩) n c), (24, .int .i64 k), (25, .pointer (some ⟨b2, o2 + k * 2, none⟩)), (26, .agg #[.int .i64 p.1, .int .i64 p.2]), (27, .bool false)]
          [[0], [7], [19, 20], [21], [1], [7], [23, 24], [25], [22, 26]] wr hmix rfl rfl (show ([19, 20, 21, 22, 23, 24, 25, 26, 27] : List Nat).Nodup by decide) (by kernel_rfl) (by kernel_rfl) (by kernel_rfl) (by kernel_rfl) (fun i' hi' ac wc hbc hr Q K hK => by
          have h9 : i' = 0 ∨ i' = 1 ∨ i' = 2 ∨ i' = 3 ∨ i' = 4 ∨ i' = 5 ∨ i' = 6 ∨ i' = 7 ∨ i' = 8 := by omega
          have c1 : wc.cell? ⟨g, 0 + k * 2, none⟩ = some (.int .i64 p.1) ∧ wc.cell? ⟨g, 0 + k * 2 + 1, none⟩ = some (.int .i64 p.2) := by rw [Nat.zero_add]; exact ⟨(hbc.cell (World.block_lt_of_cell? wr _ g1.1)).trans g1.1, (hbc.cell (World.block_lt_of_cell? wr _ g1.2)).trans g1.2⟩
          have c2 : wc.cell? ⟨b2, o2 + k * 2, none⟩ = some (.int .i64 p.1) ∧ wc.cell? ⟨b2, o2 + k * 2 + 1, none⟩ = some (.int .i64 p.2) := ⟨(hbc.cell (World.block_lt_of_cell? wr _ g2.1)).trans g2.1, (hbc.cell (World.block_lt_of_cell? wr _ g2.2)).trans g2.2⟩
          rcases h9 with rfl | rfl | rfl | rfl | rfl | rfl | rfl | rfl | rfl
          · exact op_value rfl rfl (run_moveQ wc rfl (hr 0 (by decide))) (hK wc hbc)
          · exact op_value rfl rfl (run_moveQ wc rfl (hr 7 (by decide))) (hK wc hbc)
          · exact op_value rfl rfl (run_idxM wc rfl (hr 19 (by decide)) (hr 20 (by decide)) hlt) (hK wc hbc)
          · exact op_value rfl rfl (run_loadM wc rfl (hr 21 (by decide)) c1) (hK wc hbc)
          · exact op_value rfl rfl (run_moveQ wc rfl (hr 1 (by decide))) (hK wc hbc)
          · exact op_value rfl rfl (run_moveQ wc rfl (hr 7 (by decide))) (hK wc hbc)
          · exact op_value rfl rfl (run_idxM wc rfl (hr 23 (by decide)) (hr 24 (by decide)) hlt) (hK wc hbc)
          · exact op_value rfl rfl (run_loadM wc rfl (hr 25 (by decide)) c2) (hK wc hbc)
          · exact op_value rfl rfl (run_neqF wc rfl (hr 22 (by decide)) (hr 26 (by decide))) (hK wc hbc))) ?_
      rintro e a' w' ⟨rfl, rfl, hbw'⟩
      have hbel' : Below wb.heap.size wb w' := hbel.trans (hbw'.mono hbel.size)
      dsimp only [setAll, List.set]
      clear hbw' hbel g1 g2
      go_wp2
      go_roundw
      case rel => exact ⟨k + 1, by omega, by go_num, hbel'⟩
      case measure => simp [intOf]; omega
    · have d0 := har'.cells (i := n + 0) (by simp [HL.out])
      have d1 := har'.cells (i := n + 1) (by simp [HL.out])
      have d2 := har'.cells (i := n + 2) (by simp [HL.out])
      rw [HM.out 0 (by omega)] at d0
      rw [HM.out 1 (by omega)] at d1
      rw [HM.out 2 (by omega)] at d2
      have r0 := (hbel.cell (World.block_lt_of_cell? wb _ q0)).trans q0
      have r1 := (hbel.cell (World.block_lt_of_cell? wb _ q1)).trans q1
      clear har'
      go_upto_region 10 with fail
      have hc : ∀ (wc : World), Below wr.heap.size wr wc → ∀ q v, wr.cell? q = some v → wc.cell? q = some v := fun wc hbc q v h => (hbc.cell (World.block_lt_of_cell? wr _ h)).trans h
      refine wp_mono (region_known3 20 [(36, .slice (some ⟨g, n * 2, none⟩) (N - n) (N - n)), (37, .pointer (some ⟨g, n * 2 + 0 * 2, none⟩)), (38, .agg #[.int .i64 x, .int .i64 y]), (39, .agg #[.int .i64 x, .int .i64 y]), (40, .bool true), (41, .bool true), (42, .slice (some ⟨g, n * 2, none⟩) (N - n) (N - n)), (43, .pointer (some ⟨g, n * 2 + 1 * 2, none⟩)), (44, .agg #[.int .i64 x, .int .i64 y]), (45, .agg #[.int .i64 x, .int .i64 y]), (46, .bool true), (47, .bool true), (48, .bool true), (49, .slice (some ⟨g, n * 2, none⟩) (N - n) (N - n)), (50, .pointer (some ⟨g, n * 2 + 2 * 2, none⟩)), (51, .agg #[.int .i64 x, .int .i64 y]), (52, .agg #[.int .i64 x, .int .i64 y]), (53, .bool true), (54, .bool true), (6, .bool true)]
          [[8], [36], [37], [5], [38, 39], [40], [8, 41], [42, 41], [43, 41], [5, 41], [44, 45, 41], [41, 46], [47], [8, 48], [49, 48], [50, 48], [5, 48], [51, 52, 48], [48, 53], [54]] wr hmix rfl rfl (show ([36, 37, 38, 39, 40, 41, 42, 43, 44, 45, 46, 47, 48, 49, 50, 51, 52, 53, 54, 6] : List Nat).Nodup by decide) (by kernel_rfl) (by kernel_rfl) (by kernel_rfl) (by kernel_rfl) (fun i' hi' ac wc hbc hr Q K hK => by
          have h20 : i' = 0 ∨ i' = 1 ∨ i' = 2 ∨ i' = 3 ∨ i' = 4 ∨ i' = 5 ∨ i' = 6 ∨ i' = 7 ∨ i' = 8 ∨ i' = 9 ∨ i' = 10 ∨ i' = 11 ∨ i' = 12 ∨ i' = 13 ∨ i' = 14 ∨ i' = 15 ∨ i' = 16 ∨ i' = 17 ∨ i' = 18 ∨ i' = 19 := by omega
          have eb : wc.cell? ⟨gP, 0, none⟩ = some (.int .i64 x) ∧ wc.cell? ⟨gP, 0 + 1, none⟩ = some (.int .i64 y) := ⟨hc wc hbc _ _ r0, hc wc hbc _ _ r1⟩
          have e0 : wc.cell? ⟨g, n * 2 + 0 * 2, none⟩ = some (.int .i64 x) ∧ wc.cell? ⟨g, n * 2 + 0 * 2 + 1, none⟩ = some (.int .i64 y) := by rw [← Nat.add_mul]; exact ⟨hc wc hbc _ _ d0.1, hc wc hbc _ _ d0.2⟩
          have e1 : wc.cell? ⟨g, n * 2 + 1 * 2, none⟩ = some (.int .i64 x) ∧ wc.cell? ⟨g, n * 2 + 1 * 2 + 1, none⟩ = some (.int .i64 y) := by rw [← Nat.add_mul]; exact ⟨hc wc hbc _ _ d1.1, hc wc hbc _ _ d1.2⟩
          have e2 : wc.cell? ⟨g, n * 2 + 2 * 2, none⟩ = some (.int .i64 x) ∧ wc.cell? ⟨g, n * 2 + 2 * 2 + 1, none⟩ = some (.int .i64 y) := by rw [← Nat.add_mul]; exact ⟨hc wc hbc _ _ d2.1, hc wc hbc _ _ d2.2⟩
          rcases h20 with rfl | rfl | rfl | rfl | rfl | rfl | rfl | rfl | rfl | rfl | rfl | rfl | rfl | rfl | rfl | rfl | rfl | rfl | rfl | rfl
          · exact op_value rfl rfl (run_moveQ wc rfl (hr 8 (by decide))) (hK wc hbc)
          · exact op_value rfl rfl (run_idxM (j := 0) wc rfl (hr 36 (by decide)) rfl (by omega)) (hK wc hbc)
          · exact op_value rfl rfl (run_loadM (p := (x, y)) wc rfl (hr 37 (by decide)) e0) (hK wc hbc)
          · exact op_value rfl rfl (run_loadM (p := (x, y)) wc rfl (hr 5 (by decide)) eb) (hK wc hbc)
          · exact op_value rfl rfl (run_eqlT (p := (x, y)) wc rfl (hr 38 (by decide)) (hr 39 (by decide))) (hK wc hbc)
          · exact op_value rfl rfl (run_moveQ wc rfl (hr 40 (by decide))) (hK wc hbc)
          · exact op_valueG rfl rfl rfl rfl (hr 41 (by decide)) (run_moveQ wc rfl (hr 8 (by decide))) (hK wc hbc)
          · exact op_valueG rfl rfl rfl rfl (hr 41 (by decide)) (run_idxM (j := 1) wc rfl (hr 42 (by decide)) rfl (by omega)) (hK wc hbc)
          · exact op_valueG rfl rfl rfl rfl (hr 41 (by decide)) (run_loadM (p := (x, y)) wc rfl (hr 43 (by decide)) e1) (hK wc hbc)
          · exact op_valueG rfl rfl rfl rfl (hr 41 (by decide)) (run_loadM (p := (x, y)) wc rfl (hr 5 (by decide)) eb) (hK wc hbc)
          · exact op_valueG rfl rfl rfl rfl (hr 41 (by decide)) (run_eqlT (p := (x, y)) wc rfl (hr 44 (by decide)) (hr 45 (by decide))) (hK wc hbc)
          · exact op_value rfl rfl (run_pickQ wc rfl (hr 41 (by decide)) (hr 46 (by decide))) (hK wc hbc)
          · exact op_value rfl rfl (run_moveQ wc rfl (hr 47 (by decide))) (hK wc hbc)
          · exact op_valueG rfl rfl rfl rfl (hr 48 (by decide)) (run_moveQ wc rfl (hr 8 (by decide))) (hK wc hbc)
          · exact op_valueG rfl rfl rfl rfl (hr 48 (by decide)) (run_idxM (j := 2) wc rfl (hr 49 (by decide)) rfl (by omega)) (hK wc hbc)
          · exact op_valueG rfl rfl rfl rfl (hr 48 (by decide)) (run_loadM (p := (x, y)) wc rfl (hr 50 (by decide)) e2) (hK wc hbc)
          · exact op_valueG rfl rfl rfl rfl (hr 48 (by decide)) (run_loadM (p := (x, y)) wc rfl (hr 5 (by decide)) eb) (hK wc hbc)
          · exact op_valueG rfl rfl rfl rfl (hr 48 (by decide)) (run_eqlT (p := (x, y)) wc rfl (hr 51 (by decide)) (hr 52 (by decide))) (hK wc hbc)
          · exact op_value rfl rfl (run_pickQ wc rfl (hr 48 (by decide)) (hr 53 (by decide))) (hK wc hbc)
          · exact op_value rfl rfl (run_assignR wc rfl (hr 54 (by decide))) (hK wc hbc))) ?_
      rintro e a' w' ⟨rfl, rfl, hbw'⟩
      have hfin : Below w.heap.size w w' := hbw.trans (hbw'.mono hbw.size)
      dsimp only [setAll, List.set]
      clear hbw' hbel d0 d1 d2 r0 r1 hc
      go_wp2
      go_ret
      exact ⟨rfl, hfin⟩
end Go.Proofs.YtplkmkbambbemaeGreatDoor
namespace Go.Proofs.YtplkmkbambbemaeGreatDoor
open Go.ChangeShapes Go.WideShapes Go.ChangeAt Go.RowKit
theorem keptNoneK {S : List Nat} {w w' : World} (h : w.grownBy w' none) : Kept S w w' := ⟨h.os, h.tape, h.output, h.size, fun k hk _ => h.block k hk (by simp)⟩
theorem kept_grownK {w w' : World} {g : Nat} (h : w.grownBy w' (some g)) : Kept [g] w w' := ⟨h.os, h.tape, h.output, h.size, fun k hk hn => h.block k hk (fun e => hn (by simpa using e))⟩
set_option maxRecDepth 100000 in
set_option maxHeartbeats 1000000 in
theorem spoiltIK (m : Int) (g n cap : Nat) (cur : Array Value) (w : World) (hblk : w.heap[g]? = some (.cells cur 3 (0, 0))) (hnc : n ≤ cap) (hcm : cap ≤ maxLen) (hcs : cur.size = cap) (hz : n ≤ 17592186043904) :
    Calls Tryz.prog 9 #[.slice (some ⟨g, 0, none⟩) n cap, .int .i64 m] w fun e w' => e = .returned (.tuple #[]) ∧ Kept [g] w w' := by
  obtain ⟨i0, hi, hz0, hz1, hz2⟩ := info_parts Tryz.info3
  have hgw : g < w.heap.size := (Array.getElem?_eq_some_iff.1 hblk).1
  have hB : g ≤ w.heap.size := Nat.le_of_lt hgw
  have hg : g ≤ g := Nat.le_refl _
  clear hgw
  have hcm' : cap ≤ 9223372036854775807 := by unfold maxLen at hcm; omega
  go_enter Tryz.func9, Tryz.ntmps9
  go_wp2
  go_loopw [12] (fun q wr => ∃ (i : Nat) (cur' : Array Value), i ≤ cap ∧ q = .int .i64 i ∧ wr.heap[g]? = some (.cells cur' 3 (0, 0)) ∧ Hid (cur'.size = cap) ∧ Kept [g] w wr) (fun q _ => cap - (intOf q).toNat)
  case atStart => exact ⟨0, cur, Nat.zero_le _, rfl, hblk, hcs, Kept.refl _ _⟩
  case round =>
    obtain ⟨i, cur', hi', rfl, hb', HCS, hkept⟩ := hrel
    by_cases hlt : i < cap
    · have hc : wr.cell? ⟨g, i, none⟩ = some (cur'[i]'(by rw [HCS.out]; exact hlt)) := by
        rw [cell_of_row _ _ _ _ _ _ hb']
        simp [HCS.out, hlt]
      have hf := frozen_of_row wr g i _ _ hb'
      generalize cur'[i]'(by rw [HCS.out]; exact hlt) = x at hc
      have hset := heap_setCell_same wr g i _ _ (.int .i64 m) hb'
      have hkept' := hkept.setCell (p := ⟨g, i, none⟩) (by simp) (.int .i64 m)
      clear hb' hkept
      go_wp2
      go_roundw
      case rel => exact ⟨i + 1, _, by omega, by go_num, hset, by unfold Hid; simp [HCS.out], hkept'⟩
      case measure => simp [intOf]; omega
    · have hown := own_of_block (n := n) hg hb' hnc hcm HCS.out
      have hown' := World.ownsRow.alloc hown (.cells #[.int .i64 m, .int .i64 m, .int .i64 m] 3)
      have hbr : Kept [g] w wr := hkept
      have hb1 := hbr.alloc (.cells #[.int .i64 m, .int .i64 m, .int .i64 m] 3)
      have HC3 := hid (three_new .i64 m 3 wr)
      have hBr : g ≤ wr.heap.size := Nat.le_trans hB hbr.size
      obtain ⟨xs, exs⟩ : ∃ xs, xs = cur'.toList.take n := ⟨_, rfl⟩
      rw [← exs] at hown'
      clear exs hown hb' hkept hi'
      go_wp2_with (first
        | (at_builtin; refine wpList_append_own _ rfl _ _ 22 rfl g 3 i0 (.int .i64 0) 1 8 Tryz.underlying22 hi hz0 hz1 hz2 rfl (by decide) (.slice (some ⟨g, 0, none⟩) n cap) n xs rfl hown' ⟨wr.heap.size, 0, none⟩ 3 3 [.int .i64 m, .int .i64 m, .int .i64 m] rfl rfl HC3.out (fun u hu => by simp at hu; subst hu; rfl) (by unfold maxLen; omega) (by omega) (by simp; omega) ?_))
      intro v' w' _ hg' _
      have hb2 := hb1.trans (kept_grownK hg')
      go_wp2
      go_end0
      exact ⟨rfl, hb2⟩
set_option maxRecDepth 100000 in
set_option maxHeartbeats 1000000 in
theorem spoiltPK (x y : Int) (v : Value) (n : Nat) (ys : List Value) (B : Nat) (S : List Nat) (w : World) (hown : w.ownsRow B 44 2 v n ys) (hB : B ≤ w.heap.size) (hS : ∀ k, v.ownBlock = some k → k ∈ S) (hz : n ≤ 1000000) :
    Calls Tryz.prog 17 #[v, .agg #[.int .i64 x, .int .i64 y]] w fun e w' => e = .returned (.tuple #[]) ∧ Kept S w w' := by
  obtain ⟨i0, hi, hz0, hz1, hz2⟩ := info_parts Tryz.infoQ
  have hb0 : Kept S w (w.alloc (.cells #[.int .i64 x, .int .i64 y] 44)) := (Kept.refl _ w).alloc _
  have q0 : (w.alloc (.cells #[.int .i64 x, .int .i64 y] 44)).cell? ⟨w.heap.size, 0, none⟩ = some (.int .i64 x) := by rw [cell_of_row _ _ _ _ _ _ (heap_alloc_new w _)]; rfl
  have q1 : (w.alloc (.cells #[.int .i64 x, .int .i64 y] 44)).cell? ⟨w.heap.size, 1, none⟩ = some (.int .i64 y) := by rw [cell_of_row _ _ _ _ _ _ (heap_alloc_new w _)]; rfl
  rcases own_block2 hown with rfl | ⟨g, cap, cur, rfl, hg, hblk, hnc, hcm, hcs⟩
  · clear hown
    go_enter Tryz.func17, Tryz.ntmps17
    go_wp2
    generalize w.alloc (.cells #[.int .i64 x, .int .i64 y] 44) = wb at *
    go_loopw [12] (fun q wr => q = .int .i64 0 ∧ wr = wb) (fun _ _ => 0)
    case atStart => exact ⟨rfl, rfl⟩
    case round =>
      obtain ⟨rfl, rfl⟩ := hrel
      have hown' := World.ownsRow.alloc (World.ownsRow_nil wr B 44 2) (.cells #[.int .i64 x, .int .i64 y, .int .i64 x, .int .i64 y, .int .i64 x, .int .i64 y] 44)
      have HC3 := hid (six_new x y 44 wr)
      have hBr : B ≤ wr.heap.size := Nat.le_trans hB hb0.size
      have hb1 := hb0.alloc (.cells #[.int .i64 x, .int .i64 y, .int .i64 x, .int .i64 y, .int .i64 x, .int .i64 y] 44)
      go_wp2_with (first
        | (at_builtin; refine wpList_append_own _ rfl _ _ 36 rfl B 44 i0 (.agg #[.int .i64 0, .int .i64 0]) 2 16 Tryz.underlying36 hi hz0 hz1 hz2 rfl (by decide) (.slice none 0 0) 0 [] rfl hown' ⟨wr.heap.size, 0, none⟩ 3 3 [.int .i64 x, .int .i64 y, .int .i64 x, .int .i64 y, .int .i64 x, .int .i64 y] rfl rfl HC3.out (cellsQ_one [(x, y), (x, y), (x, y)]) (by unfold maxLen; omega) (by omega) (by simp; omega) ?_))
      intro v' w' _ hg' _
      have hb2 := hb1.trans (keptNoneK hg')
      go_wp2
      go_end0
      exact ⟨rfl, hb2⟩
  · have hcm' : cap ≤ 9223372036854775807 := by unfold maxLen at hcm; omega
    have hgS : g ∈ S := hS g rfl
    have hgw : g < w.heap.size := (Array.getElem?_eq_some_iff.1 hblk).1
    have hblkb : (w.alloc (.cells #[.int .i64 x, .int .i64 y] 44)).heap[g]? = some (.cells cur 44 (0, 0)) := (Below.heap_alloc _ _ _ hgw).trans hblk
    clear hown hblk
    go_enter Tryz.func17, Tryz.ntmps17
    go_wp2
    generalize w.alloc (.cells #[.int .i64 x, .int .i64 y] 44) = wb at *
    obtain ⟨gP, eP⟩ : ∃ gP, gP = w.heap.size := ⟨_, rfl⟩
    rw [← eP] at q0 q1 hgw
    rw [← eP]
    clear eP
    go_loopw [12] (fun q wr => ∃ (i : Nat) (cur' : Array Value), i ≤ cap ∧ q = .int .i64 i ∧ wr.heap[g]? = some (.cells cur' 44 (0, 0)) ∧ Hid (cur'.size = cap * 2) ∧ Kept [g] wb wr) (fun q _ => cap - (intOf q).toNat)
    case atStart => exact ⟨0, cur, Nat.zero_le _, rfl, hblkb, hcs, Kept.refl _ _⟩
    case round =>
      obtain ⟨i, cur', hi', rfl, hb', HCS, hkept⟩ := hrel
      have r0 := hkept.cellO q0 (by simp; omega)
      have r1 := hkept.cellO q1 (by simp; omega)
      by_cases hlt : i < cap
      · have ht := hid (there_block2 hb' HCS.out hlt)
        obtain ⟨cur2, hset, hsz2⟩ := set_block2 (i := i) (.int .i64 x) (.int .i64 y) hb' HCS.out
        have hkept' : Kept [g] wb (wr.setCells g (i * 2) [.int .i64 x, .int .i64 y]) := (hkept.setCell (p := ⟨g, i * 2, none⟩) (by simp) _).setCell (p := ⟨g, i * 2 + 1, none⟩) (by simp) _
        have HS2 := hid hsz2
        clear hb' hkept hsz2
        go_wp2_with (refine wpList_store_mid rfl 44 _ _ rfl g (i * 2) #[.int .i64 x, .int .i64 y] rfl rfl ht.out Tryz.sizeQ (by simp; exact ⟨rfl, rfl⟩) ?_)
        generalize wr.setCells g (i * 2) [.int .i64 x, .int .i64 y] = w2 at *
        go_wp2
        go_roundw
        case rel => exact ⟨i + 1, _, by omega, by go_num, hset, HS2, hkept'⟩
        case measure => simp [intOf]; omega
      · have hown := own_of_block2 (n := n) hg hb' hnc hcm HCS.out
        have hown' := World.ownsRow.alloc hown (.cells #[.int .i64 x, .int .i64 y, .int .i64 x, .int .i64 y, .int .i64 x, .int .i64 y] 44)
        have hbr : Kept S w wr := hb0.trans (hkept.wider (by simpa using hgS))
        have hBr : B ≤ wr.heap.size := Nat.le_trans hB hbr.size
        have hb1 := hbr.alloc (.cells #[.int .i64 x, .int .i64 y, .int .i64 x, .int .i64 y, .int .i64 x, .int .i64 y] 44)
        have HC3 := hid (six_new x y 44 wr)
        obtain ⟨xs, exs⟩ : ∃ xs, xs = cur'.toList.take (n * 2) := ⟨_, rfl⟩
        rw [← exs] at hown'
        clear exs hown hb' hkept hi'
        go_wp2_with (first
          | (at_builtin; refine wpList_append_own _ rfl _ _ 36 rfl B 44 i0 (.agg #[.int .i64 0, .int .i64 0]) 2 16 Tryz.underlying36 hi hz0 hz1 hz2 rfl (by decide) (.slice (some ⟨g, 0, none⟩) n cap) n xs rfl hown' ⟨wr.heap.size, 0, none⟩ 3 3 [.int .i64 x, .int .i64 y, .int .i64 x, .int .i64 y, .int .i64 x, .int .i64 y] rfl rfl HC3.out (cellsQ_one [(x, y), (x, y), (x, y)]) (by unfold maxLen; omega) (by omega) (by simp; omega) ?_))
        intro v' w' _ hg' _
        have hb2 := hb1.trans ((kept_grownK hg').wider (by simpa using hgS))
        go_wp2
        go_end0
        exact ⟨rfl, hb2⟩
end Go.Proofs.YtplkmkbambbemaeGreatDoor
namespace Go.Proofs.YtplkmkbambbemaeGreatDoor
open Go.ChangeShapes Go.WideShapes Go.ChangeAt Go.RowKit
def ShpCells (w : World) (b o : Nat) (t : Int × Int × Int) : Prop := w.cell? ⟨b, o, none⟩ = some (.int .i64 t.1) ∧ w.cell? ⟨b, o + 1, none⟩ = some (.int .i64 t.2.1) ∧ w.cell? ⟨b, o + 2, none⟩ = some (.int .i64 t.2.2)
def Shps (w : World) (a : Option Addr) (ts : List (Int × Int × Int)) : Prop := ts ≠ [] → ∃ b off, a = some ⟨b, off, none⟩ ∧ ∀ i, i < ts.length → ShpCells w b (off + i * 3) (ts.getD i (0, 0, 0))
theorem Shps.at {w : World} {a : Option Addr} {ts : List (Int × Int × Int)} (h : Shps w a ts) {i : Nat} (hi : i < ts.length) : ∃ b off, a = some ⟨b, off, none⟩ ∧ ∀ i, i < ts.length → ShpCells w b (off + i * 3) (ts.getD i (0, 0, 0)) := h (by rintro rfl; simp at hi)
theorem cell_old {w w' : World} (hb : Below w.heap.size w w') {p : Addr} {v : Value} (h : w.cell? p = some v) : w'.cell? p = some v := (hb.cell (World.block_lt_of_cell? w _ h)).trans h
theorem Shps.below {w w' : World} {a : Option Addr} {ts : List (Int × Int × Int)} (h : Shps w a ts) (hb : Below w.heap.size w w') : Shps w' a ts := by
  intro hne
  obtain ⟨b, off, rfl, hc⟩ := h hne
  refine ⟨b, off, rfl, fun i hi => ?_⟩
  obtain ⟨h1, h2, h3⟩ := hc i hi
  exact ⟨cell_old hb h1, cell_old hb h2, cell_old hb h3⟩
theorem builtM_few {S : Setg} {s : ByteArray} {B : Int} (hS : SetOk S B) (v : Nat) : (builtM S s v).length ≤ 4096 := by
  have e : (builtM S s v).length = S.count.toNat / S.order.toNat := by unfold builtM; simp [sentM]
  rw [e]
  have := hS.count
  exact Nat.le_trans (Nat.div_le_self _ _) (by omega)
end Go.Proofs.YtplkmkbambbemaeGreatDoor
namespace Go.Proofs.YtplkmkbambbemaeGreatDoor
open Go.ChangeShapes Go.WideShapes Go.ChangeAt Go.RowKit
theorem build_back {s : ByteArray} {S : Setg} (hIn : S.In) (hE : setErr S s.size = 0) (m : Nat) (hm : ∀ v, (builtM S s v).length = m) (v : Nat) (hv : v ≤ 3) (w : World) (hR : ReadyL w) :
    Calls Tryz.prog 12 #[.string s, S.val, .int .i64 (v : Int)] w fun e w' => ∃ g, e = .returned (.tuple #[.slice (some ⟨g, 0, none⟩) m m, .int .i64 0]) ∧ Pts w' (some ⟨g, 0, none⟩) (builtM S s v) ∧ w.heap.size ≤ g ∧ Below w.heap.size w w' := by
  refine (lbuild_ok s S v w hR hIn hE hv).mono fun e w' h => ?_
  obtain ⟨g, n, rfl, hb, ho⟩ := h
  obtain ⟨a, c, e, -, -⟩ := ho.shape
  have hn : n = m := by
    have := hm v
    cases e
    exact this
  subst hn
  exact ⟨g, rfl, ho.pts, OwnT.blocks (T := 44) ho g rfl, hb⟩
theorem Pts.keptK {w w' : World} {a : Option Addr} {ps : List (Int × Int)} {L : List Nat} (h : Pts w a ps) (hk : Kept L w w') (hs : ∀ g o, a = some ⟨g, o, none⟩ → ps ≠ [] → g ∉ L) : Pts w' a ps := by
  intro hne
  obtain ⟨b, off, rfl, hc⟩ := h hne
  refine ⟨b, off, rfl, fun i hi => ?_⟩
  obtain ⟨h1, h2⟩ := hc i hi
  exact ⟨hk.cellO h1 (hs b off rfl hne), hk.cellO h2 (hs b off rfl hne)⟩
theorem EarP.keptA {w w' : World} {p : Addr} {F L : List Nat} {S : Setg} {B : Nat} {s : List Int} (h : EarP w p F S B s) (hk : Kept L w w') (hs : ∀ x ∈ F, x ∉ L) : EarP w' p F S B s := BufR.kept h hk hs
end Go.Proofs.YtplkmkbambbemaeGreatDoor
namespace Go.Proofs.YtplkmkbambbemaeGreatDoor
open Go.ChangeShapes Go.WideShapes Go.ChangeAt Go.RowKit
set_option linter.unusedVariables false
theorem packOne : strOfNums (packL [1]) = { data := #[128] } := by decide +kernel
theorem errOne : errOf [1] = 0 := by decide +kernel
set_option maxRecDepth 100000 in
theorem there_any (w : World) : Calls Tryz.prog 5 #[] w fun e w' => e = .returned (.bool true) ∧ Below w.heap.size w w' := by
  have hr : Rd .u8 (w.alloc (.cells #[.int .u8 1] 5)) (some ⟨w.heap.size, 0, none⟩) [1] := rd_block (zs := [1]) (heap_alloc_new w _)
  have hp := pack_ok [1] (some ⟨w.heap.size, 0, none⟩) 1 (w.alloc (.cells #[.int .u8 1] 5)) hr (fun j => by
    match j with
    | 0 => simp
    | j + 1 => simp) (by simp) errOne
  rw [packOne] at hp
  have hb0 : Below w.heap.size w (w.alloc (.cells #[.int .u8 1] 5)) := (Below.refl _ w).alloc (Nat.le_refl _) _
  clear hr
  go_enter Tryz.func5, Tryz.ntmps5
  go_wp2_with (go_at_call 19; refine hp.mono ?_; rintro e w1 ⟨rfl, hb1⟩)
  go_ret
  exact ⟨rfl, bthen hb0 hb1⟩
theorem pts_of_parr {w : World} {g : Nat} {ps ms : List (Int × Int)} (h : PArr w g (ps ++ ms)) : Pts w (some ⟨g, 0, none⟩) ps := by
  intro _
  refine ⟨g, 0, rfl, fun i hi => ?_⟩
  have := h.cells (i := i) (by simp; omega)
  rw [show (ps ++ ms).getD i (0, 0) = ps.getD i (0, 0) by simp only [List.getD, List.getElem?_append_left hi]] at this
  rw [Nat.zero_add]
  exact this
theorem parr_kept {w w' : World} {g : Nat} {ps : List (Int × Int)} {L : List Nat} (h : PArr w g ps) (hk : Kept L w w') (hg : g ∉ L) : PArr w' g ps := (hk.block g (Array.getElem?_eq_some_iff.1 h).1 hg).trans h
theorem parr_lt {w : World} {g : Nat} {ps : List (Int × Int)} (h : PArr w g ps) : g < w.heap.size := (Array.getElem?_eq_some_iff.1 h).1
theorem bufP_kept {w w' : World} {p : Addr} {F L : List Nat} {s : List Int} (h : BufP w p F s) (hk : Kept L w w') (hs : ∀ x ∈ F, x ∉ L) : BufP w' p F s := BufR.kept h hk hs
/-- What is asked of an ear, twice the same. -/
theorem take_back {S : Setg} {s : ByteArray} (hS : SetOk S s.size) {w : World} {p : Addr} {F : List Nat} {sm : List Int} (L : List (Int × Int)) (m : Nat) (hL : L.length = m) (hm : m ≤ 4096) (g c : Nat) (hR : ReadyL w) (hE : EarP w p F S s.size sm) (hsl : (sm.length : Int) = codedN S s.size) (hso : softOk sm = true) (hP : Pts w (some ⟨g, 0, none⟩) L) :
    Calls Tryz.prog 15 #[.pointer (some p), .slice (some ⟨g, 0, none⟩) m c, .int .i64 0] w fun e w' => e = .returned (.tuple #[.string (earSays S s.size sm L 0).data, .bool (earSays S s.size sm L 0).ok, .int .i64 (earSays S s.size sm L 0).err]) ∧ ∃ F', EarP w' p F' S s.size (earNext S sm L 0) ∧ (∀ x ∈ F', x ∈ F ∨ w.heap.size ≤ x) ∧ Kept [p.block] w w' :=
  ltake_any L (some ⟨g, 0, none⟩) m c 0 hR hE hS hsl hso hP hL (by omega)
set_option maxRecDepth 100000 in
set_option maxHeartbeats 8000000 in
theorem bufmem_bad_err (n : Int) (zs : List Int) (az : Option Addr) (nz cz : Nat) (s : ByteArray) (S : Setg) (w : World) (hR : ReadyL w) (hIn : S.In) (hs : I64k (s.size : Int)) (hZ : Rd .i64 w az zs) (hzl : zs.length = nz) (hzn : az = none → nz = 0 ∧ cz = 0) (hz9 : nz ≤ 17592186043904) (hn : n < 1 ∨ 4096 < n) (hE : buildErr S s.size 0 ≠ 0) :
    Calls Tryz.prog 3 #[.int .i64 n, .slice az nz cz, .string s, S.val] w fun e w' => e = .returned (.bool true) ∧ Below w.heap.size w w' := by
  have hs2 := hs.2
  have HCC : Hid (∀ wz, Below (w.alloc (.cells #[.int .i64 S.code, .int .i64 S.size, .int .i64 S.order, .int .i64 S.seed, .int .i64 S.count] 24)).heap.size (w.alloc (.cells #[.int .i64 S.code, .int .i64 S.size, .int .i64 S.order, .int .i64 S.seed, .int .i64 S.count] 24)) wz → wz.cell? ⟨w.heap.size, 0, none⟩ = some (.int .i64 S.code) ∧ wz.cell? ⟨w.heap.size, 1, none⟩ = some (.int .i64 S.size) ∧ wz.cell? ⟨w.heap.size, 2, none⟩ = some (.int .i64 S.order) ∧ wz.cell? ⟨w.heap.size, 3, none⟩ = some (.int .i64 S.seed) ∧ wz.cell? ⟨w.heap.size, 4, none⟩ = some (.int .i64 S.count)) := fun wz h => set_cells h
  have hb0 : Below w.heap.size w (w.alloc (.cells #[.int .i64 S.code, .int .i64 S.size, .int .i64 S.order, .int .i64 S.seed, .int .i64 S.count] 24)) := (Below.refl _ w).alloc (Nat.le_refl _) _
  have hl0 : w.heap.size < (w.alloc (.cells #[.int .i64 S.code, .int .i64 S.size, .int .i64 S.order, .int .i64 S.seed, .int .i64 S.count] 24)).heap.size := by simp
  have hR0 := hR.below hb0
  have hZ0 := hZ.below hb0
  have HZL := hid hzl
  have hbd := fun wz => lbuild_bad s S 0 wz hIn hs hE
  obtain ⟨E, eE⟩ : ∃ E, E = buildErr S s.size 0 := ⟨_, rfl⟩
  rw [← eE] at hbd hE
  have qE : (E != 0) = true := by simpa using hE
  clear eE hE
  unfold Setg.val
  go_enter Tryz.func3, Tryz.ntmps3
  go_wp2_with fail
  generalize w.alloc (.cells #[.int .i64 S.code, .int .i64 S.size, .int .i64 S.order, .int .i64 S.seed, .int .i64 S.count] 24) = w0 at *
  have hrdy : ∀ wz, Below w0.heap.size w0 wz → ReadyL wz := fun wz h => hR0.below h
  refine (new_bad n _ hn).mono ?_
  rintro e w1 ⟨rfl, rfl⟩
  go_wp2_with fail
  refine (new_bad n _ hn).mono ?_
  rintro e w1 ⟨rfl, rfl⟩
  go_wp2_with fail
  refine (there_any _).mono ?_
  rintro e w3 ⟨rfl, hb3⟩
  obtain ⟨d0, d1, d2, d3, d4⟩ := HCC.out w3 hb3
  go_wp2_with fail
  refine (hbd _).mono ?_
  rintro e x1 ⟨rfl, hx1⟩
  go_wp2_with fail
  go_ret
  exact ⟨rfl, hb0.trans ((hb3.trans (hx1.mono hb3.size)).mono hb0.size)⟩
set_option maxRecDepth 100000 in
set_option maxHeartbeats 8000000 in
theorem bufmem_bad_ok (n : Int) (zs : List Int) (az : Option Addr) (nz cz : Nat) (s : ByteArray) (S : Setg) (w : World) (hR : ReadyL w) (hIn : S.In) (hs : I64k (s.size : Int)) (hZ : Rd .i64 w az zs) (hzl : zs.length = nz) (hzn : az = none → nz = 0 ∧ cz = 0) (hz9 : nz ≤ 17592186043904) (hn : n < 1 ∨ 4096 < n) (hE : buildErr S s.size 0 = 0) :
    Calls Tryz.prog 3 #[.int .i64 n, .slice az nz cz, .string s, S.val] w fun e w' => e = .returned (.bool true) ∧ Below w.heap.size w w' := by
  have hs2 := hs.2
  have HCC : Hid (∀ wz, Below (w.alloc (.cells #[.int .i64 S.code, .int .i64 S.size, .int .i64 S.order, .int .i64 S.seed, .int .i64 S.count] 24)).heap.size (w.alloc (.cells #[.int .i64 S.code, .int .i64 S.size, .int .i64 S.order, .int .i64 S.seed, .int .i64 S.count] 24)) wz → wz.cell? ⟨w.heap.size, 0, none⟩ = some (.int .i64 S.code) ∧ wz.cell? ⟨w.heap.size, 1, none⟩ = some (.int .i64 S.size) ∧ wz.cell? ⟨w.heap.size, 2, none⟩ = some (.int .i64 S.order) ∧ wz.cell? ⟨w.heap.size, 3, none⟩ = some (.int .i64 S.seed) ∧ wz.cell? ⟨w.heap.size, 4, none⟩ = some (.int .i64 S.count)) := fun wz h => set_cells h
  have hb0 : Below w.heap.size w (w.alloc (.cells #[.int .i64 S.code, .int .i64 S.size, .int .i64 S.order, .int .i64 S.seed, .int .i64 S.count] 24)) := (Below.refl _ w).alloc (Nat.le_refl _) _
  have hl0 : w.heap.size < (w.alloc (.cells #[.int .i64 S.code, .int .i64 S.size, .int .i64 S.order, .int .i64 S.seed, .int .i64 S.count] 24)).heap.size := by simp
  have hR0 := hR.below hb0
  have hZ0 := hZ.below hb0
  have HZL := hid hzl
  have hSe : setErr S s.size = 0 := by
    by_cases h0 : setErr S s.size = 0
    · exact h0
    · unfold buildErr at hE; rw [if_neg h0] at hE; exact absurd hE h0
  have hS := setOk_of hSe
  obtain ⟨m, em⟩ : ∃ m, m = S.count.toNat / S.order.toNat := ⟨_, rfl⟩
  have hm : ∀ v, (builtM S s v).length = m := fun v => by rw [em]; unfold builtM; simp [sentM]
  have hm4 : m ≤ 4096 := by rw [← hm 0]; exact builtM_few hS 0
  have hm1 : 1 ≤ m := by
    have h1 := hS.order
    have h2 := hS.count
    rw [em]
    exact Nat.div_pos (by omega) (by omega)
  have hbd : ∀ wz, ReadyL wz → Calls Tryz.prog 12 #[.string s, S.val, .int .i64 0] wz fun e w' => ∃ g, e = .returned (.tuple #[.slice (some ⟨g, 0, none⟩) m m, .int .i64 0]) ∧ Pts w' (some ⟨g, 0, none⟩) (builtM S s 0) ∧ wz.heap.size ≤ g ∧ Below wz.heap.size wz w' := fun wz hz => build_back hIn hSe m hm 0 (by omega) wz hz
  have hnw := fun (wz : World) (hz : ReadyL wz) => lnew_ok S s.size wz hz hIn hSe
  obtain ⟨N, eN, hN1, hN4⟩ := codedN_nat hS
  rw [eN, Int.toNat_natCast] at hnw
  have hzr : ((List.replicate N (0 : Int)).length : Int) = codedN S s.size := by rw [eN, List.length_replicate]
  have hzs : softOk (List.replicate N (0 : Int)) = true := by
    unfold softOk
    refine List.all_eq_true.2 fun x hx => ?_
    rw [List.eq_of_mem_replicate hx]
    decide
  have HM := hid (hm 0)
  obtain ⟨L, eL⟩ : ∃ L, L = builtM S s 0 := ⟨_, rfl⟩
  rw [← eL] at hbd HM
  have HTB := hid (fun (wz : World) (p : Addr) (F : List Nat) (sm : List Int) (g c : Nat) (h1 : ReadyL wz) (h2 : EarP wz p F S s.size sm) (h3 : (sm.length : Int) = codedN S s.size) (h4 : softOk sm = true) (h5 : Pts wz (some ⟨g, 0, none⟩) L) => take_back hS L m HM.out hm4 g c h1 h2 h3 h4 h5)
  have hn1 : ((earNext S (List.replicate N 0) L 0).length : Int) = codedN S s.size := by rw [earNext_length]; exact hzr
  have hn2 : softOk (earNext S (List.replicate N 0) L 0) = true := earNext_soft hzs
  obtain ⟨t1, et1⟩ : ∃ t1, t1 = earSays S s.size (List.replicate N 0) L 0 := ⟨_, rfl⟩
  obtain ⟨nx, enx⟩ : ∃ nx, nx = earNext S (List.replicate N 0) L 0 := ⟨_, rfl⟩
  rw [← enx] at hn1 hn2
  obtain ⟨t2, et2⟩ : ∃ t2, t2 = earSays S s.size nx L 0 := ⟨_, rfl⟩
  have HT1 := hid et1
  have HT2 := hid et2
  have HNX := hid enx
  have HN1 := hid hzr
  have HN2 := hid hn1
  clear eL em eN hzr hn1 et1 et2 enx hm
  unfold Setg.val
  go_enter Tryz.func3, Tryz.ntmps3
  go_wp2_with fail
  generalize w.alloc (.cells #[.int .i64 S.code, .int .i64 S.size, .int .i64 S.order, .int .i64 S.seed, .int .i64 S.count] 24) = w0 at *
  have hrdy : ∀ wz, Below w0.heap.size w0 wz → ReadyL wz := fun wz h => hR0.below h
  refine (new_bad n _ hn).mono ?_
  rintro e w1 ⟨rfl, rfl⟩
  go_wp2_with fail
  refine (new_bad n _ hn).mono ?_
  rintro e w1 ⟨rfl, rfl⟩
  go_wp2_with fail
  refine (there_any _).mono ?_
  rintro e w3 ⟨rfl, hb3⟩
  obtain ⟨d0, d1, d2, d3, d4⟩ := HCC.out w3 hb3
  obtain ⟨f0, f1, f2, f3, f4⟩ := HCC.out w3 hb3
  go_wp2_with fail
  refine (hbd _ (hrdy _ hb3)).mono ?_
  rintro e x1 ⟨gp, rfl, hpp1, hgp, hx1⟩
  have hX1 := hb3.trans (hx1.mono hb3.size)
  obtain ⟨f0, f1, f2, f3, f4⟩ := HCC.out x1 hX1
  have hgpl : gp < x1.heap.size := by
    obtain ⟨b, o, e, hc⟩ := hpp1.at (i := 0) (by rw [HM.out]; omega)
    cases e
    exact World.block_lt_of_cell? x1 _ (hc 0 (by rw [HM.out]; omega)).1
  go_wp2_with fail
  refine (hnw _ (hrdy _ hX1)).mono ?_
  rintro e x2 ⟨pc, Fc, rfl, hc2, hFc, hx2⟩
  obtain ⟨bc, gc, rfl, eFc, -, -, -⟩ := hc2.block
  have hbc : bc ∈ Fc := by rw [eFc]; simp
  have hbcl := BufR.lt hc2 bc hbc
  have hbc1 := hFc bc hbc
  have HFc := hid eFc
  clear eFc
  have hX2 := hX1.trans (hx2.mono hX1.size)
  obtain ⟨f0, f1, f2, f3, f4⟩ := HCC.out x2 hX2
  go_wp2_with fail
  refine (hnw _ (hrdy _ hX2)).mono ?_
  rintro e x3 ⟨pd, Fd, rfl, hd3, hFd, hx3⟩
  obtain ⟨bd, gd, rfl, eFd, -, -, -⟩ := hd3.block
  have hbd3 : bd ∈ Fd := by rw [eFd]; simp
  have hbdl := BufR.lt hd3 bd hbd3
  have hbd1 := hFd bd hbd3
  have HFd := hid eFd
  clear eFd
  have hX3 := hX2.trans (hx3.mono hX2.size)
  have hpp3 := (hpp1.below hx2).below hx3
  have hcd : ∀ x ∈ Fc, x ∉ Fd := fun x h1 h2 => by have h3 := BufR.lt hc2 x h1; have h4 := hFd x h2; omega
  have hc3 := hc2.old hx3
  have hsz12 := hx2.size
  have hsz23 := hx3.size
  go_wp2_with fail
  refine (roomyP L (-7) 0 (some ⟨gp, 0, none⟩) m m _ hpp3 (fun h => by cases h) HM.out (by omega)).mono ?_
  rintro e x4 ⟨gq, rfl, hq4, hgq, hx4⟩
  have hX4 := hX3.trans (hx4.mono hX3.size)
  have hgql := parr_lt hq4
  have hpp4 := hpp3.below hx4
  have hc4 := hc3.old hx4
  have hd4 := hd3.old hx4
  have hsz34 := hx4.size
  have htk := HTB.out x4 ⟨bc, 0, none⟩ Fc (List.replicate N 0) gq (m + 3) (hrdy _ hX4) hc4 HN1.out hzs (pts_of_parr hq4)
  rw [← HT1.out, ← HNX.out] at htk
  go_wp2_with fail
  refine htk.mono ?_
  rintro e x5 ⟨rfl, Fc5, hc5, hFc5, hk5⟩
  have hX5 : Below w0.heap.size w0 x5 := hX4.trans (hk5.below hX4.size (fun x hx => by obtain rfl : x = bc := (by simpa using hx); have := hX1.size; omega))
  have hd5 := hd4.keptA hk5 (fun x hx h => by obtain rfl : x = bc := (by simpa using h); exact hcd _ hbc hx)
  have hpp5 := Pts.keptK hpp4 hk5 (fun g o e _ h => by cases e; obtain rfl : gp = bc := (by simpa using h); omega)
  have hq5 := parr_kept hq4 hk5 (fun h => by obtain rfl : gq = bc := (by simpa using h); omega)
  have hsz45 := hk5.size
  have htk := HTB.out x5 ⟨bd, 0, none⟩ Fd (List.replicate N 0) gp m (hrdy _ hX5) hd5 HN1.out hzs hpp5
  rw [← HT1.out, ← HNX.out] at htk
  go_wp2_with fail
  refine htk.mono ?_
  rintro e x6 ⟨rfl, Fd6, hd6, hFd6, hk6⟩
  have hX6 : Below w0.heap.size w0 x6 := hX5.trans (hk6.below hX5.size (fun x hx => by obtain rfl : x = bd := (by simpa using hx); have := hX2.size; omega))
  have hc5b : ∀ x ∈ Fc5, x ∉ [bd] := fun x hx h => by
    obtain rfl : x = bd := (by simpa using h)
    rcases hFc5 _ hx with h1 | h1
    · exact hcd _ h1 hbd3
    · omega
  have hc6 := hc5.keptA hk6 hc5b
  have hpp6 := Pts.keptK hpp5 hk6 (fun g o e _ h => by cases e; obtain rfl : gp = bd := (by simpa using h); omega)
  have hq6 := parr_kept hq5 hk6 (fun h => by obtain rfl : gq = bd := (by simpa using h); omega)
  have hsz56 := hk6.size
  have hkp := keptP L (-7) 0 gq m (some ⟨gp, 0, none⟩) m x6 HM.out (by omega) hq6 hpp6
  go_wp2_with fail
  refine hkp.mono ?_
  rintro e x7 ⟨rfl, hx7⟩
  have hX7 := hX6.trans (hx7.mono hX6.size)
  have hc7 := hc6.old hx7
  have hd7 := hd6.old hx7
  have hpp7 := hpp6.below hx7
  have hq7 : PArr x7 gq (L ++ [(-7, 0), (-7, 0), (-7, 0)]) := (hx7.block gq (parr_lt hq6)).trans hq6
  have hsz67 := hx7.size
  have hsp := spoiltPK 7 0 (.slice (some ⟨gq, 0, none⟩) m (m + 3)) m _ gq [gq] x7 (own_of_block2 (n := m) (cap := m + 3) (Nat.le_refl _) hq7 (by omega) (by unfold maxLen; omega) (by have h1 := HM.out; simp [cellsQ_length, h1]; omega)) (by omega) (fun k hk => by have e : some gq = some k := hk; simp only [Option.some.injEq] at e; simp [e]) (by omega)
  go_wp2_with fail
  refine hsp.mono ?_
  rintro e x8 ⟨rfl, hk8⟩
  have hX8 : Below w0.heap.size w0 x8 := hX7.trans (hk8.below hX7.size (fun x hx => by obtain rfl : x = gq := (by simpa using hx); have := hX3.size; omega))
  have hc8 := hc7.keptA hk8 (fun x hx h => by
    obtain rfl : x = gq := (by simpa using h)
    rcases hFc5 _ hx with h1 | h1
    · have h2 := BufR.lt hc2 _ h1; omega
    · omega)
  have hd8 := hd7.keptA hk8 (fun x hx h => by
    obtain rfl : x = gq := (by simpa using h)
    rcases hFd6 _ hx with h1 | h1
    · have h2 := BufR.lt hd3 _ h1; omega
    · omega)
  have hpp8 := Pts.keptK hpp7 hk8 (fun g o e _ h => by cases e; obtain rfl : gp = gq := (by simpa using h); omega)
  have htk := HTB.out x8 ⟨bc, 0, none⟩ Fc5 nx gp m (hrdy _ hX8) hc8 HN2.out hn2 hpp8
  rw [← HT2.out] at htk
  go_wp2_with fail
  refine htk.mono ?_
  rintro e x9 ⟨rfl, Fc9, hc9, hFc9, hk9⟩
  have hX9 : Below w0.heap.size w0 x9 := hX8.trans (hk9.below hX8.size (fun x hx => by obtain rfl : x = bc := (by simpa using hx); have := hX1.size; omega))
  have hd9 := hd8.keptA hk9 (fun x hx h => by
    obtain rfl : x = bc := (by simpa using h)
    rcases hFd6 _ hx with h1 | h1
    · exact hcd _ hbc h1
    · omega)
  have hpp9 := Pts.keptK hpp8 hk9 (fun g o e _ h => by cases e; obtain rfl : gp = bc := (by simpa using h); omega)
  have htk := HTB.out x9 ⟨bd, 0, none⟩ Fd6 nx gp m (hrdy _ hX9) hd9 HN2.out hn2 hpp9
  rw [← HT2.out] at htk
  go_wp2_with fail
  refine htk.mono ?_
  rintro e x10 ⟨rfl, Fd10, hd10, hFd10, hk10⟩
  have hX10 : Below w0.heap.size w0 x10 := hX9.trans (hk10.below hX9.size (fun x hx => by obtain rfl : x = bd := (by simpa using hx); have := hX2.size; omega))
  go_wp2_with fail
  go_ret
  exact ⟨rfl, hb0.trans (hX10.mono hb0.size)⟩
end Go.Proofs.YtplkmkbambbemaeGreatDoor
