import Derived.Test.YtjpohfghibhkiadGmB
namespace Go.Proofs.Ytjpohfghibhkiad
open Go.ChangeShapes Go.WideShapes Go.ChangeAt Go.RowKit

/-! kept, OF SHARES. -/

theorem ShCells.belowG {w w' : World} {b o : Nat} {s : Sh} (h : ShCells w b o s) (hb : Below w.heap.size w w') : ShCells w' b o s := by
  obtain ⟨c0, c1, c2, c3, c4⟩ := h
  have h : ∀ q v, w.cell? q = some v → w'.cell? q = some v := fun q v hc => (hb.cell (World.block_lt_of_cell? w _ hc)).trans hc
  exact ⟨h _ _ c0, h _ _ c1, h _ _ c2, h _ _ c3, h _ _ c4⟩
theorem run_idxS {ρ : Operand → Value} (w : World) {o : Oper} {x y : Operand} {g s j n c : Nat} (ho : o.op = .indexAddr 22 x y) (h : ρ x = .slice (some ⟨g, s, none⟩) n c) (h' : ρ y = .int .i64 j) (hj : j < n) : (execOp ρ o).run Try.prog w = .ok (.value (.pointer (some ⟨g, s + j * 5, none⟩))) w := by
  unfold execOp
  simp only [ho, h, h']
  simp [go_sem, Try.underlying22, hj]
theorem run_loadS {ρ : Operand → Value} (w : World) {o : Oper} {x : Operand} {g s : Nat} {p : Sh} (ho : o.op = .load 52 x) (h : ρ x = .pointer (some ⟨g, s, none⟩)) (hc : ShCells w g s p) : (execOp ρ o).run Try.prog w = .ok (.value (.agg #[.int .i64 p.who, .int .i64 p.fr, .int .i64 p.cnt, .int .i64 p.bg, .int .i64 p.en])) w := by
  unfold execOp
  have hr := run_loadVar_mid w g s 52 [.int .i64 p.who, .int .i64 p.fr, .int .i64 p.cnt, .int .i64 p.bg, .int .i64 p.en] _ (fun j v hj => by
    obtain ⟨c0, c1, c2, c3, c4⟩ := hc
    match j, hj with
    | 0, hj => simp at hj; subst hj; simpa using c0
    | 1, hj => simp at hj; subst hj; simpa using c1
    | 2, hj => simp at hj; subst hj; simpa using c2
    | 3, hj => simp at hj; subst hj; simpa using c3
    | 4, hj => simp at hj; subst hj; simpa using c4) Try.underlying52 rfl (by kernel_rfl)
  simp only [ho, h, Instr.loadAt, Instr.sureAddr, Sem.run_bind, Sem.run_pure, Result.andThen_ok, hr]
theorem run_eqSh (w : World) (p : Sh) : (Op.equalIn 10000 52 (.agg #[.int .i64 p.who, .int .i64 p.fr, .int .i64 p.cnt, .int .i64 p.bg, .int .i64 p.en]) (.agg #[.int .i64 p.who, .int .i64 p.fr, .int .i64 p.cnt, .int .i64 p.bg, .int .i64 p.en])).run Try.prog w = .ok true w := by
  have hf : Try.prog.underlying 52 = some (.struct (Try.prog.fieldsOf 52)) := by kernel_rfl
  rw [run_equalIn_struct w 9999 52 _ _ hf (by kernel_rfl)]
  simp only [Program.fieldsOf, Try.underlying52]
  simp [Op.eqFields, go_sem]
theorem run_eqlS {ρ : Operand → Value} (w : World) {o : Oper} {x y : Operand} {p : Sh} (ho : o.op = .binOp .eql 52 x y 52) (h : ρ x = .agg #[.int .i64 p.who, .int .i64 p.fr, .int .i64 p.cnt, .int .i64 p.bg, .int .i64 p.en]) (h' : ρ y = .agg #[.int .i64 p.who, .int .i64 p.fr, .int .i64 p.cnt, .int .i64 p.bg, .int .i64 p.en]) : (execOp ρ o).run Try.prog w = .ok (.value (.bool true)) w := by
  have hm : Try.prog.eqGuardType Try.prog.depth 52 = false := by kernel_rfl
  unfold execOp
  simp only [ho, h, h']
  simp [go_sem, hm, run_eqSh]
theorem run_neqS {ρ : Operand → Value} (w : World) {o : Oper} {x y : Operand} {p : Sh} (ho : o.op = .binOp .neq 52 x y 52) (h : ρ x = .agg #[.int .i64 p.who, .int .i64 p.fr, .int .i64 p.cnt, .int .i64 p.bg, .int .i64 p.en]) (h' : ρ y = .agg #[.int .i64 p.who, .int .i64 p.fr, .int .i64 p.cnt, .int .i64 p.bg, .int .i64 p.en]) : (execOp ρ o).run Try.prog w = .ok (.value (.bool false)) w := by
  have hm : Try.prog.eqGuardType Try.prog.depth 52 = false := by kernel_rfl
  unfold execOp
  simp only [ho, h, h']
  simp [go_sem, hm, run_eqSh]

set_option maxRecDepth 100000 in
set_option maxHeartbeats 2000000 in
theorem keptS (ss : List Sh) (m : Sh) (g n : Nat) (a : Option Addr) (c : Nat) (w : World) (hl : ss.length = n) (hz : n ≤ 3518437208880) (har : SArr w g (ss ++ [m, m, m])) (ha : Shs w a ss) :
    Calls Try.prog 19 #[.slice (some ⟨g, 0, none⟩) n (n + 3), .slice a n c, .agg #[.int .i64 m.who, .int .i64 m.fr, .int .i64 m.cnt, .int .i64 m.bg, .int .i64 m.en]] w fun e w' => e = .returned (.bool true) ∧ Below w.heap.size w w' := by
  have HL := hid hl
  obtain ⟨N, eN⟩ : ∃ N, N = n + 3 := ⟨_, rfl⟩
  have hNI : (n : Int) + 3 = (N : Int) := by rw [eN]; rfl
  have hN1 : n + 3 = N := eN.symm
  have hN2 : N ≤ 3518437208883 := by omega
  have hlt3 : ∀ i, i < 3 → shAt (ss ++ [m, m, m]) (n + i) = m := fun i hi => by
    have h3 : i = 0 ∨ i = 1 ∨ i = 2 := by omega
    rcases h3 with rfl | rfl | rfl <;> simp [shAt, List.getD, ← hl]
  have HM := hid hlt3
  have hb0 : Below w.heap.size w (w.alloc (.cells #[.int .i64 m.who, .int .i64 m.fr, .int .i64 m.cnt, .int .i64 m.bg, .int .i64 m.en] 52)) := (Below.refl _ w).alloc (Nat.le_refl _) _
  have q0 : ShCells (w.alloc (.cells #[.int .i64 m.who, .int .i64 m.fr, .int .i64 m.cnt, .int .i64 m.bg, .int .i64 m.en] 52)) w.heap.size 0 m := by
    unfold ShCells
    rw [cell_of_row _ _ _ _ _ _ (heap_alloc_new w _), cell_of_row _ _ _ _ _ _ (heap_alloc_new w _), cell_of_row _ _ _ _ _ _ (heap_alloc_new w _), cell_of_row _ _ _ _ _ _ (heap_alloc_new w _), cell_of_row _ _ _ _ _ _ (heap_alloc_new w _)]
    exact ⟨rfl, rfl, rfl, rfl, rfl⟩
  have hmix : Try.prog.follows .mixedOrders = true := by kernel_rfl
  rw [← eN]
  clear eN hl hlt3
  go_enter Try.func19, Try.ntmps19
  go_wp2
  generalize w.alloc (.cells #[.int .i64 m.who, .int .i64 m.fr, .int .i64 m.cnt, .int .i64 m.bg, .int .i64 m.en] 52) = wb at *
  obtain ⟨gP, eP⟩ : ∃ gP, gP = w.heap.size := ⟨_, rfl⟩
  rw [← eP] at q0
  rw [← eP]
  clear eP
  go_loopw [16] (fun i wr => ∃ k : Nat, k ≤ n ∧ i = .int .i64 k ∧ Below wb.heap.size wb wr) (fun i _ => n - (intOf i).toNat)
  case atStart => exact ⟨0, Nat.zero_le _, rfl, Below.refl _ _⟩
  case round =>
    obtain ⟨k, hk, rfl, hbel⟩ := hrel
    have hbw : Below w.heap.size w wr := hb0.trans (hbel.mono hb0.size)
    have har' := har.below hbw har.lt
    by_cases hlt : k < n
    · obtain ⟨b2, o2, rfl, hc2⟩ := (ha.below hbw).at (i := k) (by rw [HL.out]; exact hlt)
      have g2 := hc2 k (by rw [HL.out]; exact hlt)
      have g1 := har'.cells (i := k) (by simp [HL.out]; omega)
      rw [show shAt (ss ++ [m, m, m]) k = shAt ss k by simp only [shAt, List.getD, List.getElem?_append_left (show k < ss.length by rw [HL.out]; exact hlt)]] at g1
      generalize shAt ss k = p at *
      clear hc2 har'
      go_upto_region 6 with fail
      refine wp_mono (region_known3 9 [(19, .slice (some ⟨g, 0, none⟩) n N), (20, .int .i64 k), (21, .pointer (some ⟨g, 0 + k * 5, none⟩)), (22, .agg #[.int .i64 p.who, .int .i64 p.fr, .int .i64 p.cnt, .int .i64 p.bg, .int .i64 p.en]), (23, .slice (some ⟨b2, o2, none⟩) n c), (24, .int .i64 k), (25, .pointer (some ⟨b2, o2 + k * 5, none⟩)), (26, .agg #[.int .i64 p.who, .int .i64 p.fr, .int .i64 p.cnt, .int .i64 p.bg, .int .i64 p.en]), (27, .bool false)]
          [[0], [7], [19, 20], [21], [1], [7], [23, 24], [25], [22, 26]] wr hmix rfl rfl (show ([19, 20, 21, 22, 23, 24, 25, 26, 27] : List Nat).Nodup by decide) (by kernel_rfl) (by kernel_rfl) (by kernel_rfl) (by kernel_rfl) (fun i' hi' ac wc hbc hr Q K hK => by
          have h9 : i' = 0 ∨ i' = 1 ∨ i' = 2 ∨ i' = 3 ∨ i' = 4 ∨ i' = 5 ∨ i' = 6 ∨ i' = 7 ∨ i' = 8 := by omega
          have c1 : ShCells wc g (0 + k * 5) p := by rw [Nat.zero_add]; exact g1.belowG hbc
          have c2 : ShCells wc b2 (o2 + k * 5) p := g2.belowG hbc
          rcases h9 with rfl | rfl | rfl | rfl | rfl | rfl | rfl | rfl | rfl
          · exact op_value rfl rfl (run_moveQ wc rfl (hr 0 (by decide))) (hK wc hbc)
          · exact op_value rfl rfl (run_moveQ wc rfl (hr 7 (by decide))) (hK wc hbc)
          · exact op_value rfl rfl (run_idxS wc rfl (hr 19 (by decide)) (hr 20 (by decide)) hlt) (hK wc hbc)
          · exact op_value rfl rfl (run_loadS wc rfl (hr 21 (by decide)) c1) (hK wc hbc)
          · exact op_value rfl rfl (run_moveQ wc rfl (hr 1 (by decide))) (hK wc hbc)
          · exact op_value rfl rfl (run_moveQ wc rfl (hr 7 (by decide))) (hK wc hbc)
          · exact op_value rfl rfl (run_idxS wc rfl (hr 23 (by decide)) (hr 24 (by decide)) hlt) (hK wc hbc)
          · exact op_value rfl rfl (run_loadS wc rfl (hr 25 (by decide)) c2) (hK wc hbc)
          · exact op_value rfl rfl (run_neqS wc rfl (hr 22 (by decide)) (hr 26 (by decide))) (hK wc hbc))) ?_
      rintro e a' w' ⟨rfl, rfl, hbw'⟩
      have hbel' : Below wb.heap.size wb w' := hbel.trans (hbw'.mono hbel.size)
      dsimp only [setAll, List.set]
      clear hbw' hbel g1 g2
      go_wp2
      go_roundw
      case rel => exact ⟨k + 1, by omega, by go_num, hbel'⟩
      case measure => simp [intOf]; omega
    · have d0 := har'.cells (i := n + 0) (by simp [HL.out])
      have d1 := har'.cells (i := n + 1) (by simp [HL.out])
      have d2 := har'.cells (i := n + 2) (by simp [HL.out])
      rw [HM.out 0 (by omega)] at d0
      rw [HM.out 1 (by omega)] at d1
      rw [HM.out 2 (by omega)] at d2
      have r0 := q0.belowG hbel
      clear har'
      go_upto_region 10 with fail
      have hc : ∀ (wc : World), Below wr.heap.size wr wc → ∀ q v, wr.cell? q = some v → wc.cell? q = some v := fun wc hbc q v h => (hbc.cell (World.block_lt_of_cell? wr _ h)).trans h
      refine wp_mono (region_known3 20 [(36, .slice (some ⟨g, n * 5, none⟩) (N - n) (N - n)), (37, .pointer (some ⟨g, n * 5 + 0 * 5, none⟩)), (38, .agg #[.int .i64 m.who, .int .i64 m.fr, .int .i64 m.cnt, .int .i64 m.bg, .int .i64 m.en]), (39, .agg #[.int .i64 m.who, .int .i64 m.fr, .int .i64 m.cnt, .int .i64 m.bg, .int .i64 m.en]), (40, .bool true), (41, .bool true), (42, .slice (some ⟨g, n * 5, none⟩) (N - n) (N - n)), (43, .pointer (some ⟨g, n * 5 + 1 * 5, none⟩)), (44, .agg #[.int .i64 m.who, .int .i64 m.fr, .int .i64 m.cnt, .int .i64 m.bg, .int .i64 m.en]), (45, .agg #[.int .i64 m.who, .int .i64 m.fr, .int .i64 m.cnt, .int .i64 m.bg, .int .i64 m.en]), (46, .bool true), (47, .bool true), (48, .bool true), (49, .slice (some ⟨g, n * 5, none⟩) (N - n) (N - n)), (50, .pointer (some ⟨g, n * 5 + 2 * 5, none⟩)), (51, .agg #[.int .i64 m.who, .int .i64 m.fr, .int .i64 m.cnt, .int .i64 m.bg, .int .i64 m.en]), (52, .agg #[.int .i64 m.who, .int .i64 m.fr, .int .i64 m.cnt, .int .i64 m.bg, .int .i64 m.en]), (53, .bool true), (54, .bool true), (6, .bool true)]
          [[8], [36], [37], [5], [38, 39], [40], [8, 41], [42, 41], [43, 41], [5, 41], [44, 45, 41], [41, 46], [47], [8, 48], [49, 48], [50, 48], [5, 48], [51, 52, 48], [48, 53], [54]] wr hmix rfl rfl (show ([36, 37, 38, 39, 40, 41, 42, 43, 44, 45, 46, 47, 48, 49, 50, 51, 52, 53, 54, 6] : List Nat).Nodup by decide) (by kernel_rfl) (by kernel_rfl) (by kernel_rfl) (by kernel_rfl) (fun i' hi' ac wc hbc hr Q K hK => by
          have h20 : i' = 0 ∨ i' = 1 ∨ i' = 2 ∨ i' = 3 ∨ i' = 4 ∨ i' = 5 ∨ i' = 6 ∨ i' = 7 ∨ i' = 8 ∨ i' = 9 ∨ i' = 10 ∨ i' = 11 ∨ i' = 12 ∨ i' = 13 ∨ i' = 14 ∨ i' = 15 ∨ i' = 16 ∨ i' = 17 ∨ i' = 18 ∨ i' = 19 := by omega
          have eb : ShCells wc gP 0 m := r0.belowG hbc
          have e0 : ShCells wc g (n * 5 + 0 * 5) m := by rw [← Nat.add_mul]; exact d0.belowG hbc
          have e1 : ShCells wc g (n * 5 + 1 * 5) m := by rw [← Nat.add_mul]; exact d1.belowG hbc
          have e2 : ShCells wc g (n * 5 + 2 * 5) m := by rw [← Nat.add_mul]; exact d2.belowG hbc
          rcases h20 with rfl | rfl | rfl | rfl | rfl | rfl | rfl | rfl | rfl | rfl | rfl | rfl | rfl | rfl | rfl | rfl | rfl | rfl | rfl | rfl
          · exact op_value rfl rfl (run_moveQ wc rfl (hr 8 (by decide))) (hK wc hbc)
          · exact op_value rfl rfl (run_idxS (j := 0) wc rfl (hr 36 (by decide)) rfl (by omega)) (hK wc hbc)
          · exact op_value rfl rfl (run_loadS (p := m) wc rfl (hr 37 (by decide)) e0) (hK wc hbc)
          · exact op_value rfl rfl (run_loadS (p := m) wc rfl (hr 5 (by decide)) eb) (hK wc hbc)
          · exact op_value rfl rfl (run_eqlS (p := m) wc rfl (hr 38 (by decide)) (hr 39 (by decide))) (hK wc hbc)
          · exact op_value rfl rfl (run_moveQ wc rfl (hr 40 (by decide))) (hK wc hbc)
          · exact op_valueG rfl rfl rfl rfl (hr 41 (by decide)) (run_moveQ wc rfl (hr 8 (by decide))) (hK wc hbc)
          · exact op_valueG rfl rfl rfl rfl (hr 41 (by decide)) (run_idxS (j := 1) wc rfl (hr 42 (by decide)) rfl (by omega)) (hK wc hbc)
          · exact op_valueG rfl rfl rfl rfl (hr 41 (by decide)) (run_loadS (p := m) wc rfl (hr 43 (by decide)) e1) (hK wc hbc)
          · exact op_valueG rfl rfl rfl rfl (hr 41 (by decide)) (run_loadS (p := m) wc rfl (hr 5 (by decide)) eb) (hK wc hbc)
          · exact op_valueG rfl rfl rfl rfl (hr 41 (by decide)) (run_eqlS (p := m) wc rfl (hr 44 (by decide)) (hr 45 (by decide))) (hK wc hbc)
          · exact op_value rfl rfl (run_pickQ wc rfl (hr 41 (by decide)) (hr 46 (by decide))) (hK wc hbc)
          · exact op_value rfl rfl (run_moveQ wc rfl (hr 47 (by decide))) (hK wc hbc)
          · exact op_valueG rfl rfl rfl rfl (hr 48 (by decide)) (run_moveQ wc rfl (hr 8 (by decide))) (hK wc hbc)
          · exact op_valueG rfl rfl rfl rfl (hr 48 (by decide)) (run_idxS (j := 2) wc rfl (hr 49 (by decide)) rfl (by omega)) (hK wc hbc)
          · exact op_valueG rfl rfl rfl rfl (hr 48 (by decide)) (run_loadS (p := m) wc rfl (hr 50 (by decide)) e2) (hK wc hbc)
          · exact op_valueG rfl rfl rfl rfl (hr 48 (by decide)) (run_loadS (p := m) wc rfl (hr 5 (by decide)) eb) (hK wc hbc)
          · exact op_valueG rfl rfl rfl rfl (hr 48 (by decide)) (run_eqlS (p := m) wc rfl (hr 51 (by decide)) (hr 52 (by decide))) (hK wc hbc)
          · exact op_value rfl rfl (run_pickQ wc rfl (hr 48 (by decide)) (hr 53 (by decide))) (hK wc hbc)
          · exact op_value rfl rfl (run_assignG wc rfl (hr 54 (by decide))) (hK wc hbc))) ?_
      rintro e a' w' ⟨rfl, rfl, hbw'⟩
      have hfin : Below w.heap.size w w' := hbw.trans (hbw'.mono hbw.size)
      dsimp only [setAll, List.set]
      clear hbw' hbel d0 d1 d2 r0 hc
      go_wp2
      go_ret
      exact ⟨rfl, hfin⟩
end Go.Proofs.Ytjpohfghibhkiad
