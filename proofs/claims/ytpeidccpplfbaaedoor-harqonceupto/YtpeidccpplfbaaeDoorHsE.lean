import Derived.Test.YtpeidccpplfbaaeDoorHsD
namespace Go.Proofs.YtpeidccpplfbaaeDoor
open Go.ChangeShapes Go.WideShapes Go.ChangeAt Go.RowKit Go.Maps

/-! THE PROGRAM'S Next. -/

def zeroShot : Value := .agg #[.int .i64 0, .int .i64 0, .bool false, .string { data := #[] }]
/-- The table of versions lies where it was laid. -/
def VerT (w : World) : Prop := ∃ T fr, w.heap[0]? = some (.cells #[.int .i64 0, .int .i64 2, .int .i64 3, .int .i64 1] T fr)
theorem VerT.lt {w : World} (h : VerT w) : 0 < w.heap.size := by
  obtain ⟨T, fr, e⟩ := h
  exact (Array.getElem?_eq_some_iff.1 e).1
theorem VerT.old {w w' : World} (h : VerT w) (hb : Below w.heap.size w w') : VerT w' := by
  have hl := h.lt
  obtain ⟨T, fr, e⟩ := h
  exact ⟨T, fr, (hb.block _ hl).trans e⟩
theorem VerT.cell {w : World} (h : VerT w) (t : Nat) : w.cell? ⟨0, t % 4, none⟩ = some (.int .i64 (verAt t)) := by
  obtain ⟨T, fr, e⟩ := h
  have h4 : t % 4 < 4 := Nat.mod_lt _ (by omega)
  unfold World.cell?
  rw [e]
  have hor : t % 4 = 0 ∨ t % 4 = 1 ∨ t % 4 = 2 ∨ t % 4 = 3 := by omega
  unfold verAt
  rcases hor with h | h | h | h <;> rw [h] <;> rfl

theorem run_fdSnd2 {ρ : Operand → Value} (w : World) {o : Oper} {x : Operand} {g s : Nat} (ho : o.op = .fieldAddr 59 x 2) (h : ρ x = .pointer (some ⟨g, s, none⟩)) : (execOp ρ o).run Tryd.prog w = .ok (.value (.pointer (some ⟨g, s + 9, none⟩))) w := by
  unfold execOp
  simp only [ho, h]
  simp [go_sem]
theorem run_ldBMap {ρ : Operand → Value} (w : World) {o : Oper} {x : Operand} {g j : Nat} {v : Value} (ho : o.op = .load 56 x) (h : ρ x = .pointer (some ⟨g, j, none⟩)) (hc : w.cell? ⟨g, j, none⟩ = some v) : (execOp ρ o).run Tryd.prog w = .ok (.value v) w := by
  unfold execOp
  simp only [ho, h]
  simp [go_sem, hc]
theorem run_ldBlk {ρ : Operand → Value} (w : World) {o : Oper} {x : Operand} {g j : Nat} {v0 v1 v2 : Value} (ho : o.op = .load 62 x) (h : ρ x = .pointer (some ⟨g, j, none⟩)) (c0 : w.cell? ⟨g, j, none⟩ = some v0) (c1 : w.cell? ⟨g, j + 1, none⟩ = some v1) (c2 : w.cell? ⟨g, j + 2, none⟩ = some v2) : (execOp ρ o).run Tryd.prog w = .ok (.value (.agg #[v0, v1, v2])) w := by
  unfold execOp
  simp only [ho, h]
  simp [go_sem, c0, c1, c2]

theorem Kept.cell_off {S : List Nat} {w w' : World} (h : Kept S w w') {b j : Nat} {v : Value} (hc : w.cell? ⟨b, j, none⟩ = some v) (hb : b ∉ S) : w'.cell? ⟨b, j, none⟩ = some v := (World.cell?_of_block (h.block b (World.block_lt_of_cell? w _ hc) hb)).trans hc
theorem Kept.setNew {S : List Nat} {a w : World} (h : Kept S a w) {p : Addr} (hp : a.heap.size ≤ p.block) (u : Value) : Kept S a (w.setCell p u) := ⟨h.os, h.tape, h.output, by simpa using h.size, fun k hk hn => (Below.heap_setCell w p u k (by omega)).trans (h.block k hk hn)⟩
/-- A new row of four stays as it is while blocks are laid. -/
theorem row4_facts {w w1 : World} {g : Nat} {v0 v1 v2 v3 : Value} {t : TypeId} (hq : w.heap[g]? = some (.cells #[v0, v1, v2, v3] t (0, 0))) (hb : Below w.heap.size w w1) (o : Obj) :
    ((w1.alloc o).cell? ⟨g, 0, none⟩ = some v0 ∧ (w1.alloc o).cell? ⟨g, 1, none⟩ = some v1 ∧ (w1.alloc o).cell? ⟨g, 2, none⟩ = some v2 ∧ (w1.alloc o).cell? ⟨g, 3, none⟩ = some v3) ∧ ∀ j, (w1.alloc o).frozen? ⟨g, j, none⟩ = false := by
  have hg : g < w.heap.size := (Array.getElem?_eq_some_iff.1 hq).1
  have hq1 : (w1.alloc o).heap[g]? = some (.cells #[v0, v1, v2, v3] t (0, 0)) := (Below.heap_alloc w1 o g (Nat.lt_of_lt_of_le hg hb.size)).trans ((hb.block g hg).trans hq)
  refine ⟨⟨?_, ?_, ?_, ?_⟩, fun j => frozen_of_row _ g j _ _ hq1⟩ <;> (rw [cell_of_row _ _ _ _ _ _ hq1]; rfl)

set_option maxHeartbeats 1000000 in
theorem pnext_err {w : World} {g : Nat} (p er : Int) (her : er ≠ 0)
    (hfd : Calls Tryd.prog 18 #[.pointer (some ⟨g, 0, none⟩), .int .i64 p] (w.alloc (.cells #[.int .i64 0, .int .i64 0, .bool false, .string { data := #[] }] 38)) fun e w' => e = .returned (.tuple #[zeroBlk, .int .i64 er]) ∧ Below (w.alloc (.cells #[.int .i64 0, .int .i64 0, .bool false, .string { data := #[] }] 38)).heap.size (w.alloc (.cells #[.int .i64 0, .int .i64 0, .bool false, .string { data := #[] }] 38)) w') :
    Calls Tryd.prog 8 #[.pointer (some ⟨g, 0, none⟩), .int .i64 p] w fun e w' => e = .returned (.tuple #[zeroShot, .int .i64 er]) ∧ Below w.heap.size w w' := by
  have x1 : (er != 0) = true := by simpa using her
  have hb0 : Below w.heap.size w (w.alloc (.cells #[.int .i64 0, .int .i64 0, .bool false, .string { data := #[] }] 38)) := (Below.refl _ w).alloc (Nat.le_refl _) _
  have hq : (w.alloc (.cells #[.int .i64 0, .int .i64 0, .bool false, .string { data := #[] }] 38)).heap[w.heap.size]? = _ := heap_alloc_new w _
  clear her
  unfold zeroBlk at hfd
  go_enter Tryd.func8, Tryd.ntmps8
  go_wp2_with (go_at_call 18; refine hfd.mono ?_; rintro e w1 ⟨rfl, hb1⟩; obtain ⟨⟨c0, c1, c2, c3⟩, hfz⟩ := row4_facts hq hb1 (.cells #[.string { data := #[] }, .int .i64 0, .bool false] 62); have f0 := hfz 0; have f1 := hfz 1; have f2 := hfz 2; have f3 := hfz 3; have hB1 := hb0.trans (hb1.mono hb0.size))
  (try simp only [Exit.inBlock, Exit.then])
  refine bodyPost_ret (v := .tuple #[zeroShot, .int .i64 er]) ?_ rfl ⟨rfl, ?_⟩
  · rw [results_cell_tmp rfl]
    unfold zeroShot
    go_simp
  · exact ((((hB1.alloc hB1.size _).setCell (Nat.le_refl _) _).setCell (Nat.le_refl _) _).setCell (Nat.le_refl _) _).setCell (Nat.le_refl _) _

set_option maxHeartbeats 1000000 in
theorem pnext_open {w : World} {g bm : Nat} {m : SendM} (h : PSend w g bm m) (k : Nat) (hk : k < 8) (hbz : (m.tat k).busy = true) (ho : (m.tat k).opn = true) :
    Calls Tryd.prog 8 #[.pointer (some ⟨g, 0, none⟩), .int .i64 (k : Int)] w fun e w' => e = .returned (.tuple #[zeroShot, .int .i64 9]) ∧ Below w.heap.size w w' := by
  have hb0 : Below w.heap.size w (w.alloc (.cells #[.int .i64 0, .int .i64 0, .bool false, .string { data := #[] }] 38)) := (Below.refl _ w).alloc (Nat.le_refl _) _
  have hq : (w.alloc (.cells #[.int .i64 0, .int .i64 0, .bool false, .string { data := #[] }] 38)).heap[w.heap.size]? = _ := heap_alloc_new w _
  have hfd := pfind_any (h.old hb0) k hk true (m.tat k).blk 0 hbz rfl rfl
  obtain ⟨T, eT⟩ : ∃ T, T = m.tat k := ⟨_, rfl⟩
  rw [← eT] at hfd ho
  unfold TryM.blk at hfd
  rw [ho] at hfd
  clear eT hbz ho
  go_enter Tryd.func8, Tryd.ntmps8
  go_wp2_with (go_at_call 18; refine hfd.mono ?_; rintro e w1 ⟨rfl, hb1⟩; obtain ⟨⟨c0, c1, c2, c3⟩, hfz⟩ := row4_facts hq hb1 (.cells #[.string T.data, .int .i64 T.tries, .bool true] 62); have f0 := hfz 0; have f1 := hfz 1; have f2 := hfz 2; have f3 := hfz 3; have hB1 := hb0.trans (hb1.mono hb0.size))
  (try simp only [Exit.inBlock, Exit.then])
  refine bodyPost_ret (v := .tuple #[zeroShot, .int .i64 9]) ?_ rfl ⟨rfl, ?_⟩
  · rw [results_cell_tmp rfl]
    unfold zeroShot
    go_simp
  · exact ((((hB1.alloc hB1.size _).setCell (Nat.le_refl _) _).setCell (Nat.le_refl _) _).setCell (Nat.le_refl _) _).setCell (Nat.le_refl _) _

set_option maxHeartbeats 2000000 in
theorem pnext_good {w : World} {g bm : Nat} {m : SendM} (h : PSend w g bm m) (hV : VerT w) (k : Nat) (hk : k < 8) (hbz : (m.tat k).busy = true) (ho : (m.tat k).opn = false) :
    Calls Tryd.prog 8 #[.pointer (some ⟨g, 0, none⟩), .int .i64 (k : Int)] w fun e w' => e = .returned (.tuple #[.agg #[.int .i64 (k : Int), .int .i64 (verAt (m.tat k).tries), .bool (m.tat k).flag, .string (m.tat k).data], .int .i64 0]) ∧ PSend w' g bm (m.set k (m.tat k).tried) ∧ Kept [g, bm] w w' := by
  have hb0 : Below w.heap.size w (w.alloc (.cells #[.int .i64 0, .int .i64 0, .bool false, .string { data := #[] }] 38)) := (Below.refl _ w).alloc (Nat.le_refl _) _
  have hq : (w.alloc (.cells #[.int .i64 0, .int .i64 0, .bool false, .string { data := #[] }] 38)).heap[w.heap.size]? = _ := heap_alloc_new w _
  have hfd := pfind_any (h.old hb0) k hk true (m.tat k).blk 0 hbz rfl rfl
  have hok := h.2.2
  have hgb := h.ne
  have hgl := h.lt
  have htl := (hok.each k hk hbz).2 ho
  have ht8 : (m.tat k).tries < 8 := Nat.lt_of_lt_of_le htl hok.high
  have hright := tried_right hok hk hbz ho
  obtain ⟨T, eT⟩ : ∃ T, T = m.tat k := ⟨_, rfl⟩
  rw [← eT] at hfd ho ht8 htl hright ⊢
  have HT := hid eT
  have HB := hid hbz
  unfold TryM.blk at hfd
  rw [ho] at hfd
  have hmod : ((T.tries : Int)).tmod 4 = ((T.tries % 4 : Nat) : Int) := by rw [Int.tmod_eq_emod_of_nonneg (by omega)]; omega
  have hm4 : T.tries % 4 < 4 := Nat.mod_lt _ (by omega)
  clear eT hbz htl
  go_enter Tryd.func8, Tryd.ntmps8
  go_wp2_with (go_at_call 18; refine hfd.mono ?_; rintro e w1 ⟨rfl, hb1⟩; obtain ⟨⟨c0, c1, c2, c3⟩, hfz⟩ := row4_facts hq hb1 (.cells #[.string T.data, .int .i64 T.tries, .bool false] 62); have f0 := hfz 0; have f1 := hfz 1; have f2 := hfz 2; have f3 := hfz 3; have hB1 := hb0.trans (hb1.mono hb0.size); have hB2 := hB1.alloc hB1.size (.cells #[.string T.data, .int .i64 T.tries, .bool false] 62); have hP1 := h.old hB2; have hVc := (hV.old hB2).cell T.tries)
  have hmix : Tryd.prog.follows .mixedOrders = true := by kernel_rfl
  clear c0 c1 c2 c3 f0 f1 f2 f3 hfz hB2 hP1 hVc
  have hB2 : Below w.heap.size w (w1.alloc (.cells #[.string T.data, .int .i64 ((T.tries : Int) + 1), .bool true] 62)) := hB1.alloc hB1.size _
  have hP1 := h.old hB2
  obtain ⟨⟨c0, c1, c2, c3⟩, hfz⟩ := row4_facts hq hb1 (.cells #[.string T.data, .int .i64 ((T.tries : Int) + 1), .bool true] 62)
  have hqz : (w1.alloc (.cells #[.string T.data, .int .i64 ((T.tries : Int) + 1), .bool true] 62)).heap[w1.heap.size]? = _ := heap_alloc_new w1 _
  have e0 : (w1.alloc (.cells #[.string T.data, .int .i64 ((T.tries : Int) + 1), .bool true] 62)).cell? ⟨w1.heap.size, 0, none⟩ = some (.string T.data) := by rw [cell_of_row _ _ _ _ _ _ hqz]; rfl
  have e1 : (w1.alloc (.cells #[.string T.data, .int .i64 ((T.tries : Int) + 1), .bool true] 62)).cell? ⟨w1.heap.size, 0 + 1, none⟩ = some (.int .i64 ((T.tries : Int) + 1)) := by rw [cell_of_row _ _ _ _ _ _ hqz]; rfl
  have e2 : (w1.alloc (.cells #[.string T.data, .int .i64 ((T.tries : Int) + 1), .bool true] 62)).cell? ⟨w1.heap.size, 0 + 2, none⟩ = some (.bool true) := by rw [cell_of_row _ _ _ _ _ _ hqz]; rfl
  have hxb : w.heap.size ≠ bm := by have := h.2.1.lt; omega
  have hzb : w1.heap.size ≠ bm := by have := (h.old hB1).2.1.lt; omega
  have hgx : w.heap.size ≠ g := by omega
  clear hqz hb1 hfd hb0 hq hV
  generalize (w1.alloc (.cells #[.string T.data, .int .i64 ((T.tries : Int) + 1), .bool true] 62)) = wB at *
  generalize w1.heap.size = bz at *
  have cm := hP1.map
  have hBm := hP1.2.1
  have hk8 := hk
  have HTB := hid (show T.tried.busy = true by rw [HT.out]; exact HB.out)
  have HTV := hid (show (.agg #[.string T.data, .int .i64 ((T.tries : Int) + 1), .bool true] : Value) = T.tried.blk from rfl)
  refine wp_mono (region_knownU (Q := fun e a' w' => e = .normal ∧ a' = ({ tmps := (setAll _ [(32, .pointer (some ⟨g, 0, none⟩)), (33, .pointer (some ⟨g, 0, none⟩)), (34, .pointer (some ⟨g, 9, none⟩)), (35, .map (some bm)), (36, .int .i64 (k : Int)), (37, .agg #[.string T.data, .int .i64 ((T.tries : Int) + 1), .bool true])]).toArray, defers := [] } : Act) ∧ BlkMap w' bm (m.set k (T.tried)) ∧ Kept [bm] wB w') 7 6 6 [] (fun _ => True) [(32, .pointer (some ⟨g, 0, none⟩)), (33, .pointer (some ⟨g, 0, none⟩)), (34, .pointer (some ⟨g, 9, none⟩)), (35, .map (some bm)), (36, .int .i64 (k : Int)), (37, .agg #[.string T.data, .int .i64 ((T.tries : Int) + 1), .bool true])]
    [[0], [32], [33], [34], [1], [6]] [1, 2, 3, 6, 6, 6] wB hmix rfl (by decide) rfl (show ([32, 33, 34, 35, 36, 37] : List Nat).Nodup by decide) (by kernel_rfl) (by kernel_rfl) (by kernel_rfl) (by kernel_rfl) (by kernel_rfl) (by kernel_rfl) (fun _ _ h _ => h)
    (fun i' hi' hiu ac wc hk hr Q K hK => by
      have hor : i' = 0 ∨ i' = 1 ∨ i' = 2 ∨ i' = 3 ∨ i' = 4 ∨ i' = 5 := by omega
      rcases hor with rfl | rfl | rfl | rfl | rfl | rfl
      · have e0 : ac.eval (.tmp 0) = .pointer (some ⟨g, 0, none⟩) := hr 0 (by decide)
        exact op_value rfl rfl (run_moveQ wc rfl e0) (hK wc (keptU wc))
      · have e32 : ac.eval (.tmp 32) = .pointer (some ⟨g, 0, none⟩) := hr 32 (by decide)
        exact op_value rfl rfl (run_nilL wc rfl e32) (hK wc (keptU wc))
      · have e33 : ac.eval (.tmp 33) = .pointer (some ⟨g, 0, none⟩) := hr 33 (by decide)
        exact op_value rfl rfl (run_fdSnd2 wc rfl e33) (hK wc (keptU wc))
      · have e34 : ac.eval (.tmp 34) = .pointer (some ⟨g, 9, none⟩) := hr 34 (by decide)
        exact op_value rfl rfl (run_ldBMap wc rfl e34 (hk.cell_off cm (by simp))) (hK wc (keptU wc))
      · have e1 : ac.eval (.tmp 1) = .int .i64 (k : Int) := hr 1 (by decide)
        exact op_value rfl rfl (run_moveQ wc rfl e1) (hK wc (keptU wc))
      · have e6 : ac.eval (.tmp 6) = .pointer (some ⟨bz, 0, none⟩) := hr 6 (by decide)
        exact op_value rfl rfl (run_ldBlk wc rfl e6 (hk.cell_off e0 (by simp)) (hk.cell_off e1 (by simp)) (hk.cell_off e2 (by simp))) (hK wc (keptU wc)))
    (fun h => absurd h (by decide))
    (fun wc hk hu => by
      exact op_putBlk rfl rfl (.tmp 35) (.tmp 36) (.tmp 37) rfl (hBm.same (hk.block bm hBm.lt (by simp))) hok.len hk8 (T.tried) HTB.out ((eval_setAll (t := [(32, .pointer (some ⟨g, 0, none⟩)), (33, .pointer (some ⟨g, 0, none⟩)), (34, .pointer (some ⟨g, 9, none⟩)), (35, .map (some bm)), (36, .int .i64 (k : Int)), (37, .agg #[.string T.data, .int .i64 ((T.tries : Int) + 1), .bool true])]) 35 (show ([32, 33, 34, 35, 36, 37] : List Nat).Nodup by decide) (by kernel_rfl)).trans rfl) ((eval_setAll (t := [(32, .pointer (some ⟨g, 0, none⟩)), (33, .pointer (some ⟨g, 0, none⟩)), (34, .pointer (some ⟨g, 9, none⟩)), (35, .map (some bm)), (36, .int .i64 (k : Int)), (37, .agg #[.string T.data, .int .i64 ((T.tries : Int) + 1), .bool true])]) 36 (show ([32, 33, 34, 35, 36, 37] : List Nat).Nodup by decide) (by kernel_rfl)).trans rfl) (((eval_setAll (t := [(32, .pointer (some ⟨g, 0, none⟩)), (33, .pointer (some ⟨g, 0, none⟩)), (34, .pointer (some ⟨g, 9, none⟩)), (35, .map (some bm)), (36, .int .i64 (k : Int)), (37, .agg #[.string T.data, .int .i64 ((T.tries : Int) + 1), .bool true])]) 37 (show ([32, 33, 34, 35, 36, 37] : List Nat).Nodup by decide) (by kernel_rfl)).trans rfl).trans HTV.out) (fun w' h1 h2 => ⟨rfl, rfl, h1, (hk.wider (by simp)).trans (kept_grownH h2 (by simp))⟩))) ?_
  rintro e a' w2 ⟨rfl, rfl, hB2, hk2⟩
  dsimp only [setAll, List.set, List.append_nil, List.cons_append, List.nil_append]
  have hP2 : PSend w2 g bm (m.set k T.tried) := ⟨(hk2.block g hP1.lt (by simpa using hgb)).trans (by rw [sendCells_same hok.len hk _ (by rw [HT.out]; rfl)]; exact hP1.1), hB2, hok.set hk hright⟩
  have cf : w2.cell? ⟨g, 1 + k, none⟩ = some (.bool T.flag) := by
    have := hP2.flag hk
    rw [SendM.tat_set hok.len hk, if_pos rfl] at this
    exact this
  have c0 := hk2.cell_off c0 (by simpa using hxb)
  have c1 := hk2.cell_off c1 (by simpa using hxb)
  have c2 := hk2.cell_off c2 (by simpa using hxb)
  have c3 := hk2.cell_off c3 (by simpa using hxb)
  have e0 := hk2.cell_off e0 (by simpa using hzb)
  have hfr : ∀ j, w2.frozen? ⟨w.heap.size, j, none⟩ = false := fun j => by
    have hl := World.block_lt_of_cell? wB _ ‹wB.cell? ⟨w.heap.size, 0, none⟩ = some (.int .i64 0)›
    have := hfz j
    unfold World.frozen? at *
    rw [hk2.block _ hl (by simpa using hxb)]
    exact this
  have f0 := hfr 0
  have f1 := hfr 1
  have f2 := hfr 2
  have f3 := hfr 3
  have hKw : Kept [g, bm] w w2 := (Kept.of_below ‹Below w.heap.size w wB›).trans (hk2.wider (by simp))
  have hxs : ∀ (W : World), Kept [g, bm] w W → ∀ j v, Kept [g, bm] w (W.setCell ⟨w.heap.size, j, none⟩ v) := fun W h j v => h.setNew (Nat.le_refl _) v
  have hb2 : bm ≠ w.heap.size := fun e => hxb e.symm
  have hg2 : g ≠ w.heap.size := fun e => hgx e.symm
  generalize w.heap.size = bx at *
  go_wp2_with fail
  go_region
  go_wp2_with fail
  (try simp only [Exit.inBlock, Exit.then])
  refine bodyPost_ret (v := .tuple #[.agg #[.int .i64 (k : Int), .int .i64 (verAt T.tries), .bool T.flag, .string T.data], .int .i64 0]) ?_ rfl ⟨rfl, ?_, ?_⟩
  · rw [results_cell_tmp rfl]
    go_simp
  · exact (hP2.kept (S := [bx]) (((((Kept.refl [bx] w2).setCell (by simp) _).setCell (by simp) _).setCell (by simp) _).setCell (by simp) _) (by simpa using hg2) (by simpa using hb2)).drew
  · exact (hxs _ (hxs _ (hxs _ (hxs _ hKw _ _) _ _) _ _) _ _).drew

end Go.Proofs.YtpeidccpplfbaaeDoor
