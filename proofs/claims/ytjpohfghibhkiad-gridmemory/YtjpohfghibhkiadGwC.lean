import Derived.Test.YtjpohfghibhkiadGwA
import Derived.Test.YtjpohfghibhkiadArrs
import Derived.Test.YtjpohfghibhkiadArr
import Derived.Test.YtjpohfghibhkiadGwR
import Derived.Test.YtjpohfghibhkiadGridQ
namespace Go.Proofs.Ytjpohfghibhkiad
open Go.ChangeShapes Go.WideShapes Go.ChangeAt Go.RowKit

/-! THE PROGRAM'S give: a share written into the table of owners. -/

def tabF (f : Nat → Int) : List Int := (List.range 168).map f
theorem tabF_length (f : Nat → Int) : (tabF f).length = 168 := by simp [tabF]
theorem tabF_at (f : Nat → Int) {j : Nat} (hj : j < 168) : (tabF f).getD j 0 = f j := by simp [tabF, List.getD, hj]
theorem tabF_ext {f g : Nat → Int} (h : ∀ j, j < 168 → f j = g j) : tabF f = tabF g := List.map_congr_left fun j hj => h j (List.mem_range.1 hj)
theorem tabF_set (f : Nat → Int) (j : Nat) (x : Int) : (tabF f).set j x = tabF fun i => if i = j then x else f i := by
  apply List.ext_getElem?
  intro i
  unfold tabF
  rw [List.getElem?_set]
  by_cases e : j = i
  · subst e
    by_cases h : j < 168
    · simp [h]
    · simp [h]
  · rw [if_neg e]
    by_cases h : i < 168
    · simp [h, show ¬ i = j from fun e' => e e'.symm]
    · simp [h]
def inR (fr tn bg en : Nat) (j : Nat) : Prop := bg ≤ j / 12 ∧ j / 12 < en ∧ fr ≤ j % 12 ∧ j % 12 < tn
theorem inR_dec (fr tn bg en : Nat) (j : Nat) : inR fr tn bg en j ∨ ¬ inR fr tn bg en j := Classical.em _
def doneR (t b : Nat) (j : Nat) : Prop := j / 12 < t ∨ j / 12 = t ∧ j % 12 < b
def gvF (f : Nat → Int) (who : Int) (fr tn bg en t b : Nat) (j : Nat) : Int := if (bg ≤ j / 12 ∧ j / 12 < en ∧ fr ≤ j % 12 ∧ j % 12 < tn) ∧ (j / 12 < t ∨ j / 12 = t ∧ j % 12 < b) then who else f j
theorem gv_here (f : Nat → Int) (who : Int) (fr tn bg en t b : Nat) (hb : b < 12) : gvF f who fr tn bg en t b (t * 12 + b) = f (t * 12 + b) := by
  unfold gvF
  rw [if_neg (by omega)]
theorem gv_next (f : Nat → Int) (who : Int) (fr tn bg en t b : Nat) (h1 : bg ≤ t) (h2 : t < en) (h3 : fr ≤ b) (h4 : b < tn) (h5 : tn ≤ 12) : tabF (fun i => if i = t * 12 + b then who else gvF f who fr tn bg en t b i) = tabF (gvF f who fr tn bg en t (b + 1)) := by
  refine tabF_ext fun j _ => ?_
  unfold gvF
  by_cases e : j = t * 12 + b
  · rw [if_pos e, if_pos (by omega)]
  · rw [if_neg e]
    by_cases h : (bg ≤ j / 12 ∧ j / 12 < en ∧ fr ≤ j % 12 ∧ j % 12 < tn) ∧ (j / 12 < t ∨ j / 12 = t ∧ j % 12 < b)
    · rw [if_pos h, if_pos (by omega)]
    · rw [if_neg h, if_neg (by omega)]
theorem gv_row (f : Nat → Int) (who : Int) (fr tn bg en t : Nat) : tabF (gvF f who fr tn bg en t tn) = tabF (gvF f who fr tn bg en (t + 1) fr) := by
  refine tabF_ext fun j _ => ?_
  unfold gvF
  by_cases h : (bg ≤ j / 12 ∧ j / 12 < en ∧ fr ≤ j % 12 ∧ j % 12 < tn) ∧ (j / 12 < t ∨ j / 12 = t ∧ j % 12 < tn)
  · rw [if_pos h, if_pos (by omega)]
  · rw [if_neg h, if_neg (by omega)]
theorem gv_first (f : Nat → Int) (who : Int) (fr tn bg en : Nat) : tabF (gvF f who fr tn bg en bg fr) = tabF f := by
  refine tabF_ext fun j _ => ?_
  unfold gvF
  rw [if_neg (by omega)]
def FreeTo (f : Nat → Int) (fr tn bg en t b : Nat) : Prop := ∀ j, j < 168 → bg ≤ j / 12 ∧ j / 12 < en ∧ fr ≤ j % 12 ∧ j % 12 < tn → j / 12 < t ∨ j / 12 = t ∧ j % 12 < b → f j = 0
theorem FreeTo.next {f : Nat → Int} {fr tn bg en t b : Nat} (h : FreeTo f fr tn bg en t b) (e : f (t * 12 + b) = 0) : FreeTo f fr tn bg en t (b + 1) := fun j hj hr hd => by
  by_cases e' : j = t * 12 + b
  · rw [e']; exact e
  · exact h j hj hr (by omega)
theorem FreeTo.row {f : Nat → Int} {fr tn bg en t : Nat} (h : FreeTo f fr tn bg en t tn) : FreeTo f fr tn bg en (t + 1) fr := fun j hj hr hd => h j hj hr (by omega)

theorem run_idxO {ρ : Operand → Value} (w : World) {o : Oper} {x y : Operand} {g j : Nat} (ho : o.op = .indexAddr 61 x y) (h : ρ x = .pointer (some ⟨g, 0, none⟩)) (h' : ρ y = .int .i64 j) (hj : j < 14) : (execOp ρ o).run Try.prog w = .ok (.value (.pointer (some ⟨g, j * 12, none⟩))) w := by
  unfold execOp
  simp only [ho, h, h']
  simp [go_sem, Try.underlying61]
  intro hc
  omega
theorem run_idxN {ρ : Operand → Value} (w : World) {o : Oper} {x y : Operand} {g s j : Nat} (ho : o.op = .indexAddr 59 x y) (h : ρ x = .pointer (some ⟨g, s, none⟩)) (h' : ρ y = .int .i64 j) (hj : j < 12) : (execOp ρ o).run Try.prog w = .ok (.value (.pointer (some ⟨g, s + j, none⟩))) w := by
  unfold execOp
  simp only [ho, h, h']
  simp [go_sem, Try.underlying59]
  intro hc
  omega
theorem run_nilG {ρ : Operand → Value} {P : Program} (w : World) {o : Oper} {x : Operand} {a : Addr} (ho : o.op = .nilCheck x) (h : ρ x = .pointer (some a)) : (execOp ρ o).run P w = .ok (.value (.pointer (some a))) w := by
  unfold execOp
  simp only [ho, h]
  simp [go_sem]
theorem run_fldS0 {ρ : Operand → Value} (w : World) {o : Oper} {x : Operand} {g s : Nat} (ho : o.op = .fieldAddr 52 x 0) (h : ρ x = .pointer (some ⟨g, s, none⟩)) : (execOp ρ o).run Try.prog w = .ok (.value (.pointer (some ⟨g, s, none⟩))) w := by
  unfold execOp
  simp only [ho, h]
  simp [go_sem]

set_option maxRecDepth 100000 in
set_option maxHeartbeats 4000000 in
theorem give_any (f : Nat → Int) (wh : Int) (fr cn tn bg en : Nat) (htn : tn = fr + cn) (g : Nat) (w : World) (hA : ArrAt .i64 61 w g (tabF f)) (hc : 1 ≤ cn) (h12 : tn ≤ 12) (hbe : bg < en) (h14 : en ≤ 14) :
    Calls Try.prog 28 #[.pointer (some ⟨g, 0, none⟩), .agg #[.int .i64 wh, .int .i64 fr, .int .i64 cn, .int .i64 bg, .int .i64 en]] w fun e w' => ∃ r, e = .returned (.int .i64 r) ∧ Kept [g] w w' ∧ ((r = 0 ∧ FreeTo f fr tn bg en en fr ∧ ArrAt .i64 61 w' g (tabF (gvF f wh fr tn bg en en fr))) ∨ (r = 5 ∧ ∃ t b, bg ≤ t ∧ t < en ∧ fr ≤ b ∧ b < tn ∧ f (t * 12 + b) ≠ 0)) := by
  have hg := hA.lt
  obtain ⟨w1, e1⟩ : ∃ w1, w1 = w.alloc (.cells #[.int .i64 wh, .int .i64 fr, .int .i64 cn, .int .i64 bg, .int .i64 en] 52) := ⟨_, rfl⟩
  have hA1 : ArrAt .i64 61 w1 g (tabF f) := by rw [e1]; exact hA.alloc _
  have hK1 : Kept [g] w w1 := by rw [e1]; exact (Kept.refl _ _).alloc _
  have q0 : w1.cell? ⟨w.heap.size, 0, none⟩ = some (.int .i64 wh) := by rw [e1, cell_of_row _ _ _ _ _ _ (heap_alloc_new w _)]; rfl
  have q1 : w1.cell? ⟨w.heap.size, 1, none⟩ = some (.int .i64 fr) := by rw [e1, cell_of_row _ _ _ _ _ _ (heap_alloc_new w _)]; rfl
  have q2 : w1.cell? ⟨w.heap.size, 2, none⟩ = some (.int .i64 cn) := by rw [e1, cell_of_row _ _ _ _ _ _ (heap_alloc_new w _)]; rfl
  have q3 : w1.cell? ⟨w.heap.size, 3, none⟩ = some (.int .i64 bg) := by rw [e1, cell_of_row _ _ _ _ _ _ (heap_alloc_new w _)]; rfl
  have q4 : w1.cell? ⟨w.heap.size, 4, none⟩ = some (.int .i64 en) := by rw [e1, cell_of_row _ _ _ _ _ _ (heap_alloc_new w _)]; rfl
  have HTN := hid htn
  have hft : fr < tn := by omega
  have hsum : wrap64 ((fr : Int) + (cn : Int)) = (tn : Int) := by unfold wrap64; omega
  have hsum' : (fr : Int) + (cn : Int) = (tn : Int) := by omega
  clear htn
  have hmix : Try.prog.follows .mixedOrders = true := by kernel_rfl
  obtain ⟨gS, eS⟩ : ∃ gS, gS = w.heap.size := ⟨_, rfl⟩
  have hne : gS ≠ g := by omega
  go_enter Try.func28, Try.ntmps28
  go_wp2_with fail
  rw [← e1, ← eS]
  rw [← eS] at q0 q1 q2 q3 q4
  clear e1 eS
  clear hA
  go_loopw [5] (fun q wr => ∃ t : Nat, bg ≤ t ∧ t ≤ en ∧ q = .int .i64 t ∧ ArrAt .i64 61 wr g (tabF (gvF f wh fr tn bg en t fr)) ∧ Hid (FreeTo f fr tn bg en t fr) ∧ Kept [g] w1 wr) (fun q _ => en - (intOf q).toNat)
  case atStart => exact ⟨bg, Nat.le_refl _, by omega, rfl, by rw [gv_first]; exact hA1, fun j hj h1 h2 => by omega, Kept.refl _ _⟩
  case round =>
    obtain ⟨t, ht1, ht2, rfl, hT, HFR, hKr⟩ := hrel
    have hcell : ∀ (wz : World), Kept [g] w1 wz → ∀ j v, w1.cell? ⟨gS, j, none⟩ = some v → wz.cell? ⟨gS, j, none⟩ = some v := fun wz hk j v h => by
      rw [← h]
      unfold World.cell?
      rw [hk.block gS (World.block_lt_of_cell? w1 _ h) (by simpa using hne)]
    have r4 := hcell wr hKr _ _ q4
    have r1 := hcell wr hKr _ _ q1
    by_cases hlt : t < en
    · have d1 : decide ((t : Int) < (en : Int)) = true := decide_eq_true (by omega)
      go_wp2_with fail
      clear r4 r1
      go_loopw [6] (fun q wr => ∃ b : Nat, fr ≤ b ∧ b ≤ tn ∧ q = .int .i64 b ∧ ArrAt .i64 61 wr g (tabF (gvF f wh fr tn bg en t b)) ∧ Hid (FreeTo f fr tn bg en t b) ∧ Kept [g] w1 wr) (fun q _ => tn - (intOf q).toNat)
      case atStart => exact ⟨fr, Nat.le_refl _, by omega, rfl, hT, HFR, hKr⟩
      case round =>
        clear hT HFR hKr
        obtain ⟨b, hb1, hb2, rfl, hT, HFR, hKr⟩ := hrel
        have r0 := hcell wr hKr _ _ q0
        have r1 := hcell wr hKr _ _ q1
        have r2 := hcell wr hKr _ _ q2
        by_cases hltb : b < tn
        · have d2 : decide ((b : Int) < (tn : Int)) = true := decide_eq_true (by omega)
          have hb12 : b < 12 := by omega
          have ht14 : t < 14 := by omega
          have hc0 := hT.cell (j := t * 12 + b) (by rw [tabF_length]; omega)
          rw [tabF_at _ (by omega), gv_here _ _ _ _ _ _ _ _ hb12] at hc0
          have HNX := hid (fun (e : f (t * 12 + b) = 0) => HFR.out.next e)
          have HBD := hid (fun (e : f (t * 12 + b) ≠ 0) => (⟨t, b, ht1, hlt, hb1, hltb, e⟩ : ∃ t b, bg ≤ t ∧ t < en ∧ fr ≤ b ∧ b < tn ∧ f (t * 12 + b) ≠ 0))
          obtain ⟨y, ey⟩ : ∃ y, y = f (t * 12 + b) := ⟨_, rfl⟩
          rw [← ey] at hc0
          by_cases hy : y = 0
          · subst hy
            have HNX' := hid (HNX.out ey.symm)
            clear HNX HBD
            go_upto_region 9 with fail
            have hcw : ∀ (wc : World), Below wr.heap.size wr wc → ∀ q v, wr.cell? q = some v → wc.cell? q = some v := fun wc hbc q v h => (hbc.cell (World.block_lt_of_cell? wr _ h)).trans h
            refine wp_mono (region_last (Q := fun e a' w' => e = .normal ∧ a' = { tmps := (_ : List Value).toArray, defers := [] } ∧ ∃ wc, Below wr.heap.size wr wc ∧ w' = wc.setCell ⟨g, t * 12 + b, none⟩ (.int .i64 wh)) 8 34 (.pointer (some ⟨g, 0, none⟩)) [(35, .int .i64 t), (36, .int .i64 b), (37, .pointer (some ⟨gS, 0, none⟩)), (38, .int .i64 wh), (39, .pointer (some ⟨g, 0, none⟩)), (40, .pointer (some ⟨g, t * 12, none⟩)), (41, .pointer (some ⟨g, t * 12 + b, none⟩))]
              [[0], [5], [6], [3], [37], [34], [39, 35], [40, 36]] [5, 6, 7, 4, 8, 6, 7, 8] wr hmix rfl rfl (show ([34, 35, 36, 37, 38, 39, 40, 41] : List Nat).Nodup by decide) (by kernel_rfl) (by kernel_rfl) (by kernel_rfl) (by kernel_rfl) (by kernel_rfl) (fun i' hi' ac wc hbc hr Q K hK => by
              have h8 : i' = 0 ∨ i' = 1 ∨ i' = 2 ∨ i' = 3 ∨ i' = 4 ∨ i' = 5 ∨ i' = 6 ∨ i' = 7 := by omega
              rcases h8 with rfl | rfl | rfl | rfl | rfl | rfl | rfl | rfl
              · exact op_value rfl rfl (run_moveQ wc rfl (hr 0 (by decide))) (hK wc (grownG wc))
              · exact op_value rfl rfl (run_moveQ wc rfl (hr 5 (by decide))) (hK wc (grownG wc))
              · exact op_value rfl rfl (run_moveQ wc rfl (hr 6 (by decide))) (hK wc (grownG wc))
              · exact op_value rfl rfl (run_fldS0 wc rfl (hr 3 (by decide))) (hK wc (grownG wc))
              · exact op_value rfl rfl (run_loadI wc rfl (hr 37 (by decide)) (hcw wc hbc _ _ r0)) (hK wc (grownG wc))
              · exact op_value rfl rfl (run_nilG wc rfl (hr 34 (by decide))) (hK wc (grownG wc))
              · exact op_value rfl rfl (run_idxO wc rfl (hr 39 (by decide)) (hr 35 (by decide)) ht14) (hK wc (grownG wc))
              · exact op_value rfl rfl (run_idxN wc rfl (hr 40 (by decide)) (hr 36 (by decide)) hb12) (hK wc (grownG wc)))
              (fun wc hbc => by
                have hTc := hT.below hbc hT.lt
                exact op_skip rfl rfl (run_storeI wc rfl (eval_setAll 41 (show ([34, 35, 36, 37, 38, 39, 40, 41] : List Nat).Nodup by decide) (by kernel_rfl)) (eval_setAll 38 (show ([34, 35, 36, 37, 38, 39, 40, 41] : List Nat).Nodup by decide) (by kernel_rfl)) (hcw wc hbc _ _ hc0) (hTc.free _)) ⟨rfl, rfl, wc, hbc, rfl⟩)) ?_
            rintro e a' w' ⟨rfl, rfl, wc, hbc, rfl⟩
            have hT' := (hT.below hbc hT.lt).set (t * 12 + b) wh
            rw [tabF_set, gv_next _ _ _ _ _ _ _ _ ht1 hlt hb1 hltb h12] at hT'
            have hKr' : Kept [g] w1 (wc.setCell ⟨g, t * 12 + b, none⟩ (.int .i64 wh)) := (hKr.trans (Kept.of_below hbc)).setCell (p := ⟨g, t * 12 + b, none⟩) (by simp) _
            generalize wc.setCell ⟨g, t * 12 + b, none⟩ (.int .i64 wh) = wn at *
            clear hcw hT hKr hc0 r0 r1 r2 hbc ey HFR
            dsimp only [setAll, List.set, List.append_nil, List.cons_append, List.nil_append]
            go_wp2_with fail
            go_roundw
            case rel => exact ⟨b + 1, by omega, by omega, by go_num, hT', HNX'.out, hKr'⟩
            case measure => simp [intOf]; omega
          · have HBD' := hid (HBD.out (by rw [← ey]; exact hy))
            have hy' : (y != 0) = true := by simpa using hy
            clear HNX HBD ey
            go_wp2_with fail
            go_ret
            exact ⟨5, rfl, hK1.trans hKr, Or.inr ⟨rfl, HBD'.out⟩⟩
        · obtain rfl : b = tn := by omega
          have d2 : decide ((b : Int) < (b : Int)) = false := decide_eq_false (by omega)
          rw [gv_row] at hT
          have HFR' := hid HFR.out.row
          go_wp2_with fail
          go_roundw
          case rel => exact ⟨t + 1, by omega, by omega, by go_num, hT, HFR'.out, hKr⟩
          case measure => simp [intOf]; omega
    · obtain rfl : t = en := by omega
      go_wp2_with fail
      go_ret
      exact ⟨0, rfl, hK1.trans hKr, Or.inl ⟨rfl, HFR.out, hT⟩⟩
end Go.Proofs.Ytjpohfghibhkiad
