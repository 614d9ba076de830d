import Derived.Test.YtplkmkbambbemadGreatDoorK12
import Derived.Deep.Cut
import Derived.Test.YtplkmkbambbemadGreatDoorK31
import Derived.Test.YtplkmkbambbemadGreatDoorK30
import Derived.Test.YtplkmkbambbemadGreatDoorK04
import Derived.Test.YtplkmkbambbemadGreatDoorK03
import Derived.Test.YtplkmkbambbemadGreatDoorK16
import Derived.Test.YtplkmkbambbemadGreatDoorK25
namespace Go.Proofs.YtplkmkbambbemadGreatDoor
open Go.ChangeShapes Go.WideShapes Go.ChangeAt Go.RowKit
set_option maxRecDepth 100000 in
set_option maxHeartbeats 4000000 in
theorem rset_16 (sz sd ct bytes R : Int) (w : World) (p : Bool) (hb : 0 ≤ bytes ∧ bytes ≤ 40) (hsd : 0 ≤ sd ∧ sd < 2147483648) (hpw : ∀ wz, Calls Tryz.prog 65 #[.int .i64 sz] wz fun e w' => e = .returned (.bool p) ∧ wz = w')
    (H1 : ¬ (6 ≤ ct ∧ ct ≤ 4096 ∧ ct % 6 = 0 ∧ p = true) → R = 1) (H2 : (6 ≤ ct ∧ ct ≤ 4096 ∧ ct % 6 = 0 ∧ p = true) → R = if sz < 8 * bytes + 24 then 2 else 0) :
    Calls Tryz.prog 29 #[.agg #[.int .i64 1, .int .i64 sz, .int .i64 6, .int .i64 sd, .int .i64 ct], .int .i64 bytes] w fun e w' => e = .returned (.int .i64 R) ∧ Below w.heap.size w w' := by
  have hmix : Tryz.prog.follows .mixedOrders = true := by kernel_rfl
  have H1 := hid H1
  have H2 := hid H2
  obtain ⟨hb, hb'⟩ := hb
  obtain ⟨hsd, hsd'⟩ := hsd
  have hb1 : Below w.heap.size w (w.alloc (.cells #[.int .i64 1, .int .i64 sz, .int .i64 6, .int .i64 sd, .int .i64 ct] 55)) := (Below.refl _ w).alloc (Nat.le_refl _) _
  by_cases d1 : ct < 6
  · have HV := hid (H1.out (by omega)).symm
    clear H1 H2 hpw
    go_enter Tryz.func29, Tryz.ntmps29
    go_wp2_with fail
    go_ret
    exact ⟨ret_intL HV.out, hb1⟩
  by_cases d2 : 4096 < ct
  · have HV := hid (H1.out (by omega)).symm
    clear H1 H2 hpw
    go_enter Tryz.func29, Tryz.ntmps29
    go_wp2_with fail
    go_ret
    exact ⟨ret_intL HV.out, hb1⟩
  have hr : ct.tmod 6 = ct % 6 := Int.tmod_eq_emod_of_nonneg (by omega)
  by_cases d3 : ct % 6 ≠ 0
  · have HV := hid (H1.out (fun h => d3 h.2.2.1)).symm
    have k3 : (ct.tmod 6 != 0) = true := by rw [hr]; simpa using d3
    have k4 : (ct % 6 != 0) = true := by simpa using d3
    clear H1 H2 d3 hpw
    go_enter Tryz.func29, Tryz.ntmps29
    go_wp2_with fail
    go_ret
    exact ⟨ret_intL HV.out, hb1⟩
  have d3' : ct % 6 = 0 := Decidable.not_not.1 d3
  have k3 : (ct.tmod 6 != 0) = false := by rw [hr, d3']; rfl
  have k4 : (ct % 6 != 0) = false := by rw [d3']; rfl
  have k5 : ct.tmod 6 = 0 := by rw [hr, d3']
  have D3 := hid d3'
  clear d3 d3' hr
  cases p with
  | false =>
    have HV := hid (H1.out (fun h => absurd h.2.2.2 (by decide))).symm
    clear H1 H2
    go_enter Tryz.func29, Tryz.ntmps29
    go_wp2_with fail
    refine (hpw _).mono ?_
    rintro e w1 ⟨rfl, rfl⟩
    go_wp2_with fail
    go_ret
    exact ⟨ret_intL HV.out, hb1⟩
  | true =>
    have HW := hid (H2.out ⟨by omega, by omega, D3.out, rfl⟩)
    clear H1 H2
    have hc0 : (w.alloc (.cells #[.int .i64 1, .int .i64 sz, .int .i64 6, .int .i64 sd, .int .i64 ct] 55)).cell? ⟨w.heap.size, 0, none⟩ = some (.int .i64 1) := by rw [cell_of_row _ _ _ _ _ _ (heap_alloc_new w _)]; rfl
    have hc1 : (w.alloc (.cells #[.int .i64 1, .int .i64 sz, .int .i64 6, .int .i64 sd, .int .i64 ct] 55)).cell? ⟨w.heap.size, 1, none⟩ = some (.int .i64 sz) := by rw [cell_of_row _ _ _ _ _ _ (heap_alloc_new w _)]; rfl
    by_cases d5 : sz < 8 * bytes + 24
    · have HV := hid (show (2 : Int) = R by rw [HW.out, if_pos d5])
      go_enter Tryz.func29, Tryz.ntmps29
      go_wp2_with fail
      refine (hpw _).mono ?_
      rintro e w1 ⟨rfl, rfl⟩
      go_upto_region 5 with fail
      generalize (w.alloc (.cells #[.int .i64 1, .int .i64 sz, .int .i64 6, .int .i64 sd, .int .i64 ct] 55)) = wl at *
      have hcw : ∀ (wc : World), Below wl.heap.size wl wc → ∀ q v, wl.cell? q = some v → wc.cell? q = some v := fun wc hbc q v h => (hbc.cell (World.block_lt_of_cell? wl _ h)).trans h
      refine wp_mono (region_lastL (Q := fun e a' w' => e = .normal ∧ a' = ({ tmps := (_ : List Value).toArray, defers := [] } : Act) ∧ Below wl.heap.size wl w') 9 85 (.pointer (some ⟨w.heap.size, 0, none⟩)) [(86, .int .i64 1), (87, .bool true), (88, .bool true), (89, .int .i64 bytes), (90, .int .i64 (8 * bytes + 24)), (91, .pointer (some ⟨w.heap.size, 0 + 1, none⟩)), (92, .int .i64 sz), (93, .bool (decide (sz < 8 * bytes + 24)))]
        [[2], [85], [86], [87], [1, 88], [89, 88], [2, 88], [91, 88], [90, 92, 88]] [1, 2, 3, 9, 5, 8, 7, 8, 9] wl hmix rfl rfl (show ([85, 86, 87, 88, 89, 90, 91, 92, 93] : List Nat).Nodup by decide) (by kernel_rfl) (by kernel_rfl) (by kernel_rfl) (by kernel_rfl) (by kernel_rfl) (fun i' hi' ac wc hbc hrd Q K hK => by
        have h9 : i' = 0 ∨ i' = 1 ∨ i' = 2 ∨ i' = 3 ∨ i' = 4 ∨ i' = 5 ∨ i' = 6 ∨ i' = 7 ∨ i' = 8 := by omega
        rcases h9 with rfl | rfl | rfl | rfl | rfl | rfl | rfl | rfl | rfl
        · exact op_value rfl rfl (run_fldSet wc rfl (hrd 2 (by decide))) (hK wc (grownL wc))
        · exact op_value rfl rfl (run_loadI wc rfl (hrd 85 (by decide)) (hcw wc hbc _ _ hc0)) (hK wc (grownL wc))
        · exact op_value rfl rfl (run_eqlI wc rfl (hrd 86 (by decide)) rfl) (hK wc (grownL wc))
        · exact op_value rfl rfl (run_moveQ wc rfl (hrd 87 (by decide))) (hK wc (grownL wc))
        · exact op_valueG (want := true) rfl rfl rfl rfl (hrd 88 (by decide)) (run_moveQ wc rfl (hrd 1 (by decide))) (hK wc (grownL wc))
        · have h89 : ac.eval (.tmp 89) = .int .i64 bytes := hrd 89 (by decide)
          refine op_callL (us := #[.int .i64 bytes]) (want := true) rfl rfl rfl rfl (hrd 88 (by decide)) rfl (enters_of Tryz.func66 (by kernel_rfl) rfl) (by simp [h89]) (sealed_eq bytes wc ⟨hb, hb'⟩) (fun e wx hR => ?_)
          obtain ⟨rfl, rfl⟩ := hR
          exact ⟨_, rfl, hK _ (grownL _)⟩
        · exact op_valueG (want := true) rfl rfl rfl rfl (hrd 88 (by decide)) (run_fldSet1 wc rfl (hrd 2 (by decide))) (hK wc (grownL wc))
        · exact op_valueG (want := true) rfl rfl rfl rfl (hrd 88 (by decide)) (run_loadI wc rfl (hrd 91 (by decide)) (hcw wc hbc _ _ hc1)) (hK wc (grownL wc))
        · exact op_valueG (want := true) rfl rfl rfl rfl (hrd 88 (by decide)) (run_gtrI wc rfl (hrd 90 (by decide)) (hrd 92 (by decide))) (hK wc (grownL wc)))
        (fun wc hbc => by
          refine op_value rfl rfl (run_pickQ wc rfl (eval_setAll 88 (show ([85, 86, 87, 88, 89, 90, 91, 92, 93] : List Nat).Nodup by decide) (by kernel_rfl)) ((if_pos rfl).trans (eval_setAll 93 (show ([85, 86, 87, 88, 89, 90, 91, 92, 93] : List Nat).Nodup by decide) (by kernel_rfl)))) ⟨rfl, put_list _ _ _, hbc⟩)) ?_
      rintro e a' w' ⟨rfl, rfl, hbw⟩
      have hb2 := hb1.trans (hbw.mono hb1.size)
      clear hcw hbw hc0 hc1 hb1
      dsimp only [setAll, List.set, List.append_nil, List.cons_append, List.nil_append]
      go_wp2_with fail
      go_ret
      exact ⟨ret_intL HV.out, hb2⟩
    · have HV := hid (show (0 : Int) = R by rw [HW.out, if_neg d5])
      go_enter Tryz.func29, Tryz.ntmps29
      go_wp2_with fail
      refine (hpw _).mono ?_
      rintro e w1 ⟨rfl, rfl⟩
      go_upto_region 5 with fail
      generalize (w.alloc (.cells #[.int .i64 1, .int .i64 sz, .int .i64 6, .int .i64 sd, .int .i64 ct] 55)) = wl at *
      have hcw : ∀ (wc : World), Below wl.heap.size wl wc → ∀ q v, wl.cell? q = some v → wc.cell? q = some v := fun wc hbc q v h => (hbc.cell (World.block_lt_of_cell? wl _ h)).trans h
      refine wp_mono (region_lastL (Q := fun e a' w' => e = .normal ∧ a' = ({ tmps := (_ : List Value).toArray, defers := [] } : Act) ∧ Below wl.heap.size wl w') 9 85 (.pointer (some ⟨w.heap.size, 0, none⟩)) [(86, .int .i64 1), (87, .bool true), (88, .bool true), (89, .int .i64 bytes), (90, .int .i64 (8 * bytes + 24)), (91, .pointer (some ⟨w.heap.size, 0 + 1, none⟩)), (92, .int .i64 sz), (93, .bool (decide (sz < 8 * bytes + 24)))]
        [[2], [85], [86], [87], [1, 88], [89, 88], [2, 88], [91, 88], [90, 92, 88]] [1, 2, 3, 9, 5, 8, 7, 8, 9] wl hmix rfl rfl (show ([85, 86, 87, 88, 89, 90, 91, 92, 93] : List Nat).Nodup by decide) (by kernel_rfl) (by kernel_rfl) (by kernel_rfl) (by kernel_rfl) (by kernel_rfl) (fun i' hi' ac wc hbc hrd Q K hK => by
        have h9 : i' = 0 ∨ i' = 1 ∨ i' = 2 ∨ i' = 3 ∨ i' = 4 ∨ i' = 5 ∨ i' = 6 ∨ i' = 7 ∨ i' = 8 := by omega
        rcases h9 with rfl | rfl | rfl | rfl | rfl | rfl | rfl | rfl | rfl
        · exact op_value rfl rfl (run_fldSet wc rfl (hrd 2 (by decide))) (hK wc (grownL wc))
        · exact op_value rfl rfl (run_loadI wc rfl (hrd 85 (by decide)) (hcw wc hbc _ _ hc0)) (hK wc (grownL wc))
        · exact op_value rfl rfl (run_eqlI wc rfl (hrd 86 (by decide)) rfl) (hK wc (grownL wc))
        · exact op_value rfl rfl (run_moveQ wc rfl (hrd 87 (by decide))) (hK wc (grownL wc))
        · exact op_valueG (want := true) rfl rfl rfl rfl (hrd 88 (by decide)) (run_moveQ wc rfl (hrd 1 (by decide))) (hK wc (grownL wc))
        · have h89 : ac.eval (.tmp 89) = .int .i64 bytes := hrd 89 (by decide)
          refine op_callL (us := #[.int .i64 bytes]) (want := true) rfl rfl rfl rfl (hrd 88 (by decide)) rfl (enters_of Tryz.func66 (by kernel_rfl) rfl) (by simp [h89]) (sealed_eq bytes wc ⟨hb, hb'⟩) (fun e wx hR => ?_)
          obtain ⟨rfl, rfl⟩ := hR
          exact ⟨_, rfl, hK _ (grownL _)⟩
        · exact op_valueG (want := true) rfl rfl rfl rfl (hrd 88 (by decide)) (run_fldSet1 wc rfl (hrd 2 (by decide))) (hK wc (grownL wc))
        · exact op_valueG (want := true) rfl rfl rfl rfl (hrd 88 (by decide)) (run_loadI wc rfl (hrd 91 (by decide)) (hcw wc hbc _ _ hc1)) (hK wc (grownL wc))
        · exact op_valueG (want := true) rfl rfl rfl rfl (hrd 88 (by decide)) (run_gtrI wc rfl (hrd 90 (by decide)) (hrd 92 (by decide))) (hK wc (grownL wc)))
        (fun wc hbc => by
          refine op_value rfl rfl (run_pickQ wc rfl (eval_setAll 88 (show ([85, 86, 87, 88, 89, 90, 91, 92, 93] : List Nat).Nodup by decide) (by kernel_rfl)) ((if_pos rfl).trans (eval_setAll 93 (show ([85, 86, 87, 88, 89, 90, 91, 92, 93] : List Nat).Nodup by decide) (by kernel_rfl)))) ⟨rfl, put_list _ _ _, hbc⟩)) ?_
      rintro e a' w' ⟨rfl, rfl, hbw⟩
      have hb2 := hb1.trans (hbw.mono hb1.size)
      clear hcw hbw hc0 hc1 hb1
      dsimp only [setAll, List.set, List.append_nil, List.cons_append, List.nil_append]
      go_wp2_with fail
      go_ret
      exact ⟨ret_intL HV.out, hb2⟩
end Go.Proofs.YtplkmkbambbemadGreatDoor
namespace Go.Proofs.YtplkmkbambbemadGreatDoor
open Go.ChangeShapes Go.WideShapes Go.ChangeAt Go.RowKit
set_option maxRecDepth 100000 in
set_option maxHeartbeats 4000000 in
theorem rsettings_any (S : Setg) (bytes : Int) (w : World) : Calls Tryz.prog 29 #[S.val, .int .i64 bytes] w fun e w' => e = .returned (.int .i64 (setErr S bytes)) ∧ Below w.heap.size w w' := by
  have H1 := hid (fun (h : set1 S bytes = false) => (setErr_no1 h).symm)
  have H2 := hid (fun (h : set2 S = false) => (setErr_no2 (bytes := bytes) h).symm)
  have H3 := hid (show setErr S bytes = if set1 S bytes && set2 S then (if decide (S.code = 1 ∧ S.size < 8 * bytes + 24) then 2 else 0) else 1 from rfl)
  have D1 := hid (show set1 S bytes = decide (0 ≤ bytes ∧ bytes ≤ 40 ∧ (S.code = 0 ∨ S.code = 1) ∧ (S.order = 2 ∨ S.order = 4 ∨ S.order = 6) ∧ 0 ≤ S.seed ∧ S.seed < 2147483648) from rfl)
  have D2 := hid (show set2 S = decide (S.order ≤ S.count ∧ S.count ≤ 4096 ∧ S.count % S.order = 0 ∧ (S.code = 0 → S.size = 0) ∧ (S.code = 1 → powI S.size = true)) from rfl)
  have hpw := fun wz => rpower_any S.size wz
  obtain ⟨R, eR⟩ : ∃ R, R = setErr S bytes := ⟨_, rfl⟩
  rw [← eR] at H1 H2 H3
  rw [← eR]
  obtain ⟨p, ep⟩ : ∃ p, p = powI S.size := ⟨_, rfl⟩
  rw [← ep] at D2
  simp only [← ep] at hpw
  obtain ⟨s1, es1⟩ : ∃ s1, s1 = set1 S bytes := ⟨_, rfl⟩
  obtain ⟨s2, es2⟩ : ∃ s2, s2 = set2 S := ⟨_, rfl⟩
  rw [← es1] at H1 H3 D1
  rw [← es2] at H2 H3 D2
  clear eR ep es1 es2
  obtain ⟨cd, sz, od, sd, ct⟩ := S
  unfold Setg.val
  dsimp only at D1 D2 H3 hpw ⊢
  have hb1 : Below w.heap.size w (w.alloc (.cells #[.int .i64 cd, .int .i64 sz, .int .i64 od, .int .i64 sd, .int .i64 ct] 55)) := (Below.refl _ w).alloc (Nat.le_refl _) _
  by_cases c1 : bytes < 0
  · have HV := hid (H1.out (by rw [D1.out]; exact decide_eq_false (by omega)))
    clear H1 H2 H3 D1 D2
    go_enter Tryz.func29, Tryz.ntmps29
    go_wp2_with fail
    go_ret
    exact ⟨ret_intL HV.out, hb1⟩
  by_cases c2 : 40 < bytes
  · have HV := hid (H1.out (by rw [D1.out]; exact decide_eq_false (by omega)))
    clear H1 H2 H3 D1 D2
    go_enter Tryz.func29, Tryz.ntmps29
    go_wp2_with fail
    go_ret
    exact ⟨ret_intL HV.out, hb1⟩
  by_cases c3 : cd ≠ 0 ∧ cd ≠ 1
  · have HV := hid (H1.out (by rw [D1.out]; exact decide_eq_false (by omega)))
    have k0 : (cd != 0) = true := by simpa using c3.1
    have k1 : (cd != 1) = true := by simpa using c3.2
    clear H1 H2 H3 D1 D2
    go_enter Tryz.func29, Tryz.ntmps29
    go_wp2_with fail
    go_ret
    exact ⟨ret_intL HV.out, hb1⟩
  by_cases c4 : od ≠ 2 ∧ od ≠ 4 ∧ od ≠ 6
  · have hcd : cd = 0 ∨ cd = 1 := by omega
    have HV := hid (H1.out (by rw [D1.out]; exact decide_eq_false (by omega)))
    have k0 : (od != 2) = true := by simpa using c4.1
    have k1 : (od != 4) = true := by simpa using c4.2.1
    have k2 : (od != 6) = true := by simpa using c4.2.2
    clear H1 H2 H3 D1 D2
    rcases hcd with rfl | rfl
    all_goals
      go_enter Tryz.func29, Tryz.ntmps29
      go_wp2_with fail
      go_ret
      exact ⟨ret_intL HV.out, hb1⟩
  by_cases c5 : sd < 0
  · have hod : od = 2 ∨ od = 4 ∨ od = 6 := by omega
    have hcd : cd = 0 ∨ cd = 1 := by omega
    have HV := hid (H1.out (by rw [D1.out]; exact decide_eq_false (by omega)))
    clear H1 H2 H3 D1 D2
    rcases hcd with rfl | rfl <;> rcases hod with rfl | rfl | rfl
    all_goals
      go_enter Tryz.func29, Tryz.ntmps29
      go_wp2_with fail
      go_ret
      exact ⟨ret_intL HV.out, hb1⟩
  by_cases c6 : 2147483648 ≤ sd
  · have hod : od = 2 ∨ od = 4 ∨ od = 6 := by omega
    have hcd : cd = 0 ∨ cd = 1 := by omega
    have HV := hid (H1.out (by rw [D1.out]; exact decide_eq_false (by omega)))
    clear H1 H2 H3 D1 D2
    rcases hcd with rfl | rfl <;> rcases hod with rfl | rfl | rfl
    all_goals
      go_enter Tryz.func29, Tryz.ntmps29
      go_wp2_with fail
      go_ret
      exact ⟨ret_intL HV.out, hb1⟩
  have HS1 : s1 = true := by rw [D1.out]; exact decide_eq_true (by omega)
  have hcd : cd = 0 ∨ cd = 1 := by omega
  have hod : od = 2 ∨ od = 4 ∨ od = 6 := by omega
  have hby : 0 ≤ bytes ∧ bytes ≤ 40 := by omega
  have hsd : 0 ≤ sd ∧ sd < 2147483648 := by omega
  have h2 := H2.out
  have h3 := H3.out
  have d2 := D2.out
  rw [HS1, Bool.true_and] at h3
  rw [d2] at h2 h3
  clear c1 c2 c3 c4 c5 c6 D1 H1 H2 H3 D2 HS1 d2 hb1
  rcases hcd with rfl | rfl <;> rcases hod with rfl | rfl | rfl
  · refine rset_02 sz sd ct bytes R w p hby hsd hpw (fun h => (h2 (decide_eq_false (fun g => h ⟨g.1, g.2.1, g.2.2.1, g.2.2.2.1 rfl⟩))).symm) (fun h => ?_)
    rw [h3, decide_eq_true (⟨h.1, h.2.1, h.2.2.1, fun _ => h.2.2.2, fun g => absurd g (by decide)⟩ : _ ∧ _ ∧ _ ∧ (_ → _) ∧ (_ → _))]
    rfl
  · refine rset_04 sz sd ct bytes R w p hby hsd hpw (fun h => (h2 (decide_eq_false (fun g => h ⟨g.1, g.2.1, g.2.2.1, g.2.2.2.1 rfl⟩))).symm) (fun h => ?_)
    rw [h3, decide_eq_true (⟨h.1, h.2.1, h.2.2.1, fun _ => h.2.2.2, fun g => absurd g (by decide)⟩ : _ ∧ _ ∧ _ ∧ (_ → _) ∧ (_ → _))]
    rfl
  · refine rset_06 sz sd ct bytes R w p hby hsd hpw (fun h => (h2 (decide_eq_false (fun g => h ⟨g.1, g.2.1, g.2.2.1, g.2.2.2.1 rfl⟩))).symm) (fun h => ?_)
    rw [h3, decide_eq_true (⟨h.1, h.2.1, h.2.2.1, fun _ => h.2.2.2, fun g => absurd g (by decide)⟩ : _ ∧ _ ∧ _ ∧ (_ → _) ∧ (_ → _))]
    rfl
  · refine rset_12 sz sd ct bytes R w p hby hsd hpw (fun h => (h2 (decide_eq_false (fun g => h ⟨g.1, g.2.1, g.2.2.1, g.2.2.2.2 rfl⟩))).symm) (fun h => ?_)
    rw [h3, decide_eq_true (⟨h.1, h.2.1, h.2.2.1, fun g => absurd g (by decide), fun _ => h.2.2.2⟩ : _ ∧ _ ∧ _ ∧ (_ → _) ∧ (_ → _))]
    by_cases k : sz < 8 * bytes + 24
    · rw [if_pos k, decide_eq_true (⟨rfl, k⟩ : (1 : Int) = 1 ∧ sz < 8 * bytes + 24)]; rfl
    · rw [if_neg k, decide_eq_false (fun g => k g.2 : ¬ ((1 : Int) = 1 ∧ sz < 8 * bytes + 24))]; rfl
  · refine rset_14 sz sd ct bytes R w p hby hsd hpw (fun h => (h2 (decide_eq_false (fun g => h ⟨g.1, g.2.1, g.2.2.1, g.2.2.2.2 rfl⟩))).symm) (fun h => ?_)
    rw [h3, decide_eq_true (⟨h.1, h.2.1, h.2.2.1, fun g => absurd g (by decide), fun _ => h.2.2.2⟩ : _ ∧ _ ∧ _ ∧ (_ → _) ∧ (_ → _))]
    by_cases k : sz < 8 * bytes + 24
    · rw [if_pos k, decide_eq_true (⟨rfl, k⟩ : (1 : Int) = 1 ∧ sz < 8 * bytes + 24)]; rfl
    · rw [if_neg k, decide_eq_false (fun g => k g.2 : ¬ ((1 : Int) = 1 ∧ sz < 8 * bytes + 24))]; rfl
  · refine rset_16 sz sd ct bytes R w p hby hsd hpw (fun h => (h2 (decide_eq_false (fun g => h ⟨g.1, g.2.1, g.2.2.1, g.2.2.2.2 rfl⟩))).symm) (fun h => ?_)
    rw [h3, decide_eq_true (⟨h.1, h.2.1, h.2.2.1, fun g => absurd g (by decide), fun _ => h.2.2.2⟩ : _ ∧ _ ∧ _ ∧ (_ → _) ∧ (_ → _))]
    by_cases k : sz < 8 * bytes + 24
    · rw [if_pos k, decide_eq_true (⟨rfl, k⟩ : (1 : Int) = 1 ∧ sz < 8 * bytes + 24)]; rfl
    · rw [if_neg k, decide_eq_false (fun g => k g.2 : ¬ ((1 : Int) = 1 ∧ sz < 8 * bytes + 24))]; rfl
end Go.Proofs.YtplkmkbambbemadGreatDoor
namespace Go.Proofs.YtplkmkbambbemadGreatDoor
open Go.ChangeShapes Go.WideShapes Go.ChangeAt Go.RowKit
theorem earNext_length (S : Setg) (s : List Int) (ps : List (Int × Int)) (v : Int) : (earNext S s ps v).length = s.length := by
  unfold earNext
  split
  · rfl
  · unfold nextM; rw [gathTo_length]
theorem earNext_soft {S : Setg} {s : List Int} {ps : List (Int × Int)} {v : Int} (h : softOk s = true) : softOk (earNext S s ps v) = true := by
  unfold earNext
  split
  · exact h
  · rename_i hn
    cases hq : softOk (nextM s (tellM S ps) v) with
    | true => rfl
    | false => exact absurd (Or.inr (Or.inr hq)) hn
end Go.Proofs.YtplkmkbambbemadGreatDoor
namespace Go.Proofs.YtplkmkbambbemadGreatDoor
open Go.ChangeShapes Go.WideShapes Go.ChangeAt Go.RowKit
theorem wpList_pushB {ops : Array Oper} {rest : List Oper} {o : Oper} {a : Act} {Q : Exit → Act → World → Prop} {w0 : World} {v : Value} {ps : List (Int × Int)} {T S : TypeId} {i0 : TypeInfo} (hu : Tryz.prog.underlying S = some (.slice T)) (hi : Tryz.prog.info? T = some i0) (hz0 : i0.zero = some (.agg #[.int .i64 0, .int .i64 0])) (hz1 : i0.size = 2) (hz2 : i0.bytes = 16) (B : Nat) (w00 : World) (p : Int × Int) (hown : OwnT T w0 B v ps) (hgd : o.guard = none) (s x : Operand)
    (ho : o.op = .call { callee := .builtin .append, args := #[s, x], argTypes := #[S, S] }) (hs : a.eval s = v)
    (hx : a.eval x = .slice (some ⟨w0.heap.size, 0, none⟩) 1 1) (hlen : ps.length < 8796093022208) (hbel : Below B w00 w0) (hB : B ≤ w0.heap.size)
    (h : ∀ v' w', OwnT T w' B v' (ps ++ [p]) → Below B w00 w' → w0.grownBy w' v.ownBlock → wpList Tryz.prog ops Q rest (a.put o.dst v') w') : wpList Tryz.prog ops Q (o :: rest) a (w0.alloc (.cells #[.int .i64 p.1, .int .i64 p.2] T)) := by
  refine wpList_append_own _ hgd s x S ho B T i0 (.agg #[.int .i64 0, .int .i64 0]) 2 16 hu hi hz0 hz1 hz2 rfl (by decide) v _ _ hs (World.ownsRow.alloc hown _) ⟨w0.heap.size, 0, none⟩ 1 1 [.int .i64 p.1, .int .i64 p.2] hx rfl ?_ (cellsQ_one [p]) ?_ ?_ ?_ ?_
  · intro j u hj
    rw [Addr.add_lit, cell_of_row _ _ _ _ _ _ (heap_alloc_new w0 _), Nat.zero_add]
    simpa using hj
  · unfold maxLen; omega
  · omega
  · simp; omega
  · intro v' w' h1 h2 _
    have hg : w0.grownBy w' v.ownBlock := by
      have h0 : w0.grownBy (w0.alloc (.cells #[.int .i64 p.1, .int .i64 p.2] T)) none := ⟨rfl, rfl, rfl, by simp, fun k hk _ => Below.heap_alloc _ _ _ hk⟩
      exact ⟨h2.os.trans h0.os, h2.tape.trans h0.tape, h2.output.trans h0.output, Nat.le_trans h0.size h2.size, fun k hk hn => (h2.block k (Nat.lt_of_lt_of_le hk h0.size) hn).trans (h0.block k hk (by simp))⟩
    refine h v' w' ?_ ((hbel.alloc hB _).grown h2 (by simp; omega) hown.blocks) hg
    unfold OwnT
    rw [List.length_append, cellsQ_append]
    exact h1
set_option maxRecDepth 100000 in
set_option maxHeartbeats 2000000 in
theorem turned_big (ps : List (Int × Int)) (V F C : Int) (a : Option Addr) (n c : Nat) (w : World) (hP : Pts w a ps) (hn : ps.length = n) (hz : n ≤ 8796093022208) :
    Calls Tryz.prog 36 #[.slice a n c, .agg #[.int .i64 V, .int .i64 F, .int .i64 C]] w fun e w' => ∃ v, e = .returned v ∧ OwnT 29 w' w.heap.size v (turnTo F C ps n) ∧ Below w.heap.size w w' := by
  obtain ⟨i0, hi, hz0, hz1, hz2⟩ := info_parts Tryz.infoQ
  have HN := hid hn
  have hb1 : Below w.heap.size w (w.alloc (.cells #[.int .i64 V, .int .i64 F, .int .i64 C] 65)) := (Below.refl _ w).alloc (Nat.le_refl _) _
  have q1 : (w.alloc (.cells #[.int .i64 V, .int .i64 F, .int .i64 C] 65)).cell? ⟨w.heap.size, 1, none⟩ = some (.int .i64 F) := by rw [cell_of_row _ _ _ _ _ _ (heap_alloc_new w _)]; rfl
  have q2 : (w.alloc (.cells #[.int .i64 V, .int .i64 F, .int .i64 C] 65)).cell? ⟨w.heap.size, 2, none⟩ = some (.int .i64 C) := by rw [cell_of_row _ _ _ _ _ _ (heap_alloc_new w _)]; rfl
  clear hn
  go_enter Tryz.func36, Tryz.ntmps36
  go_wp2_with fail
  generalize w.alloc (.cells #[.int .i64 V, .int .i64 F, .int .i64 C] 65) = wb at *
  obtain ⟨gB, eB⟩ : ∃ gB, gB = w.heap.size := ⟨_, rfl⟩
  rw [← eB] at q1 q2
  rw [← eB]
  clear eB
  go_loopw [5, 6] (fun v q wr => ∃ i : Nat, i ≤ n ∧ q = .int .i64 i ∧ OwnT 29 wr wb.heap.size v (turnTo F C ps i) ∧ Below wb.heap.size wb wr) (fun _ q _ => n - (intOf q).toNat)
  case atStart => exact ⟨0, Nat.zero_le _, rfl, OwnT.nil _ _ _, Below.refl _ _⟩
  case round =>
    obtain ⟨i, hi', rfl, hO, hbel⟩ := hrel
    have hfin : Below w.heap.size w wr := hb1.trans (hbel.mono hb1.size)
    by_cases hlt : i < n
    · have HLT := hid hlt
      have r1 := (hbel.cell (World.block_lt_of_cell? wb _ q1)).trans q1
      have r2 := (hbel.cell (World.block_lt_of_cell? wb _ q2)).trans q2
      have hil : i < ps.length := by rw [HN.out]; exact hlt
      obtain ⟨b2, o2, rfl, hc2⟩ := (hP.below hfin).at hil
      obtain ⟨s0, s1⟩ := hc2 i hil
      have HSU := hid (turnTo_succ F C ps i)
      have HTP := hid (show turnPt F C ps i = if turnHere F C i then (Go.RowKit.wrap64 (-(ps.getD i (0, 0)).1), Go.RowKit.wrap64 (-(ps.getD i (0, 0)).2)) else ps.getD i (0, 0) from rfl)
      have HTH := hid (show turnHere F C i = (decide (F ≤ (i : Int)) && decide (Go.RowKit.wrap64 ((i : Int) - F) < C)) from rfl)
      have HLN := hid (show (turnTo F C ps i).length < 8796093022208 by rw [turnTo_length]; omega)
      generalize ps.getD i (0, 0) = y at *
      clear hc2 hil
      by_cases hh : turnHere F C i = true
      · have hy : turnPt F C ps i = (Go.RowKit.wrap64 (-y.1), Go.RowKit.wrap64 (-y.2)) := by rw [HTP.out, if_pos hh]
        have HV := hid (show turnTo F C ps (i + 1) = turnTo F C ps i ++ [(Go.RowKit.wrap64 (-y.1), Go.RowKit.wrap64 (-y.2))] by rw [HSU.out, hy])
        rw [HTH.out, Bool.and_eq_true] at hh
        have d1 := hh.1
        have d2 := hh.2
        have e1 : F ≤ (i : Int) := of_decide_eq_true d1
        have al := (Below.refl wr.heap.size wr).alloc (Nat.le_refl _) (.cells #[.int .i64 y.1, .int .i64 y.2] 29)
        have t1 := (al.cell (World.block_lt_of_cell? wr _ r1)).trans r1
        have t2 := (al.cell (World.block_lt_of_cell? wr _ r2)).trans r2
        have al2 := (Below.refl wr.heap.size wr).alloc (Nat.le_refl _) (.cells #[.int .i64 (Go.RowKit.wrap64 (-y.1)), .int .i64 (Go.RowKit.wrap64 (-y.2))] 29)
        have hO5 := hO.below al2
        have hbel5 := hbel.trans (al2.mono hbel.size)
        have x0 : (wr.alloc (.cells #[.int .i64 (Go.RowKit.wrap64 (-y.1)), .int .i64 (Go.RowKit.wrap64 (-y.2))] 29)).cell? ⟨wr.heap.size, 0, none⟩ = some (.int .i64 (Go.RowKit.wrap64 (-y.1))) := by rw [cell_of_row _ _ _ _ _ _ (heap_alloc_new wr _)]; rfl
        have x1 : (wr.alloc (.cells #[.int .i64 (Go.RowKit.wrap64 (-y.1)), .int .i64 (Go.RowKit.wrap64 (-y.2))] 29)).cell? ⟨wr.heap.size, 1, none⟩ = some (.int .i64 (Go.RowKit.wrap64 (-y.2))) := by rw [cell_of_row _ _ _ _ _ _ (heap_alloc_new wr _)]; rfl
        clear hh HTP HTH HSU hy
        go_upto_region 8 with fail
        clear al al2 t1 t2 hO hbel r1 r2 s0 s1
        generalize wr.alloc (.cells #[.int .i64 (Go.RowKit.wrap64 (-y.1)), .int .i64 (Go.RowKit.wrap64 (-y.2))] 29) = w5 at *
        go_wp2_with (first | (at_builtin; refine wpList_pushB Tryz.underlying24 hi hz0 hz1 hz2 wb.heap.size wb (Go.RowKit.wrap64 (-y.1), Go.RowKit.wrap64 (-y.2)) hO5 rfl _ _ rfl rfl rfl HLN.out hbel5 hbel5.size ?_))
        intro v7 w7 hO7 hbel7 _
        rw [← HV.out] at hO7
        clear hO5 hbel5 x0 x1
        go_wp2_with fail
        go_roundw
        case rel =>
          have := HLT.out
          first | exact ⟨i + 1, by omega, by go_num, hO7, hbel7⟩ | ((repeat apply Exists.intro); exact ⟨⟨i + 1, by omega, by go_num, hO7, hbel7⟩, rfl⟩)
        case measure =>
          have := HLT.out
          simp [intOf]
          omega
      · have hh' : turnHere F C i = false := by simpa using hh
        have hy : turnPt F C ps i = (y.1, y.2) := by rw [HTP.out, if_neg hh]
        have HV := hid (show turnTo F C ps (i + 1) = turnTo F C ps i ++ [(y.1, y.2)] by rw [HSU.out, hy])
        clear hh
        by_cases e1 : F ≤ (i : Int)
        · have d1 : decide (F ≤ (i : Int)) = true := decide_eq_true e1
          have d2 : decide (Go.RowKit.wrap64 ((i : Int) - F) < C) = false := by rw [HTH.out, d1, Bool.true_and] at hh'; exact hh'
          clear hh'
          have al := (Below.refl wr.heap.size wr).alloc (Nat.le_refl _) (.cells #[.int .i64 y.1, .int .i64 y.2] 29)
          have t1 := (al.cell (World.block_lt_of_cell? wr _ r1)).trans r1
          have t2 := (al.cell (World.block_lt_of_cell? wr _ r2)).trans r2
          have al2 := (Below.refl wr.heap.size wr).alloc (Nat.le_refl _) (.cells #[.int .i64 y.1, .int .i64 y.2] 29)
          have hO5 := hO.below al2
          have hbel5 := hbel.trans (al2.mono hbel.size)
          have x0 : (wr.alloc (.cells #[.int .i64 y.1, .int .i64 y.2] 29)).cell? ⟨wr.heap.size, 0, none⟩ = some (.int .i64 y.1) := by rw [cell_of_row _ _ _ _ _ _ (heap_alloc_new wr _)]; rfl
          have x1 : (wr.alloc (.cells #[.int .i64 y.1, .int .i64 y.2] 29)).cell? ⟨wr.heap.size, 1, none⟩ = some (.int .i64 y.2) := by rw [cell_of_row _ _ _ _ _ _ (heap_alloc_new wr _)]; rfl
          clear HTP HTH HSU hy
          go_upto_region 8 with fail
          clear al al2 t1 t2 hO hbel r1 r2 s0 s1
          generalize wr.alloc (.cells #[.int .i64 y.1, .int .i64 y.2] 29) = w5 at *
          go_wp2_with (first | (at_builtin; refine wpList_pushB Tryz.underlying24 hi hz0 hz1 hz2 wb.heap.size wb (y.1, y.2) hO5 rfl _ _ rfl rfl rfl HLN.out hbel5 hbel5.size ?_))
          intro v7 w7 hO7 hbel7 _
          rw [← HV.out] at hO7
          clear hO5 hbel5 x0 x1
          go_wp2_with fail
          go_roundw
          case rel =>
            have := HLT.out
            first | exact ⟨i + 1, by omega, by go_num, hO7, hbel7⟩ | ((repeat apply Exists.intro); exact ⟨⟨i + 1, by omega, by go_num, hO7, hbel7⟩, rfl⟩)
          case measure =>
            have := HLT.out
            simp [intOf]
            omega
        · have d1 : decide (F ≤ (i : Int)) = false := decide_eq_false e1
          clear hh'
          have al := (Below.refl wr.heap.size wr).alloc (Nat.le_refl _) (.cells #[.int .i64 y.1, .int .i64 y.2] 29)
          have t1 := (al.cell (World.block_lt_of_cell? wr _ r1)).trans r1
          have t2 := (al.cell (World.block_lt_of_cell? wr _ r2)).trans r2
          have al2 := (Below.refl wr.heap.size wr).alloc (Nat.le_refl _) (.cells #[.int .i64 y.1, .int .i64 y.2] 29)
          have hO5 := hO.below al2
          have hbel5 := hbel.trans (al2.mono hbel.size)
          have x0 : (wr.alloc (.cells #[.int .i64 y.1, .int .i64 y.2] 29)).cell? ⟨wr.heap.size, 0, none⟩ = some (.int .i64 y.1) := by rw [cell_of_row _ _ _ _ _ _ (heap_alloc_new wr _)]; rfl
          have x1 : (wr.alloc (.cells #[.int .i64 y.1, .int .i64 y.2] 29)).cell? ⟨wr.heap.size, 1, none⟩ = some (.int .i64 y.2) := by rw [cell_of_row _ _ _ _ _ _ (heap_alloc_new wr _)]; rfl
          clear HTP HTH HSU hy
          go_upto_region 8 with fail
          clear al al2 t1 t2 hO hbel r1 r2 s0 s1
          generalize wr.alloc (.cells #[.int .i64 y.1, .int .i64 y.2] 29) = w5 at *
          go_wp2_with (first | (at_builtin; refine wpList_pushB Tryz.underlying24 hi hz0 hz1 hz2 wb.heap.size wb (y.1, y.2) hO5 rfl _ _ rfl rfl rfl HLN.out hbel5 hbel5.size ?_))
          intro v7 w7 hO7 hbel7 _
          rw [← HV.out] at hO7
          clear hO5 hbel5 x0 x1
          go_wp2_with fail
          go_roundw
          case rel =>
            have := HLT.out
            first | exact ⟨i + 1, by omega, by go_num, hO7, hbel7⟩ | ((repeat apply Exists.intro); exact ⟨⟨i + 1, by omega, by go_num, hO7, hbel7⟩, rfl⟩)
          case measure =>
            have := HLT.out
            simp [intOf]
            omega
    · obtain rfl : i = n := by omega
      go_wp2_with fail
      go_ret
      exact ⟨_, rfl, hO.mono hb1.size, hfin⟩
set_option maxRecDepth 100000 in
set_option maxHeartbeats 4000000 in
theorem rtake_bad2 (S : Setg) (bytes : Int) (sums : List Int) (g : Nat) (ps : List (Int × Int)) (v : Int) (a : Option Addr) (n c : Nat) (w : World) (hE : REar w g S bytes sums) (hP : Pts w a ps) (hn : ps.length = n) (hz : n ≤ 8796093022208) (hbad : earHears S ps v = false) :
    Calls Tryz.prog 38 #[.pointer (some ⟨g, 0, none⟩), .slice a n c, .int .i64 v] w fun e w' => e = .returned (Told.val ⟨ByteArray.empty, false, 1⟩) ∧ Below w.heap.size w w' := by
  have hmix : Tryz.prog.follows .mixedOrders = true := by kernel_rfl
  have hve := fun wz => rversion_any v wz
  have hhe := fun (wz : World) (h : Pts wz a ps) => rhears_any ps S.order a c wz h (by omega)
  rw [hn] at hhe
  obtain ⟨gs, cs, ⟨c0, c1, c2, c3, c4, c5, c6⟩, -⟩ := hE.cells
  cases hv : verOk v with
  | false =>
    rw [hv] at hve
    clear hhe hbad hE hP hv
    go_enter Tryz.func38, Tryz.ntmps38
    go_wp2_with fail
    refine (hve _).mono ?_
    rintro e w1 ⟨rfl, rfl⟩
    go_wp2_with fail
    go_ret3
    exact ⟨rfl, Below.refl _ _⟩
  | true =>
    have hh : hearsOk ps S.order = false := by unfold earHears at hbad; rw [hv, Bool.true_and] at hbad; exact hbad
    rw [hv] at hve
    rw [hh] at hhe
    have HHE := hid (hhe w hP)
    clear hbad hE hP hv hhe
    go_enter Tryz.func38, Tryz.ntmps38
    go_wp2_with fail
    refine (hve _).mono ?_
    rintro e w1 ⟨rfl, rfl⟩
    go_wp2_with fail
    refine HHE.out.mono ?_
    rintro e w1 ⟨rfl, rfl⟩
    go_wp2_with fail
    go_ret3
    exact ⟨rfl, Below.refl _ _⟩
theorem hears_few2 {ps : List (Int × Int)} {order : Int} (h : hearsOk ps order = true) (ho : 2 ≤ order) : ps.length ≤ 4096 := by
  have h1 := (hears_few h).1
  have h2 : (ps.length : Int) * 1 ≤ (ps.length : Int) * order := Int.mul_le_mul_of_nonneg_left (by omega) (by omega)
  omega
theorem rtake_any2 (S : Setg) (B : Nat) (sums : List Int) (g : Nat) (ps : List (Int × Int)) (v : Int) (a : Option Addr) (n c : Nat) (w : World) (hS : SetOk S B) (hsl : (sums.length : Int) = codedN S B) (hso : softOk sums = true) (hE : REar w g S B sums) (hP : Pts w a ps) (hn : ps.length = n) (hz : n ≤ 8796093022208) :
    Calls Tryz.prog 38 #[.pointer (some ⟨g, 0, none⟩), .slice a n c, .int .i64 v] w fun e w' => e = .returned (earSays S B sums ps v).val ∧ REar w' g S B (earNext S sums ps v) ∧ Kept [g] w w' := by
  cases hh : earHears S ps v with
  | true =>
    have h2 : hearsOk ps S.order = true := by have h := hh; unfold earHears at h; rw [Bool.and_eq_true] at h; exact h.2
    have h3 := hears_few2 h2 (by have := hS.order; omega)
    exact rtake_good S B sums g ps v a n c w hS hsl hso hE hP hn (by omega) hh
  | false =>
    refine (rtake_bad2 S B sums g ps v a n c w hE hP hn hz hh).mono fun e w' h => ?_
    obtain ⟨rfl, hb⟩ := h
    refine ⟨?_, ?_, Kept.of_below hb⟩
    · unfold earSays; rw [if_pos hh]
    · unfold earNext; rw [if_pos (Or.inl hh)]; exact hE.below hb
end Go.Proofs.YtplkmkbambbemadGreatDoor
namespace Go.Proofs.YtplkmkbambbemadGreatDoor
open Go.ChangeShapes Go.WideShapes Go.ChangeAt Go.RowKit
/-- Ready: the tables that the program reads lie there. An ear at p: its blocks F, settings, bytes, sums. -/
structure LinkLaws (Ready : World → Prop) (Ear : World → Addr → List Nat → Setg → Nat → List Int → Prop) : Prop where
  ready : ∀ {w w' : World}, Ready w → Below w.heap.size w w' → Ready w'
  lt : ∀ {w p F S B s}, Ear w p F S B s → ∀ x ∈ F, x < w.heap.size
  kept : ∀ {w w' p F S B s T}, Ear w p F S B s → Kept T w w' → (∀ x ∈ F, x ∉ T) → Ear w' p F S B s
  first : ∀ {w p F S B s}, Ear w p F S B s → p.block ∈ F ∧ ∃ b a n c, p = ⟨b, 0, none⟩ ∧ w.cell? ⟨b, 0, none⟩ = some (.slice a n c)
  check : ∀ (S : Setg) (bytes : Int) (w : World), S.In → I64k bytes → Calls Tryz.prog 28 #[S.val, .int .i64 bytes] w fun e w' => e = .returned (.int .i64 (setErr S bytes)) ∧ Below w.heap.size w w'
  build : ∀ (s : ByteArray) (S : Setg) (v : Int) (w : World), Ready w → S.In → I64k (s.size : Int) → Calls Tryz.prog 32 #[.string s, S.val, .int .i64 v] w fun e w' => ∃ u, e = .returned (.tuple #[u, .int .i64 (buildErr S s.size v)]) ∧ Below w.heap.size w w' ∧ (buildErr S s.size v = 0 → OwnP w' w.heap.size u (builtM S s v.toNat)) ∧ (buildErr S s.size v ≠ 0 → ∃ a c, u = .slice a 0 c)
  new : ∀ (S : Setg) (B : Nat) (w : World), Ready w → S.In → setErr S B = 0 → Calls Tryz.prog 30 #[S.val, .int .i64 B] w fun e w' => ∃ p F, e = .returned (.tuple #[.pointer (some p), .int .i64 0]) ∧ Ear w' p F S B (List.replicate (codedN S B).toNat 0) ∧ (∀ x ∈ F, w.heap.size ≤ x) ∧ Below w.heap.size w w'
  newBad : ∀ (S : Setg) (bytes : Int) (w : World), S.In → I64k bytes → setErr S bytes ≠ 0 → Calls Tryz.prog 30 #[S.val, .int .i64 bytes] w fun e w' => e = .returned (.tuple #[.pointer none, .int .i64 (setErr S bytes)]) ∧ Below w.heap.size w w'
  take : ∀ {w p F S B s} (ps : List (Int × Int)) (a : Option Addr) (n c : Nat) (v : Int), Ready w → Ear w p F S B s → SetOk S B → (s.length : Int) = codedN S B → softOk s = true → Pts w a ps → (∀ g o, a = some ⟨g, o, none⟩ → ps ≠ [] → g ∉ F) → ps.length = n → n ≤ 8796093022208 →
    Calls Tryz.prog 37 #[.pointer (some p), .slice a n c, .int .i64 v] w fun e w' => e = .returned (earSays S B s ps v).val ∧ ∃ F', Ear w' p F' S B (earNext S s ps v) ∧ (∀ x ∈ F', x ∈ F ∨ w.heap.size ≤ x) ∧ Kept [p.block] w w'
end Go.Proofs.YtplkmkbambbemadGreatDoor
namespace Go.Proofs.YtplkmkbambbemadGreatDoor
open Go.ChangeShapes Go.WideShapes Go.ChangeAt Go.RowKit
theorem run_neqE {ρ : Operand → Value} (w : World) {o : Oper} {x y : Operand} {p q : Int} (ho : o.op = .binOp .neq 30 x y 30) (h : ρ x = .int .i64 p) (h' : ρ y = .int .i64 q) : (execOp ρ o).run Tryz.prog w = .ok (.value (.bool (p != q))) w := by
  unfold execOp
  simp only [ho, h, h']
  simp [go_sem]
theorem run_idxT {ρ : Operand → Value} (w : World) {o : Oper} {x y : Operand} {g s j n c : Nat} (ho : o.op = .indexAddr 56 x y) (h : ρ x = .slice (some ⟨g, s, none⟩) n c) (h' : ρ y = .int .i64 j) (hj : j < n) : (execOp ρ o).run Tryz.prog w = .ok (.value (.pointer (some ⟨g, s + j * 3, none⟩))) w := by
  unfold execOp
  simp only [ho, h, h']
  simp [go_sem, Tryz.underlying56, hj]
theorem run_fldT0 {ρ : Operand → Value} (w : World) {o : Oper} {x : Operand} {g s : Nat} (ho : o.op = .fieldAddr 65 x 0) (h : ρ x = .pointer (some ⟨g, s, none⟩)) : (execOp ρ o).run Tryz.prog w = .ok (.value (.pointer (some ⟨g, s, none⟩))) w := by
  unfold execOp
  simp only [ho, h]
  simp [go_sem]
/-- Points with an error; points. -/
def ptuR (n : Nat) (L : List (Int × Int)) (G : Int) : Value → World → Prop := fun x w => ∃ a c, x = .tuple #[.slice a n c, .int .i64 G] ∧ Pts w a L
def pntR (n : Nat) (L : List (Int × Int)) : Value → World → Prop := fun x w => ∃ a c, x = .slice a n c ∧ Pts w a L
theorem ptuR_mono (n : Nat) (L : List (Int × Int)) (G : Int) : MonoR (ptuR n L G) := fun _ _ _ ⟨a, c, h1, h2⟩ hg => ⟨a, c, h1, h2.below (below_of_grown hg)⟩
theorem pntR_mono (n : Nat) (L : List (Int × Int)) : MonoR (pntR n L) := fun _ _ _ ⟨a, c, h1, h2⟩ hg => ⟨a, c, h1, h2.below (below_of_grown hg)⟩
theorem set_cells {w w1 : World} {S : Setg} {T : TypeId} (hb : Below (w.alloc (.cells #[.int .i64 S.code, .int .i64 S.size, .int .i64 S.order, .int .i64 S.seed, .int .i64 S.count] T)).heap.size (w.alloc (.cells #[.int .i64 S.code, .int .i64 S.size, .int .i64 S.order, .int .i64 S.seed, .int .i64 S.count] T)) w1) :
    w1.cell? ⟨w.heap.size, 0, none⟩ = some (.int .i64 S.code) ∧ w1.cell? ⟨w.heap.size, 1, none⟩ = some (.int .i64 S.size) ∧ w1.cell? ⟨w.heap.size, 2, none⟩ = some (.int .i64 S.order) ∧ w1.cell? ⟨w.heap.size, 3, none⟩ = some (.int .i64 S.seed) ∧ w1.cell? ⟨w.heap.size, 4, none⟩ = some (.int .i64 S.count) := by
  have hr := (hb.block w.heap.size (by simp)).trans (heap_alloc_new w _)
  refine ⟨?_, ?_, ?_, ?_, ?_⟩ <;> (rw [cell_of_row _ _ _ _ _ _ hr]; rfl)
end Go.Proofs.YtplkmkbambbemadGreatDoor
