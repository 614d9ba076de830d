import Derived.Test.YtplkmkbambbemadGreatDoorK12
import Derived.Deep.Cut
namespace Go.Proofs.YtplkmkbambbemadGreatDoor
open Go.ChangeShapes Go.WideShapes Go.ChangeAt Go.RowKit
set_option maxRecDepth 100000 in
set_option maxHeartbeats 4000000 in
theorem rset_02 (sz sd ct bytes R : Int) (w : World) (p : Bool) (hb : 0 ≤ bytes ∧ bytes ≤ 40) (hsd : 0 ≤ sd ∧ sd < 2147483648) (hpw : ∀ wz, Calls Tryz.prog 65 #[.int .i64 sz] wz fun e w' => e = .returned (.bool p) ∧ wz = w')
    (H1 : ¬ (2 ≤ ct ∧ ct ≤ 4096 ∧ ct % 2 = 0 ∧ sz = 0) → R = 1) (H2 : (2 ≤ ct ∧ ct ≤ 4096 ∧ ct % 2 = 0 ∧ sz = 0) → R = 0) :
    Calls Tryz.prog 29 #[.agg #[.int .i64 0, .int .i64 sz, .int .i64 2, .int .i64 sd, .int .i64 ct], .int .i64 bytes] w fun e w' => e = .returned (.int .i64 R) ∧ Below w.heap.size w w' := by
  have hmix : Tryz.prog.follows .mixedOrders = true := by kernel_rfl
  have H1 := hid H1
  have H2 := hid H2
  obtain ⟨hb, hb'⟩ := hb
  obtain ⟨hsd, hsd'⟩ := hsd
  have hb1 : Below w.heap.size w (w.alloc (.cells #[.int .i64 0, .int .i64 sz, .int .i64 2, .int .i64 sd, .int .i64 ct] 55)) := (Below.refl _ w).alloc (Nat.le_refl _) _
  by_cases d1 : ct < 2
  · have HV := hid (H1.out (by omega)).symm
    clear H1 H2 hpw
    go_enter Tryz.func29, Tryz.ntmps29
    go_wp2_with fail
    go_ret
    exact ⟨ret_intL HV.out, hb1⟩
  by_cases d2 : 4096 < ct
  · have HV := hid (H1.out (by omega)).symm
    clear H1 H2 hpw
    go_enter Tryz.func29, Tryz.ntmps29
    go_wp2_with fail
    go_ret
    exact ⟨ret_intL HV.out, hb1⟩
  have hr : ct.tmod 2 = ct % 2 := Int.tmod_eq_emod_of_nonneg (by omega)
  by_cases d3 : ct % 2 ≠ 0
  · have HV := hid (H1.out (fun h => d3 h.2.2.1)).symm
    have k3 : (ct.tmod 2 != 0) = true := by rw [hr]; simpa using d3
    have k4 : (ct % 2 != 0) = true := by simpa using d3
    clear H1 H2 d3 hpw
    go_enter Tryz.func29, Tryz.ntmps29
    go_wp2_with fail
    go_ret
    exact ⟨ret_intL HV.out, hb1⟩
  have d3' : ct % 2 = 0 := Decidable.not_not.1 d3
  have k3 : (ct.tmod 2 != 0) = false := by rw [hr, d3']; rfl
  have k4 : (ct % 2 != 0) = false := by rw [d3']; rfl
  have k5 : ct.tmod 2 = 0 := by rw [hr, d3']
  have D3 := hid d3'
  clear d3 d3' hr
  by_cases d4 : sz ≠ 0
  · have HV := hid (H1.out (fun h => d4 h.2.2.2)).symm
    have k6 : (sz != 0) = true := by simpa using d4
    clear H1 H2 d4 hpw
    go_enter Tryz.func29, Tryz.ntmps29
    go_wp2_with fail
    go_ret
    exact ⟨ret_intL HV.out, hb1⟩
  obtain rfl : sz = 0 := Decidable.not_not.1 d4
  have HV := hid (H2.out ⟨by omega, by omega, D3.out, rfl⟩).symm
  clear H1 H2 d4 hpw
  have hc0 : (w.alloc (.cells #[.int .i64 0, .int .i64 0, .int .i64 2, .int .i64 sd, .int .i64 ct] 55)).cell? ⟨w.heap.size, 0, none⟩ = some (.int .i64 0) := by rw [cell_of_row _ _ _ _ _ _ (heap_alloc_new w _)]; rfl
  have hc1 : (w.alloc (.cells #[.int .i64 0, .int .i64 0, .int .i64 2, .int .i64 sd, .int .i64 ct] 55)).cell? ⟨w.heap.size, 1, none⟩ = some (.int .i64 0) := by rw [cell_of_row _ _ _ _ _ _ (heap_alloc_new w _)]; rfl
  go_enter Tryz.func29, Tryz.ntmps29
  go_upto_region 5 with fail
  generalize (w.alloc (.cells #[.int .i64 0, .int .i64 0, .int .i64 2, .int .i64 sd, .int .i64 ct] 55)) = wl at *
  have hcw : ∀ (wc : World), Below wl.heap.size wl wc → ∀ q v, wl.cell? q = some v → wc.cell? q = some v := fun wc hbc q v h => (hbc.cell (World.block_lt_of_cell? wl _ h)).trans h
  refine wp_mono (region_lastL (Q := fun e a' w' => e = .normal ∧ a' = ({ tmps := (_ : List Value).toArray, defers := [] } : Act) ∧ Below wl.heap.size wl w') 9 85 (.pointer (some ⟨w.heap.size, 0, none⟩)) [(86, .int .i64 0), (87, .bool false), (88, .bool false), (89, undef), (90, undef), (91, undef), (92, undef), (93, undef)]
    [[2], [85], [86], [87], [1, 88], [89, 88], [2, 88], [91, 88], [90, 92, 88]] [1, 2, 3, 9, 5, 8, 7, 8, 9] wl hmix rfl rfl (show ([85, 86, 87, 88, 89, 90, 91, 92, 93] : List Nat).Nodup by decide) (by kernel_rfl) (by kernel_rfl) (by kernel_rfl) (by kernel_rfl) (by kernel_rfl) (fun i' hi' ac wc hbc hrd Q K hK => by
    have h9 : i' = 0 ∨ i' = 1 ∨ i' = 2 ∨ i' = 3 ∨ i' = 4 ∨ i' = 5 ∨ i' = 6 ∨ i' = 7 ∨ i' = 8 := by omega
    rcases h9 with rfl | rfl | rfl | rfl | rfl | rfl | rfl | rfl | rfl
    · exact op_value rfl rfl (run_fldSet wc rfl (hrd 2 (by decide))) (hK wc (grownL wc))
    · exact op_value rfl rfl (run_loadI wc rfl (hrd 85 (by decide)) (hcw wc hbc _ _ hc0)) (hK wc (grownL wc))
    · exact op_value rfl rfl (run_eqlI wc rfl (hrd 86 (by decide)) rfl) (hK wc (grownL wc))
    · exact op_value rfl rfl (run_moveQ wc rfl (hrd 87 (by decide))) (hK wc (grownL wc))
    · exact op_skipG (want := true) rfl rfl rfl rfl (hrd 88 (by decide)) (hK wc (grownL wc))
    · exact op_skipG (want := true) rfl rfl rfl rfl (hrd 88 (by decide)) (hK wc (grownL wc))
    · exact op_skipG (want := true) rfl rfl rfl rfl (hrd 88 (by decide)) (hK wc (grownL wc))
    · exact op_skipG (want := true) rfl rfl rfl rfl (hrd 88 (by decide)) (hK wc (grownL wc))
    · exact op_skipG (want := true) rfl rfl rfl rfl (hrd 88 (by decide)) (hK wc (grownL wc)))
    (fun wc hbc => by
      refine op_value rfl rfl (run_pickQ wc rfl (eval_setAll 88 (show ([85, 86, 87, 88, 89, 90, 91, 92, 93] : List Nat).Nodup by decide) (by kernel_rfl)) rfl) ⟨rfl, put_list _ _ _, hbc⟩)) ?_
  rintro e a' w' ⟨rfl, rfl, hbw⟩
  have hb2 := hb1.trans (hbw.mono hb1.size)
  clear hcw hbw hc0 hc1 hb1
  dsimp only [setAll, List.set, List.append_nil, List.cons_append, List.nil_append]
  go_wp2_with fail
  go_ret
  exact ⟨ret_intL HV.out, hb2⟩
end Go.Proofs.YtplkmkbambbemadGreatDoor
namespace Go.Proofs.YtplkmkbambbemadGreatDoor
open Go.ChangeShapes Go.WideShapes Go.ChangeAt Go.RowKit
set_option maxRecDepth 100000 in
set_option maxHeartbeats 4000000 in
theorem rset_04 (sz sd ct bytes R : Int) (w : World) (p : Bool) (hb : 0 ≤ bytes ∧ bytes ≤ 40) (hsd : 0 ≤ sd ∧ sd < 2147483648) (hpw : ∀ wz, Calls Tryz.prog 65 #[.int .i64 sz] wz fun e w' => e = .returned (.bool p) ∧ wz = w')
    (H1 : ¬ (4 ≤ ct ∧ ct ≤ 4096 ∧ ct % 4 = 0 ∧ sz = 0) → R = 1) (H2 : (4 ≤ ct ∧ ct ≤ 4096 ∧ ct % 4 = 0 ∧ sz = 0) → R = 0) :
    Calls Tryz.prog 29 #[.agg #[.int .i64 0, .int .i64 sz, .int .i64 4, .int .i64 sd, .int .i64 ct], .int .i64 bytes] w fun e w' => e = .returned (.int .i64 R) ∧ Below w.heap.size w w' := by
  have hmix : Tryz.prog.follows .mixedOrders = true := by kernel_rfl
  have H1 := hid H1
  have H2 := hid H2
  obtain ⟨hb, hb'⟩ := hb
  obtain ⟨hsd, hsd'⟩ := hsd
  have hb1 : Below w.heap.size w (w.alloc (.cells #[.int .i64 0, .int .i64 sz, .int .i64 4, .int .i64 sd, .int .i64 ct] 55)) := (Below.refl _ w).alloc (Nat.le_refl _) _
  by_cases d1 : ct < 4
  · have HV := hid (H1.out (by omega)).symm
    clear H1 H2 hpw
    go_enter Tryz.func29, Tryz.ntmps29
    go_wp2_with fail
    go_ret
    exact ⟨ret_intL HV.out, hb1⟩
  by_cases d2 : 4096 < ct
  · have HV := hid (H1.out (by omega)).symm
    clear H1 H2 hpw
    go_enter Tryz.func29, Tryz.ntmps29
    go_wp2_with fail
    go_ret
    exact ⟨ret_intL HV.out, hb1⟩
  have hr : ct.tmod 4 = ct % 4 := Int.tmod_eq_emod_of_nonneg (by omega)
  by_cases d3 : ct % 4 ≠ 0
  · have HV := hid (H1.out (fun h => d3 h.2.2.1)).symm
    have k3 : (ct.tmod 4 != 0) = true := by rw [hr]; simpa using d3
    have k4 : (ct % 4 != 0) = true := by simpa using d3
    clear H1 H2 d3 hpw
    go_enter Tryz.func29, Tryz.ntmps29
    go_wp2_with fail
    go_ret
    exact ⟨ret_intL HV.out, hb1⟩
  have d3' : ct % 4 = 0 := Decidable.not_not.1 d3
  have k3 : (ct.tmod 4 != 0) = false := by rw [hr, d3']; rfl
  have k4 : (ct % 4 != 0) = false := by rw [d3']; rfl
  have k5 : ct.tmod 4 = 0 := by rw [hr, d3']
  have D3 := hid d3'
  clear d3 d3' hr
  by_cases d4 : sz ≠ 0
  · have HV := hid (H1.out (fun h => d4 h.2.2.2)).symm
    have k6 : (sz != 0) = true := by simpa using d4
    clear H1 H2 d4 hpw
    go_enter Tryz.func29, Tryz.ntmps29
    go_wp2_with fail
    go_ret
    exact ⟨ret_intL HV.out, hb1⟩
  obtain rfl : sz = 0 := Decidable.not_not.1 d4
  have HV := hid (H2.out ⟨by omega, by omega, D3.out, rfl⟩).symm
  clear H1 H2 d4 hpw
  have hc0 : (w.alloc (.cells #[.int .i64 0, .int .i64 0, .int .i64 4, .int .i64 sd, .int .i64 ct] 55)).cell? ⟨w.heap.size, 0, none⟩ = some (.int .i64 0) := by rw [cell_of_row _ _ _ _ _ _ (heap_alloc_new w _)]; rfl
  have hc1 : (w.alloc (.cells #[.int .i64 0, .int .i64 0, .int .i64 4, .int .i64 sd, .int .i64 ct] 55)).cell? ⟨w.heap.size, 1, none⟩ = some (.int .i64 0) := by rw [cell_of_row _ _ _ _ _ _ (heap_alloc_new w _)]; rfl
  go_enter Tryz.func29, Tryz.ntmps29
  go_upto_region 5 with fail
  generalize (w.alloc (.cells #[.int .i64 0, .int .i64 0, .int .i64 4, .int .i64 sd, .int .i64 ct] 55)) = wl at *
  have hcw : ∀ (wc : World), Below wl.heap.size wl wc → ∀ q v, wl.cell? q = some v → wc.cell? q = some v := fun wc hbc q v h => (hbc.cell (World.block_lt_of_cell? wl _ h)).trans h
  refine wp_mono (region_lastL (Q := fun e a' w' => e = .normal ∧ a' = ({ tmps := (_ : List Value).toArray, defers := [] } : Act) ∧ Below wl.heap.size wl w') 9 85 (.pointer (some ⟨w.heap.size, 0, none⟩)) [(86, .int .i64 0), (87, .bool false), (88, .bool false), (89, undef), (90, undef), (91, undef), (92, undef), (93, undef)]
    [[2], [85], [86], [87], [1, 88], [89, 88], [2, 88], [91, 88], [90, 92, 88]] [1, 2, 3, 9, 5, 8, 7, 8, 9] wl hmix rfl rfl (show ([85, 86, 87, 88, 89, 90, 91, 92, 93] : List Nat).Nodup by decide) (by kernel_rfl) (by kernel_rfl) (by kernel_rfl) (by kernel_rfl) (by kernel_rfl) (fun i' hi' ac wc hbc hrd Q K hK => by
    have h9 : i' = 0 ∨ i' = 1 ∨ i' = 2 ∨ i' = 3 ∨ i' = 4 ∨ i' = 5 ∨ i' = 6 ∨ i' = 7 ∨ i' = 8 := by omega
    rcases h9 with rfl | rfl | rfl | rfl | rfl | rfl | rfl | rfl | rfl
    · exact op_value rfl rfl (run_fldSet wc rfl (hrd 2 (by decide))) (hK wc (grownL wc))
    · exact op_value rfl rfl (run_loadI wc rfl (hrd 85 (by decide)) (hcw wc hbc _ _ hc0)) (hK wc (grownL wc))
    · exact op_value rfl rfl (run_eqlI wc rfl (hrd 86 (by decide)) rfl) (hK wc (grownL wc))
    · exact op_value rfl rfl (run_moveQ wc rfl (hrd 87 (by decide))) (hK wc (grownL wc))
    · exact op_skipG (want := true) rfl rfl rfl rfl (hrd 88 (by decide)) (hK wc (grownL wc))
    · exact op_skipG (want := true) rfl rfl rfl rfl (hrd 88 (by decide)) (hK wc (grownL wc))
    · exact op_skipG (want := true) rfl rfl rfl rfl (hrd 88 (by decide)) (hK wc (grownL wc))
    · exact op_skipG (want := true) rfl rfl rfl rfl (hrd 88 (by decide)) (hK wc (grownL wc))
    · exact op_skipG (want := true) rfl rfl rfl rfl (hrd 88 (by decide)) (hK wc (grownL wc)))
    (fun wc hbc => by
      refine op_value rfl rfl (run_pickQ wc rfl (eval_setAll 88 (show ([85, 86, 87, 88, 89, 90, 91, 92, 93] : List Nat).Nodup by decide) (by kernel_rfl)) rfl) ⟨rfl, put_list _ _ _, hbc⟩)) ?_
  rintro e a' w' ⟨rfl, rfl, hbw⟩
  have hb2 := hb1.trans (hbw.mono hb1.size)
  clear hcw hbw hc0 hc1 hb1
  dsimp only [setAll, List.set, List.append_nil, List.cons_append, List.nil_append]
  go_wp2_with fail
  go_ret
  exact ⟨ret_intL HV.out, hb2⟩
end Go.Proofs.YtplkmkbambbemadGreatDoor
namespace Go.Proofs.YtplkmkbambbemadGreatDoor
open Go.ChangeShapes Go.WideShapes Go.ChangeAt Go.RowKit
set_option maxRecDepth 100000 in
set_option maxHeartbeats 4000000 in
theorem rset_06 (sz sd ct bytes R : Int) (w : World) (p : Bool) (hb : 0 ≤ bytes ∧ bytes ≤ 40) (hsd : 0 ≤ sd ∧ sd < 2147483648) (hpw : ∀ wz, Calls Tryz.prog 65 #[.int .i64 sz] wz fun e w' => e = .returned (.bool p) ∧ wz = w')
    (H1 : ¬ (6 ≤ ct ∧ ct ≤ 4096 ∧ ct % 6 = 0 ∧ sz = 0) → R = 1) (H2 : (6 ≤ ct ∧ ct ≤ 4096 ∧ ct % 6 = 0 ∧ sz = 0) → R = 0) :
    Calls Tryz.prog 29 #[.agg #[.int .i64 0, .int .i64 sz, .int .i64 6, .int .i64 sd, .int .i64 ct], .int .i64 bytes] w fun e w' => e = .returned (.int .i64 R) ∧ Below w.heap.size w w' := by
  have hmix : Tryz.prog.follows .mixedOrders = true := by kernel_rfl
  have H1 := hid H1
  have H2 := hid H2
  obtain ⟨hb, hb'⟩ := hb
  obtain ⟨hsd, hsd'⟩ := hsd
  have hb1 : Below w.heap.size w (w.alloc (.cells #[.int .i64 0, .int .i64 sz, .int .i64 6, .int .i64 sd, .int .i64 ct] 55)) := (Below.refl _ w).alloc (Nat.le_refl _) _
  by_cases d1 : ct < 6
  · have HV := hid (H1.out (by omega)).symm
    clear H1 H2 hpw
    go_enter Tryz.func29, Tryz.ntmps29
    go_wp2_with fail
    go_ret
    exact ⟨ret_intL HV.out, hb1⟩
  by_cases d2 : 4096 < ct
  · have HV := hid (H1.out (by omega)).symm
    clear H1 H2 hpw
    go_enter Tryz.func29, Tryz.ntmps29
    go_wp2_with fail
    go_ret
    exact ⟨ret_intL HV.out, hb1⟩
  have hr : ct.tmod 6 = ct % 6 := Int.tmod_eq_emod_of_nonneg (by omega)
  by_cases d3 : ct % 6 ≠ 0
  · have HV := hid (H1.out (fun h => d3 h.2.2.1)).symm
    have k3 : (ct.tmod 6 != 0) = true := by rw [hr]; simpa using d3
    have k4 : (ct % 6 != 0) = true := by simpa using d3
    clear H1 H2 d3 hpw
    go_enter Tryz.func29, Tryz.ntmps29
    go_wp2_with fail
    go_ret
    exact ⟨ret_intL HV.out, hb1⟩
  have d3' : ct % 6 = 0 := Decidable.not_not.1 d3
  have k3 : (ct.tmod 6 != 0) = false := by rw [hr, d3']; rfl
  have k4 : (ct % 6 != 0) = false := by rw [d3']; rfl
  have k5 : ct.tmod 6 = 0 := by rw [hr, d3']
  have D3 := hid d3'
  clear d3 d3' hr
  by_cases d4 : sz ≠ 0
  · have HV := hid (H1.out (fun h => d4 h.2.2.2)).symm
    have k6 : (sz != 0) = true := by simpa using d4
    clear H1 H2 d4 hpw
    go_enter Tryz.func29, Tryz.ntmps29
    go_wp2_with fail
    go_ret
    exact ⟨ret_intL HV.out, hb1⟩
  obtain rfl : sz = 0 := Decidable.not_not.1 d4
  have HV := hid (H2.out ⟨by omega, by omega, D3.out, rfl⟩).symm
  clear H1 H2 d4 hpw
  have hc0 : (w.alloc (.cells #[.int .i64 0, .int .i64 0, .int .i64 6, .int .i64 sd, .int .i64 ct] 55)).cell? ⟨w.heap.size, 0, none⟩ = some (.int .i64 0) := by rw [cell_of_row _ _ _ _ _ _ (heap_alloc_new w _)]; rfl
  have hc1 : (w.alloc (.cells #[.int .i64 0, .int .i64 0, .int .i64 6, .int .i64 sd, .int .i64 ct] 55)).cell? ⟨w.heap.size, 1, none⟩ = some (.int .i64 0) := by rw [cell_of_row _ _ _ _ _ _ (heap_alloc_new w _)]; rfl
  go_enter Tryz.func29, Tryz.ntmps29
  go_upto_region 5 with fail
  generalize (w.alloc (.cells #[.int .i64 0, .int .i64 0, .int .i64 6, .int .i64 sd, .int .i64 ct] 55)) = wl at *
  have hcw : ∀ (wc : World), Below wl.heap.size wl wc → ∀ q v, wl.cell? q = some v → wc.cell? q = some v := fun wc hbc q v h => (hbc.cell (World.block_lt_of_cell? wl _ h)).trans h
  refine wp_mono (region_lastL (Q := fun e a' w' => e = .normal ∧ a' = ({ tmps := (_ : List Value).toArray, defers := [] } : Act) ∧ Below wl.heap.size wl w') 9 85 (.pointer (some ⟨w.heap.size, 0, none⟩)) [(86, .int .i64 0), (87, .bool false), (88, .bool false), (89, undef), (90, undef), (91, undef), (92, undef), (93, undef)]
    [[2], [85], [86], [87], [1, 88], [89, 88], [2, 88], [91, 88], [90, 92, 88]] [1, 2, 3, 9, 5, 8, 7, 8, 9] wl hmix rfl rfl (show ([85, 86, 87, 88, 89, 90, 91, 92, 93] : List Nat).Nodup by decide) (by kernel_rfl) (by kernel_rfl) (by kernel_rfl) (by kernel_rfl) (by kernel_rfl) (fun i' hi' ac wc hbc hrd Q K hK => by
    have h9 : i' = 0 ∨ i' = 1 ∨ i' = 2 ∨ i' = 3 ∨ i' = 4 ∨ i' = 5 ∨ i' = 6 ∨ i' = 7 ∨ i' = 8 := by omega
    rcases h9 with rfl | rfl | rfl | rfl | rfl | rfl | rfl | rfl | rfl
    · exact op_value rfl rfl (run_fldSet wc rfl (hrd 2 (by decide))) (hK wc (grownL wc))
    · exact op_value rfl rfl (run_loadI wc rfl (hrd 85 (by decide)) (hcw wc hbc _ _ hc0)) (hK wc (grownL wc))
    · exact op_value rfl rfl (run_eqlI wc rfl (hrd 86 (by decide)) rfl) (hK wc (grownL wc))
    · exact op_value rfl rfl (run_moveQ wc rfl (hrd 87 (by decide))) (hK wc (grownL wc))
    · exact op_skipG (want := true) rfl rfl rfl rfl (hrd 88 (by decide)) (hK wc (grownL wc))
    · exact op_skipG (want := true) rfl rfl rfl rfl (hrd 88 (by decide)) (hK wc (grownL wc))
    · exact op_skipG (want := true) rfl rfl rfl rfl (hrd 88 (by decide)) (hK wc (grownL wc))
    · exact op_skipG (want := true) rfl rfl rfl rfl (hrd 88 (by decide)) (hK wc (grownL wc))
    · exact op_skipG (want := true) rfl rfl rfl rfl (hrd 88 (by decide)) (hK wc (grownL wc)))
    (fun wc hbc => by
      refine op_value rfl rfl (run_pickQ wc rfl (eval_setAll 88 (show ([85, 86, 87, 88, 89, 90, 91, 92, 93] : List Nat).Nodup by decide) (by kernel_rfl)) rfl) ⟨rfl, put_list _ _ _, hbc⟩)) ?_
  rintro e a' w' ⟨rfl, rfl, hbw⟩
  have hb2 := hb1.trans (hbw.mono hb1.size)
  clear hcw hbw hc0 hc1 hb1
  dsimp only [setAll, List.set, List.append_nil, List.cons_append, List.nil_append]
  go_wp2_with fail
  go_ret
  exact ⟨ret_intL HV.out, hb2⟩
end Go.Proofs.YtplkmkbambbemadGreatDoor
namespace Go.Proofs.YtplkmkbambbemadGreatDoor
open Go.ChangeShapes Go.WideShapes Go.ChangeAt Go.RowKit
set_option maxRecDepth 100000 in
set_option maxHeartbeats 4000000 in
theorem rset_12 (sz sd ct bytes R : Int) (w : World) (p : Bool) (hb : 0 ≤ bytes ∧ bytes ≤ 40) (hsd : 0 ≤ sd ∧ sd < 2147483648) (hpw : ∀ wz, Calls Tryz.prog 65 #[.int .i64 sz] wz fun e w' => e = .returned (.bool p) ∧ wz = w')
    (H1 : ¬ (2 ≤ ct ∧ ct ≤ 4096 ∧ ct % 2 = 0 ∧ p = true) → R = 1) (H2 : (2 ≤ ct ∧ ct ≤ 4096 ∧ ct % 2 = 0 ∧ p = true) → R = if sz < 8 * bytes + 24 then 2 else 0) :
    Calls Tryz.prog 29 #[.agg #[.int .i64 1, .int .i64 sz, .int .i64 2, .int .i64 sd, .int .i64 ct], .int .i64 bytes] w fun e w' => e = .returned (.int .i64 R) ∧ Below w.heap.size w w' := by
  have hmix : Tryz.prog.follows .mixedOrders = true := by kernel_rfl
  have H1 := hid H1
  have H2 := hid H2
  obtain ⟨hb, hb'⟩ := hb
  obtain ⟨hsd, hsd'⟩ := hsd
  have hb1 : Below w.heap.size w (w.alloc (.cells #[.int .i64 1, .int .i64 sz, .int .i64 2, .int .i64 sd, .int .i64 ct] 55)) := (Below.refl _ w).alloc (Nat.le_refl _) _
  by_cases d1 : ct < 2
  · have HV := hid (H1.out (by omega)).symm
    clear H1 H2 hpw
    go_enter Tryz.func29, Tryz.ntmps29
    go_wp2_with fail
    go_ret
    exact ⟨ret_intL HV.out, hb1⟩
  by_cases d2 : 4096 < ct
  · have HV := hid (H1.out (by omega)).symm
    clear H1 H2 hpw
    go_enter Tryz.func29, Tryz.ntmps29
    go_wp2_with fail
    go_ret
    exact ⟨ret_intL HV.out, hb1⟩
  have hr : ct.tmod 2 = ct % 2 := Int.tmod_eq_emod_of_nonneg (by omega)
  by_cases d3 : ct % 2 ≠ 0
  · have HV := hid (H1.out (fun h => d3 h.2.2.1)).symm
    have k3 : (ct.tmod 2 != 0) = true := by rw [hr]; simpa using d3
    have k4 : (ct % 2 != 0) = true := by simpa using d3
    clear H1 H2 d3 hpw
    go_enter Tryz.func29, Tryz.ntmps29
    go_wp2_with fail
    go_ret
    exact ⟨ret_intL HV.out, hb1⟩
  have d3' : ct % 2 = 0 := Decidable.not_not.1 d3
  have k3 : (ct.tmod 2 != 0) = false := by rw [hr, d3']; rfl
  have k4 : (ct % 2 != 0) = false := by rw [d3']; rfl
  have k5 : ct.tmod 2 = 0 := by rw [hr, d3']
  have D3 := hid d3'
  clear d3 d3' hr
  cases p with
  | false =>
    have HV := hid (H1.out (fun h => absurd h.2.2.2 (by decide))).symm
    clear H1 H2
    go_enter Tryz.func29, Tryz.ntmps29
    go_wp2_with fail
    refine (hpw _).mono ?_
    rintro e w1 ⟨rfl, rfl⟩
    go_wp2_with fail
    go_ret
    exact ⟨ret_intL HV.out, hb1⟩
  | true =>
    have HW := hid (H2.out ⟨by omega, by omega, D3.out, rfl⟩)
    clear H1 H2
    have hc0 : (w.alloc (.cells #[.int .i64 1, .int .i64 sz, .int .i64 2, .int .i64 sd, .int .i64 ct] 55)).cell? ⟨w.heap.size, 0, none⟩ = some (.int .i64 1) := by rw [cell_of_row _ _ _ _ _ _ (heap_alloc_new w _)]; rfl
    have hc1 : (w.alloc (.cells #[.int .i64 1, .int .i64 sz, .int .i64 2, .int .i64 sd, .int .i64 ct] 55)).cell? ⟨w.heap.size, 1, none⟩ = some (.int .i64 sz) := by rw [cell_of_row _ _ _ _ _ _ (heap_alloc_new w _)]; rfl
    by_cases d5 : sz < 8 * bytes + 24
    · have HV := hid (show (2 : Int) = R by rw [HW.out, if_pos d5])
      go_enter Tryz.func29, Tryz.ntmps29
      go_wp2_with fail
      refine (hpw _).mono ?_
      rintro e w1 ⟨rfl, rfl⟩
      go_upto_region 5 with fail
      generalize (w.alloc (.cells #[.int .i64 1, .int .i64 sz, .int .i64 2, .int .i64 sd, .int .i64 ct] 55)) = wl at *
      have hcw : ∀ (wc : World), Below wl.heap.size wl wc → ∀ q v, wl.cell? q = some v → wc.cell? q = some v := fun wc hbc q v h => (hbc.cell (World.block_lt_of_cell? wl _ h)).trans h
      refine wp_mono (region_lastL (Q := fun e a' w' => e = .normal ∧ a' = ({ tmps := (_ : List Value).toArray, defers := [] } : Act) ∧ Below wl.heap.size wl w') 9 85 (.pointer (some ⟨w.heap.size, 0, none⟩)) [(86, .int .i64 1), (87, .bool true), (88, .bool true), (89, .int .i64 bytes), (90, .int .i64 (8 * bytes + 24)), (91, .pointer (some ⟨w.heap.size, 0 + 1, none⟩)), (92, .int .i64 sz), (93, .bool (decide (sz < 8 * bytes + 24)))]
        [[2], [85], [86], [87], [1, 88], [89, 88], [2, 88], [91, 88], [90, 92, 88]] [1, 2, 3, 9, 5, 8, 7, 8, 9] wl hmix rfl rfl (show ([85, 86, 87, 88, 89, 90, 91, 92, 93] : List Nat).Nodup by decide) (by kernel_rfl) (by kernel_rfl) (by kernel_rfl) (by kernel_rfl) (by kernel_rfl) (fun i' hi' ac wc hbc hrd Q K hK => by
        have h9 : i' = 0 ∨ i' = 1 ∨ i' = 2 ∨ i' = 3 ∨ i' = 4 ∨ i' = 5 ∨ i' = 6 ∨ i' = 7 ∨ i' = 8 := by omega
        rcases h9 with rfl | rfl | rfl | rfl | rfl | rfl | rfl | rfl | rfl
        · exact op_value rfl rfl (run_fldSet wc rfl (hrd 2 (by decide))) (hK wc (grownL wc))
        · exact op_value rfl rfl (run_loadI wc rfl (hrd 85 (by decide)) (hcw wc hbc _ _ hc0)) (hK wc (grownL wc))
        · exact op_value rfl rfl (run_eqlI wc rfl (hrd 86 (by decide)) rfl) (hK wc (grownL wc))
        · exact op_value rfl rfl (run_moveQ wc rfl (hrd 87 (by decide))) (hK wc (grownL wc))
        · exact op_valueG (want := true) rfl rfl rfl rfl (hrd 88 (by decide)) (run_moveQ wc rfl (hrd 1 (by decide))) (hK wc (grownL wc))
        · have h89 : ac.eval (.tmp 89) = .int .i64 bytes := hrd 89 (by decide)
          refine op_callL (us := #[.int .i64 bytes]) (want := true) rfl rfl rfl rfl (hrd 88 (by decide)) rfl (enters_of Tryz.func66 (by kernel_rfl) rfl) (by simp [h89]) (sealed_eq bytes wc ⟨hb, hb'⟩) (fun e wx hR => ?_)
          obtain ⟨rfl, rfl⟩ := hR
          exact ⟨_, rfl, hK _ (grownL _)⟩
        · exact op_valueG (want := true) rfl rfl rfl rfl (hrd 88 (by decide)) (run_fldSet1 wc rfl (hrd 2 (by decide))) (hK wc (grownL wc))
        · exact op_valueG (want := true) rfl rfl rfl rfl (hrd 88 (by decide)) (run_loadI wc rfl (hrd 91 (by decide)) (hcw wc hbc _ _ hc1)) (hK wc (grownL wc))
        · exact op_valueG (want := true) rfl rfl rfl rfl (hrd 88 (by decide)) (run_gtrI wc rfl (hrd 90 (by decide)) (hrd 92 (by decide))) (hK wc (grownL wc)))
        (fun wc hbc => by
          refine op_value rfl rfl (run_pickQ wc rfl (eval_setAll 88 (show ([85, 86, 87, 88, 89, 90, 91, 92, 93] : List Nat).Nodup by decide) (by kernel_rfl)) ((if_pos rfl).trans (eval_setAll 93 (show ([85, 86, 87, 88, 89, 90, 91, 92, 93] : List Nat).Nodup by decide) (by kernel_rfl)))) ⟨rfl, put_list _ _ _, hbc⟩)) ?_
      rintro e a' w' ⟨rfl, rfl, hbw⟩
      have hb2 := hb1.trans (hbw.mono hb1.size)
      clear hcw hbw hc0 hc1 hb1
      dsimp only [setAll, List.set, List.append_nil, List.cons_append, List.nil_append]
      go_wp2_with fail
      go_ret
      exact ⟨ret_intL HV.out, hb2⟩
    · have HV := hid (show (0 : Int) = R by rw [HW.out, if_neg d5])
      go_enter Tryz.func29, Tryz.ntmps29
      go_wp2_with fail
      refine (hpw _).mono ?_
      rintro e w1 ⟨rfl, rfl⟩
      go_upto_region 5 with fail
      generalize (w.alloc (.cells #[.int .i64 1, .int .i64 sz, .int .i64 2, .int .i64 sd, .int .i64 ct] 55)) = wl at *
      have hcw : ∀ (wc : World), Below wl.heap.size wl wc → ∀ q v, wl.cell? q = some v → wc.cell? q = some v := fun wc hbc q v h => (hbc.cell (World.block_lt_of_cell? wl _ h)).trans h
      refine wp_mono (region_lastL (Q := fun e a' w' => e = .normal ∧ a' = ({ tmps := (_ : List Value).toArray, defers := [] } : Act) ∧ Below wl.heap.size wl w') 9 85 (.pointer (some ⟨w.heap.size, 0, none⟩)) [(86, .int .i64 1), (87, .bool true), (88, .bool true), (89, .int .i64 bytes), (90, .int .i64 (8 * bytes + 24)), (91, .pointer (some ⟨w.heap.size, 0 + 1, none⟩)), (92, .int .i64 sz), (93, .bool (decide (sz < 8 * bytes + 24)))]
        [[2], [85], [86], [87], [1, 88], [89, 88], [2, 88], [91, 88], [90, 92, 88]] [1, 2, 3, 9, 5, 8, 7, 8, 9] wl hmix rfl rfl (show ([85, 86, 87, 88, 89, 90, 91, 92, 93] : List Nat).Nodup by decide) (by kernel_rfl) (by kernel_rfl) (by kernel_rfl) (by kernel_rfl) (by kernel_rfl) (fun i' hi' ac wc hbc hrd Q K hK => by
        have h9 : i' = 0 ∨ i' = 1 ∨ i' = 2 ∨ i' = 3 ∨ i' = 4 ∨ i' = 5 ∨ i' = 6 ∨ i' = 7 ∨ i' = 8 := by omega
        rcases h9 with rfl | rfl | rfl | rfl | rfl | rfl | rfl | rfl | rfl
        · exact op_value rfl rfl (run_fldSet wc rfl (hrd 2 (by decide))) (hK wc (grownL wc))
        · exact op_value rfl rfl (run_loadI wc rfl (hrd 85 (by decide)) (hcw wc hbc _ _ hc0)) (hK wc (grownL wc))
        · exact op_value rfl rfl (run_eqlI wc rfl (hrd 86 (by decide)) rfl) (hK wc (grownL wc))
        · exact op_value rfl rfl (run_moveQ wc rfl (hrd 87 (by decide))) (hK wc (grownL wc))
        · exact op_valueG (want := true) rfl rfl rfl rfl (hrd 88 (by decide)) (run_moveQ wc rfl (hrd 1 (by decide))) (hK wc (grownL wc))
        · have h89 : ac.eval (.tmp 89) = .int .i64 bytes := hrd 89 (by decide)
          refine op_callL (us := #[.int .i64 bytes]) (want := true) rfl rfl rfl rfl (hrd 88 (by decide)) rfl (enters_of Tryz.func66 (by kernel_rfl) rfl) (by simp [h89]) (sealed_eq bytes wc ⟨hb, hb'⟩) (fun e wx hR => ?_)
          obtain ⟨rfl, rfl⟩ := hR
          exact ⟨_, rfl, hK _ (grownL _)⟩
        · exact op_valueG (want := true) rfl rfl rfl rfl (hrd 88 (by decide)) (run_fldSet1 wc rfl (hrd 2 (by decide))) (hK wc (grownL wc))
        · exact op_valueG (want := true) rfl rfl rfl rfl (hrd 88 (by decide)) (run_loadI wc rfl (hrd 91 (by decide)) (hcw wc hbc _ _ hc1)) (hK wc (grownL wc))
        · exact op_valueG (want := true) rfl rfl rfl rfl (hrd 88 (by decide)) (run_gtrI wc rfl (hrd 90 (by decide)) (hrd 92 (by decide))) (hK wc (grownL wc)))
        (fun wc hbc => by
          refine op_value rfl rfl (run_pickQ wc rfl (eval_setAll 88 (show ([85, 86, 87, 88, 89, 90, 91, 92, 93] : List Nat).Nodup by decide) (by kernel_rfl)) ((if_pos rfl).trans (eval_setAll 93 (show ([85, 86, 87, 88, 89, 90, 91, 92, 93] : List Nat).Nodup by decide) (by kernel_rfl)))) ⟨rfl, put_list _ _ _, hbc⟩)) ?_
      rintro e a' w' ⟨rfl, rfl, hbw⟩
      have hb2 := hb1.trans (hbw.mono hb1.size)
      clear hcw hbw hc0 hc1 hb1
      dsimp only [setAll, List.set, List.append_nil, List.cons_append, List.nil_append]
      go_wp2_with fail
      go_ret
      exact ⟨ret_intL HV.out, hb2⟩
end Go.Proofs.YtplkmkbambbemadGreatDoor
namespace Go.Proofs.YtplkmkbambbemadGreatDoor
open Go.ChangeShapes Go.WideShapes Go.ChangeAt Go.RowKit
set_option maxRecDepth 100000 in
set_option maxHeartbeats 4000000 in
theorem rset_14 (sz sd ct bytes R : Int) (w : World) (p : Bool) (hb : 0 ≤ bytes ∧ bytes ≤ 40) (hsd : 0 ≤ sd ∧ sd < 2147483648) (hpw : ∀ wz, Calls Tryz.prog 65 #[.int .i64 sz] wz fun e w' => e = .returned (.bool p) ∧ wz = w')
    (H1 : ¬ (4 ≤ ct ∧ ct ≤ 4096 ∧ ct % 4 = 0 ∧ p = true) → R = 1) (H2 : (4 ≤ ct ∧ ct ≤ 4096 ∧ ct % 4 = 0 ∧ p = true) → R = if sz < 8 * bytes + 24 then 2 else 0) :
    Calls Tryz.prog 29 #[.agg #[.int .i64 1, .int .i64 sz, .int .i64 4, .int .i64 sd, .int .i64 ct], .int .i64 bytes] w fun e w' => e = .returned (.int .i64 R) ∧ Below w.heap.size w w' := by
  have hmix : Tryz.prog.follows .mixedOrders = true := by kernel_rfl
  have H1 := hid H1
  have H2 := hid H2
  obtain ⟨hb, hb'⟩ := hb
  obtain ⟨hsd, hsd'⟩ := hsd
  have hb1 : Below w.heap.size w (w.alloc (.cells #[.int .i64 1, .int .i64 sz, .int .i64 4, .int .i64 sd, .int .i64 ct] 55)) := (Below.refl _ w).alloc (Nat.le_refl _) _
  by_cases d1 : ct < 4
  · have HV := hid (H1.out (by omega)).symm
    clear H1 H2 hpw
    go_enter Tryz.func29, Tryz.ntmps29
    go_wp2_with fail
    go_ret
    exact ⟨ret_intL HV.out, hb1⟩
  by_cases d2 : 4096 < ct
  · have HV := hid (H1.out (by omega)).symm
    clear H1 H2 hpw
    go_enter Tryz.func29, Tryz.ntmps29
    go_wp2_with fail
    go_ret
    exact ⟨ret_intL HV.out, hb1⟩
  have hr : ct.tmod 4 = ct % 4 := Int.tmod_eq_emod_of_nonneg (by omega)
  by_cases d3 : ct % 4 ≠ 0
  · have HV := hid (H1.out (fun h => d3 h.2.2.1)).symm
    have k3 : (ct.tmod 4 != 0) = true := by rw [hr]; simpa using d3
    have k4 : (ct % 4 != 0) = true := by simpa using d3
    clear H1 H2 d3 hpw
    go_enter Tryz.func29, Tryz.ntmps29
    go_wp2_with fail
    go_ret
    exact ⟨ret_intL HV.out, hb1⟩
  have d3' : ct % 4 = 0 := Decidable.not_not.1 d3
  have k3 : (ct.tmod 4 != 0) = false := by rw [hr, d3']; rfl
  have k4 : (ct % 4 != 0) = false := by rw [d3']; rfl
  have k5 : ct.tmod 4 = 0 := by rw [hr, d3']
  have D3 := hid d3'
  clear d3 d3' hr
  cases p with
  | false =>
    have HV := hid (H1.out (fun h => absurd h.2.2.2 (by decide))).symm
    clear H1 H2
    go_enter Tryz.func29, Tryz.ntmps29
    go_wp2_with fail
    refine (hpw _).mono ?_
    rintro e w1 ⟨rfl, rfl⟩
    go_wp2_with fail
    go_ret
    exact ⟨ret_intL HV.out, hb1⟩
  | true =>
    have HW := hid (H2.out ⟨by omega, by omega, D3.out, rfl⟩)
    clear H1 H2
    have hc0 : (w.alloc (.cells #[.int .i64 1, .int .i64 sz, .int .i64 4, .int .i64 sd, .int .i64 ct] 55)).cell? ⟨w.heap.size, 0, none⟩ = some (.int .i64 1) := by rw [cell_of_row _ _ _ _ _ _ (heap_alloc_new w _)]; rfl
    have hc1 : (w.alloc (.cells #[.int .i64 1, .int .i64 sz, .int .i64 4, .int .i64 sd, .int .i64 ct] 55)).cell? ⟨w.heap.size, 1, none⟩ = some (.int .i64 sz) := by rw [cell_of_row _ _ _ _ _ _ (heap_alloc_new w _)]; rfl
    by_cases d5 : sz < 8 * bytes + 24
    · have HV := hid (show (2 : Int) = R by rw [HW.out, if_pos d5])
      go_enter Tryz.func29, Tryz.ntmps29
      go_wp2_with fail
      refine (hpw _).mono ?_
      rintro e w1 ⟨rfl, rfl⟩
      go_upto_region 5 with fail
      generalize (w.alloc (.cells #[.int .i64 1, .int .i64 sz, .int .i64 4, .int .i64 sd, .int .i64 ct] 55)) = wl at *
      have hcw : ∀ (wc : World), Below wl.heap.size wl wc → ∀ q v, wl.cell? q = some v → wc.cell? q = some v := fun wc hbc q v h => (hbc.cell (World.block_lt_of_cell? wl _ h)).trans h
      refine wp_mono (region_lastL (Q := fun e a' w' => e = .normal ∧ a' = ({ tmps := (_ : List Value).toArray, defers := [] } : Act) ∧ Below wl.heap.size wl w') 9 85 (.pointer (some ⟨w.heap.size, 0, none⟩)) [(86, .int .i64 1), (87, .bool true), (88, .bool true), (89, .int .i64 bytes), (90, .int .i64 (8 * bytes + 24)), (91, .pointer (some ⟨w.heap.size, 0 + 1, none⟩)), (92, .int .i64 sz), (93, .bool (decide (sz < 8 * bytes + 24)))]
        [[2], [85], [86], [87], [1, 88], [89, 88], [2, 88], [91, 88], [90, 92, 88]] [1, 2, 3, 9, 5, 8, 7, 8, 9] wl hmix rfl rfl (show ([85, 86, 87, 88, 89, 90, 91, 92, 93] : List Nat).Nodup by decide) (by kernel_rfl) (by kernel_rfl) (by kernel_rfl) (by kernel_rfl) (by kernel_rfl) (fun i' hi' ac wc hbc hrd Q K hK => by
        have h9 : i' = 0 ∨ i' = 1 ∨ i' = 2 ∨ i' = 3 ∨ i' = 4 ∨ i' = 5 ∨ i' = 6 ∨ i' = 7 ∨ i' = 8 := by omega
        rcases h9 with rfl | rfl | rfl | rfl | rfl | rfl | rfl | rfl | rfl
        · exact op_value rfl rfl (run_fldSet wc rfl (hrd 2 (by decide))) (hK wc (grownL wc))
        · exact op_value rfl rfl (run_loadI wc rfl (hrd 85 (by decide)) (hcw wc hbc _ _ hc0)) (hK wc (grownL wc))
        · exact op_value rfl rfl (run_eqlI wc rfl (hrd 86 (by decide)) rfl) (hK wc (grownL wc))
        · exact op_value rfl rfl (run_moveQ wc rfl (hrd 87 (by decide))) (hK wc (grownL wc))
        · exact op_valueG (want := true) rfl rfl rfl rfl (hrd 88 (by decide)) (run_moveQ wc rfl (hrd 1 (by decide))) (hK wc (grownL wc))
        · have h89 : ac.eval (.tmp 89) = .int .i64 bytes := hrd 89 (by decide)
          refine op_callL (us := #[.int .i64 bytes]) (want := true) rfl rfl rfl rfl (hrd 88 (by decide)) rfl (enters_of Tryz.func66 (by kernel_rfl) rfl) (by simp [h89]) (sealed_eq bytes wc ⟨hb, hb'⟩) (fun e wx hR => ?_)
          obtain ⟨rfl, rfl⟩ := hR
          exact ⟨_, rfl, hK _ (grownL _)⟩
        · exact op_valueG (want := true) rfl rfl rfl rfl (hrd 88 (by decide)) (run_fldSet1 wc rfl (hrd 2 (by decide))) (hK wc (grownL wc))
        · exact op_valueG (want := true) rfl rfl rfl rfl (hrd 88 (by decide)) (run_loadI wc rfl (hrd 91 (by decide)) (hcw wc hbc _ _ hc1)) (hK wc (grownL wc))
        · exact op_valueG (want := true) rfl rfl rfl rfl (hrd 88 (by decide)) (run_gtrI wc rfl (hrd 90 (by decide)) (hrd 92 (by decide))) (hK wc (grownL wc)))
        (fun wc hbc => by
          refine op_value rfl rfl (run_pickQ wc rfl (eval_setAll 88 (show ([85, 86, 87, 88, 89, 90, 91, 92, 93] : List Nat).Nodup by decide) (by kernel_rfl)) ((if_pos rfl).trans (eval_setAll 93 (show ([85, 86, 87, 88, 89, 90, 91, 92, 93] : List Nat).Nodup by decide) (by kernel_rfl)))) ⟨rfl, put_list _ _ _, hbc⟩)) ?_
      rintro e a' w' ⟨rfl, rfl, hbw⟩
      have hb2 := hb1.trans (hbw.mono hb1.size)
      clear hcw hbw hc0 hc1 hb1
      dsimp only [setAll, List.set, List.append_nil, List.cons_append, List.nil_append]
      go_wp2_with fail
      go_ret
      exact ⟨ret_intL HV.out, hb2⟩
    · have HV := hid (show (0 : Int) = R by rw [HW.out, if_neg d5])
      go_enter Tryz.func29, Tryz.ntmps29
      go_wp2_with fail
      refine (hpw _).mono ?_
      rintro e w1 ⟨rfl, rfl⟩
      go_upto_region 5 with fail
      generalize (w.alloc (.cells #[.int .i64 1, .int .i64 sz, .int .i64 4, .int .i64 sd, .int .i64 ct] 55)) = wl at *
      have hcw : ∀ (wc : World), Below wl.heap.size wl wc → ∀ q v, wl.cell? q = some v → wc.cell? q = some v := fun wc hbc q v h => (hbc.cell (World.block_lt_of_cell? wl _ h)).trans h
      refine wp_mono (region_lastL (Q := fun e a' w' => e = .normal ∧ a' = ({ tmps := (_ : List Value).toArray, defers := [] } : Act) ∧ Below wl.heap.size wl w') 9 85 (.pointer (some ⟨w.heap.size, 0, none⟩)) [(86, .int .i64 1), (87, .bool true), (88, .bool true), (89, .int .i64 bytes), (90, .int .i64 (8 * bytes + 24)), (91, .pointer (some ⟨w.heap.size, 0 + 1, none⟩)), (92, .int .i64 sz), (93, .bool (decide (sz < 8 * bytes + 24)))]
        [[2], [85], [86], [87], [1, 88], [89, 88], [2, 88], [91, 88], [90, 92, 88]] [1, 2, 3, 9, 5, 8, 7, 8, 9] wl hmix rfl rfl (show ([85, 86, 87, 88, 89, 90, 91, 92, 93] : List Nat).Nodup by decide) (by kernel_rfl) (by kernel_rfl) (by kernel_rfl) (by kernel_rfl) (by kernel_rfl) (fun i' hi' ac wc hbc hrd Q K hK => by
        have h9 : i' = 0 ∨ i' = 1 ∨ i' = 2 ∨ i' = 3 ∨ i' = 4 ∨ i' = 5 ∨ i' = 6 ∨ i' = 7 ∨ i' = 8 := by omega
        rcases h9 with rfl | rfl | rfl | rfl | rfl | rfl | rfl | rfl | rfl
        · exact op_value rfl rfl (run_fldSet wc rfl (hrd 2 (by decide))) (hK wc (grownL wc))
        · exact op_value rfl rfl (run_loadI wc rfl (hrd 85 (by decide)) (hcw wc hbc _ _ hc0)) (hK wc (grownL wc))
        · exact op_value rfl rfl (run_eqlI wc rfl (hrd 86 (by decide)) rfl) (hK wc (grownL wc))
        · exact op_value rfl rfl (run_moveQ wc rfl (hrd 87 (by decide))) (hK wc (grownL wc))
        · exact op_valueG (want := true) rfl rfl rfl rfl (hrd 88 (by decide)) (run_moveQ wc rfl (hrd 1 (by decide))) (hK wc (grownL wc))
        · have h89 : ac.eval (.tmp 89) = .int .i64 bytes := hrd 89 (by decide)
          refine op_callL (us := #[.int .i64 bytes]) (want := true) rfl rfl rfl rfl (hrd 88 (by decide)) rfl (enters_of Tryz.func66 (by kernel_rfl) rfl) (by simp [h89]) (sealed_eq bytes wc ⟨hb, hb'⟩) (fun e wx hR => ?_)
          obtain ⟨rfl, rfl⟩ := hR
          exact ⟨_, rfl, hK _ (grownL _)⟩
        · exact op_valueG (want := true) rfl rfl rfl rfl (hrd 88 (by decide)) (run_fldSet1 wc rfl (hrd 2 (by decide))) (hK wc (grownL wc))
        · exact op_valueG (want := true) rfl rfl rfl rfl (hrd 88 (by decide)) (run_loadI wc rfl (hrd 91 (by decide)) (hcw wc hbc _ _ hc1)) (hK wc (grownL wc))
        · exact op_valueG (want := true) rfl rfl rfl rfl (hrd 88 (by decide)) (run_gtrI wc rfl (hrd 90 (by decide)) (hrd 92 (by decide))) (hK wc (grownL wc)))
        (fun wc hbc => by
          refine op_value rfl rfl (run_pickQ wc rfl (eval_setAll 88 (show ([85, 86, 87, 88, 89, 90, 91, 92, 93] : List Nat).Nodup by decide) (by kernel_rfl)) ((if_pos rfl).trans (eval_setAll 93 (show ([85, 86, 87, 88, 89, 90, 91, 92, 93] : List Nat).Nodup by decide) (by kernel_rfl)))) ⟨rfl, put_list _ _ _, hbc⟩)) ?_
      rintro e a' w' ⟨rfl, rfl, hbw⟩
      have hb2 := hb1.trans (hbw.mono hb1.size)
      clear hcw hbw hc0 hc1 hb1
      dsimp only [setAll, List.set, List.append_nil, List.cons_append, List.nil_append]
      go_wp2_with fail
      go_ret
      exact ⟨ret_intL HV.out, hb2⟩
end Go.Proofs.YtplkmkbambbemadGreatDoor
