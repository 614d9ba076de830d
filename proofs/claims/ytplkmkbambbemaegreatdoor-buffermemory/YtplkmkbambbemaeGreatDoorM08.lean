import Derived.Test.YtplkmkbambbemaeGreatDoorM07
import Derived.RangeFuncBox
import Derived.Test.YtplkmkbambbemaeGreatDoorM01
import Derived.Deep.MidRow
import Derived.Test.YtplkmkbambbemaeGreatDoorM02
import Derived.Deep.WholeRow
namespace Go.Proofs.YtplkmkbambbemaeGreatDoor
open Go.ChangeShapes Go.WideShapes Go.ChangeAt Go.RowKit
theorem mustB (v : Value) (w : World) : Calls Tryz.prog 25 #[v, .int .i64 0] w fun e w' => e = .returned v ∧ w = w' := by
  go_enter Tryz.func25, Tryz.ntmps25
  go_wp2
  go_ret
  exact ⟨rfl, rfl⟩
theorem mustP (v : Value) (w : World) : Calls Tryz.prog 30 #[v, .int .i64 0] w fun e w' => e = .returned v ∧ w = w' := by
  go_enter Tryz.func30, Tryz.ntmps30
  go_wp2
  go_ret
  exact ⟨rfl, rfl⟩
theorem mustF (v : Value) (w : World) : Calls Tryz.prog 34 #[v, .int .i64 0] w fun e w' => e = .returned v ∧ w = w' := by
  go_enter Tryz.func34, Tryz.ntmps34
  go_wp2
  go_ret
  exact ⟨rfl, rfl⟩
theorem mustS (v : Value) (w : World) : Calls Tryz.prog 57 #[v, .int .i64 0] w fun e w' => e = .returned v ∧ w = w' := by
  go_enter Tryz.func57, Tryz.ntmps57
  go_wp2
  go_ret
  exact ⟨rfl, rfl⟩
theorem orderFits_any (order : Int) (w : World) : Calls Tryz.prog 43 #[.int .i64 order] w fun e w' => e = .returned (.bool (ordOk5 order)) ∧ w = w' := by
  by_cases o2 : order = 2
  · subst o2
    go_enter Tryz.func43, Tryz.ntmps43
    go_wp2
    go_ret
    exact ⟨rfl, rfl⟩
  · have q2 : (order == 2) = false := by simpa using o2
    by_cases o4 : order = 4
    · subst o4
      go_enter Tryz.func43, Tryz.ntmps43
      go_wp2
      go_ret
      exact ⟨rfl, rfl⟩
    · have q4 : (order == 4) = false := by simpa using o4
      have HV := hid (show (order == 6) = ordOk5 order by unfold ordOk5; by_cases o6 : order = 6 <;> simp [o2, o4, o6])
      clear o2 o4
      go_enter Tryz.func43, Tryz.ntmps43
      go_wp2
      go_ret
      exact ⟨ret_boolQ HV.out, rfl⟩
def fitS (code size : Int) : Bool := decide ((code = 0 ∧ size = 0) ∨ (code = 1 ∧ powI size = true))
theorem and_tab2 (n : Int) (h1 : 1 ≤ n) (h2 : n ≤ 512) : (bits BinOp.and IntKind.i64 n (n - 1) == 0) = powI n := by
  have := and_tab n h1 h2
  cases hp : powI n <;> rw [hp] at this <;> simp at this <;> simp [this]
set_option maxHeartbeats 400000 in
theorem sizeFits_any (code size : Int) (w : World) (hn : I64k size) : Calls Tryz.prog 42 #[.int .i64 code, .int .i64 size] w fun e w' => e = .returned (.bool (fitS code size)) ∧ w = w' := by
  obtain ⟨hn1, hn2⟩ := hn
  by_cases c0 : code = 0
  · subst c0
    have HV := hid (show (size == 0) = fitS 0 size by unfold fitS; by_cases h : size = 0 <;> simp [h])
    go_enter Tryz.func42, Tryz.ntmps42
    go_wp2
    go_ret
    exact ⟨ret_boolQ HV.out, rfl⟩
  · have q0 : (code == 0) = false := by simpa using c0
    by_cases c1 : code = 1
    · subst c1
      by_cases h1 : 1 ≤ size
      · have d1 : decide (1 ≤ size) = true := decide_eq_true h1
        by_cases h2 : size ≤ 512
        · have d2 : decide (size ≤ 512) = true := decide_eq_true h2
          have HV := hid (show (bits BinOp.and IntKind.i64 size (size - 1) == 0) = fitS 1 size by rw [and_tab2 size h1 h2]; unfold fitS; simp)
          go_enter Tryz.func42, Tryz.ntmps42
          go_wp2
          go_ret
          exact ⟨ret_boolQ HV.out, rfl⟩
        · have d2 : decide (size ≤ 512) = false := decide_eq_false h2
          have HV := hid (show false = fitS 1 size by unfold fitS powI; symm; apply decide_eq_false; simp; omega)
          go_enter Tryz.func42, Tryz.ntmps42
          go_wp2
          go_ret
          exact ⟨ret_boolQ HV.out, rfl⟩
      · have d1 : decide (1 ≤ size) = false := decide_eq_false h1
        have HV := hid (show false = fitS 1 size by unfold fitS powI; symm; apply decide_eq_false; simp; omega)
        go_enter Tryz.func42, Tryz.ntmps42
        go_wp2
        go_ret
        exact ⟨ret_boolQ HV.out, rfl⟩
    · have q1 : (code == 1) = false := by simpa using c1
      have HV := hid (show false = fitS code size by unfold fitS; symm; apply decide_eq_false; simp [c0, c1])
      go_enter Tryz.func42, Tryz.ntmps42
      go_wp2
      go_ret
      exact ⟨ret_boolQ HV.out, rfl⟩
def fitC (count order : Int) : Bool := decide (order ≤ count ∧ count ≤ 4096 ∧ count % order = 0)
set_option maxHeartbeats 400000 in
theorem countFits_any (count order : Int) (w : World) (ho : order = 2 ∨ order = 4 ∨ order = 6) : Calls Tryz.prog 44 #[.int .i64 count, .int .i64 order] w fun e w' => e = .returned (.bool (fitC count order)) ∧ w = w' := by
  by_cases h1 : order ≤ count
  · have d1 : decide (order ≤ count) = true := decide_eq_true h1
    by_cases h2 : count ≤ 4096
    · have d2 : decide (count ≤ 4096) = true := decide_eq_true h2
      have HV := hid (show (count % order == 0) = fitC count order by
        unfold fitC
        by_cases h : count % order = 0 <;> simp [h, h1, h2])
      have hnz : order ≠ 0 := by omega
      have hnm : order ≠ -1 := by omega
      rcases ho with rfl | rfl | rfl
      all_goals (go_enter Tryz.func44, Tryz.ntmps44; go_wp2; go_ret; exact ⟨ret_boolQ HV.out, rfl⟩)
    · have d2 : decide (count ≤ 4096) = false := decide_eq_false h2
      have HV := hid (show false = fitC count order from (decide_eq_false fun h => h2 h.2.1).symm)
      clear ho
      go_enter Tryz.func44, Tryz.ntmps44
      go_wp2
      go_ret
      exact ⟨ret_boolQ HV.out, rfl⟩
  · have d1 : decide (order ≤ count) = false := decide_eq_false h1
    have HV := hid (show false = fitC count order from (decide_eq_false fun h => h1 h.1).symm)
    clear ho
    go_enter Tryz.func44, Tryz.ntmps44
    go_wp2
    go_ret
    exact ⟨ret_boolQ HV.out, rfl⟩
theorem sealedSize_any (bytes : Int) (w : World) (h : 0 ≤ bytes ∧ bytes ≤ 40) : Calls Tryz.prog 33 #[.int .i64 bytes] w fun e w' => e = .returned (.int .i64 (8 * bytes + 24)) ∧ w = w' := by
  go_enter Tryz.func33, Tryz.ntmps33
  go_wp2
  go_ret
  exact ⟨ret_intL (by go_num), rfl⟩
theorem lversion_any (v : Int) (w : World) : Calls Tryz.prog 24 #[.int .i64 v] w fun e w' => e = .returned (.int .i64 (verErr v)) ∧ w = w' := by
  by_cases h0 : v < 0
  · have d0 : decide (v < 0) = true := decide_eq_true h0
    have HV := hid (show (1 : Int) = verErr v by unfold verErr; rw [show verOk v = false from decide_eq_false (by omega)]; rfl)
    clear h0
    go_enter Tryz.func24, Tryz.ntmps24
    go_wp2
    go_ret
    exact ⟨ret_int HV.out, rfl⟩
  · have d0 : decide (v < 0) = false := decide_eq_false h0
    by_cases h1 : 4 ≤ v
    · have d1 : decide (4 ≤ v) = true := decide_eq_true h1
      have HV := hid (show (1 : Int) = verErr v by unfold verErr; rw [show verOk v = false from decide_eq_false (by omega)]; rfl)
      clear h0 h1
      go_enter Tryz.func24, Tryz.ntmps24
      go_wp2
      go_ret
      exact ⟨ret_int HV.out, rfl⟩
    · have d1 : decide (4 ≤ v) = false := decide_eq_false h1
      have HV := hid (show (0 : Int) = verErr v by unfold verErr; rw [show verOk v = true from decide_eq_true (by omega)]; rfl)
      clear h0 h1
      go_enter Tryz.func24, Tryz.ntmps24
      go_wp2
      go_ret
      exact ⟨ret_int HV.out, rfl⟩
theorem setErr_large {S : Setg} {bytes : Int} (h1 : set1 S bytes = true) (h2 : set2 S = true) (h3 : S.code = 1 ∧ S.size < 8 * bytes + 24) : setErr S bytes = 2 := by unfold setErr; rw [h1, h2, decide_eq_true h3]; rfl
theorem box_cells {w w1 : World} {cs : Array Value} {T : TypeId} (hb : Below (w.alloc (.cells cs T)).heap.size (w.alloc (.cells cs T)) w1) (k : Nat) : w1.cell? ⟨w.heap.size, k, none⟩ = cs[k]? := by
  have h : w1.heap[w.heap.size]? = some (.cells cs T) := (hb.block _ (by simp)).trans (World.alloc_heap_new w _)
  rw [cell_of_row _ _ _ _ _ _ h]
set_option maxHeartbeats 1000000 in
theorem lcheck_any (S : Setg) (bytes : Int) (w : World) (hS : S.In) (_hb : I64k bytes) : Calls Tryz.prog 23 #[S.val, .int .i64 bytes] w fun e w' => e = .returned (.int .i64 (setErr S bytes)) ∧ Below w.heap.size w w' := by
  obtain ⟨code, size, order, seed, count⟩ := S
  obtain ⟨E, hE⟩ : ∃ E, E = setErr ⟨code, size, order, seed, count⟩ bytes := ⟨_, rfl⟩
  rw [← hE]
  have HE := hid hE
  clear hE
  unfold Setg.val
  have hsz := fun wz => sizeFits_any code size wz hS.size
  have hor := fun wz => orderFits_any order wz
  have hno : ∀ x, set1 ⟨code, size, order, seed, count⟩ bytes = false → x = 1 → x = E := fun x h e => by rw [HE.out, setErr_no1 h, e]
  have hno2 : ∀ x, set2 ⟨code, size, order, seed, count⟩ = false → x = 1 → x = E := fun x h e => by rw [HE.out, setErr_no2 h, e]
  by_cases b0 : bytes < 0
  · have d0 : decide (bytes < 0) = true := decide_eq_true b0
    have HV := hid (hno 1 (decide_eq_false fun h => by omega) rfl)
    clear hno hno2 b0
    go_enter Tryz.func23, Tryz.ntmps23
    go_wp2
    go_ret
    exact ⟨ret_intL HV.out, (Below.refl _ w).alloc (Nat.le_refl _) _⟩
  have d0 : decide (bytes < 0) = false := decide_eq_false b0
  by_cases b1 : 40 < bytes
  · have d1 : decide (40 < bytes) = true := decide_eq_true b1
    have HV := hid (hno 1 (decide_eq_false fun h => by omega) rfl)
    clear hno hno2 b0 b1
    go_enter Tryz.func23, Tryz.ntmps23
    go_wp2
    go_ret
    exact ⟨ret_intL HV.out, (Below.refl _ w).alloc (Nat.le_refl _) _⟩
  have d1 : decide (40 < bytes) = false := decide_eq_false b1
  cases hs : fitS code size with
  | false =>
    simp only [hs] at hsz
    have HV : Hid ((1 : Int) = E) := by
      have hs' := of_decide_eq_false hs
      by_cases c : code = 0 ∨ code = 1
      · exact hno2 1 (decide_eq_false fun h => hs' (by
          obtain ⟨-, -, -, h4, h5⟩ := h
          rcases c with c | c
          · exact .inl ⟨c, h4 c⟩
          · exact .inr ⟨c, h5 c⟩)) rfl
      · exact hno 1 (decide_eq_false fun h => c h.2.2.1) rfl
    clear hno hno2 b0 b1 hs hor
    go_enter Tryz.func23, Tryz.ntmps23
    go_wp2_with (first | (go_at_call 42; refine (hsz _).mono ?_; rintro e w1 ⟨rfl, rfl⟩))
    go_ret
    exact ⟨ret_intL HV.out, (Below.refl _ w).alloc (Nat.le_refl _) _⟩
  | true =>
  simp only [hs] at hsz
  cases ho : ordOk5 order with
  | false =>
    simp only [ho] at hor
    have HV := hid (hno 1 (decide_eq_false fun h => by have h1 := of_decide_eq_false ho; have h2 : order = 2 ∨ order = 4 ∨ order = 6 := h.2.2.2.1; omega) rfl)
    clear hno hno2 b0 b1 hs ho
    go_enter Tryz.func23, Tryz.ntmps23
    go_wp2_with (first | (go_at_call 42; refine (hsz _).mono ?_; rintro e w1 ⟨rfl, rfl⟩) | (go_at_call 43; refine (hor _).mono ?_; rintro e w1 ⟨rfl, rfl⟩))
    go_ret
    exact ⟨ret_intL HV.out, (Below.refl _ w).alloc (Nat.le_refl _) _⟩
  | true =>
  simp only [ho] at hor
  have hcn := fun wz => countFits_any count order wz (by have := of_decide_eq_true ho; omega)
  cases hc : fitC count order with
  | false =>
    simp only [hc] at hcn
    have HV := hid (hno2 1 (decide_eq_false fun h => of_decide_eq_false hc ⟨h.1, h.2.1, h.2.2.1⟩) rfl)
    clear hno hno2 b0 b1 hs ho hc
    go_enter Tryz.func23, Tryz.ntmps23
    go_wp2_with (first | (go_at_call 42; refine (hsz _).mono ?_; rintro e w1 ⟨rfl, rfl⟩) | (go_at_call 43; refine (hor _).mono ?_; rintro e w1 ⟨rfl, rfl⟩) | (go_at_call 44; refine (hcn _).mono ?_; rintro e w1 ⟨rfl, rfl⟩))
    go_ret
    exact ⟨ret_intL HV.out, (Below.refl _ w).alloc (Nat.le_refl _) _⟩
  | true =>
  simp only [hc] at hcn
  cases hd : seedOk seed with
  | false =>
    have hnz := fun wz => noise_bad seed 0 wz (by unfold noiseOk; rw [hd]; rfl)
    have HV := hid (hno 1 (decide_eq_false fun h => by have h1 := of_decide_eq_false hd; have h2 : 0 ≤ seed ∧ seed < 2147483648 := h.2.2.2.2; omega) rfl)
    clear hno hno2 b0 b1 hs ho hc hd
    go_enter Tryz.func23, Tryz.ntmps23
    go_wp2_with (first | (go_at_call 42; refine (hsz _).mono ?_; rintro e w1 ⟨rfl, rfl⟩) | (go_at_call 43; refine (hor _).mono ?_; rintro e w1 ⟨rfl, rfl⟩) | (go_at_call 44; refine (hcn _).mono ?_; rintro e w1 ⟨rfl, rfl⟩) | (go_at_call 45; refine (hnz _).mono ?_; rintro e w1 ⟨rfl, rfl⟩))
    go_ret
    exact ⟨ret_intL HV.out, (Below.refl _ w).alloc (Nat.le_refl _) _⟩
  | true =>
  have hd' := of_decide_eq_true hd
  obtain ⟨sd, rfl⟩ : ∃ sd : Nat, seed = (sd : Int) := ⟨seed.toNat, by omega⟩
  have hnz := fun wz => noise_ok sd 0 wz (by omega) (by omega)
  have hs' := of_decide_eq_true hs
  have ho' := of_decide_eq_true ho
  have hc' := of_decide_eq_true hc
  have HS1 := hid (show set1 ⟨code, size, order, sd, count⟩ bytes = true from decide_eq_true ⟨by omega, by omega, hs'.elim (fun h => .inl h.1) (fun h => .inr h.1), by show order = 2 ∨ order = 4 ∨ order = 6; omega, by show (0 : Int) ≤ sd; omega, by show (sd : Int) < 2147483648; omega⟩)
  have HS2 := hid (show set2 ⟨code, size, order, sd, count⟩ = true from decide_eq_true ⟨hc'.1, hc'.2.1, hc'.2.2, fun e => hs'.elim (fun h => h.2) (fun h => by have h1 := h.1; have e' : code = 0 := e; omega), fun e => hs'.elim (fun h => by have h1 := h.1; have e' : code = 1 := e; omega) (fun h => h.2)⟩)
  have hmix : Tryz.prog.follows .mixedOrders = true := by kernel_rfl
  by_cases c1 : code = 1
  · subst c1
    by_cases hl : size < 8 * bytes + 24
    · have HV := hid (show (2 : Int) = E by rw [HE.out, setErr_large HS1.out HS2.out ⟨rfl, hl⟩])
      have hss : ∀ w, Calls Tryz.prog 33 #[.int .i64 bytes] w fun e w' => e = .returned (.int .i64 (8 * bytes + 24)) ∧ w = w' := fun w => sealedSize_any bytes w ⟨by omega, by omega⟩
      clear hno hno2 b0 b1 hs ho hc hd hs' ho' hc' hd'
      go_enter Tryz.func23, Tryz.ntmps23
      go_wp2_with (first | (go_at_call 42; refine (hsz _).mono ?_; rintro e w1 ⟨rfl, rfl⟩) | (go_at_call 43; refine (hor _).mono ?_; rintro e w1 ⟨rfl, rfl⟩) | (go_at_call 44; refine (hcn _).mono ?_; rintro e w1 ⟨rfl, rfl⟩) | (go_at_call 45; refine (hnz _).mono ?_; rintro e w1 ⟨v1, rfl, -, hb1⟩; have bc0 := box_cells hb1 0; have bc1 := box_cells hb1 1; simp only [List.getElem?_toArray, List.getElem?_cons_zero, List.getElem?_cons_succ] at bc0 bc1) | (go_at_call 33; refine (hss _).mono ?_; rintro e w2 ⟨rfl, rfl⟩))
      have hcw : ∀ (wc : World), Below w1.heap.size w1 wc → ∀ q v, w1.cell? q = some v → wc.cell? q = some v := fun wc hbc q v h => (hbc.cell (World.block_lt_of_cell? w1 _ h)).trans h
      refine wp_mono (region_lastL (Q := fun e a' w' => e = .normal ∧ a' = ({ tmps := (_ : List Value).toArray, defers := [] } : Act) ∧ Below w1.heap.size w1 w') 9 42 (.pointer (some ⟨w.heap.size, 0, none⟩)) [(43, .int .i64 1), (44, .bool true), (45, .bool true), (46, .int .i64 bytes), (47, .int .i64 (8 * bytes + 24)), (48, .pointer (some ⟨w.heap.size, 0 + 1, none⟩)), (49, .int .i64 size), (50, .bool (decide (size < 8 * bytes + 24)))]
        [[2], [42], [43], [44], [1, 45], [46, 45], [2, 45], [48, 45], [47, 49, 45]] [1, 2, 3, 9, 5, 8, 7, 8, 9] w1 hmix rfl rfl (show ([42, 43, 44, 45, 46, 47, 48, 49, 50] : List Nat).Nodup by decide) (by kernel_rfl) (by kernel_rfl) (by kernel_rfl) (by kernel_rfl) (by kernel_rfl) (fun i' hi' ac wc hbc hrd Q K hK => by
        have h9 : i' = 0 ∨ i' = 1 ∨ i' = 2 ∨ i' = 3 ∨ i' = 4 ∨ i' = 5 ∨ i' = 6 ∨ i' = 7 ∨ i' = 8 := by omega
        rcases h9 with rfl | rfl | rfl | rfl | rfl | rfl | rfl | rfl | rfl
        · exact op_value rfl rfl (run_fldSet wc rfl (hrd 2 (by decide))) (hK wc (grownL wc))
        · exact op_value rfl rfl (run_loadI wc rfl (hrd 42 (by decide)) (hcw wc hbc _ _ bc0)) (hK wc (grownL wc))
        · exact op_value rfl rfl (run_eqlI wc rfl (hrd 43 (by decide)) rfl) (hK wc (grownL wc))
        · exact op_value rfl rfl (run_moveQ wc rfl (hrd 44 (by decide))) (hK wc (grownL wc))
        · exact op_valueG (want := true) rfl rfl rfl rfl (hrd 45 (by decide)) (run_moveQ wc rfl (hrd 1 (by decide))) (hK wc (grownL wc))
        · have h46 : ac.eval (.tmp 46) = .int .i64 bytes := hrd 46 (by decide)
          refine op_callL (us := #[.int .i64 bytes]) (want := true) rfl rfl rfl rfl (hrd 45 (by decide)) rfl (enters_of Tryz.func33 (by kernel_rfl) rfl) (by simp [h46]) (hss wc) (fun e wx hR => ?_)
          obtain ⟨rfl, rfl⟩ := hR
          exact ⟨_, rfl, hK _ (grownL _)⟩
        · exact op_valueG (want := true) rfl rfl rfl rfl (hrd 45 (by decide)) (run_fldSet1 wc rfl (hrd 2 (by decide))) (hK wc (grownL wc))
        · exact op_valueG (want := true) rfl rfl rfl rfl (hrd 45 (by decide)) (run_loadI wc rfl (hrd 48 (by decide)) (hcw wc hbc _ _ bc1)) (hK wc (grownL wc))
        · exact op_valueG (want := true) rfl rfl rfl rfl (hrd 45 (by decide)) (run_gtrI wc rfl (hrd 47 (by decide)) (hrd 49 (by decide))) (hK wc (grownL wc)))
        (fun wc hbc => by
          refine op_value rfl rfl (run_pickQ wc rfl (eval_setAll 45 (show ([42, 43, 44, 45, 46, 47, 48, 49, 50] : List Nat).Nodup by decide) (by kernel_rfl)) ((if_pos rfl).trans (eval_setAll 50 (show ([42, 43, 44, 45, 46, 47, 48, 49, 50] : List Nat).Nodup by decide) (by kernel_rfl)))) ⟨rfl, put_list _ _ _, hbc⟩)) ?_
      rintro e a' w' ⟨rfl, rfl, hbw⟩
      have hb2 := ((Below.refl _ w).alloc (Nat.le_refl _) (.cells #[.int .i64 1, .int .i64 size, .int .i64 order, .int .i64 sd, .int .i64 count] 24)).trans ((hb1.trans (hbw.mono hb1.size)).mono (by simp))
      clear hcw hbw bc0 bc1 hb1
      dsimp only [setAll, List.set, List.append_nil, List.cons_append, List.nil_append]
      go_wp2_with fail
      go_ret
      exact ⟨ret_intL HV.out, hb2⟩
    · have HV := hid (show (0 : Int) = E by rw [HE.out]; unfold setErr; rw [HS1.out, HS2.out, decide_eq_false (fun h => hl h.2)]; rfl)
      have hss : ∀ w, Calls Tryz.prog 33 #[.int .i64 bytes] w fun e w' => e = .returned (.int .i64 (8 * bytes + 24)) ∧ w = w' := fun w => sealedSize_any bytes w ⟨by omega, by omega⟩
      clear hno hno2 b0 b1 hs ho hc hd hs' ho' hc' hd'
      go_enter Tryz.func23, Tryz.ntmps23
      go_wp2_with (first | (go_at_call 42; refine (hsz _).mono ?_; rintro e w1 ⟨rfl, rfl⟩) | (go_at_call 43; refine (hor _).mono ?_; rintro e w1 ⟨rfl, rfl⟩) | (go_at_call 44; refine (hcn _).mono ?_; rintro e w1 ⟨rfl, rfl⟩) | (go_at_call 45; refine (hnz _).mono ?_; rintro e w1 ⟨v1, rfl, -, hb1⟩; have bc0 := box_cells hb1 0; have bc1 := box_cells hb1 1; simp only [List.getElem?_toArray, List.getElem?_cons_zero, List.getElem?_cons_succ] at bc0 bc1) | (go_at_call 33; refine (hss _).mono ?_; rintro e w2 ⟨rfl, rfl⟩))
      have hcw : ∀ (wc : World), Below w1.heap.size w1 wc → ∀ q v, w1.cell? q = some v → wc.cell? q = some v := fun wc hbc q v h => (hbc.cell (World.block_lt_of_cell? w1 _ h)).trans h
      refine wp_mono (region_lastL (Q := fun e a' w' => e = .normal ∧ a' = ({ tmps := (_ : List Value).toArray, defers := [] } : Act) ∧ Below w1.heap.size w1 w') 9 42 (.pointer (some ⟨w.heap.size, 0, none⟩)) [(43, .int .i64 1), (44, .bool true), (45, .bool true), (46, .int .i64 bytes), (47, .int .i64 (8 * bytes + 24)), (48, .pointer (some ⟨w.heap.size, 0 + 1, none⟩)), (49, .int .i64 size), (50, .bool (decide (size < 8 * bytes + 24)))]
        [[2], [42], [43], [44], [1, 45], [46, 45], [2, 45], [48, 45], [47, 49, 45]] [1, 2, 3, 9, 5, 8, 7, 8, 9] w1 hmix rfl rfl (show ([42, 43, 44, 45, 46, 47, 48, 49, 50] : List Nat).Nodup by decide) (by kernel_rfl) (by kernel_rfl) (by kernel_rfl) (by kernel_rfl) (by kernel_rfl) (fun i' hi' ac wc hbc hrd Q K hK => by
        have h9 : i' = 0 ∨ i' = 1 ∨ i' = 2 ∨ i' = 3 ∨ i' = 4 ∨ i' = 5 ∨ i' = 6 ∨ i' = 7 ∨ i' = 8 := by omega
        rcases h9 with rfl | rfl | rfl | rfl | rfl | rfl | rfl | rfl | rfl
        · exact op_value rfl rfl (run_fldSet wc rfl (hrd 2 (by decide))) (hK wc (grownL wc))
        · exact op_value rfl rfl (run_loadI wc rfl (hrd 42 (by decide)) (hcw wc hbc _ _ bc0)) (hK wc (grownL wc))
        · exact op_value rfl rfl (run_eqlI wc rfl (hrd 43 (by decide)) rfl) (hK wc (grownL wc))
        · exact op_value rfl rfl (run_moveQ wc rfl (hrd 44 (by decide))) (hK wc (grownL wc))
        · exact op_valueG (want := true) rfl rfl rfl rfl (hrd 45 (by decide)) (run_moveQ wc rfl (hrd 1 (by decide))) (hK wc (grownL wc))
        · have h46 : ac.eval (.tmp 46) = .int .i64 bytes := hrd 46 (by decide)
          refine op_callL (us := #[.int .i64 bytes]) (want := true) rfl rfl rfl rfl (hrd 45 (by decide)) rfl (enters_of Tryz.func33 (by kernel_rfl) rfl) (by simp [h46]) (hss wc) (fun e wx hR => ?_)
          obtain ⟨rfl, rfl⟩ := hR
          exact ⟨_, rfl, hK _ (grownL _)⟩
        · exact op_valueG (want := true) rfl rfl rfl rfl (hrd 45 (by decide)) (run_fldSet1 wc rfl (hrd 2 (by decide))) (hK wc (grownL wc))
        · exact op_valueG (want := true) rfl rfl rfl rfl (hrd 45 (by decide)) (run_loadI wc rfl (hrd 48 (by decide)) (hcw wc hbc _ _ bc1)) (hK wc (grownL wc))
        · exact op_valueG (want := true) rfl rfl rfl rfl (hrd 45 (by decide)) (run_gtrI wc rfl (hrd 47 (by decide)) (hrd 49 (by decide))) (hK wc (grownL wc)))
        (fun wc hbc => by
          refine op_value rfl rfl (run_pickQ wc rfl (eval_setAll 45 (show ([42, 43, 44, 45, 46, 47, 48, 49, 50] : List Nat).Nodup by decide) (by kernel_rfl)) ((if_pos rfl).trans (eval_setAll 50 (show ([42, 43, 44, 45, 46, 47, 48, 49, 50] : List Nat).Nodup by decide) (by kernel_rfl)))) ⟨rfl, put_list _ _ _, hbc⟩)) ?_
      rintro e a' w' ⟨rfl, rfl, hbw⟩
      have hb2 := ((Below.refl _ w).alloc (Nat.le_refl _) (.cells #[.int .i64 1, .int .i64 size, .int .i64 order, .int .i64 sd, .int .i64 count] 24)).trans ((hb1.trans (hbw.mono hb1.size)).mono (by simp))
      clear hcw hbw bc0 bc1 hb1
      dsimp only [setAll, List.set, List.append_nil, List.cons_append, List.nil_append]
      go_wp2_with fail
      go_ret
      exact ⟨ret_intL HV.out, hb2⟩
  · obtain rfl : code = 0 := hs'.elim (fun h => h.1) (fun h => absurd h.1 c1)
    have HV := hid (show (0 : Int) = E by rw [HE.out]; unfold setErr; rw [HS1.out, HS2.out, decide_eq_false (fun h => c1 h.1)]; rfl)
    clear hno hno2 b0 b1 hs ho hc hd hs' ho' hc' hd' c1
    go_enter Tryz.func23, Tryz.ntmps23
    go_wp2_with (first | (go_at_call 42; refine (hsz _).mono ?_; rintro e w1 ⟨rfl, rfl⟩) | (go_at_call 43; refine (hor _).mono ?_; rintro e w1 ⟨rfl, rfl⟩) | (go_at_call 44; refine (hcn _).mono ?_; rintro e w1 ⟨rfl, rfl⟩) | (go_at_call 45; refine (hnz _).mono ?_; rintro e w1 ⟨v1, rfl, -, hb1⟩; have bc0 := box_cells hb1 0; have bc1 := box_cells hb1 1; simp only [List.getElem?_toArray, List.getElem?_cons_zero, List.getElem?_cons_succ] at bc0 bc1))
    have hcw : ∀ (wc : World), Below w1.heap.size w1 wc → ∀ q v, w1.cell? q = some v → wc.cell? q = some v := fun wc hbc q v h => (hbc.cell (World.block_lt_of_cell? w1 _ h)).trans h
    refine wp_mono (region_lastL (Q := fun e a' w' => e = .normal ∧ a' = ({ tmps := (_ : List Value).toArray, defers := [] } : Act) ∧ Below w1.heap.size w1 w') 9 42 (.pointer (some ⟨w.heap.size, 0, none⟩)) [(43, .int .i64 0), (44, .bool false), (45, .bool false), (46, undef), (47, undef), (48, undef), (49, undef), (50, undef)]
      [[2], [42], [43], [44], [1, 45], [46, 45], [2, 45], [48, 45], [47, 49, 45]] [1, 2, 3, 9, 5, 8, 7, 8, 9] w1 hmix rfl rfl (show ([42, 43, 44, 45, 46, 47, 48, 49, 50] : List Nat).Nodup by decide) (by kernel_rfl) (by kernel_rfl) (by kernel_rfl) (by kernel_rfl) (by kernel_rfl) (fun i' hi' ac wc hbc hrd Q K hK => by
      have h9 : i' = 0 ∨ i' = 1 ∨ i' = 2 ∨ i' = 3 ∨ i' = 4 ∨ i' = 5 ∨ i' = 6 ∨ i' = 7 ∨ i' = 8 := by omega
      rcases h9 with rfl | rfl | rfl | rfl | rfl | rfl | rfl | rfl | rfl
      · exact op_value rfl rfl (run_fldSet wc rfl (hrd 2 (by decide))) (hK wc (grownL wc))
      · exact op_value rfl rfl (run_loadI wc rfl (hrd 42 (by decide)) (hcw wc hbc _ _ bc0)) (hK wc (grownL wc))
      · exact op_value rfl rfl (run_eqlI wc rfl (hrd 43 (by decide)) rfl) (hK wc (grownL wc))
      · exact op_value rfl rfl (run_moveQ wc rfl (hrd 44 (by decide))) (hK wc (grownL wc))
      · exact op_skipG (want := true) rfl rfl rfl rfl (hrd 45 (by decide)) (hK wc (grownL wc))
      · exact op_skipG (want := true) rfl rfl rfl rfl (hrd 45 (by decide)) (hK wc (grownL wc))
      · exact op_skipG (want := true) rfl rfl rfl rfl (hrd 45 (by decide)) (hK wc (grownL wc))
      · exact op_skipG (want := true) rfl rfl rfl rfl (hrd 45 (by decide)) (hK wc (grownL wc))
      · exact op_skipG (want := true) rfl rfl rfl rfl (hrd 45 (by decide)) (hK wc (grownL wc)))
      (fun wc hbc => by
        refine op_value rfl rfl (run_pickQ wc rfl (eval_setAll 45 (show ([42, 43, 44, 45, 46, 47, 48, 49, 50] : List Nat).Nodup by decide) (by kernel_rfl)) rfl) ⟨rfl, put_list _ _ _, hbc⟩)) ?_
    rintro e a' w' ⟨rfl, rfl, hbw⟩
    have hb2 := ((Below.refl _ w).alloc (Nat.le_refl _) (.cells #[.int .i64 0, .int .i64 size, .int .i64 order, .int .i64 sd, .int .i64 count] 24)).trans ((hb1.trans (hbw.mono hb1.size)).mono (by simp))
    clear hcw hbw bc0 bc1 hb1
    dsimp only [setAll, List.set, List.append_nil, List.cons_append, List.nil_append]
    go_wp2_with fail
    go_ret
    exact ⟨ret_intL HV.out, hb2⟩
end Go.Proofs.YtplkmkbambbemaeGreatDoor
namespace Go.Proofs.YtplkmkbambbemaeGreatDoor
open Go.ChangeShapes Go.WideShapes Go.ChangeAt Go.RowKit
theorem run_index_arr {P : Program} (w : World) (ty e : TypeId) (cs : Array Value) (n k : Nat) (v : Value) (d : TypeDesc) (hu : P.underlying ty = some (.array n e)) (he : P.underlying e = some d) (hd : d.isRow = false) (hs : (P.info? e).map (·.size) = some 1) (hk : k < n) (hv : cs[k]? = some v) (ik : IntKind) :
    (Instr.index ty (.agg cs) (.int ik k)).run P w = .ok v w := by
  cases hq : P.info? e with
  | none => simp [hq] at hs
  | some i =>
    have hsz : i.size = 1 := by simpa [hq] using hs
    have hagg : (isAgg e).run P w = .ok false w := by
      unfold isAgg
      rw [Sem.run_bind, run_underlying he w]
      cases d <;> simp_all
    have hlt : 0 ≤ (k : Int) ∧ (k : Int) < (n : Int) := ⟨by omega, by omega⟩
    simp [Instr.index, asIntOf, Sem.run_bind, run_underlying hu w, hlt, sizeOf, typeInfo, hq, hsz, part, hagg, hv]
    intro h
    omega
/-- 'x := a[k]', a an array in a slot. -/
theorem wpList_index {P : Program} {ops : Array Oper} {rest : List Oper} {o : Oper} {a : Act} {w : World} {Q : Exit → Act → World → Prop} (hgd : o.guard = none) (ty : TypeId) (x i : Operand) (ho : o.op = .index ty x i)
    (e : TypeId) (cs : Array Value) (n k : Nat) (v : Value) (d : TypeDesc) (ik : IntKind) (hx : a.eval x = .agg cs) (hi : a.eval i = .int ik k) (hu : P.underlying ty = some (.array n e)) (he : P.underlying e = some d)
    (hd : d.isRow = false) (hs : (P.info? e).map (·.size) = some 1) (hk : k < n) (hv : cs[k]? = some v)
    (h : wpList P ops Q rest (a.put o.dst v) w) : wpList P ops Q (o :: rest) a w :=
  wpList_plain hgd fun _ hK => by
    unfold Oper.wp execOp
    simp only [ho, hx, hi, Sem.run_bind, run_index_arr w ty e cs n k v d hu he hd hs hk hv ik, Result.andThen_ok]
    exact hK _ _ h
theorem wpList_store_row {P : Program} {ops : Array Oper} {rest : List Oper} {o : Oper} {a : Act} {w : World} {Q : Exit → Act → World → Prop} (hgd : o.guard = none) (ty : TypeId) (x y : Operand) (ho : o.op = .store ty x y)
    (g : Nat) (t : TypeId) (old cells : Array Value) (hx : a.eval x = .pointer (some ⟨g, 0, none⟩)) (hy : a.eval y = .agg cells) (hg : w.heap[g]? = some (.cells old t (0, 0))) (hi : (P.info? ty).map (·.size) = some cells.size)
    (hs : old.size = cells.size) (h1 : cells.all (·.oneCell') = true) (h : wpList P ops Q rest (a.put o.dst undef) (w.setRow g cells)) : wpList P ops Q (o :: rest) a w :=
  wpList_plain hgd fun _ hK => by
    unfold Oper.wp execOp
    simp only [ho, hx, hy, Instr.storeAt, Instr.sureAddr, Sem.run_bind, Sem.run_pure, Result.andThen_ok, run_storeVar_row w g t ty old cells hg hi hs h1]
    exact hK _ _ h
end Go.Proofs.YtplkmkbambbemaeGreatDoor
namespace Go.Proofs.YtplkmkbambbemaeGreatDoor
open Go.RowKit
theorem codedTo_at (zs : List Int) : ∀ (K i r : Nat), i < K → r < 3 → (codedTo zs K).getD (3 * i + r) 0 = (trip zs i).getD r 0
  | 0, i, r, h, _ => by omega
  | K + 1, i, r, h, hr => by
    rw [codedTo]
    by_cases hi : i < K
    · rw [← codedTo_at zs K i r hi hr]
      have hl := codedTo_length zs K
      simp only [List.getD, List.getElem?_append_left (show 3 * i + r < (codedTo zs K).length by omega)]
    · obtain rfl : i = K := by omega
      have hl := codedTo_length zs i
      simp only [List.getD, List.getElem?_append_right (show (codedTo zs i).length ≤ 3 * i + r by omega)]
      rw [show 3 * i + r - (codedTo zs i).length = r from by omega]
end Go.Proofs.YtplkmkbambbemaeGreatDoor
namespace Go.Proofs.YtplkmkbambbemaeGreatDoor
/-- The document's state of a state of the program. -/
def rev6 (S : Int) : Int := S % 2 * 32 + S / 2 % 2 * 16 + S / 4 % 2 * 8 + S / 8 % 2 * 4 + S / 16 % 2 * 2 + S / 32 % 2
/-- The word of a window. -/
def wordI (W : Int) : Int :=
  (W % 2 + W / 2 % 2 + W / 4 % 2 + W / 8 % 2 + W / 64 % 2) % 2 * 4 + (W % 2 + W / 4 % 2 + W / 8 % 2 + W / 32 % 2 + W / 64 % 2) % 2 * 2 + (W % 2 + W / 2 % 2 + W / 4 % 2 + W / 16 % 2 + W / 64 % 2) % 2
theorem wordI_bd (W : Int) : 0 ≤ wordI W ∧ wordI W < 8 := by unfold wordI; omega
theorem wordI_mod (W V : Int) (h : W % 128 = V % 128) : wordI W = wordI V := by
  have h0 : W % 2 = V % 2 := by omega
  have h1 : W / 2 % 2 = V / 2 % 2 := by omega
  have h2 : W / 4 % 2 = V / 4 % 2 := by omega
  have h3 : W / 8 % 2 = V / 8 % 2 := by omega
  have h4 : W / 16 % 2 = V / 16 % 2 := by omega
  have h5 : W / 32 % 2 = V / 32 % 2 := by omega
  have h6 : W / 64 % 2 = V / 64 % 2 := by omega
  unfold wordI
  rw [h0, h1, h2, h3, h4, h5, h6]
theorem rev_all : ∀ S : Fin 64, ∀ x : Fin 2,
    (nxt (rev6 (S.val : Int)) (x.val : Int) = rev6 ((2 * (S.val : Int) + (x.val : Int)) % 64) ∧
    out0 (rev6 (S.val : Int)) (x.val : Int) = wordI (2 * (S.val : Int) + (x.val : Int)) / 4 % 2 ∧
    out1 (rev6 (S.val : Int)) (x.val : Int) = wordI (2 * (S.val : Int) + (x.val : Int)) / 2 % 2 ∧
    out2 (rev6 (S.val : Int)) (x.val : Int) = wordI (2 * (S.val : Int) + (x.val : Int)) % 2 ∧
    wordI (2 * (S.val : Int) + 1) = 7 - wordI (2 * (S.val : Int))) := by decide +kernel
theorem rev_at (S : Nat) (hS : S < 64) (x : Nat) (hx : x < 2) :
    nxt (rev6 (S : Int)) (x : Int) = rev6 ((2 * (S : Int) + (x : Int)) % 64) ∧
    out0 (rev6 (S : Int)) (x : Int) = wordI (2 * (S : Int) + (x : Int)) / 4 % 2 ∧
    out1 (rev6 (S : Int)) (x : Int) = wordI (2 * (S : Int) + (x : Int)) / 2 % 2 ∧
    out2 (rev6 (S : Int)) (x : Int) = wordI (2 * (S : Int) + (x : Int)) % 2 ∧
    wordI (2 * (S : Int) + 1) = 7 - wordI (2 * (S : Int)) := rev_all ⟨S, hS⟩ ⟨x, hx⟩
/-- What a word scores of what is heard at the place i. -/
def gw (soft : List Int) (i : Nat) (w : Int) : Int :=
  sgn (w / 4 % 2) (soft.getD (3 * i) 0) + sgn (w / 2 % 2) (soft.getD (3 * i + 1) 0) + sgn (w % 2) (soft.getD (3 * i + 2) 0)
theorem gw_gain (soft : List Int) (i S x : Nat) (hS : S < 64) (hx : x < 2) : gw soft i (wordI (2 * (S : Int) + (x : Int))) = gain soft i (rev6 (S : Int)) (x : Int) := by
  obtain ⟨_, h0, h1, h2, _⟩ := rev_at S hS x hx
  unfold gw gain
  rw [h0, h1, h2]
/-- The best from a place and a state on, k places being left; from the place n on only 0 is said. -/
def val (soft : List Int) (n : Nat) : Nat → Nat → Int
  | 0, _ => 0
  | k + 1, S =>
    let i := n + 6 - (k + 1)
    let z := gw soft i (wordI (2 * (S : Int))) + val soft n k (2 * S % 64)
    let o := gw soft i (7 - wordI (2 * (S : Int))) + val soft n k (2 * S % 64 + 1)
    if k < 6 then z else if z < o then o else z
/-- Does only a 1 bring the most, k places being left behind this one? -/
def one (soft : List Int) (n k S : Nat) : Bool :=
  decide (gw soft (n + 6 - (k + 1)) (wordI (2 * (S : Int))) + val soft n k (2 * S % 64) < gw soft (n + 6 - (k + 1)) (7 - wordI (2 * (S : Int))) + val soft n k (2 * S % 64 + 1))
theorem rev_next0 (S : Nat) (hS : S < 64) : nxt (rev6 (S : Int)) 0 = rev6 ((2 * S % 64 : Nat) : Int) := by
  have := (rev_at S hS 0 (by omega)).1
  rw [show ((2 * S % 64 : Nat) : Int) = (2 * (S : Int) + ((0 : Nat) : Int)) % 64 by omega]
  exact this
theorem rev_next1 (S : Nat) (hS : S < 64) : nxt (rev6 (S : Int)) 1 = rev6 ((2 * S % 64 + 1 : Nat) : Int) := by
  have := (rev_at S hS 1 (by omega)).1
  rw [show ((2 * S % 64 + 1 : Nat) : Int) = (2 * (S : Int) + ((1 : Nat) : Int)) % 64 by omega]
  exact this
theorem gw_gain0 (soft : List Int) (i S : Nat) (hS : S < 64) : gw soft i (wordI (2 * (S : Int))) = gain soft i (rev6 (S : Int)) 0 := by
  have := gw_gain soft i S 0 hS (by omega)
  simpa using this
theorem gw_gain1 (soft : List Int) (i S : Nat) (hS : S < 64) : gw soft i (7 - wordI (2 * (S : Int))) = gain soft i (rev6 (S : Int)) 1 := by
  have h := gw_gain soft i S 1 hS (by omega)
  have h' := (rev_at S hS 1 (by omega)).2.2.2.2
  rw [← h']
  simpa using h
theorem val_tail (soft : List Int) (n : Nat) : ∀ k, k ≤ 6 → ∀ S, S < 64 → val soft n k S = sc soft (n + 6 - k) (rev6 (S : Int)) (List.replicate k 0)
  | 0, _, _, _ => rfl
  | k + 1, hk, S, hS => by
    rw [val]
    simp only [if_pos (show k < 6 by omega)]
    rw [gw_gain0 soft _ S hS, val_tail soft n k (by omega) _ (Nat.mod_lt _ (by omega)), List.replicate_succ, sc, rev_next0 S hS, show n + 6 - (k + 1) + 1 = n + 6 - k by omega]
theorem val_top (soft : List Int) (n : Nat) : ∀ r, r ≤ n → ∀ S, S < 64 → val soft n (r + 6) S = top soft r (n - r) (rev6 (S : Int))
  | 0, _, S, hS => by
    rw [Nat.zero_add, val_tail soft n 6 (by omega) S hS]
    show _ = sc soft (n - 0) _ zeros6
    rw [show n + 6 - 6 = n - 0 by omega]
    rfl
  | r + 1, hr, S, hS => by
    rw [show r + 1 + 6 = (r + 6) + 1 by omega, val]
    simp only [if_neg (show ¬ r + 6 < 6 by omega)]
    rw [gw_gain0 soft _ S hS, gw_gain1 soft _ S hS, val_top soft n r (by omega) _ (Nat.mod_lt _ (by omega)), val_top soft n r (by omega) _ (by omega), show n + 6 - (r + 6 + 1) = n - (r + 1) by omega]
    rw [top, rev_next0 S hS, rev_next1 S hS, show n - (r + 1) + 1 = n - r by omega]
    split <;> omega
theorem one_way (soft : List Int) (n r S : Nat) (hr : r < n) (hS : S < 64) :
    way soft (r + 1) (n - (r + 1)) (rev6 (S : Int)) = if one soft n (r + 6) S then 1 :: way soft r (n - r) (rev6 ((2 * S % 64 + 1 : Nat) : Int)) else 0 :: way soft r (n - r) (rev6 ((2 * S % 64 : Nat) : Int)) := by
  rw [way]
  unfold one
  rw [gw_gain0 soft _ S hS, gw_gain1 soft _ S hS, val_top soft n r (by omega) _ (Nat.mod_lt _ (by omega)), val_top soft n r (by omega) _ (by omega), show n + 6 - (r + 6 + 1) = n - (r + 1) by omega, rev_next0 S hS, rev_next1 S hS, show n - (r + 1) + 1 = n - r by omega]
  simp only [decide_eq_true_eq]
/-- The marks of a place: a place a state. -/
def marks (soft : List Int) (n k : Nat) : Nat → Nat
  | 0 => 0
  | S + 1 => marks soft n k S + if one soft n k S then 2 ^ S else 0
theorem marks_lt (soft : List Int) (n k : Nat) : ∀ S, marks soft n k S < 2 ^ S
  | 0 => by simp [marks]
  | S + 1 => by
    have := marks_lt soft n k S
    have h2 : 2 ^ (S + 1) = 2 ^ S + 2 ^ S := by rw [Nat.pow_succ]; omega
    unfold marks
    split <;> omega
theorem marks_or (soft : List Int) (n k S : Nat) : marks soft n k S ||| 2 ^ S = marks soft n k S + 2 ^ S := by
  have h := marks_lt soft n k S
  have := Nat.two_pow_add_eq_or_of_lt h 1
  rw [Nat.mul_one] at this
  rw [Nat.or_comm, ← this, Nat.add_comm]
theorem marks_above (soft : List Int) (n k S : Nat) : ∀ d, marks soft n k (S + d) / 2 ^ S % 2 = (marks soft n k S + if d = 0 then 0 else if one soft n k S then 2 ^ S else 0) / 2 ^ S % 2
  | 0 => by simp
  | 1 => by simp [marks]
  | d + 2 => by
    have ih := marks_above soft n k S (d + 1)
    rw [show S + (d + 2) = (S + (d + 1)) + 1 by omega, marks]
    split
    · have e : 2 ^ (S + (d + 1)) = 2 ^ S * (2 * 2 ^ d) := by rw [Nat.pow_add, Nat.pow_succ, Nat.mul_comm (2 ^ d) 2]
      rw [e, Nat.add_mul_div_left _ _ (Nat.two_pow_pos S), Nat.add_mul_mod_self_left, ih]
      simp
    · rw [Nat.add_zero, ih]
      simp
theorem marks_bit (soft : List Int) (n k S : Nat) (hS : S < 64) : marks soft n k 64 / 2 ^ S % 2 = if one soft n k S then 1 else 0 := by
  obtain ⟨d, hd⟩ : ∃ d, 64 = S + (d + 1) := ⟨63 - S, by omega⟩
  have := marks_above soft n k S (d + 1)
  rw [← hd] at this
  rw [this]
  have hl := marks_lt soft n k S
  simp only [Nat.succ_ne_zero, if_false]
  split
  · rw [Nat.add_div_right _ (Nat.two_pow_pos S), Nat.div_eq_of_lt hl]
  · rw [Nat.add_zero, Nat.div_eq_of_lt hl]
end Go.Proofs.YtplkmkbambbemaeGreatDoor
namespace Go.Proofs.YtplkmkbambbemaeGreatDoor
open Go.ChangeShapes Go.WideShapes Go.ChangeAt Go.RowKit
/-- How many places of a number below 128 are 1. -/
def pop (x : Nat) : Nat := x % 2 + x / 2 % 2 + x / 4 % 2 + x / 8 % 2 + x / 16 % 2 + x / 32 % 2 + x / 64 % 2
def popA (x : Int) : Int := IntKind.u64.wrap (bits .and .u64 (x / 2) 6148914691236517205 + bits .and .u64 x 6148914691236517205)
def popB (x : Int) : Int := IntKind.u64.wrap (bits .and .u64 (x / 4) 3689348814741910323 + bits .and .u64 x 3689348814741910323)
def popC (x : Int) : Int := bits .and .u64 (x / 16 + x) 1085102592571150095
def popD (x : Int) : Int := x + x / 256
def popE (x : Int) : Int := x + x / 65536
def popF (x : Int) : Int := x + x / 4294967296
theorem pop_all : ∀ x : Fin 128, bits .and .i64 (popF (popE (popD (popC (popB (popA (x.val : Int))))))) 127 = (pop x.val : Int) := by decide +kernel
theorem popA_pos : ∀ x : Fin 128, ((popA (x.val : Int)).toNat : Int) = popA (x.val : Int) ∧ (popA (x.val : Int)).toNat < 256 := by decide +kernel
theorem popB_pos : ∀ x : Fin 256, ((popB (x.val : Int)).toNat : Int) = popB (x.val : Int) ∧ (popB (x.val : Int)).toNat < 128 := by decide +kernel
theorem popC_pos : ∀ x : Fin 128, ((popC (x.val : Int)).toNat : Int) = popC (x.val : Int) ∧ (popC (x.val : Int)).toNat < 256 := by decide +kernel
theorem popD_pos : ∀ x : Fin 256, ((popD (x.val : Int)).toNat : Int) = popD (x.val : Int) ∧ (popD (x.val : Int)).toNat < 256 := by decide +kernel
theorem popE_pos : ∀ x : Fin 256, ((popE (x.val : Int)).toNat : Int) = popE (x.val : Int) ∧ (popE (x.val : Int)).toNat < 256 := by decide +kernel
theorem popF_pos : ∀ x : Fin 256, ((popF (x.val : Int)).toNat : Int) = popF (x.val : Int) ∧ (popF (x.val : Int)).toNat < 256 := by decide +kernel
set_option maxHeartbeats 400000 in
theorem ones64 (x : Nat) (hx : x < 128) (w : World) :
    Calls Tryz.prog 83 #[.int .u64 x] w fun e w' => e = .returned (.int .i64 (pop x)) ∧ w = w' := by
  have h := hid (pop_all ⟨x, hx⟩)
  obtain ⟨A, hA, lA⟩ : ∃ A : Nat, popA x = A ∧ A < 256 := ⟨_, (popA_pos ⟨x, hx⟩).1.symm, (popA_pos ⟨x, hx⟩).2⟩
  obtain ⟨B, hB, lB⟩ : ∃ B : Nat, popB A = B ∧ B < 128 := ⟨_, (popB_pos ⟨A, lA⟩).1.symm, (popB_pos ⟨A, lA⟩).2⟩
  obtain ⟨C, hC, lC⟩ : ∃ C : Nat, popC B = C ∧ C < 256 := ⟨_, (popC_pos ⟨B, lB⟩).1.symm, (popC_pos ⟨B, lB⟩).2⟩
  obtain ⟨D, hD, lD⟩ : ∃ D : Nat, popD C = D ∧ D < 256 := ⟨_, (popD_pos ⟨C, lC⟩).1.symm, (popD_pos ⟨C, lC⟩).2⟩
  obtain ⟨E, hE, lE⟩ : ∃ E : Nat, popE D = E ∧ E < 256 := ⟨_, (popE_pos ⟨D, lD⟩).1.symm, (popE_pos ⟨D, lD⟩).2⟩
  obtain ⟨F, hF, lF⟩ : ∃ F : Nat, popF E = F ∧ F < 256 := ⟨_, (popF_pos ⟨E, lE⟩).1.symm, (popF_pos ⟨E, lE⟩).2⟩
  have h2 : Hid (bits .and .i64 (F : Int) 127 = (pop x : Int)) := by
    have := h.out
    rw [hA, hB, hC, hD, hE, hF] at this
    exact this
  unfold popA at hA
  unfold popB at hB
  unfold popC at hC
  unfold popD at hD
  unfold popE at hE
  unfold popF at hF
  clear h
  go_enter Tryz.func83, Tryz.ntmps83
  go_wp2
  go_ret
  exact ⟨ret_int h2.out, rfl⟩
end Go.Proofs.YtplkmkbambbemaeGreatDoor
