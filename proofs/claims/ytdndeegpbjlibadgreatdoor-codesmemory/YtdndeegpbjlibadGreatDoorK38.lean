import Derived.Test.YtdndeegpbjlibadGreatDoorK35
import Derived.Test.YtdndeegpbjlibadGreatDoorK03
import Derived.Test.YtdndeegpbjlibadGreatDoorK37
import Derived.Deep.CutRange
namespace Go.Proofs.YtdndeegpbjlibadGreatDoor
open Go.ChangeShapes Go.WideShapes Go.ChangeAt Go.RowKit

/-! THE PROGRAM'S levels, and the nearest of them. -/

def lvTo (h n i : Nat) : List Int := (List.range i).map (fun m => levM m h) ++ List.replicate (n - i) 0
theorem lvTo_set {h n i : Nat} (hi : i < n) : (lvTo h n i).set i (levM i h) = lvTo h n (i + 1) := by
  unfold lvTo
  rw [List.set_append_right _ _ (by simp), List.length_map, List.length_range, Nat.sub_self, List.range_succ, List.map_append, List.append_assoc, show n - i = n - (i + 1) + 1 by omega, List.replicate_succ]
  rfl
theorem lvTo_length {h n i : Nat} (hi : i ≤ n) : (lvTo h n i).length = n := by simp [lvTo]; omega
theorem lvTo_all (h : Nat) : lvTo h (2 ^ h) (2 ^ h) = levsM h := by simp [lvTo, levsM]
theorem levsM_length (h : Nat) : (levsM h).length = 2 ^ h := by simp [levsM]
theorem levsM_at {h j : Nat} (hj : j < 2 ^ h) : (levsM h).getD j 0 = levM j h := by simp [levsM, List.getD, hj]

set_option maxHeartbeats 1000000 in
theorem levels_any (h n : Nat) (w : World) (h1 : 1 ≤ h) (hh : h ≤ 3) (hn : n = 2 ^ h) :
    Calls Tryz.prog 41 #[.int .i64 h] w fun e w' => ∃ g, e = .returned (.slice (some ⟨g, 0, none⟩) n n) ∧ ArrAt .i64 3 w' g (levsM h) ∧ w.heap.size ≤ g ∧ Below w.heap.size w w' := by
  have HALL := hid (show lvTo h n n = levsM h by rw [hn]; exact lvTo_all h)
  have h8 : n ≤ 8 := by
    rw [hn]
    exact (show 2 ^ h ≤ 2 ^ 3 from Nat.pow_le_pow_right (by omega) hh)
  have hsh : wrap64 (2 ^ h) = (n : Int) := by
    have h3 : h = 1 ∨ h = 2 ∨ h = 3 := by omega
    rw [hn]
    rcases h3 with rfl | rfl | rfl <;> simp [wrap64]
  clear hn
  go_enter Tryz.func41, Tryz.ntmps41
  go_wp2_with (first
    | (refine wpList_makeInts w.heap.size w n rfl _ _ rfl _ _ rfl rfl hsh hsh (by omega) (Below.refl _ _) (Nat.le_refl _) ?_; intro w1 hown1 hbel1 hlt1 _hx1; obtain ⟨har1, -, -⟩ := hown1.arr; clear hown1))
  go_loopw [10] (fun q wr => ∃ i : Nat, i ≤ n ∧ q = .int .i64 i ∧ ArrAt .i64 3 wr w.heap.size (lvTo h n i) ∧ Kept [w.heap.size] w1 wr) (fun q _ => n - (intOf q).toNat)
  case atStart => exact ⟨0, Nat.zero_le _, rfl, by simpa [lvTo] using har1, Kept.refl _ _⟩
  case round =>
    obtain ⟨i, hi, rfl, har, hkept⟩ := hrel
    by_cases hlt : i < n
    · have hset := har.set i (levM i h)
      rw [lvTo_set hlt] at hset
      have hf := har.free i
      have hcz := har.cell (j := i) (by rw [lvTo_length hi]; exact hlt)
      have hkept' := hkept.setCell (p := ⟨w.heap.size, i, none⟩) (by simp) (.int .i64 (levM i h))
      have hwo := level_any i h wr (by omega) hh
      generalize (lvTo h n i).getD i 0 = z at *
      generalize levM i h = y at *
      clear har hkept
      go_wp2_with (first | (go_at_call 60; refine hwo.mono ?_; rintro e w2 ⟨rfl, rfl⟩))
      go_roundw
      case rel => exact ⟨i + 1, by omega, by go_num, hset, hkept'⟩
      case measure => simp [intOf]; omega
    · obtain rfl : i = n := by omega
      rw [HALL.out] at har
      have hbel := hbel1.trans (hkept.below (B := w.heap.size) (by omega) (by simp))
      clear hkept
      go_wp2
      go_ret
      exact ⟨w.heap.size, rfl, har, Nat.le_refl _, hbel⟩

theorem lev_rd {w : World} {g h : Nat} (har : ArrAt .i64 3 w g (levsM h)) {j : Nat} (hj : j < 2 ^ h) : w.cell? ⟨g, j, none⟩ = some (.int .i64 (levM j h)) := by
  have := har.cell (j := j) (by rw [levsM_length]; exact hj)
  rw [levsM_at hj] at this
  exact this

set_option maxHeartbeats 2000000 in
theorem nearest_any (h n g : Nat) (x : Int) (w : World) (hh : h ≤ 3) (hn : n = 2 ^ h) (hx : -1000 ≤ x ∧ x ≤ 1000) (har : ArrAt .i64 3 w g (levsM h)) :
    Calls Tryz.prog 45 #[.slice (some ⟨g, 0, none⟩) n n, .int .i64 x] w fun e w' => e = .returned (.int .i64 (nearA h x n)) ∧ Below w.heap.size w w' := by
  have HN := hid hn
  have h8 : n ≤ 8 := by
    rw [hn]
    exact (show 2 ^ h ≤ 2 ^ 3 from Nat.pow_le_pow_right (by omega) hh)
  have h0 : 0 < n := by rw [hn]; exact Nat.two_pow_pos h
  have hSQ : Enters Tryz.prog 62 := enters_of Tryz.func62 (by kernel_rfl) rfl
  have hmix : Tryz.prog.follows .mixedOrders = true := by kernel_rfl
  clear hn
  go_enter Tryz.func45, Tryz.ntmps45
  go_wp2
  go_loopw [5, 10] (fun b q wr => ∃ k : Nat, k ≤ n ∧ q = .int .i64 k ∧ b = .int .i64 (nearA h x k) ∧ Below w.heap.size w wr) (fun _ q _ => n - (intOf q).toNat)
  case atStart => exact ⟨0, Nat.zero_le _, rfl, rfl, Below.refl _ _⟩
  case round =>
    obtain ⟨k, hk, rfl, rfl, hbel⟩ := hrel
    by_cases hlt : k < n
    · have hbn : nearA h x k < n := by rw [HN.out]; exact nearA_bd h x (by rw [← HN.out]; exact hk)
      have har' := har.below hbel har.lt
      have c1 := lev_rd har' (j := k) (by rw [← HN.out]; exact hlt)
      have c2 := lev_rd har' (j := nearA h x k) (by rw [← HN.out]; exact hbn)
      have b1 := levM_bd k h hh
      have b2 := levM_bd (nearA h x k) h hh
      have HS := hid (show nearA h x (k + 1) = if (x - levM k h) * (x - levM k h) < (x - levM (nearA h x k) h) * (x - levM (nearA h x k) h) then k else nearA h x k from rfl)
      obtain ⟨y, ey⟩ : ∃ y, y = levM k h := ⟨_, rfl⟩
      obtain ⟨z, ez⟩ : ∃ z, z = levM (nearA h x k) h := ⟨_, rfl⟩
      rw [← ey, ← ez] at HS
      rw [← ey] at c1 b1
      rw [← ez] at c2 b2
      obtain ⟨B, eB⟩ : ∃ B, B = nearA h x k := ⟨_, rfl⟩
      rw [← eB] at HS hbn c2
      rw [← eB]
      have hw1 : IntKind.i64.wrap (x - y) = x - y := by rw [IntKind.wrap_i64]; omega
      have hw2 : IntKind.i64.wrap (x - z) = x - z := by rw [IntKind.wrap_i64]; omega
      have hq1 := fun w => square_any (x - y) w (by omega)
      have hq2 := fun w => square_any (x - z) w (by omega)
      clear ey ez eB har'
      go_upto_region 5 with fail
      refine wp_mono (region_known3 12 [(15, .int .i64 x), (16, .int .i64 y), (17, .int .i64 (x - y)), (18, .int .i64 ((x - y) * (x - y))), (19, .int .i64 x), (20, .slice (some ⟨g, 0, none⟩) n n), (21, .int .i64 B), (22, .pointer (some ⟨g, 0 + B, none⟩)), (23, .int .i64 z), (24, .int .i64 (x - z)), (25, .int .i64 ((x - z) * (x - z))), (26, .bool (decide ((x - y) * (x - y) < (x - z) * (x - z))))]
          [[1], [7], [15, 16], [17], [1], [0], [5], [20, 21], [22], [19, 23], [24], [18, 25]] wr hmix rfl rfl (show ([15, 16, 17, 18, 19, 20, 21, 22, 23, 24, 25, 26] : List Nat).Nodup by decide) (by kernel_rfl) (by kernel_rfl) (by kernel_rfl) (by kernel_rfl) (fun i' hi' a wc hbc hr Q K hK => by
          have h12 : i' = 0 ∨ i' = 1 ∨ i' = 2 ∨ i' = 3 ∨ i' = 4 ∨ i' = 5 ∨ i' = 6 ∨ i' = 7 ∨ i' = 8 ∨ i' = 9 ∨ i' = 10 ∨ i' = 11 := by omega
          have qz := (hbc.cell (World.block_lt_of_cell? wr _ c2)).trans c2
          rcases h12 with rfl | rfl | rfl | rfl | rfl | rfl | rfl | rfl | rfl | rfl | rfl | rfl
          · exact op_value rfl rfl (run_moveQ wc rfl (hr 1 (by decide))) (hK wc hbc)
          · exact op_value rfl rfl (run_moveQ wc rfl (hr 7 (by decide))) (hK wc hbc)
          · exact op_value rfl rfl (run_subQ wc rfl (hr 15 (by decide)) (hr 16 (by decide)) hw1) (hK wc hbc)
          · refine op_callN rfl rfl rfl hSQ (by simp only [List.map_toArray, List.map_cons, List.map_nil]; rw [hr 17 (by decide)]; rfl) (hq1 wc) fun e w' hr' => ?_
            obtain ⟨rfl, rfl⟩ := hr'
            exact ⟨_, rfl, hK wc hbc⟩
          · exact op_value rfl rfl (run_moveQ wc rfl (hr 1 (by decide))) (hK wc hbc)
          · exact op_value rfl rfl (run_moveQ wc rfl (hr 0 (by decide))) (hK wc hbc)
          · exact op_value rfl rfl (run_moveQ wc rfl (hr 5 (by decide))) (hK wc hbc)
          · exact op_value rfl rfl (run_idxI wc rfl (hr 20 (by decide)) (hr 21 (by decide)) hbn) (hK wc hbc)
          · exact op_value rfl rfl (run_loadI wc rfl (hr 22 (by decide)) (by rw [Nat.zero_add]; exact qz)) (hK wc hbc)
          · exact op_value rfl rfl (run_subQ wc rfl (hr 19 (by decide)) (hr 23 (by decide)) hw2) (hK wc hbc)
          · refine op_callN rfl rfl rfl hSQ (by simp only [List.map_toArray, List.map_cons, List.map_nil]; rw [hr 24 (by decide)]; rfl) (hq2 wc) fun e w' hr' => ?_
            obtain ⟨rfl, rfl⟩ := hr'
            exact ⟨_, rfl, hK wc hbc⟩
          · exact op_value rfl rfl (run_lssQ wc rfl (hr 18 (by decide)) (hr 25 (by decide))) (hK wc hbc))) ?_
      rintro e a' w' ⟨rfl, rfl, hbw⟩
      have hbel' : Below w.heap.size w w' := hbel.trans (hbw.mono hbel.size)
      dsimp only [setAll, List.set]
      by_cases hd : (x - y) * (x - y) < (x - z) * (x - z)
      · have HV := hid (show nearA h x (k + 1) = k by rw [HS.out, if_pos hd])
        have hd' : decide ((x - y) * (x - y) < (x - z) * (x - z)) = true := decide_eq_true hd
        generalize decide ((x - y) * (x - y) < (x - z) * (x - z)) = D at *
        subst hd'
        clear HS hd
        go_wp2
        go_roundw
        case rel => exact ⟨k + 1, by omega, by go_num, by rw [HV.out], hbel'⟩
        case measure => simp [intOf]; omega
      · have HV := hid (show nearA h x (k + 1) = B by rw [HS.out, if_neg hd])
        have hd' : decide ((x - y) * (x - y) < (x - z) * (x - z)) = false := decide_eq_false hd
        generalize decide ((x - y) * (x - y) < (x - z) * (x - z)) = D at *
        subst hd'
        clear HS hd
        go_wp2
        go_roundw
        case rel => exact ⟨k + 1, by omega, by go_num, by rw [HV.out], hbel'⟩
        case measure => simp [intOf]; omega
    · obtain rfl : k = n := by omega
      go_wp2
      go_ret
      exact ⟨rfl, hbel⟩
end Go.Proofs.YtdndeegpbjlibadGreatDoor
