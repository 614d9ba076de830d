import Derived.Test.YtdndeegpbjlibadGreatDoorK38
import Derived.Test.YtdndeegpbjlibadGreatDoorK03
namespace Go.Proofs.YtdndeegpbjlibadGreatDoor
open Go.ChangeShapes Go.WideShapes Go.ChangeAt Go.RowKit Go.Shelf

/-! THE PROGRAM'S hearBit. -/

theorem leastTo_bd {h : Nat} {x : Int} (hh : h ≤ 3) (hx : -1000 ≤ x ∧ x ≤ 1000) (place bit : Nat) : ∀ j, 0 ≤ leastTo h x place bit j ∧ leastTo h x place bit j ≤ 9223372036854775807
  | 0 => by simp [leastTo]
  | j + 1 => by
    have h1 := leastTo_bd hh hx place bit j
    have h2 := sqM_bd hh hx j
    rw [leastTo]
    split
    · rcases Int.le_total (leastTo h x place bit j) (sqM h x j) with hc | hc
      · rw [Int.min_eq_left hc]; exact h1
      · rw [Int.min_eq_right hc]; omega
    · exact h1
theorem least_set {h : Nat} {x : Int} {place k y : Nat} (hy : bitN k place = y) : [leastTo h x place 0 k, leastTo h x place 1 k].set y (min ([leastTo h x place 0 k, leastTo h x place 1 k].getD y 0) (sqM h x k)) = [leastTo h x place 0 (k + 1), leastTo h x place 1 (k + 1)] := by
  have h0 : leastTo h x place 0 (k + 1) = if bitN k place = 0 then min (leastTo h x place 0 k) (sqM h x k) else leastTo h x place 0 k := rfl
  have h1 : leastTo h x place 1 (k + 1) = if bitN k place = 1 then min (leastTo h x place 1 k) (sqM h x k) else leastTo h x place 1 k := rfl
  rw [h0, h1, hy]
  rcases bitN_or k place with e | e
  · rw [hy] at e; subst e; simp
  · rw [hy] at e; subst e; simp

set_option maxRecDepth 100000 in
set_option maxHeartbeats 2000000 in
theorem hearBit_any (h n g place : Nat) (x : Int) (w : World) (hh : h ≤ 3) (hn : n = 2 ^ h) (hp : place < h) (hx : -1000 ≤ x ∧ x ≤ 1000) (har : ArrAt .i64 3 w g (levsM h)) :
    Calls Tryz.prog 44 #[.slice (some ⟨g, 0, none⟩) n n, .int .i64 x, .int .i64 place] w fun e w' => e = .returned (.int .i64 (hearM h x place)) ∧ Below w.heap.size w w' := by
  have HN := hid hn
  have h8 : n ≤ 8 := by
    rw [hn]
    exact (show 2 ^ h ≤ 2 ^ 3 from Nat.pow_le_pow_right (by omega) hh)
  have hSQ : Enters Tryz.prog 62 := enters_of Tryz.func62 (by kernel_rfl) rfl
  have hmix : Tryz.prog.follows .mixedOrders = true := by kernel_rfl
  have HE := hid (show hearM h x place = leastTo h x place 1 n - leastTo h x place 0 n by rw [hn]; rfl)
  have hgl := har.lt
  have hnew := arr_new .i64 102 w [9223372036854775807, 9223372036854775807]
  have hbn : Below w.heap.size w (w.alloc (.cells (([9223372036854775807, 9223372036854775807] : List Int).map (Value.int .i64)).toArray 102)) := (Below.refl _ w).alloc (Nat.le_refl _) _
  clear hn
  go_enter Tryz.func44, Tryz.ntmps44
  go_wp2
  go_loopw [14] (fun q wr => ∃ k : Nat, k ≤ n ∧ q = .int .i64 k ∧ ArrAt .i64 102 wr w.heap.size [leastTo h x place 0 k, leastTo h x place 1 k] ∧ Below w.heap.size w wr) (fun q _ => n - (intOf q).toNat)
  case atStart => exact ⟨0, Nat.zero_le _, rfl, hnew, hbn⟩
  case round =>
    clear hnew hbn
    obtain ⟨k, hk, rfl, hle, hbel⟩ := hrel
    by_cases hlt : k < n
    · have har' := har.below hbel hgl
      have c1 := lev_rd har' (j := k) (by rw [← HN.out]; exact hlt)
      have b1 := levM_bd k h hh
      have hA := and1_at k place (by omega)
      have hb := bitN_or k place
      have HY := hid (rfl : bitN k place = bitN k place)
      have HSET := hid (least_set (h := h) (x := x) (place := place) (k := k) (y := bitN k place) rfl)
      have HSQ := hid (show sqM h x k = (x - levM k h) * (x - levM k h) from rfl)
      obtain ⟨y, ey⟩ : ∃ y, y = bitN k place := ⟨_, rfl⟩
      rw [← ey] at hA hb HSET
      have hy2 : y < 2 := by omega
      have cz := hle.cell (j := y) (by simpa using hy2)
      have hfr := hle.free y
      obtain ⟨L, eL⟩ : ∃ L, L = [leastTo h x place 0 k, leastTo h x place 1 k] := ⟨_, rfl⟩
      rw [← eL] at hle cz HSET
      obtain ⟨z, ez⟩ : ∃ z, z = L.getD y 0 := ⟨_, rfl⟩
      rw [← ez] at cz HSET
      obtain ⟨v, ev⟩ : ∃ v, v = levM k h := ⟨_, rfl⟩
      rw [← ev] at c1 b1 HSQ
      have hw1 : IntKind.i64.wrap (x - v) = x - v := by rw [IntKind.wrap_i64]; omega
      have hq1 := fun w => square_any (x - v) w (by omega)
      rw [HSQ.out] at HSET
      clear ey eL ez ev har' hb
      go_upto_region 6 with fail
      refine wp_mono (region_grow (Q := fun e a' w' => e = .normal ∧ a' = _ ∧ ∃ w1, Below wr.heap.size wr w1 ∧ w' = w1.setCell ⟨w.heap.size, y, none⟩ (.int .i64 (min z ((x - v) * (x - v))))) 11 10 9 [(23, .int .i64 y), (24, .int .i64 y), (25, .pointer (some ⟨w.heap.size, y, none⟩)), (26, .int .i64 z), (27, .int .i64 x), (28, .int .i64 v), (29, .int .i64 (x - v)), (30, .int .i64 ((x - v) * (x - v))), (31, .int .i64 (min z ((x - v) * (x - v))))] 32 []
          [[10], [10], [7, 24], [25], [1], [9], [27, 28], [29], [26, 30], [7, 23]] [9, 2, 3, 8, 6, 6, 7, 8, 10, 10] (fun u _ => u = .pointer (some ⟨w.heap.size, y, none⟩)) wr hmix rfl (by decide) rfl rfl (show ([23, 24, 25, 26, 27, 28, 29, 30, 31, 32] : List Nat).Nodup by decide) (by kernel_rfl) (by kernel_rfl) (by kernel_rfl) (by kernel_rfl) (by kernel_rfl) (by kernel_rfl) (fun _ _ _ h _ => h)
          (fun i' hi' x0 a wc hbc hr Q K hK1 hK => by
            have h10 : i' = 0 ∨ i' = 1 ∨ i' = 2 ∨ i' = 3 ∨ i' = 4 ∨ i' = 5 ∨ i' = 6 ∨ i' = 7 ∨ i' = 8 ∨ i' = 9 := by omega
            have hgr := grownBy_self wc
            have qz := (hbc.cell (World.block_lt_of_cell? wr _ cz)).trans cz
            rcases h10 with rfl | rfl | rfl | rfl | rfl | rfl | rfl | rfl | rfl | rfl
            · exact op_value rfl rfl (run_moveQ wc rfl (hr 10 (by decide))) (hK (by decide) wc hgr)
            · exact op_value rfl rfl (run_moveQ wc rfl (hr 10 (by decide))) (hK (by decide) wc hgr)
            · exact op_value rfl rfl (run_idxA wc rfl (hr 7 (by decide)) (hr 24 (by decide)) hy2) (hK (by decide) wc hgr)
            · exact op_value rfl rfl (run_loadI wc rfl (hr 25 (by decide)) qz) (hK (by decide) wc hgr)
            · exact op_value rfl rfl (run_moveQ wc rfl (hr 1 (by decide))) (hK (by decide) wc hgr)
            · exact op_value rfl rfl (run_moveQ wc rfl (hr 9 (by decide))) (hK (by decide) wc hgr)
            · exact op_value rfl rfl (run_subQ wc rfl (hr 27 (by decide)) (hr 28 (by decide)) hw1) (hK (by decide) wc hgr)
            · refine op_callN rfl rfl rfl hSQ (by simp only [List.map_toArray, List.map_cons, List.map_nil]; rw [hr 29 (by decide)]; rfl) (hq1 wc) fun e w' hr' => ?_
              obtain ⟨rfl, rfl⟩ := hr'
              exact ⟨_, rfl, hK (by decide) wc hgr⟩
            · exact op_value rfl rfl (run_minQ wc rfl (hr 26 (by decide)) (hr 30 (by decide))) (hK (by decide) wc hgr)
            · exact op_value rfl rfl (run_idxA wc rfl (hr 7 (by decide)) (hr 23 (by decide)) hy2) (hK1 rfl _ wc hgr rfl))
          (fun x0 wc hbc hx0 => by
            subst hx0
            have qz := (hbc.cell (World.block_lt_of_cell? wr _ cz)).trans cz
            have qf := (hbc.frozen (p := ⟨w.heap.size, y, none⟩) (World.block_lt_of_cell? wr _ cz)).trans hfr
            exact op_skipQ rfl rfl (run_storeI wc rfl rfl rfl qz qf) ⟨rfl, rfl, wc, hbc, rfl⟩)) ?_
      rintro e a' w' ⟨rfl, rfl, w1, hb1, rfl⟩
      have hle1 := hle.below hb1 hle.lt
      have hset := hle1.set y (min z ((x - v) * (x - v)))
      rw [HSET.out] at hset
      have hbel' := (hbel.trans (hb1.mono hbel.size)).setCell (p := ⟨w.heap.size, y, none⟩) (Nat.le_refl _) (.int .i64 (min z ((x - v) * (x - v))))
      generalize w1.setCell ⟨w.heap.size, y, none⟩ (.int .i64 (min z ((x - v) * (x - v)))) = w2 at *
      clear HSET HSQ hle1 hb1 hle cz hfr c1 hbel hq1 hw1
      generalize min z ((x - v) * (x - v)) = mm at *
      dsimp only [setAll, List.set, List.append_nil, List.cons_append, List.nil_append]
      go_wp2
      go_roundw
      case rel => exact ⟨k + 1, by omega, by go_num, hset, hbel'⟩
      case measure => simp [intOf]; omega
    · obtain rfl : k = n := by omega
      have d0 := leastTo_bd hh hx place 0 k
      have d1 := leastTo_bd hh hx place 1 k
      have c0 := hle.cell (j := 0) (by simp)
      have c1 := hle.cell (j := 1) (by simp)
      simp only [List.getD_cons_zero, List.getD_cons_succ] at c0 c1
      generalize leastTo h x place 0 k = p0 at *
      generalize leastTo h x place 1 k = p1 at *
      clear hle
      go_wp2
      go_ret
      exact ⟨ret_int HE.out.symm, hbel⟩
end Go.Proofs.YtdndeegpbjlibadGreatDoor
