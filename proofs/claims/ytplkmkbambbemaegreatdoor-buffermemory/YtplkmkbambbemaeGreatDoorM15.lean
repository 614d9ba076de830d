import Derived.Test.YtplkmkbambbemaeGreatDoorM07
import Derived.Test.YtplkmkbambbemaeGreatDoorM02
import Derived.Test.YtplkmkbambbemaeGreatDoorM14
import Derived.Deep.CutRange
import Derived.Test.YtplkmkbambbemaeGreatDoorM08
import Derived.Test.YtplkmkbambbemaeGreatDoorM01
namespace Go.Proofs.YtplkmkbambbemaeGreatDoor
open Go.ChangeShapes Go.WideShapes Go.ChangeAt Go.RowKit
def lvTo (h n i : Nat) : List Int := (List.range i).map (fun m => levM m h) ++ List.replicate (n - i) 0
theorem lvTo_set {h n i : Nat} (hi : i < n) : (lvTo h n i).set i (levM i h) = lvTo h n (i + 1) := by
  unfold lvTo
  rw [List.set_append_right _ _ (by simp), List.length_map, List.length_range, Nat.sub_self, List.range_succ, List.map_append, List.append_assoc, show n - i = n - (i + 1) + 1 by omega, List.replicate_succ]
  rfl
theorem lvTo_length {h n i : Nat} (hi : i ≤ n) : (lvTo h n i).length = n := by simp [lvTo]; omega
theorem lvTo_all (h : Nat) : lvTo h (2 ^ h) (2 ^ h) = levsM h := by simp [lvTo, levsM]
theorem levsM_length (h : Nat) : (levsM h).length = 2 ^ h := by simp [levsM]
theorem levsM_at {h j : Nat} (hj : j < 2 ^ h) : (levsM h).getD j 0 = levM j h := by simp [levsM, List.getD, hj]
set_option maxHeartbeats 1000000 in
theorem levels_any (h n : Nat) (w : World) (h1 : 1 ≤ h) (hh : h ≤ 3) (hn : n = 2 ^ h) :
    Calls Tryz.prog 51 #[.int .i64 h] w fun e w' => ∃ g, e = .returned (.slice (some ⟨g, 0, none⟩) n n) ∧ ArrAt .i64 3 w' g (levsM h) ∧ w.heap.size ≤ g ∧ Below w.heap.size w w' := by
  have HALL := hid (show lvTo h n n = levsM h by rw [hn]; exact lvTo_all h)
  have h8 : n ≤ 8 := by
    rw [hn]
    exact (show 2 ^ h ≤ 2 ^ 3 from Nat.pow_le_pow_right (by omega) hh)
  have hsh : wrap64 (2 ^ h) = (n : Int) := by
    have h3 : h = 1 ∨ h = 2 ∨ h = 3 := by omega
    rw [hn]
    rcases h3 with rfl | rfl | rfl <;> simp [wrap64]
  clear hn
  go_enter Tryz.func51, Tryz.ntmps51
  go_wp2_with (first
    | (refine wpList_makeInts w.heap.size w n rfl _ _ rfl _ _ rfl rfl hsh hsh (by omega) (Below.refl _ _) (Nat.le_refl _) ?_; intro w1 hown1 hbel1 hlt1 _hx1; obtain ⟨har1, -, -⟩ := hown1.arr; clear hown1))
  go_loopw [10] (fun q wr => ∃ i : Nat, i ≤ n ∧ q = .int .i64 i ∧ ArrAt .i64 3 wr w.heap.size (lvTo h n i) ∧ Kept [w.heap.size] w1 wr) (fun q _ => n - (intOf q).toNat)
  case atStart => exact ⟨0, Nat.zero_le _, rfl, by simpa [lvTo] using har1, Kept.refl _ _⟩
  case round =>
    obtain ⟨i, hi, rfl, har, hkept⟩ := hrel
    by_cases hlt : i < n
    · have hset := har.set i (levM i h)
      rw [lvTo_set hlt] at hset
      have hf := har.free i
      have hcz := har.cell (j := i) (by rw [lvTo_length hi]; exact hlt)
      have hkept' := hkept.setCell (p := ⟨w.heap.size, i, none⟩) (by simp) (.int .i64 (levM i h))
      have hwo := level_any i h wr (by omega) hh
      generalize (lvTo h n i).getD i 0 = z at *
      generalize levM i h = y at *
      clear har hkept
      go_wp2_with (first | (go_at_call 64; refine hwo.mono ?_; rintro e w2 ⟨rfl, rfl⟩))
      go_roundw
      case rel => exact ⟨i + 1, by omega, by go_num, hset, hkept'⟩
      case measure => simp [intOf]; omega
    · obtain rfl : i = n := by omega
      rw [HALL.out] at har
      have hbel := hbel1.trans (hkept.below (B := w.heap.size) (by omega) (by simp))
      clear hkept
      go_wp2
      go_ret
      exact ⟨w.heap.size, rfl, har, Nat.le_refl _, hbel⟩
theorem lev_rd {w : World} {g h : Nat} (har : ArrAt .i64 3 w g (levsM h)) {j : Nat} (hj : j < 2 ^ h) : w.cell? ⟨g, j, none⟩ = some (.int .i64 (levM j h)) := by
  have := har.cell (j := j) (by rw [levsM_length]; exact hj)
  rw [levsM_at hj] at this
  exact this
end Go.Proofs.YtplkmkbambbemaeGreatDoor
namespace Go.Proofs.YtplkmkbambbemaeGreatDoor
open Go.ChangeShapes Go.WideShapes Go.ChangeAt Go.RowKit Go.Shelf
theorem leastTo_bd {h : Nat} {x : Int} (hh : h ≤ 3) (hx : -1000 ≤ x ∧ x ≤ 1000) (place bit : Nat) : ∀ j, 0 ≤ leastTo h x place bit j ∧ leastTo h x place bit j ≤ 9223372036854775807
  | 0 => by simp [leastTo]
  | j + 1 => by
    have h1 := leastTo_bd hh hx place bit j
    have h2 := sqM_bd hh hx j
    rw [leastTo]
    split
    · rcases Int.le_total (leastTo h x place bit j) (sqM h x j) with hc | hc
      · rw [Int.min_eq_left hc]; exact h1
      · rw [Int.min_eq_right hc]; omega
    · exact h1
theorem least_set {h : Nat} {x : Int} {place k y : Nat} (hy : bitN k place = y) : [leastTo h x place 0 k, leastTo h x place 1 k].set y (min ([leastTo h x place 0 k, leastTo h x place 1 k].getD y 0) (sqM h x k)) = [leastTo h x place 0 (k + 1), leastTo h x place 1 (k + 1)] := by
  have h0 : leastTo h x place 0 (k + 1) = if bitN k place = 0 then min (leastTo h x place 0 k) (sqM h x k) else leastTo h x place 0 k := rfl
  have h1 : leastTo h x place 1 (k + 1) = if bitN k place = 1 then min (leastTo h x place 1 k) (sqM h x k) else leastTo h x place 1 k := rfl
  rw [h0, h1, hy]
  rcases bitN_or k place with e | e
  · rw [hy] at e; subst e; simp
  · rw [hy] at e; subst e; simp
set_option maxRecDepth 100000 in
set_option maxHeartbeats 2000000 in
theorem hearBit_any (h n g place : Nat) (x : Int) (w : World) (hh : h ≤ 3) (hn : n = 2 ^ h) (hp : place < h) (hx : -1000 ≤ x ∧ x ≤ 1000) (har : ArrAt .i64 3 w g (levsM h)) :
    Calls Tryz.prog 54 #[.slice (some ⟨g, 0, none⟩) n n, .int .i64 x, .int .i64 place] w fun e w' => e = .returned (.int .i64 (hearM h x place)) ∧ Below w.heap.size w w' := by
  have HN := hid hn
  have h8 : n ≤ 8 := by
    rw [hn]
    exact (show 2 ^ h ≤ 2 ^ 3 from Nat.pow_le_pow_right (by omega) hh)
  have hSQ : Enters Tryz.prog 66 := enters_of Tryz.func66 (by kernel_rfl) rfl
  have hmix : Tryz.prog.follows .mixedOrders = true := by kernel_rfl
  have HE := hid (show hearM h x place = leastTo h x place 1 n - leastTo h x place 0 n by rw [hn]; rfl)
  have hgl := har.lt
  have hnew := arr_new .i64 107 w [9223372036854775807, 9223372036854775807]
  have hbn : Below w.heap.size w (w.alloc (.cells (([9223372036854775807, 9223372036854775807] : List Int).map (Value.int .i64)).toArray 107)) := (Below.refl _ w).alloc (Nat.le_refl _) _
  clear hn
  go_enter Tryz.func54, Tryz.ntmps54
  go_wp2
  go_loopw [14] (fun q wr => ∃ k : Nat, k ≤ n ∧ q = .int .i64 k ∧ ArrAt .i64 107 wr w.heap.size [leastTo h x place 0 k, leastTo h x place 1 k] ∧ Below w.heap.size w wr) (fun q _ => n - (intOf q).toNat)
  case atStart => exact ⟨0, Nat.zero_le _, rfl, hnew, hbn⟩
  case round =>
    clear hnew hbn
    obtain ⟨k, hk, rfl, hle, hbel⟩ := hrel
    by_cases hlt : k < n
    · have har' := har.below hbel hgl
      have c1 := lev_rd har' (j := k) (by rw [← HN.out]; exact hlt)
      have b1 := levM_bd k h hh
      have hA := and1_at k place (by omega)
      have hb := bitN_or k place
      have HY := hid (rfl : bitN k place = bitN k place)
      have HSET := hid (least_set (h := h) (x := x) (place := place) (k := k) (y := bitN k place) rfl)
      have HSQ := hid (show sqM h x k = (x - levM k h) * (x - levM k h) from rfl)
      obtain ⟨y, ey⟩ : ∃ y, y = bitN k place := ⟨_, rfl⟩
      rw [← ey] at hA hb HSET
      have hy2 : y < 2 := by omega
      have cz := hle.cell (j := y) (by simpa using hy2)
      have hfr := hle.free y
      obtain ⟨L, eL⟩ : ∃ L, L = [leastTo h x place 0 k, leastTo h x place 1 k] := ⟨_, rfl⟩
      rw [← eL] at hle cz HSET
      obtain ⟨z, ez⟩ : ∃ z, z = L.getD y 0 := ⟨_, rfl⟩
      rw [← ez] at cz HSET
      obtain ⟨v, ev⟩ : ∃ v, v = levM k h := ⟨_, rfl⟩
      rw [← ev] at c1 b1 HSQ
      have hw1 : IntKind.i64.wrap (x - v) = x - v := by rw [IntKind.wrap_i64]; omega
      have hq1 := fun w => square_any (x - v) w (by omega)
      rw [HSQ.out] at HSET
      clear ey eL ez ev har' hb
      go_upto_region 6 with fail
      refine wp_mono (region_grow (Q := fun e a' w' => e = .normal ∧ a' = _ ∧ ∃ w1, Below wr.heap.size wr w1 ∧ w' = w1.setCell ⟨w.heap.size, y, none⟩ (.int .i64 (min z ((x - v) * (x - v))))) 11 10 9 [(23, .int .i64 y), (24, .int .i64 y), (25, .pointer (some ⟨w.heap.size, y, none⟩)), (26, .int .i64 z), (27, .int .i64 x), (28, .int .i64 v), (29, .int .i64 (x - v)), (30, .int .i64 ((x - v) * (x - v))), (31, .int .i64 (min z ((x - v) * (x - v))))] 32 []
          [[10], [10], [7, 24], [25], [1], [9], [27, 28], [29], [26, 30], [7, 23]] [9, 2, 3, 8, 6, 6, 7, 8, 10, 10] (fun u _ => u = .pointer (some ⟨w.heap.size, y, none⟩)) wr hmix rfl (by decide) rfl rfl (show ([23, 24, 25, 26, 27, 28, 29, 30, 31, 32] : List Nat).Nodup by decide) (by kernel_rfl) (by kernel_rfl) (by kernel_rfl) (by kernel_rfl) (by kernel_rfl) (by kernel_rfl) (fun _ _ _ h _ => h)
          (fun i' hi' x0 a wc hbc hr Q K hK1 hK => by
            have h10 : i' = 0 ∨ i' = 1 ∨ i' = 2 ∨ i' = 3 ∨ i' = 4 ∨ i' = 5 ∨ i' = 6 ∨ i' = 7 ∨ i' = 8 ∨ i' = 9 := by omega
            have hgr := grownBy_self wc
            have qz := (hbc.cell (World.block_lt_of_cell? wr _ cz)).trans cz
            rcases h10 with rfl | rfl | rfl | rfl | rfl | rfl | rfl | rfl | rfl | rfl
            · exact op_value rfl rfl (run_moveQ wc rfl (hr 10 (by decide))) (hK (by decide) wc hgr)
            · exact op_value rfl rfl (run_moveQ wc rfl (hr 10 (by decide))) (hK (by decide) wc hgr)
            · exact op_value rfl rfl (run_idxA wc rfl (hr 7 (by decide)) (hr 24 (by decide)) hy2) (hK (by decide) wc hgr)
            · exact op_value rfl rfl (run_loadI wc rfl (hr 25 (by decide)) qz) (hK (by decide) wc hgr)
            · exact op_value rfl rfl (run_moveQ wc rfl (hr 1 (by decide))) (hK (by decide) wc hgr)
            · exact op_value rfl rfl (run_moveQ wc rfl (hr 9 (by decide))) (hK (by decide) wc hgr)
            · exact op_value rfl rfl (run_subQ wc rfl (hr 27 (by decide)) (hr 28 (by decide)) hw1) (hK (by decide) wc hgr)
            · refine op_callN rfl rfl rfl hSQ (by simp only [List.map_toArray, List.map_cons, List.map_nil]; rw [hr 29 (by decide)]; rfl) (hq1 wc) fun e w' hr' => ?_
              obtain ⟨rfl, rfl⟩ := hr'
              exact ⟨_, rfl, hK (by decide) wc hgr⟩
            · exact op_value rfl rfl (run_minQ wc rfl (hr 26 (by decide)) (hr 30 (by decide))) (hK (by decide) wc hgr)
            · exact op_value rfl rfl (run_idxA wc rfl (hr 7 (by decide)) (hr 23 (by decide)) hy2) (hK1 rfl _ wc hgr rfl))
          (fun x0 wc hbc hx0 => by
            subst hx0
            have qz := (hbc.cell (World.block_lt_of_cell? wr _ cz)).trans cz
            have qf := (hbc.frozen (p := ⟨w.heap.size, y, none⟩) (World.block_lt_of_cell? wr _ cz)).trans hfr
            exact op_skipQ rfl rfl (run_storeI wc rfl rfl rfl qz qf) ⟨rfl, rfl, wc, hbc, rfl⟩)) ?_
      rintro e a' w' ⟨rfl, rfl, w1, hb1, rfl⟩
      have hle1 := hle.below hb1 hle.lt
      have hset := hle1.set y (min z ((x - v) * (x - v)))
      rw [HSET.out] at hset
      have hbel' := (hbel.trans (hb1.mono hbel.size)).setCell (p := ⟨w.heap.size, y, none⟩) (Nat.le_refl _) (.int .i64 (min z ((x - v) * (x - v))))
      generalize w1.setCell ⟨w.heap.size, y, none⟩ (.int .i64 (min z ((x - v) * (x - v)))) = w2 at *
      clear HSET HSQ hle1 hb1 hle cz hfr c1 hbel hq1 hw1
      generalize min z ((x - v) * (x - v)) = mm at *
      dsimp only [setAll, List.set, List.append_nil, List.cons_append, List.nil_append]
      go_wp2
      go_roundw
      case rel => exact ⟨k + 1, by omega, by go_num, hset, hbel'⟩
      case measure => simp [intOf]; omega
    · obtain rfl : k = n := by omega
      have d0 := leastTo_bd hh hx place 0 k
      have d1 := leastTo_bd hh hx place 1 k
      have c0 := hle.cell (j := 0) (by simp)
      have c1 := hle.cell (j := 1) (by simp)
      simp only [List.getD_cons_zero, List.getD_cons_succ] at c0 c1
      generalize leastTo h x place 0 k = p0 at *
      generalize leastTo h x place 1 k = p1 at *
      clear hle
      go_wp2
      go_ret
      exact ⟨ret_int HE.out.symm, hbel⟩
end Go.Proofs.YtplkmkbambbemaeGreatDoor
namespace Go.Proofs.YtplkmkbambbemaeGreatDoor
open Go.ChangeShapes Go.WideShapes Go.ChangeAt Go.RowKit Go.Shelf
theorem region_push {P : Program} {ops : Array Oper} {id : Nat} {l0 : List Value} (n k u : Nat) (pre : List (Nat × Value)) (su : Nat) (post : List (Nat × Value)) (reads : List (List Nat)) (par : List Nat) (U : Value → World → Prop) (wr : World) (o2 : Oper) (d1 d2 : Nat) (v : Value) (R : World → Prop) (hm : P.follows .mixedOrders = true) (hn : ops.size = n) (hkn : n = k + 2)
    (hu : pre.length = u) (hdk : pre.length + 1 + post.length = k) (hnd : ((pre ++ (su, undef) :: post).map (·.1)).Nodup) (hdN : ((pre ++ (su, undef) :: post).all fun q => decide (q.1 < l0.length)) = true)
    (havail : ((List.range k).all fun i => (reads.getD i []).all fun s => (List.range k).all fun j => (((pre ++ (su, undef) :: post).getD j (0, undef)).1 != s) || waitsFor ops i j) = true) (htopo : ((List.range n).all fun i => laterNone ops i) = true)
    (hrN : ((List.range k).all fun i => (reads.getD i []).all fun s => decide (s < l0.length)) = true)
    (hpar : ((List.range k).all fun j => decide (j < par.getD j 0) && (decide (par.getD j 0 ≤ k) && waitsFor ops (par.getD j 0) j)) = true) (htail : ((List.range n).all fun i => decide (i ≤ k) || waitsFor ops i (i - 1)) = true)
    (hU : ∀ x w w', U x w → w.grownBy w' none → U x w')
    (ho2 : ops[k + 1]? = some o2) (hg2 : o2.guard = none) (hop2 : o2.op = .assign (.tmp d1)) (hdst2 : o2.dst = some d2) (hd1 : d1 < l0.length)
    (hstep : ∀ i, i < k → ∀ (x : Value) (a : Act) (w : World), Below wr.heap.size wr w → (∀ s ∈ reads.getD i [], a.eval (.tmp s) = lkp l0 (pre ++ (su, x) :: post) s) → ∀ (Q : Exit → Act → World → Prop) (K : Act → World → Prop), (i = u → ∀ x' w', w.grownBy w' none → U x' w' → K (a.put (some su) x') w') → (i ≠ u → ∀ w', w.grownBy w' none → K (a.put (some ((pre ++ (su, undef) :: post).getD i (0, undef)).1) ((pre ++ (su, undef) :: post).getD i (0, undef)).2) w') → wpOp P ops Q i K a w)
    (hlast : ∀ x w, Below wr.heap.size wr w → U x w → ∀ (Q : Exit → Act → World → Prop) (K : Act → World → Prop), (∀ w', R w' → K (({ tmps := (setAll l0 (pre ++ (su, x) :: post)).toArray, defers := [] } : Act).put (some d1) v) w') → wpOp P ops Q k K { tmps := (setAll l0 (pre ++ (su, x) :: post)).toArray, defers := [] } w) :
    (Code.region id ops true).wp P (fun e a' w' => e = .normal ∧ (∃ x, a' = { tmps := (((setAll l0 (pre ++ (su, x) :: post)).set d1 v).set d2 v).toArray, defers := [] }) ∧ R w') { tmps := l0.toArray, defers := [] } wr := by
  refine region_grow n k u pre su post reads par U wr hm hn (by omega) hu hdk hnd hdN havail htopo hrN hpar htail hU hstep (fun x w hb hu => ?_)
  rw [show n - k = 2 by omega]
  show wpOp P ops _ k (fun a' w' => wpOp P ops _ (k + 1) _ a' w') _ w
  refine hlast x w hb hu _ _ fun w' hR => ?_
  rw [put_list]
  have hev : ({ tmps := ((setAll l0 (pre ++ (su, x) :: post)).set d1 v).toArray, defers := [] } : Act).eval (.tmp d1) = v := by
    have hl := setAll_length (pre ++ (su, x) :: post) l0
    have : d1 < (setAll l0 (pre ++ (su, x) :: post)).length := by rw [hl]; exact hd1
    simp [Act.eval, this]
  refine op_value ho2 hg2 (run_assignR w' hop2 hev) ⟨rfl, ⟨x, ?_⟩, hR⟩
  rw [hdst2, put_list]
end Go.Proofs.YtplkmkbambbemaeGreatDoor
namespace Go.Proofs.YtplkmkbambbemaeGreatDoor
open Go.ChangeShapes Go.WideShapes Go.ChangeAt Go.RowKit Go.Shelf
def chunkQ (b : List Int) (order j : Nat) : List Int := (b.drop (j * order)).take order
theorem chunkQ_length {b : List Int} {order j m : Nat} (hb : b.length = m * order) (hj : j < m) : (chunkQ b order j).length = order := by
  unfold chunkQ
  rw [List.length_take, List.length_drop, hb]
  have : (j + 1) * order ≤ m * order := Nat.mul_le_mul_right _ (by omega)
  rw [Nat.add_mul] at this
  omega
theorem chunkQ_at {b : List Int} {order j k : Nat} (hk : k < order) : (chunkQ b order j).getD k 0 = b.getD (j * order + k) 0 := by
  unfold chunkQ
  simp [List.getD, hk]
theorem chunkQ_rd {w : World} {g o : Nat} {b : List Int} {order j m : Nat} (hr : Rd .u8 w (some ⟨g, o, none⟩) b) (hb : b.length = m * order) (hj : j < m) : Rd .u8 w (some ⟨g, o + j * order, none⟩) (chunkQ b order j) := by
  intro hne
  refine ⟨g, o + j * order, rfl, fun t ht => ?_⟩
  have hl := chunkQ_length hb hj
  have h1 : (j + 1) * order ≤ m * order := Nat.mul_le_mul_right _ (by omega)
  rw [Nat.add_mul] at h1
  have hlt : j * order + t < b.length := by omega
  obtain ⟨g', o', e, hc⟩ := hr.at hlt
  simp only [Option.some.injEq, Addr.mk.injEq, and_true] at e
  obtain ⟨rfl, rfl⟩ := e
  have := hc (j * order + t) hlt
  rw [← Nat.add_assoc] at this
  rw [this, chunkQ_at (by omega)]
def ptA (h : Nat) (c : List Int) : Int × Int := (levM (numM c 0 h) h, levM (numM c 1 h) h)
def sentA (h : Nat) (b : List Int) (order n i : Nat) : List (Int × Int) := (List.range i).map (fun j => ptA h (chunkQ b order j)) ++ List.replicate (n - i) (0, 0)
theorem sentA_set {h : Nat} {b : List Int} {order n i : Nat} (hi : i < n) : (sentA h b order n i).set i (ptA h (chunkQ b order i)) = sentA h b order n (i + 1) := by
  unfold sentA
  rw [List.set_append_right _ _ (by simp), List.length_map, List.length_range, Nat.sub_self, List.range_succ, List.map_append, List.append_assoc, show n - i = n - (i + 1) + 1 by omega, List.replicate_succ]
  rfl
theorem sentA_length {h : Nat} {b : List Int} {order n i : Nat} (hi : i ≤ n) : (sentA h b order n i).length = n := by simp [sentA]; omega
theorem run_idxQ {ρ : Operand → Value} (w : World) {o : Oper} {x y : Operand} {g j n c : Nat} (ho : o.op = .indexAddr 36 x y) (h : ρ x = .slice (some ⟨g, 0, none⟩) n c) (h' : ρ y = .int .i64 j) (hj : j < n) : (execOp ρ o).run Tryz.prog w = .ok (.value (.pointer (some ⟨g, j * 2, none⟩))) w := by
  unfold execOp
  simp only [ho, h, h']
  simp [go_sem, Tryz.underlying36, hj]
theorem run_buildQ {ρ : Operand → Value} (w : World) {o : Oper} {x y : Operand} {p q : Int} (ho : o.op = .build 44 #[(0, x), (1, y)]) (h : ρ x = .int .i64 p) (h' : ρ y = .int .i64 q) : (execOp ρ o).run Tryz.prog w = .ok (.value (.agg #[.int .i64 p, .int .i64 q])) w := by
  unfold execOp
  simp only [ho]
  simp [go_sem, h, h']
set_option maxRecDepth 100000 in
set_option maxHeartbeats 4000000 in
theorem send_good (b : List Int) (h o n : Nat) (a : Option Addr) (c : Nat) (w : World) (hr : Rd .u8 w a b) (hbc : b.length ≤ c) (hcm : c ≤ maxLen) (hE : errOf b = 0) (h1 : 1 ≤ h) (hh : h ≤ 3) (ho : o = 2 * h) (hl : b.length = n * o) (hn : n ≤ 4096) (hbit : ∀ x ∈ b, x = 0 ∨ x = 1) :
    Calls Tryz.prog 31 #[.slice a b.length c, .int .i64 o] w fun e w' => ∃ g, e = .returned (.tuple #[.slice (some ⟨g, 0, none⟩) n n, .int .i64 0]) ∧ PArr w' g (sentA h b o n n) ∧ w.heap.size ≤ g ∧ Below w.heap.size w w' := by
  have hchk := check_any b a c w hr (Nat.le_trans hbc hcm)
  rw [hE] at hchk
  have hord := ord_any o w
  rw [show ordErr o = 0 by unfold ordErr ordOk5; rw [decide_eq_true (by omega)]; rfl] at hord
  have hlev := levels_any h (2 ^ h) w h1 hh rfl
  obtain ⟨N8, eN⟩ : ∃ N8, N8 = 2 ^ h := ⟨_, rfl⟩
  rw [← eN] at hlev
  have HN8 := hid eN
  have HL := hid hl
  have HO := hid ho
  have ho6 : o = 2 ∨ o = 4 ∨ o = 6 := by omega
  have hq2 : (o : Int).tdiv 2 = h := by rw [ho, Int.tdiv_eq_ediv_of_nonneg (by omega)]; omega
  have hq2' : (o : Int) / 2 = h := by rw [ho]; omega
  obtain ⟨T, eT⟩ : ∃ T, T = b.length := ⟨_, rfl⟩
  have hTm : T ≤ 24576 := by
    rw [eT, hl]
    have : n * o ≤ 4096 * 6 := Nat.mul_le_mul hn (by omega)
    omega
  have hqn : ((T : Int)).tdiv (o : Int) = n := by rw [eT, hl, Int.tdiv_eq_ediv_of_nonneg (by omega)]; rw [Int.natCast_mul, Int.mul_ediv_cancel _ (by omega)]
  have hqn' : ((T : Int)) / (o : Int) = n := by rw [eT, hl, Int.natCast_mul, Int.mul_ediv_cancel _ (by omega)]
  have hrm : ((T : Int)).tmod (o : Int) = 0 := by rw [eT, hl, Int.tmod_eq_emod_of_nonneg (by omega), Int.natCast_mul, Int.mul_emod_left]
  have hrm' : ((T : Int)) % (o : Int) = 0 := by rw [eT, hl, Int.natCast_mul, Int.mul_emod_left]
  rw [← eT] at hchk hbc
  rw [← eT]
  have HT := hid eT
  have hz1 : ((o : Int) == 0) = false := beq_eq_false_iff_ne.2 (by omega)
  have hz2 : (o : Int) ≠ 0 := by omega
  have hNE : Enters Tryz.prog 52 := enters_of Tryz.func52 (by kernel_rfl) rfl
  have hmix : Tryz.prog.follows .mixedOrders = true := by kernel_rfl
  clear eT hl ho eN
  go_enter Tryz.func31, Tryz.ntmps31
  go_wp2_with (first
    | (go_at_call 38; refine hchk.mono ?_; rintro e w1 ⟨rfl, rfl⟩)
    | (go_at_call 50; refine hord.mono ?_; rintro e w1 ⟨rfl, rfl⟩)
    | (go_at_call 51; refine hlev.mono ?_; rintro e w1 ⟨gL, rfl, harL, hgL, hbelL⟩)
    | (refine wpList_makePts n rfl _ _ rfl _ _ rfl rfl rfl rfl (by omega) ?_; intro w2 hP2 hb2))
  obtain ⟨G, eG⟩ : ∃ G, G = w1.heap.size := ⟨_, rfl⟩
  rw [← eG] at hP2 hb2
  rw [← eG]
  have HG := hid eG
  have hGw : w.heap.size ≤ G := by rw [eG]; exact hbelL.size
  have hgLG : gL < G := by rw [eG]; exact harL.lt
  have harL2 := harL.below hb2 hgLG
  have hbw2 : Below w.heap.size w w2 := hbelL.trans (hb2.mono hGw)
  clear eG hchk hord hlev harL hb2 hbelL
  go_loopw [37] (fun q wr => ∃ i : Nat, i ≤ n ∧ q = .int .i64 i ∧ PArr wr G (sentA h b o n i) ∧ Kept [G] w2 wr) (fun q _ => n - (intOf q).toNat)
  case atStart => exact ⟨0, Nat.zero_le _, rfl, by simpa [sentA] using hP2, Kept.refl _ _⟩
  case round =>
    obtain ⟨i, hi, rfl, hP, hkept⟩ := hrel
    by_cases hlt : i < n
    · have h3 : (i + 1) * o ≤ n * o := Nat.mul_le_mul_right _ (by omega)
      rw [Nat.add_mul, Nat.one_mul, ← HL.out, ← HT.out] at h3
      obtain ⟨s, es⟩ : ∃ s, s = i * o := ⟨_, rfl⟩
      rw [← es] at h3
      have hs1 : (i : Int) * (o : Int) = (s : Int) := by rw [es, Int.natCast_mul]
      have hs2 : ((i : Int) + 1) * (o : Int) = ((s + o : Nat) : Int) := by rw [es, Int.add_mul, Int.one_mul, Int.natCast_add, Int.natCast_mul]
      have HS := hid es
      have hkb : Below w.heap.size w wr := hbw2.trans (hkept.below (B := w.heap.size) hbw2.size (by simpa using hGw))
      obtain ⟨b1, o1, rfl, -⟩ := hr.at (i := 0) (by rw [← HT.out]; omega)
      have hrc := chunkQ_rd (hr.below hkb) HL.out hlt
      rw [← es] at hrc
      have hlc := chunkQ_length HL.out hlt
      have hbc2 : ∀ j, (chunkQ b o i).getD j 0 = 0 ∨ (chunkQ b o i).getD j 0 = 1 := fun j => by
        by_cases hj : j < (chunkQ b o i).length
        · rw [getD_atQ _ _ hj]
          exact hbit _ (List.mem_of_mem_drop (List.mem_of_mem_take (List.getElem_mem hj)))
        · left; simp [List.getD, List.getElem?_eq_none (Nat.le_of_not_lt hj)]
      clear es
      go_upto_region 15 with fail
      have hsub : s + o - s = o := by omega
      have hn0 := fun w hr => number_any (chunkQ b o i) 0 h o (some ⟨b1, o1 + s, none⟩) (c - s) w hr hlc HO.out hh (by omega) hbc2
      have hn1 := fun w hr => number_any (chunkQ b o i) 1 h o (some ⟨b1, o1 + s, none⟩) (c - s) w hr hlc HO.out hh (by omega) hbc2
      have hb0 : numM (chunkQ b o i) 0 h < N8 := by rw [HN8.out]; exact numM_bd hbc2 0 h
      have hb1 : numM (chunkQ b o i) 1 h < N8 := by rw [HN8.out]; exact numM_bd hbc2 1 h
      have harL' := harL2.kept hkept (by simp; omega)
      have c0 := lev_rd harL' (j := numM (chunkQ b o i) 0 h) (by rw [← HN8.out]; exact hb0)
      have c1 := lev_rd harL' (j := numM (chunkQ b o i) 1 h) (by rw [← HN8.out]; exact hb1)
      have HSET := hid (sentA_set (h := h) (b := b) (order := o) hlt)
      have HLEN := hid (sentA_length (h := h) (b := b) (order := o) hi)
      have HPT := hid (show ptA h (chunkQ b o i) = (levM (numM (chunkQ b o i) 0 h) h, levM (numM (chunkQ b o i) 1 h) h) from rfl)
      rw [HPT.out] at HSET
      generalize numM (chunkQ b o i) 0 h = x0 at *
      generalize numM (chunkQ b o i) 1 h = x1 at *
      generalize levM x0 h = y0 at *
      generalize levM x1 h = y1 at *
      refine wp_mono (region_grow (Q := fun e a' w' => e = .normal ∧ a' = _ ∧ ∃ w1, Below wr.heap.size wr w1 ∧ w' = w1.setCells G (i * 2) [.int .i64 y0, .int .i64 y1]) 15 14 13 [(49, .slice (some ⟨G, 0, none⟩) n n), (50, .int .i64 i), (51, .slice (some ⟨gL, 0, none⟩) N8 N8), (52, .slice (some ⟨b1, o1 + s, none⟩) o (c - s)), (53, .int .i64 x0), (54, .pointer (some ⟨gL, 0 + x0, none⟩)), (55, .int .i64 y0), (56, .slice (some ⟨gL, 0, none⟩) N8 N8), (57, .slice (some ⟨b1, o1 + s, none⟩) o (c - s)), (58, .int .i64 x1), (59, .pointer (some ⟨gL, 0 + x1, none⟩)), (60, .int .i64 y1), (61, .agg #[.int .i64 y0, .int .i64 y1])] 62 []
          [[9], [10], [8], [11], [52], [51, 53], [54], [8], [11], [57], [56, 58], [59], [55, 60], [49, 50]] [13, 13, 5, 4, 5, 6, 12, 10, 9, 10, 11, 12, 14, 14] (fun u _ => u = .pointer (some ⟨G, i * 2, none⟩)) wr hmix rfl (by decide) rfl rfl (show ([49, 50, 51, 52, 53, 54, 55, 56, 57, 58, 59, 60, 61, 62] : List Nat).Nodup by decide) (by kernel_rfl) (by kernel_rfl) (by kernel_rfl) (by kernel_rfl) (by kernel_rfl) (by kernel_rfl) (fun _ _ _ h _ => h)
          (fun i' hi' u0 a wc hbc hr Q K hK1 hK => by
            have h14 : i' = 0 ∨ i' = 1 ∨ i' = 2 ∨ i' = 3 ∨ i' = 4 ∨ i' = 5 ∨ i' = 6 ∨ i' = 7 ∨ i' = 8 ∨ i' = 9 ∨ i' = 10 ∨ i' = 11 ∨ i' = 12 ∨ i' = 13 := by omega
            have hgr := grownBy_self wc
            have q0 := (hbc.cell (World.block_lt_of_cell? wr _ c0)).trans c0
            have q1 := (hbc.cell (World.block_lt_of_cell? wr _ c1)).trans c1
            rcases h14 with rfl | rfl | rfl | rfl | rfl | rfl | rfl | rfl | rfl | rfl | rfl | rfl | rfl | rfl
            · exact op_value rfl rfl (run_moveQ wc rfl (hr 9 (by decide))) (hK (by decide) wc hgr)
            · exact op_value rfl rfl (run_moveQ wc rfl (hr 10 (by decide))) (hK (by decide) wc hgr)
            · exact op_value rfl rfl (run_moveQ wc rfl (hr 8 (by decide))) (hK (by decide) wc hgr)
            · exact op_value rfl rfl (run_moveQ wc rfl ((hr 11 (by decide)).trans (congrArg (fun z => Value.slice (some ⟨b1, o1 + s, none⟩) z (c - s)) hsub))) (hK (by decide) wc hgr)
            · refine op_callN rfl rfl rfl hNE (by simp only [List.map_toArray, List.map_cons, List.map_nil]; rw [hr 52 (by decide)]; rfl) (hn0 wc (hrc.below hbc)) fun e w' hr' => ?_
              obtain ⟨rfl, rfl⟩ := hr'
              exact ⟨_, rfl, hK (by decide) wc hgr⟩
            · exact op_value rfl rfl (run_idxI wc rfl (hr 51 (by decide)) (hr 53 (by decide)) hb0) (hK (by decide) wc hgr)
            · exact op_value rfl rfl (run_loadI wc rfl (hr 54 (by decide)) (by rw [Nat.zero_add]; exact q0)) (hK (by decide) wc hgr)
            · exact op_value rfl rfl (run_moveQ wc rfl (hr 8 (by decide))) (hK (by decide) wc hgr)
            · exact op_value rfl rfl (run_moveQ wc rfl ((hr 11 (by decide)).trans (congrArg (fun z => Value.slice (some ⟨b1, o1 + s, none⟩) z (c - s)) hsub))) (hK (by decide) wc hgr)
            · refine op_callN rfl rfl rfl hNE (by simp only [List.map_toArray, List.map_cons, List.map_nil]; rw [hr 57 (by decide)]; rfl) (hn1 wc (hrc.below hbc)) fun e w' hr' => ?_
              obtain ⟨rfl, rfl⟩ := hr'
              exact ⟨_, rfl, hK (by decide) wc hgr⟩
            · exact op_value rfl rfl (run_idxI wc rfl (hr 56 (by decide)) (hr 58 (by decide)) hb1) (hK (by decide) wc hgr)
            · exact op_value rfl rfl (run_loadI wc rfl (hr 59 (by decide)) (by rw [Nat.zero_add]; exact q1)) (hK (by decide) wc hgr)
            · exact op_value rfl rfl (run_buildQ wc rfl (hr 55 (by decide)) (hr 60 (by decide))) (hK (by decide) wc hgr)
            · exact op_value rfl rfl (run_idxQ wc rfl (hr 49 (by decide)) (hr 50 (by decide)) hlt) (hK1 rfl _ wc hgr rfl))
          (fun u0 wc hbc hu0 => by
            subst hu0
            have hnd : ([49, 50, 51, 52, 53, 54, 55, 56, 57, 58, 59, 60, 61, 62] : List Nat).Nodup := by decide
            exact op_skipQ rfl rfl (run_storeQ (g := G) (i := i) (p := (y0, y1)) wc rfl (eval_setAll 62 hnd (by kernel_rfl)) (eval_setAll 61 hnd (by kernel_rfl)) (hP.below hbc hP.lt) (by rw [HLEN.out]; exact hlt)) ⟨rfl, rfl, wc, hbc, rfl⟩)) ?_
      rintro e a' w' ⟨rfl, rfl, w3, hb3, rfl⟩
      have hP3 := hP.below hb3 hP.lt
      have hset := hP3.set (i := i) (by rw [HLEN.out]; exact hlt) (y0, y1)
      rw [HSET.out] at hset
      have hkept' : Kept [G] w2 (w3.setCells G (i * 2) [.int .i64 y0, .int .i64 y1]) := ((hkept.trans (Kept.of_below hb3)).setCell (p := ⟨G, i * 2, none⟩) (by simp) _).setCell (p := ⟨G, i * 2 + 1, none⟩) (by simp) _
      generalize w3.setCells G (i * 2) [.int .i64 y0, .int .i64 y1] = w4 at *
      clear HSET hP3 hP hb3 c0 c1 hn0 hn1 hrc harL' hkb hkept HPT
      dsimp only [setAll, List.set, List.append_nil, List.cons_append, List.nil_append]
      go_wp2
      go_roundw
      case rel => first | exact ⟨i + 1, by omega, by go_num, hset, hkept'⟩ | ((repeat apply Exists.intro); exact ⟨⟨i + 1, by omega, by go_num, hset, hkept'⟩, rfl⟩)
      case measure => simp [intOf]; omega
    · obtain rfl : i = n := by omega
      have hkb : Below w.heap.size w wr := hbw2.trans (hkept.below (B := w.heap.size) hbw2.size (by simpa using hGw))
      clear hkept
      go_wp2
      go_ret2
      exact ⟨G, rfl, hP, hGw, hkb⟩
end Go.Proofs.YtplkmkbambbemaeGreatDoor
namespace Go.Proofs.YtplkmkbambbemaeGreatDoor
open Go.ChangeShapes Go.WideShapes Go.ChangeAt Go.RowKit Go.Shelf
theorem grownQ {w w' : World} (h : Below w.heap.size w w') : w.grownBy w' none := ⟨h.os, h.tape, h.output, h.size, fun k hk _ => h.block k hk⟩
theorem below_grownQ {w w' : World} (h : w.grownBy w' none) : Below w.heap.size w w' := (Below.refl _ w).grown h (Nat.le_refl _) (fun g e => by cases e)
theorem Kept.cellQ {S : List Nat} {a b : World} (h : Kept S a b) {p : Addr} {v : Value} (hc : a.cell? p = some v) (hn : p.block ∉ S) : b.cell? p = some v := by
  have hb := h.block p.block (World.block_lt_of_cell? a _ hc) hn
  rw [← hc]
  unfold World.cell?
  rw [hb]
theorem kept_grown {w w' : World} {g : Nat} (h : w.grownBy w' (some g)) : Kept [g] w w' := ⟨h.os, h.tape, h.output, h.size, fun k hk hn => h.block k hk (fun e => hn (by simp only [Option.some.injEq] at e; simp [e]))⟩
def pairsAll (F : Int → Nat → Int) (h : Nat) (ps : List (Int × Int)) (k : Nat) : List Int := (ps.take k).flatMap fun p => pairsTo (F p.1) (F p.2) h h
theorem pairsAll_succ {F : Int → Nat → Int} {h : Nat} {ps : List (Int × Int)} {k : Nat} (hk : k < ps.length) : pairsAll F h ps (k + 1) = pairsAll F h ps k ++ pairsTo (F (ps.getD k (0, 0)).1) (F (ps.getD k (0, 0)).2) h h := by
  unfold pairsAll
  rw [List.take_succ_eq_append_getElem hk, List.flatMap_append]
  simp [List.getD, hk]
/-- Two numbers side by side. -/
def Two (k : IntKind) (y z : Int) (x : Value) (w : World) : Prop := ∃ g, x = .slice (some ⟨g, 0, none⟩) 2 2 ∧ w.cell? ⟨g, 0, none⟩ = some (.int k y) ∧ w.cell? ⟨g, 1, none⟩ = some (.int k z)
theorem Two.grow {k : IntKind} {y z : Int} {x : Value} {w w' : World} (h : Two k y z x w) (hg : w.grownBy w' none) : Two k y z x w' := by
  obtain ⟨g, e, h0, h1⟩ := h
  have hb := below_grownQ hg
  exact ⟨g, e, (hb.cell (World.block_lt_of_cell? w _ h0)).trans h0, (hb.cell (World.block_lt_of_cell? w _ h1)).trans h1⟩
theorem two_new (k : IntKind) (y z : Int) (w : World) (T : TypeId) : Two k y z (.slice (some ⟨w.heap.size, 0, none⟩) 2 2) (w.alloc (.cells #[.int k y, .int k z] T)) := by
  refine ⟨w.heap.size, rfl, ?_, ?_⟩ <;> rw [cell_of_row _ _ _ _ _ _ (heap_alloc_new w _)] <;> rfl
theorem grown_alloc (w : World) (b : Obj) : w.grownBy (w.alloc b) none := grownQ ((Below.refl _ w).alloc (Nat.le_refl _) b)
theorem run_build2I {ρ : Operand → Value} (w : World) {o : Oper} {x y : Operand} {p q : Int} (ho : o.op = .buildSlice 22 2 #[(0, x), (1, y)]) (h : ρ x = .int .i64 p) (h' : ρ y = .int .i64 q) : (execOp ρ o).run Tryz.prog w = .ok (.value (.slice (some ⟨w.heap.size, 0, none⟩) 2 2)) (w.alloc (.cells #[.int .i64 p, .int .i64 q] 3)) := by
  unfold execOp
  simp only [ho]
  simp [go_sem, h, h']
theorem op_fit2I {ops : Array Oper} {Q : Exit → Act → World → Prop} {i : Nat} {o : Oper} {a : Act} {W : World} {K : Act → World → Prop} {L : List Int} {g m cap : Nat} {y z : Int} {v : Value} (hi : ops[i]? = some o) (hg : o.guard = none) {s x : Operand}
    (ho : o.op = .call { callee := .builtin .append, args := #[s, x], argTypes := #[22, 22] }) (hs : a.eval s = .slice (some ⟨g, 0, none⟩) m cap) (hx : a.eval x = v) (hown : OwnI W g (.slice (some ⟨g, 0, none⟩) m cap) L) (hv : Two .i64 y z v W) (hcap : m + 2 ≤ cap)
    (h : ∀ w', OwnI w' g (.slice (some ⟨g, 0, none⟩) (m + 2) cap) (L ++ [y, z]) → W.grownBy w' (some g) → K (a.put o.dst (.slice (some ⟨g, 0, none⟩) (m + 2) cap)) w') : wpOp Tryz.prog ops Q i K a W := by
  have hl := hown.len
  subst hl
  obtain ⟨gx, rfl, c0, c1⟩ := hv
  obtain ⟨i0, hi0, hz0, hz1, hz2⟩ := info_parts Tryz.info3
  obtain ⟨w', hrun, r1, r2⟩ := run_append_fits (P := Tryz.prog) W g 22 o.type 3 i0 1 Tryz.underlying22 hi0 hz1 g L.length cap _ hown ⟨gx, 0, none⟩ 2 2 [.int .i64 y, .int .i64 z] rfl (fun j u hj => by
    match j, hj with
    | 0, hj => simp at hj; subst hj; simpa [Addr.add] using c0
    | 1, hj => simp at hj; subst hj; simpa [Addr.add] using c1) (by simp; exact ⟨rfl, rfl⟩) hcap
  have hO : OwnI w' g (.slice (some ⟨g, 0, none⟩) (L.length + 2) cap) (L ++ [y, z]) := by
    unfold OwnI
    rw [List.length_append, List.map_append]
    exact r1
  unfold wpOp
  rw [hi]
  have hw : Region.wanted o (yielded ops a.tmps) = true := by simp [Region.wanted, hg]
  simp only [hw, if_true, Oper.wp]
  left
  simp [execOp, ho, resolve, invoke, builtin, hs, hx, hrun, Result.andThen]
  exact h w' hO r2
theorem wpList_makeFitI {w : World} {ops : Array Oper} {rest : List Oper} {o : Oper} {a : Act} {Q : Exit → Act → World → Prop} (N : Nat) (hgd : o.guard = none) (l c : Operand)
    (ho : o.op = Op.makeSlice 22 l c) (y : Int) (hl : a.eval l = .int .i64 0) (hc : a.eval c = .int .i64 y) (hy : y = (N : Int)) (hN : N ≤ 1000000)
    (h : ∀ w', OwnI w' w.heap.size (.slice (some ⟨w.heap.size, 0, none⟩) 0 N) [] → Below w.heap.size w w' → wpList Tryz.prog ops Q rest (a.put o.dst (.slice (some ⟨w.heap.size, 0, none⟩) 0 N)) w') :
    wpList Tryz.prog ops Q (o :: rest) a w := by
  obtain ⟨i0, hi, hz0, hz1, hz2⟩ := info_parts Tryz.info3
  exact wpList_make_own w hgd l c 22 ho w.heap.size 3 i0 (.int .i64 0) 1 Tryz.underlying22 hi hz0 hz1 .i64 .i64 y N hl hc hy (by rw [hz2]; omega) (by unfold maxLen; omega) (Nat.le_refl _) fun w' h1 h2 => h w' h1 (below_grownQ h2)
end Go.Proofs.YtplkmkbambbemaeGreatDoor
namespace Go.Proofs.YtplkmkbambbemaeGreatDoor
open Go.ChangeShapes Go.WideShapes Go.ChangeAt Go.RowKit Go.Shelf
def chErr (ps : List (Int × Int)) (order : Int) : Int := if hearsOk ps order then 0 else 1
set_option maxRecDepth 100000 in
set_option maxHeartbeats 2000000 in
theorem cheard_any (ps : List (Int × Int)) (order : Int) (a : Option Addr) (c : Nat) (w : World) (ha : Pts w a ps) (hz : ps.length ≤ 8796093022208) :
    Calls Tryz.prog 53 #[.slice a ps.length c, .int .i64 order] w fun e w' => e = .returned (.int .i64 (chErr ps order)) ∧ Below w.heap.size w w' := by
  have hord := ord_any order w
  by_cases hO : order = 2 ∨ order = 4 ∨ order = 6
  · have hO' : ordOk5 order = true := decide_eq_true hO
    rw [show ordErr order = 0 by unfold ordErr; rw [hO']; rfl] at hord
    obtain ⟨m, hm⟩ : ∃ m : Nat, (m : Int) = (4096 : Int).tdiv order ∧ (ps.length ≤ m ↔ (ps.length : Int) * order ≤ 4096) ∧ m ≤ 2048 := by
      rcases hO with rfl | rfl | rfl
      · exact ⟨2048, rfl, by omega, by omega⟩
      · exact ⟨1024, rfl, by omega, by omega⟩
      · exact ⟨682, rfl, by omega, by omega⟩
    obtain ⟨hm1, hm2, hm3⟩ := hm
    have hm1' : (4096 : Int) / order = m := by rw [hm1, Int.tdiv_eq_ediv_of_nonneg (by omega)]
    have hnz : (order == 0) = false := beq_eq_false_iff_ne.2 (by omega)
    have hnz' : order ≠ 0 := by omega
    by_cases h4 : ps.length ≤ m
    · have HV : Hid (∀ b, ps.all inSq = b → (if b then 0 else 1) = chErr ps order) := fun b hb => by unfold chErr hearsOk; rw [hO', decide_eq_true (hm2.1 h4), hb]; cases b <;> rfl
      obtain ⟨n, en⟩ : ∃ n, n = ps.length := ⟨_, rfl⟩
      rw [← en] at h4
      rw [← en]
      have HN := hid en
      have HH := hid (fun k (hk : k < ps.length) => not_all hk)
      clear en hz hO' hO hm2
      have hm1s := hm1.symm
      have HDM := hid (show decide (m < n) = false from decide_eq_false (by omega))
      have hn20 : n ≤ 2048 := by omega
      clear hm1
      go_enter Tryz.func53, Tryz.ntmps53
      go_wp2_with (go_at_call 50; refine hord.mono ?_; rintro e w1 ⟨rfl, rfl⟩)
      go_loopw [20] (fun i wr => ∃ k : Nat, k ≤ n ∧ i = .int .i64 k ∧ Hid (InTo ps k) ∧ Below w.heap.size w wr) (fun i _ => n - (intOf i).toNat)
      case atStart => exact ⟨0, Nat.zero_le _, rfl, fun j hj => by omega, Below.refl _ _⟩
      case round =>
        clear hord
        obtain ⟨k, hk, rfl, hin, hbel⟩ := hrel
        by_cases hlt : k < n
        · have hlt' : k < ps.length := by have := HN.out; omega
          obtain ⟨b1, o1, rfl, hc1⟩ := (ha.below hbel).at hlt'
          obtain ⟨g1, g1'⟩ := hc1 k hlt'
          have HX := hid (show inSq (ps.getD k (0, 0)) = decide ((-1000 ≤ (ps.getD k (0, 0)).1 ∧ (ps.getD k (0, 0)).1 ≤ 1000) ∧ -1000 ≤ (ps.getD k (0, 0)).2 ∧ (ps.getD k (0, 0)).2 ≤ 1000) from rfl)
          have HF := hid (HH.out k hlt')
          obtain ⟨x, e1⟩ : ∃ x, x = (ps.getD k (0, 0)).1 := ⟨_, rfl⟩
          obtain ⟨y, e2⟩ : ∃ y, y = (ps.getD k (0, 0)).2 := ⟨_, rfl⟩
          rw [← e1] at g1 HX
          rw [← e2] at g1' HX
          clear hc1 e1 e2 hlt'
          have f1 := fun w => far_any x w
          have f2 := fun w => far_any y w
          have hbel' := hbel.alloc hbel.size (.cells #[.int .i64 x, .int .i64 y] 44)
          cases hf1 : farX x with
          | true =>
            have HE := hid (HV.out false (HF.out (by rw [HX.out]; have := of_decide_eq_true hf1; exact decide_eq_false (by omega))))
            simp only [hf1] at f1
            clear hf1 HX HF
            go_wp2_with (go_at_call 65; refine (f1 _).mono ?_; rintro e w1 ⟨rfl, rfl⟩)
            go_ret
            exact ⟨ret_int HE.out, hbel'⟩
          | false =>
            simp only [hf1] at f1
            have hx1 := of_decide_eq_false hf1
            cases hf2 : farX y with
            | true =>
              have HE := hid (HV.out false (HF.out (by rw [HX.out]; have := of_decide_eq_true hf2; exact decide_eq_false (by omega))))
              simp only [hf2] at f2
              clear hf1 hf2 HX HF hx1
              go_wp2_with (go_at_call 65; first | (refine (f1 _).mono ?_; rintro e w1 ⟨rfl, rfl⟩) | (refine (f2 _).mono ?_; rintro e w1 ⟨rfl, rfl⟩))
              go_ret
              exact ⟨ret_int HE.out, hbel'⟩
            | false =>
              simp only [hf2] at f2
              have hy1 := of_decide_eq_false hf2
              have HI : Hid (InTo ps (k + 1)) := fun j hj => by
                by_cases e : j = k
                · subst e; rw [HX.out]; exact decide_eq_true (by omega)
                · exact hin.out j (by omega)
              have HLT := hid hlt
              clear hf1 hf2 HX HF hx1 hy1
              go_wp2_with (go_at_call 65; first | (refine (f1 _).mono ?_; rintro e w1 ⟨rfl, rfl⟩) | (refine (f2 _).mono ?_; rintro e w1 ⟨rfl, rfl⟩))
              go_roundw
              case rel =>
                have := HLT.out
                first | exact ⟨k + 1, by omega, by go_num, HI, hbel'⟩ | ((repeat apply Exists.intro); exact ⟨⟨k + 1, by omega, by go_num, HI, hbel'⟩, by rw [HDM.out]; rfl⟩)
              case measure =>
                have := HLT.out
                simp [intOf]
                omega
        · have HE := hid (HV.out true (all_inTo (k := k) (by have := HN.out; omega) hin.out))
          go_wp2
          go_ret
          exact ⟨ret_int HE.out, hbel⟩
    · have HV := hid (show 1 = chErr ps order by unfold chErr hearsOk; rw [decide_eq_false (fun h => h4 (hm2.2 h))]; simp)
      obtain ⟨n, en⟩ : ∃ n, n = ps.length := ⟨_, rfl⟩
      rw [← en] at h4 hz
      rw [← en]
      clear en hO' hO hm2
      have hm1s := hm1.symm
      clear hm1
      go_enter Tryz.func53, Tryz.ntmps53
      go_wp2_with (go_at_call 50; refine hord.mono ?_; rintro e w1 ⟨rfl, rfl⟩)
      go_ret
      exact ⟨ret_int HV.out, Below.refl _ _⟩
  · have hO' : ordOk5 order = false := decide_eq_false hO
    rw [show ordErr order = 1 by unfold ordErr; rw [hO']; rfl] at hord
    have HV := hid (show 1 = chErr ps order by unfold chErr hearsOk; rw [hO']; rfl)
    clear hO hO'
    go_enter Tryz.func53, Tryz.ntmps53
    go_wp2_with (go_at_call 50; refine hord.mono ?_; rintro e w1 ⟨rfl, rfl⟩)
    go_ret
    exact ⟨ret_int HV.out, Below.refl _ _⟩
end Go.Proofs.YtplkmkbambbemaeGreatDoor
