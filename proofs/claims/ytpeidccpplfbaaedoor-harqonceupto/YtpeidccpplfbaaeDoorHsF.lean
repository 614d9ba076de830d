import Derived.Test.YtpeidccpplfbaaeDoorHsE
namespace Go.Proofs.YtpeidccpplfbaaeDoor
open Go.ChangeShapes Go.WideShapes Go.ChangeAt Go.RowKit Go.Maps

/-! THE PROGRAM'S Answer. -/

set_option maxHeartbeats 1000000 in
theorem pans_err {w : World} {g : Nat} (p er : Int) (yes : Bool) (her : er ≠ 0)
    (hfd : Calls Tryd.prog 18 #[.pointer (some ⟨g, 0, none⟩), .int .i64 p] w fun e w' => e = .returned (.tuple #[zeroBlk, .int .i64 er]) ∧ Below w.heap.size w w') :
    Calls Tryd.prog 10 #[.pointer (some ⟨g, 0, none⟩), .int .i64 p, .bool yes] w fun e w' => e = .returned (.tuple #[.bool false, .int .i64 er]) ∧ Below w.heap.size w w' := by
  have x1 : (er != 0) = true := by simpa using her
  clear her
  unfold zeroBlk at hfd
  go_enter Tryd.func10, Tryd.ntmps10
  go_wp2_with (go_at_call 18; refine hfd.mono ?_; rintro e w1 ⟨rfl, hb1⟩)
  go_ret2
  exact ⟨rfl, hb1.alloc hb1.size _⟩

set_option maxHeartbeats 1000000 in
theorem pans_closed {w : World} {g bm : Nat} {m : SendM} (h : PSend w g bm m) (k : Nat) (yes : Bool) (hk : k < 8) (hbz : (m.tat k).busy = true) (ho : (m.tat k).opn = false) :
    Calls Tryd.prog 10 #[.pointer (some ⟨g, 0, none⟩), .int .i64 (k : Int), .bool yes] w fun e w' => e = .returned (.tuple #[.bool false, .int .i64 9]) ∧ Below w.heap.size w w' := by
  have hfd := pfind_any h k hk true (m.tat k).blk 0 hbz rfl rfl
  obtain ⟨T, eT⟩ : ∃ T, T = m.tat k := ⟨_, rfl⟩
  rw [← eT] at hfd ho
  unfold TryM.blk at hfd
  rw [ho] at hfd
  clear eT hbz ho
  go_enter Tryd.func10, Tryd.ntmps10
  go_wp2_with (go_at_call 18; refine hfd.mono ?_; rintro e w1 ⟨rfl, hb1⟩)
  go_ret2
  exact ⟨rfl, hb1.alloc hb1.size _⟩

set_option maxHeartbeats 1000000 in
theorem pans_yes {w : World} {g bm : Nat} {m : SendM} (h : PSend w g bm m) (k : Nat) (hk : k < 8) (hbz : (m.tat k).busy = true) (ho : (m.tat k).opn = true) (t : TryM) (ht : t.busy = false) (hf : t.flag = (m.tat k).flag) (hr : t.right m.limit) :
    Calls Tryd.prog 10 #[.pointer (some ⟨g, 0, none⟩), .int .i64 (k : Int), .bool true] w fun e w' => e = .returned (.tuple #[.bool true, .int .i64 0]) ∧ PSend w' g bm (m.set k t) ∧ Kept [g, bm] w w' := by
  have hfd := pfind_any h k hk true (m.tat k).blk 0 hbz rfl rfl
  have hok := h.2.2
  have hgb := h.ne
  obtain ⟨T, eT⟩ : ∃ T, T = m.tat k := ⟨_, rfl⟩
  rw [← eT] at hfd ho
  have HT := hid eT
  unfold TryM.blk at hfd
  rw [ho] at hfd
  clear eT hbz ho
  go_enter Tryd.func10, Tryd.ntmps10
  go_wp2_with (go_at_call 18; refine hfd.mono ?_; rintro e w1 ⟨rfl, hb1⟩; have hB2 := hb1.alloc hb1.size (.cells #[.string T.data, .int .i64 T.tries, .bool true] 62); have hP1 := h.old hB2; have cl := hP1.limit; have cm := hP1.map)
  go_region
  have hP2 := hP1.drew
  have hB3 := hB2.drew
  clear hP1 hB2 cl cm
  have cm := hP2.map
  have hBm := hP2.2.1
  have hgl := hP2.lt
  have hh := hP2.1
  generalize (w1.alloc (.cells #[.string T.data, .int .i64 T.tries, .bool true] 62)).drew = wC at *
  go_wp2_with (at_delete; refine wpList_delBlk _ rfl _ _ rfl rfl hBm hok.len hk rfl t ht ?_; intro w3 hB4 hg3)
  go_ret2
  have hk3 : Kept [bm] wC w3 := kept_grownH hg3 (by simp)
  have hK : Kept [g, bm] w w3 := (Kept.of_below hB3).trans (hk3.wider (by simp))
  exact ⟨rfl, ⟨(hk3.block g hgl (by simpa using hgb)).trans (by rw [sendCells_same hok.len hk _ hf]; exact hh), hB4, hok.set hk hr⟩, hK⟩

set_option maxHeartbeats 1000000 in
theorem pans_limit {w : World} {g bm : Nat} {m : SendM} (h : PSend w g bm m) (k : Nat) (hk : k < 8) (hbz : (m.tat k).busy = true) (ho : (m.tat k).opn = true) (hl : (m.tat k).tries = m.limit) (t : TryM) (ht : t.busy = false) (hf : t.flag = (m.tat k).flag) (hr : t.right m.limit) :
    Calls Tryd.prog 10 #[.pointer (some ⟨g, 0, none⟩), .int .i64 (k : Int), .bool false] w fun e w' => e = .returned (.tuple #[.bool true, .int .i64 0]) ∧ PSend w' g bm (m.set k t) ∧ Kept [g, bm] w w' := by
  have hfd := pfind_any h k hk true (m.tat k).blk 0 hbz rfl rfl
  have hok := h.2.2
  have hgb := h.ne
  obtain ⟨T, eT⟩ : ∃ T, T = m.tat k := ⟨_, rfl⟩
  rw [← eT] at hfd ho hl
  have HT := hid eT
  unfold TryM.blk at hfd
  rw [ho] at hfd
  have dl : ((T.tries : Int) == (m.limit : Int)) = true := by simp [hl]
  clear eT hbz ho hl
  go_enter Tryd.func10, Tryd.ntmps10
  go_wp2_with (go_at_call 18; refine hfd.mono ?_; rintro e w1 ⟨rfl, hb1⟩; have hB2 := hb1.alloc hb1.size (.cells #[.string T.data, .int .i64 T.tries, .bool true] 62); have hP1 := h.old hB2; have cl := hP1.limit; have cm := hP1.map)
  go_region
  have hP2 := hP1.drew
  have hB3 := hB2.drew
  clear hP1 hB2 cl cm
  have cm := hP2.map
  have hBm := hP2.2.1
  have hgl := hP2.lt
  have hh := hP2.1
  generalize (w1.alloc (.cells #[.string T.data, .int .i64 T.tries, .bool true] 62)).drew = wC at *
  go_wp2_with (at_delete; refine wpList_delBlk _ rfl _ _ rfl rfl hBm hok.len hk rfl t ht ?_; intro w3 hB4 hg3)
  go_ret2
  have hk3 : Kept [bm] wC w3 := kept_grownH hg3 (by simp)
  have hK : Kept [g, bm] w w3 := (Kept.of_below hB3).trans (hk3.wider (by simp))
  exact ⟨rfl, ⟨(hk3.block g hgl (by simpa using hgb)).trans (by rw [sendCells_same hok.len hk _ hf]; exact hh), hB4, hok.set hk hr⟩, hK⟩

set_option maxHeartbeats 2000000 in
theorem pans_no {w : World} {g bm : Nat} {m : SendM} (h : PSend w g bm m) (k : Nat) (hk : k < 8) (hbz : (m.tat k).busy = true) (ho : (m.tat k).opn = true) (hl : (m.tat k).tries ≠ m.limit) (t : TryM) (ht : t.busy = true) (hf : t.flag = (m.tat k).flag) (hr : t.right m.limit) (hv : t.blk = .agg #[.string (m.tat k).data, .int .i64 (m.tat k).tries, .bool false]) :
    Calls Tryd.prog 10 #[.pointer (some ⟨g, 0, none⟩), .int .i64 (k : Int), .bool false] w fun e w' => e = .returned (.tuple #[.bool false, .int .i64 0]) ∧ PSend w' g bm (m.set k t) ∧ Kept [g, bm] w w' := by
  have hfd := pfind_any h k hk true (m.tat k).blk 0 hbz rfl rfl
  have hok := h.2.2
  have hgb := h.ne
  obtain ⟨T, eT⟩ : ∃ T, T = m.tat k := ⟨_, rfl⟩
  rw [← eT] at hfd ho hl hv
  have HT := hid eT
  unfold TryM.blk at hfd
  rw [ho] at hfd
  have dl : ((T.tries : Int) == (m.limit : Int)) = false := by simp; omega
  have HV := hid hv
  clear eT hbz ho hl hv
  go_enter Tryd.func10, Tryd.ntmps10
  go_wp2_with (go_at_call 18; refine hfd.mono ?_; rintro e w1 ⟨rfl, hb1⟩; have hB2 := hb1.alloc hb1.size (.cells #[.string T.data, .int .i64 T.tries, .bool true] 62); have hP1 := h.old hB2; have cl := hP1.limit; have cm := hP1.map)
  go_region
  go_wp2_with fail
  have hmix : Tryd.prog.follows .mixedOrders = true := by kernel_rfl
  clear hB2 hP1 cl cm
  have hB2 : Below w.heap.size w (w1.alloc (.cells #[.string T.data, .int .i64 T.tries, .bool false] 62)).drew := (hb1.alloc hb1.size _).drew
  have hP1 := h.old hB2
  have hqz : (w1.alloc (.cells #[.string T.data, .int .i64 T.tries, .bool false] 62)).drew.heap[w1.heap.size]? = _ := heap_alloc_new w1 _
  have e0 : (w1.alloc (.cells #[.string T.data, .int .i64 T.tries, .bool false] 62)).drew.cell? ⟨w1.heap.size, 0, none⟩ = some (.string T.data) := by rw [cell_of_row _ _ _ _ _ _ hqz]; rfl
  have e1 : (w1.alloc (.cells #[.string T.data, .int .i64 T.tries, .bool false] 62)).drew.cell? ⟨w1.heap.size, 0 + 1, none⟩ = some (.int .i64 (T.tries : Int)) := by rw [cell_of_row _ _ _ _ _ _ hqz]; rfl
  have e2 : (w1.alloc (.cells #[.string T.data, .int .i64 T.tries, .bool false] 62)).drew.cell? ⟨w1.heap.size, 0 + 2, none⟩ = some (.bool false) := by rw [cell_of_row _ _ _ _ _ _ hqz]; rfl
  clear hqz hb1 hfd
  generalize (w1.alloc (.cells #[.string T.data, .int .i64 T.tries, .bool false] 62)).drew = wB at *
  generalize w1.heap.size = bz at *
  have cm := hP1.map
  have hBm := hP1.2.1
  have hk8 := hk
  have HTB := hid ht
  have HTV := hid HV.out.symm
  refine wp_mono (region_knownU (Q := fun e a' w' => e = .normal ∧ a' = ({ tmps := (setAll _ [(37, .pointer (some ⟨g, 0, none⟩)), (38, .pointer (some ⟨g, 0, none⟩)), (39, .pointer (some ⟨g, 9, none⟩)), (40, .map (some bm)), (41, .int .i64 (k : Int)), (42, .agg #[.string T.data, .int .i64 (T.tries : Int), .bool false])]).toArray, defers := [] } : Act) ∧ BlkMap w' bm (m.set k (t)) ∧ Kept [bm] wB w') 7 6 6 [] (fun _ => True) [(37, .pointer (some ⟨g, 0, none⟩)), (38, .pointer (some ⟨g, 0, none⟩)), (39, .pointer (some ⟨g, 9, none⟩)), (40, .map (some bm)), (41, .int .i64 (k : Int)), (42, .agg #[.string T.data, .int .i64 (T.tries : Int), .bool false])]
    [[0], [37], [38], [39], [1], [8]] [1, 2, 3, 6, 6, 6] wB hmix rfl (by decide) rfl (show ([37, 38, 39, 40, 41, 42] : List Nat).Nodup by decide) (by kernel_rfl) (by kernel_rfl) (by kernel_rfl) (by kernel_rfl) (by kernel_rfl) (by kernel_rfl) (fun _ _ h _ => h)
    (fun i' hi' hiu ac wc hk hr Q K hK => by
      have hor : i' = 0 ∨ i' = 1 ∨ i' = 2 ∨ i' = 3 ∨ i' = 4 ∨ i' = 5 := by omega
      rcases hor with rfl | rfl | rfl | rfl | rfl | rfl
      · have e0 : ac.eval (.tmp 0) = .pointer (some ⟨g, 0, none⟩) := hr 0 (by decide)
        exact op_value rfl rfl (run_moveQ wc rfl e0) (hK wc (keptU wc))
      · have e37 : ac.eval (.tmp 37) = .pointer (some ⟨g, 0, none⟩) := hr 37 (by decide)
        exact op_value rfl rfl (run_nilL wc rfl e37) (hK wc (keptU wc))
      · have e38 : ac.eval (.tmp 38) = .pointer (some ⟨g, 0, none⟩) := hr 38 (by decide)
        exact op_value rfl rfl (run_fdSnd2 wc rfl e38) (hK wc (keptU wc))
      · have e39 : ac.eval (.tmp 39) = .pointer (some ⟨g, 9, none⟩) := hr 39 (by decide)
        exact op_value rfl rfl (run_ldBMap wc rfl e39 (hk.cell_off cm (by simp))) (hK wc (keptU wc))
      · have e1 : ac.eval (.tmp 1) = .int .i64 (k : Int) := hr 1 (by decide)
        exact op_value rfl rfl (run_moveQ wc rfl e1) (hK wc (keptU wc))
      · have e8 : ac.eval (.tmp 8) = .pointer (some ⟨bz, 0, none⟩) := hr 8 (by decide)
        exact op_value rfl rfl (run_ldBlk wc rfl e8 (hk.cell_off e0 (by simp)) (hk.cell_off e1 (by simp)) (hk.cell_off e2 (by simp))) (hK wc (keptU wc)))
    (fun h => absurd h (by decide))
    (fun wc hk hu => by
      exact op_putBlk rfl rfl (.tmp 40) (.tmp 41) (.tmp 42) rfl (hBm.same (hk.block bm hBm.lt (by simp))) hok.len hk8 (t) HTB.out ((eval_setAll (t := [(37, .pointer (some ⟨g, 0, none⟩)), (38, .pointer (some ⟨g, 0, none⟩)), (39, .pointer (some ⟨g, 9, none⟩)), (40, .map (some bm)), (41, .int .i64 (k : Int)), (42, .agg #[.string T.data, .int .i64 (T.tries : Int), .bool false])]) 40 (show ([37, 38, 39, 40, 41, 42] : List Nat).Nodup by decide) (by kernel_rfl)).trans rfl) ((eval_setAll (t := [(37, .pointer (some ⟨g, 0, none⟩)), (38, .pointer (some ⟨g, 0, none⟩)), (39, .pointer (some ⟨g, 9, none⟩)), (40, .map (some bm)), (41, .int .i64 (k : Int)), (42, .agg #[.string T.data, .int .i64 (T.tries : Int), .bool false])]) 41 (show ([37, 38, 39, 40, 41, 42] : List Nat).Nodup by decide) (by kernel_rfl)).trans rfl) (((eval_setAll (t := [(37, .pointer (some ⟨g, 0, none⟩)), (38, .pointer (some ⟨g, 0, none⟩)), (39, .pointer (some ⟨g, 9, none⟩)), (40, .map (some bm)), (41, .int .i64 (k : Int)), (42, .agg #[.string T.data, .int .i64 (T.tries : Int), .bool false])]) 42 (show ([37, 38, 39, 40, 41, 42] : List Nat).Nodup by decide) (by kernel_rfl)).trans rfl).trans HTV.out) (fun w' h1 h2 => ⟨rfl, rfl, h1, (hk.wider (by simp)).trans (kept_grownH h2 (by simp))⟩))) ?_
  rintro e a' w2 ⟨rfl, rfl, hB2, hk2⟩
  dsimp only [setAll, List.set, List.append_nil, List.cons_append, List.nil_append]
  go_wp2_with fail
  go_ret2
  have hK : Kept [g, bm] w w2 := (Kept.of_below ‹Below w.heap.size w wB›).trans (hk2.wider (by simp))
  exact ⟨rfl, ⟨(hk2.block g hP1.lt (by simpa using hgb)).trans (by rw [sendCells_same hok.len hk _ hf]; exact hP1.1), hB2, hok.set hk hr⟩, hK⟩

end Go.Proofs.YtpeidccpplfbaaeDoor
