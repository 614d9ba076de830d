import Derived.Test.YtcnkcbipkchoiagK28
namespace Go.Proofs.Ytcnkcbipkchoiag
open Go.ChangeShapes Go.WideShapes Go.ChangeAt Go.RowKit
set_option maxRecDepth 100000 in
set_option maxHeartbeats 8000000 in
theorem deed2 {w0 w : World} {c r n : Nat} {m : CoM} (d : DeedM) (k : Du w0 w c r m n) (ok : d.ok) (hn : n < 3518437208880) (hk : d.kind = 2) : Calls Try.prog 25 #[ptrV c, ptrV r, d.val] w (DeedPost w0 c r m d n) := by
  have k0 := k.lay 72 d.cells
  have hm : m.deed d = (m.leave d.who).m := by unfold CoM.deed; simp [hk]
  have HP : Hid (∀ w', Dd w0 w' c r w.heap.size 72 d.cells (m.leave d.who).m (m.leave d.who).m (n + 1) (n + 1) → DeedPost w0 c r m d n (.returned (.bool true)) w') := hid fun w' k' => ⟨rfl, _, by rw [hm]; exact k'⟩
  generalize DeedPost w0 c r m d n = P at *
  obtain ⟨z0, z1, z2, z3, z4, z5, z6⟩ := ok
  obtain ⟨kind, who, a, b, g, t, y, f⟩ := d
  dsimp only at *
  unfold DeedM.cells at *
  unfold DeedM.val
  dsimp only at *
  have Z1 := hid z1
  have Z4 := hid z4
  have Z5 := hid z5
  have Z6 := hid z6
  subst hk
  obtain ⟨W, eW⟩ : ∃ W, W = w.alloc (.cells #[.int .i64 2, .int .i64 who, .int .i64 a, .int .i64 b, .int .i64 g, .int .i64 t, .int .i64 y, .bool f] 72) := ⟨_, rfl⟩
  have k0 : Dd w0 W c r w.heap.size 72 [.int .i64 2, .int .i64 who, .int .i64 a, .int .i64 b, .int .i64 g, .int .i64 t, .int .i64 y, .bool f] m m n n := by rw [eW]; exact k0
  obtain ⟨F, FG, k0⟩ := k0
  have a0 : W.cell? ⟨w.heap.size, 0, none⟩ = some (.int .i64 2) := k0.da.cell 0
  have a1 : W.cell? ⟨w.heap.size, 1, none⟩ = some (.int .i64 who) := k0.da.cell 1
  have a2 : W.cell? ⟨w.heap.size, 2, none⟩ = some (.int .i64 a) := k0.da.cell 2
  have a3 : W.cell? ⟨w.heap.size, 3, none⟩ = some (.int .i64 b) := k0.da.cell 3
  have a4 : W.cell? ⟨w.heap.size, 4, none⟩ = some (.int .i64 g) := k0.da.cell 4
  have a5 : W.cell? ⟨w.heap.size, 5, none⟩ = some (.int .i64 t) := k0.da.cell 5
  have a6 : W.cell? ⟨w.heap.size, 6, none⟩ = some (.int .i64 y) := k0.da.cell 6
  have a7 : W.cell? ⟨w.heap.size, 7, none⟩ = some (.bool f) := k0.da.cell 7
  have K0 := hid k0
  have hdf := k0.df
  have hPC : ∀ wc, Below W.heap.size W wc → PCo wc c F m n := fun wc hb => K0.out.co.kept (Kept.of_below (S := []) hb) (by simp)
  have hmix : Try.prog.follows .mixedOrders = true := by kernel_rfl
  clear k k0 hm z0 z1 z2 z3 z4 z5 z6
  unfold ptrV
  go_enter Try.func25, Try.ntmps25
  go_upto_region 1 with fail
  rw [← eW]
  clear eW
  generalize w.heap.size = db at *
  go_upto_region 7 with fail
  refine wp_mono (region_knownU (Q := fun e a' w' => e = .normal ∧ a' = ({ tmps := (setAll _ [(47, .pointer (some ⟨c, 0, none⟩)), (48, .pointer (some ⟨db, 1, none⟩)), (49, .int .i64 who), (50, .int .i64 ((m.leave who).err)), (51, .pointer (some ⟨r, 0, none⟩)), (52, .pointer (some ⟨db, 1, none⟩)), (53, .int .i64 who), (54, .int .i64 ((m.leave who).err)), (55, .bool ((m.leave who).err == (m.leave who).err)), (6, .bool ((m.leave who).err == (m.leave who).err))]).toArray, defers := [] } : Act) ∧ P (.returned (.bool true)) w') 10 7 3 F (fun w' => ∃ F', PCo w' c F' (m.leave who).m n ∧ Grown W.heap.size F F') [(47, .pointer (some ⟨c, 0, none⟩)), (48, .pointer (some ⟨db, 1, none⟩)), (49, .int .i64 who), (50, .int .i64 ((m.leave who).err)), (51, .pointer (some ⟨r, 0, none⟩)), (52, .pointer (some ⟨db, 1, none⟩)), (53, .int .i64 who)]
    [[0], [5], [48], [47, 49], [1], [5], [52]] [3, 2, 3, 7, 7, 6, 7] W hmix rfl (by decide) rfl (show ([47, 48, 49, 50, 51, 52, 53] : List Nat).Nodup by decide) (by kernel_rfl) (by kernel_rfl) (by kernel_rfl) (by kernel_rfl) (by kernel_rfl) (by kernel_rfl) (fun _ _ h hk => by obtain ⟨F', h1, h2⟩ := h; exact ⟨F', h1.kept hk (by simp), h2⟩)
    (fun i' hi' hiu ac wc hk hr Q K hK => by
      have hor : i' = 0 ∨ i' = 1 ∨ i' = 2 ∨ i' = 3 ∨ i' = 4 ∨ i' = 5 ∨ i' = 6 := by omega
      rcases hor with rfl | rfl | rfl | rfl | rfl | rfl | rfl
      · have e0 : ac.eval (.tmp 0) = .pointer (some ⟨c, 0, none⟩) := hr 0 (by decide)
        exact op_value rfl rfl (run_moveQ wc rfl e0) (hK wc (keptU wc))
      · have e5 : ac.eval (.tmp 5) = .pointer (some ⟨db, 0, none⟩) := hr 5 (by decide)
        exact op_value rfl rfl (run_fdroamlawDeed1 wc rfl e5) (hK wc (keptU wc))
      · have e48 : ac.eval (.tmp 48) = .pointer (some ⟨db, 1, none⟩) := hr 48 (by decide)
        exact op_value rfl rfl (run_ldint wc rfl e48 (hk.cell_offD a1 hdf)) (hK wc (keptU wc))
      · exact absurd rfl hiu
      · have e1 : ac.eval (.tmp 1) = .pointer (some ⟨r, 0, none⟩) := hr 1 (by decide)
        exact op_value rfl rfl (run_moveQ wc rfl e1) (hK wc (keptU wc))
      · have e5 : ac.eval (.tmp 5) = .pointer (some ⟨db, 0, none⟩) := hr 5 (by decide)
        exact op_value rfl rfl (run_fdroamlawDeed1 wc rfl e5) (hK wc (keptU wc))
      · have e52 : ac.eval (.tmp 52) = .pointer (some ⟨db, 1, none⟩) := hr 52 (by decide)
        exact op_value rfl rfl (run_ldint wc rfl e52 (hk.cell_offD a1 hdf)) (hK wc (keptU wc)))
    (fun _ ac wc hb hr Q K hK => by
      have e47 : ac.eval (.tmp 47) = .pointer (some ⟨c, 0, none⟩) := hr 47 (by decide)
      have e49 : ac.eval (.tmp 49) = .int .i64 who := hr 49 (by decide)
      refine op_callNL rfl rfl rfl (enters_of Try.func35 (by kernel_rfl) rfl) (map2L e47 e49) (cleave_any (hPC wc hb) Z1.out) fun e w' hr' => ?_
      obtain ⟨rfl, hk', F', hc', hg'⟩ := hr'
      exact ⟨_, rfl, hK w' hk' ⟨F', hc', fun x hx => (hg' x hx).elim .inl (fun h => .inr (Nat.le_trans hb.size h))⟩⟩)
    (fun wc hk hu => by
      obtain ⟨F', hc1, hg1⟩ := hu (by decide)
      obtain ⟨F2, G2, k1⟩ := K0.out.prog hk hc1 hg1
      have hRC := k1.rc
      refine op_callNL rfl rfl rfl (enters_of Try.func67 (by kernel_rfl) rfl) (map2L ((eval_setAll (t := [(47, .pointer (some ⟨c, 0, none⟩)), (48, .pointer (some ⟨db, 1, none⟩)), (49, .int .i64 who), (50, .int .i64 ((m.leave who).err)), (51, .pointer (some ⟨r, 0, none⟩)), (52, .pointer (some ⟨db, 1, none⟩)), (53, .int .i64 who)]) 51 (show ([47, 48, 49, 50, 51, 52, 53] : List Nat).Nodup by decide) (by kernel_rfl)).trans rfl) ((eval_setAll (t := [(47, .pointer (some ⟨c, 0, none⟩)), (48, .pointer (some ⟨db, 1, none⟩)), (49, .int .i64 who), (50, .int .i64 ((m.leave who).err)), (51, .pointer (some ⟨r, 0, none⟩)), (52, .pointer (some ⟨db, 1, none⟩)), (53, .int .i64 who)]) 53 (show ([47, 48, 49, 50, 51, 52, 53] : List Nat).Nodup by decide) (by kernel_rfl)).trans rfl)) (rleave_any hRC (by unfold manyN; omega)) fun e w2 hr' => ?_
      obtain ⟨rfl, hk2, G', hc2, hg2⟩ := hr'
      have k2 := HP.out w2 ((k1.ref hk2 hc2 hg2).mono (by omega) (by omega))
      refine ⟨_, rfl, ?_⟩
      change tailWp _ _ _ _ (Act.put _ (some 54) _) _
      rw [put_list, setAll_app]
      simp only [List.cons_append, List.nil_append]
      refine op_value rfl rfl (run_eqlapiErrno (p := (m.leave who).err) (q := (m.leave who).err) w2 rfl ((eval_setAll (t := [(47, .pointer (some ⟨c, 0, none⟩)), (48, .pointer (some ⟨db, 1, none⟩)), (49, .int .i64 who), (50, .int .i64 ((m.leave who).err)), (51, .pointer (some ⟨r, 0, none⟩)), (52, .pointer (some ⟨db, 1, none⟩)), (53, .int .i64 who), (54, .int .i64 ((m.leave who).err))]) 50 (show ([47, 48, 49, 50, 51, 52, 53, 54] : List Nat).Nodup by decide) (by kernel_rfl)).trans rfl) ((eval_setAll (t := [(47, .pointer (some ⟨c, 0, none⟩)), (48, .pointer (some ⟨db, 1, none⟩)), (49, .int .i64 who), (50, .int .i64 ((m.leave who).err)), (51, .pointer (some ⟨r, 0, none⟩)), (52, .pointer (some ⟨db, 1, none⟩)), (53, .int .i64 who), (54, .int .i64 ((m.leave who).err))]) 54 (show ([47, 48, 49, 50, 51, 52, 53, 54] : List Nat).Nodup by decide) (by kernel_rfl)).trans rfl)) ?_
      change tailWp _ _ _ _ (Act.put _ (some 55) _) _
      rw [put_list, setAll_app]
      simp only [List.cons_append, List.nil_append]
      refine op_value rfl rfl (run_assignL w2 rfl ((eval_setAll (t := [(47, .pointer (some ⟨c, 0, none⟩)), (48, .pointer (some ⟨db, 1, none⟩)), (49, .int .i64 who), (50, .int .i64 ((m.leave who).err)), (51, .pointer (some ⟨r, 0, none⟩)), (52, .pointer (some ⟨db, 1, none⟩)), (53, .int .i64 who), (54, .int .i64 ((m.leave who).err)), (55, .bool ((m.leave who).err == (m.leave who).err))]) 55 (show ([47, 48, 49, 50, 51, 52, 53, 54, 55] : List Nat).Nodup by decide) (by kernel_rfl)).trans rfl)) ⟨rfl, ?_, k2⟩
      change Act.put _ (some 6) _ = _
      rw [put_list, setAll_app]
      rfl)) ?_
  rintro e a' w' ⟨rfl, rfl, hp'⟩
  dsimp only [setAll, List.set, List.append_nil, List.cons_append, List.nil_append]
  generalize (m.leave who).err = E at *
  simp only [beq_self_eq_true]
  go_wp2_with fail
  exact hp'
end Go.Proofs.Ytcnkcbipkchoiag
namespace Go.Proofs.Ytcnkcbipkchoiag
open Go.ChangeShapes Go.WideShapes Go.ChangeAt Go.RowKit
set_option maxRecDepth 100000 in
set_option maxHeartbeats 8000000 in
theorem deed3 {w0 w : World} {c r n : Nat} {m : CoM} (d : DeedM) (k : Du w0 w c r m n) (ok : d.ok) (_hn : n < 3518437208880) (hk : d.kind = 3) : Calls Try.prog 25 #[ptrV c, ptrV r, d.val] w (DeedPost w0 c r m d n) := by
  have k0 := k.lay 72 d.cells
  have hm : m.deed d = (m.sleep d.who).m := by unfold CoM.deed; simp [hk]
  have HP : Hid (∀ w', Dd w0 w' c r w.heap.size 72 d.cells (m.sleep d.who).m (m.sleep d.who).m (n + 1) (n + 1) → DeedPost w0 c r m d n (.returned (.bool true)) w') := hid fun w' k' => ⟨rfl, _, by rw [hm]; exact k'⟩
  generalize DeedPost w0 c r m d n = P at *
  obtain ⟨z0, z1, z2, z3, z4, z5, z6⟩ := ok
  obtain ⟨kind, who, a, b, g, t, y, f⟩ := d
  dsimp only at *
  unfold DeedM.cells at *
  unfold DeedM.val
  dsimp only at *
  have Z1 := hid z1
  have Z4 := hid z4
  have Z5 := hid z5
  have Z6 := hid z6
  subst hk
  obtain ⟨W, eW⟩ : ∃ W, W = w.alloc (.cells #[.int .i64 3, .int .i64 who, .int .i64 a, .int .i64 b, .int .i64 g, .int .i64 t, .int .i64 y, .bool f] 72) := ⟨_, rfl⟩
  have k0 : Dd w0 W c r w.heap.size 72 [.int .i64 3, .int .i64 who, .int .i64 a, .int .i64 b, .int .i64 g, .int .i64 t, .int .i64 y, .bool f] m m n n := by rw [eW]; exact k0
  obtain ⟨F, FG, k0⟩ := k0
  have a0 : W.cell? ⟨w.heap.size, 0, none⟩ = some (.int .i64 3) := k0.da.cell 0
  have a1 : W.cell? ⟨w.heap.size, 1, none⟩ = some (.int .i64 who) := k0.da.cell 1
  have a2 : W.cell? ⟨w.heap.size, 2, none⟩ = some (.int .i64 a) := k0.da.cell 2
  have a3 : W.cell? ⟨w.heap.size, 3, none⟩ = some (.int .i64 b) := k0.da.cell 3
  have a4 : W.cell? ⟨w.heap.size, 4, none⟩ = some (.int .i64 g) := k0.da.cell 4
  have a5 : W.cell? ⟨w.heap.size, 5, none⟩ = some (.int .i64 t) := k0.da.cell 5
  have a6 : W.cell? ⟨w.heap.size, 6, none⟩ = some (.int .i64 y) := k0.da.cell 6
  have a7 : W.cell? ⟨w.heap.size, 7, none⟩ = some (.bool f) := k0.da.cell 7
  have K0 := hid k0
  have hdf := k0.df
  have hPC : ∀ wc, Below W.heap.size W wc → PCo wc c F m n := fun wc hb => K0.out.co.kept (Kept.of_below (S := []) hb) (by simp)
  have hmix : Try.prog.follows .mixedOrders = true := by kernel_rfl
  clear k k0 hm z0 z1 z2 z3 z4 z5 z6
  unfold ptrV
  go_enter Try.func25, Try.ntmps25
  go_upto_region 1 with fail
  rw [← eW]
  clear eW
  generalize w.heap.size = db at *
  go_upto_region 9 with fail
  refine wp_mono (region_knownU (Q := fun e a' w' => e = .normal ∧ a' = ({ tmps := (setAll _ [(58, .pointer (some ⟨c, 0, none⟩)), (59, .pointer (some ⟨db, 1, none⟩)), (60, .int .i64 who), (61, .int .i64 ((m.sleep who).err)), (62, .pointer (some ⟨r, 0, none⟩)), (63, .pointer (some ⟨db, 1, none⟩)), (64, .int .i64 who), (65, .int .i64 ((m.sleep who).err)), (66, .bool ((m.sleep who).err == (m.sleep who).err)), (6, .bool ((m.sleep who).err == (m.sleep who).err))]).toArray, defers := [] } : Act) ∧ P (.returned (.bool true)) w') 10 7 3 F (fun w' => ∃ F', PCo w' c F' (m.sleep who).m n ∧ Grown W.heap.size F F') [(58, .pointer (some ⟨c, 0, none⟩)), (59, .pointer (some ⟨db, 1, none⟩)), (60, .int .i64 who), (61, .int .i64 ((m.sleep who).err)), (62, .pointer (some ⟨r, 0, none⟩)), (63, .pointer (some ⟨db, 1, none⟩)), (64, .int .i64 who)]
    [[0], [5], [59], [58, 60], [1], [5], [63]] [3, 2, 3, 7, 7, 6, 7] W hmix rfl (by decide) rfl (show ([58, 59, 60, 61, 62, 63, 64] : List Nat).Nodup by decide) (by kernel_rfl) (by kernel_rfl) (by kernel_rfl) (by kernel_rfl) (by kernel_rfl) (by kernel_rfl) (fun _ _ h hk => by obtain ⟨F', h1, h2⟩ := h; exact ⟨F', h1.kept hk (by simp), h2⟩)
    (fun i' hi' hiu ac wc hk hr Q K hK => by
      have hor : i' = 0 ∨ i' = 1 ∨ i' = 2 ∨ i' = 3 ∨ i' = 4 ∨ i' = 5 ∨ i' = 6 := by omega
      rcases hor with rfl | rfl | rfl | rfl | rfl | rfl | rfl
      · have e0 : ac.eval (.tmp 0) = .pointer (some ⟨c, 0, none⟩) := hr 0 (by decide)
        exact op_value rfl rfl (run_moveQ wc rfl e0) (hK wc (keptU wc))
      · have e5 : ac.eval (.tmp 5) = .pointer (some ⟨db, 0, none⟩) := hr 5 (by decide)
        exact op_value rfl rfl (run_fdroamlawDeed1 wc rfl e5) (hK wc (keptU wc))
      · have e59 : ac.eval (.tmp 59) = .pointer (some ⟨db, 1, none⟩) := hr 59 (by decide)
        exact op_value rfl rfl (run_ldint wc rfl e59 (hk.cell_offD a1 hdf)) (hK wc (keptU wc))
      · exact absurd rfl hiu
      · have e1 : ac.eval (.tmp 1) = .pointer (some ⟨r, 0, none⟩) := hr 1 (by decide)
        exact op_value rfl rfl (run_moveQ wc rfl e1) (hK wc (keptU wc))
      · have e5 : ac.eval (.tmp 5) = .pointer (some ⟨db, 0, none⟩) := hr 5 (by decide)
        exact op_value rfl rfl (run_fdroamlawDeed1 wc rfl e5) (hK wc (keptU wc))
      · have e63 : ac.eval (.tmp 63) = .pointer (some ⟨db, 1, none⟩) := hr 63 (by decide)
        exact op_value rfl rfl (run_ldint wc rfl e63 (hk.cell_offD a1 hdf)) (hK wc (keptU wc)))
    (fun _ ac wc hb hr Q K hK => by
      have e58 : ac.eval (.tmp 58) = .pointer (some ⟨c, 0, none⟩) := hr 58 (by decide)
      have e60 : ac.eval (.tmp 60) = .int .i64 who := hr 60 (by decide)
      refine op_callNL rfl rfl rfl (enters_of Try.func48 (by kernel_rfl) rfl) (map2L e58 e60) (csleep_co (hPC wc hb) Z1.out) fun e w' hr' => ?_
      obtain ⟨rfl, hk', F', hc', hg'⟩ := hr'
      exact ⟨_, rfl, hK w' hk' ⟨F', hc', fun x hx => (hg' x hx).elim .inl (fun h => .inr (Nat.le_trans hb.size h))⟩⟩)
    (fun wc hk hu => by
      obtain ⟨F', hc1, hg1⟩ := hu (by decide)
      obtain ⟨F2, G2, k1⟩ := K0.out.prog hk hc1 hg1
      have hRC := k1.rc
      refine op_callNL rfl rfl rfl (enters_of Try.func68 (by kernel_rfl) rfl) (map2L ((eval_setAll (t := [(58, .pointer (some ⟨c, 0, none⟩)), (59, .pointer (some ⟨db, 1, none⟩)), (60, .int .i64 who), (61, .int .i64 ((m.sleep who).err)), (62, .pointer (some ⟨r, 0, none⟩)), (63, .pointer (some ⟨db, 1, none⟩)), (64, .int .i64 who)]) 62 (show ([58, 59, 60, 61, 62, 63, 64] : List Nat).Nodup by decide) (by kernel_rfl)).trans rfl) ((eval_setAll (t := [(58, .pointer (some ⟨c, 0, none⟩)), (59, .pointer (some ⟨db, 1, none⟩)), (60, .int .i64 who), (61, .int .i64 ((m.sleep who).err)), (62, .pointer (some ⟨r, 0, none⟩)), (63, .pointer (some ⟨db, 1, none⟩)), (64, .int .i64 who)]) 64 (show ([58, 59, 60, 61, 62, 63, 64] : List Nat).Nodup by decide) (by kernel_rfl)).trans rfl)) (rsleep_any hRC) fun e w2 hr' => ?_
      obtain ⟨rfl, hk2, G', hc2, hg2⟩ := hr'
      have k2 := HP.out w2 ((k1.ref hk2 hc2 hg2).mono (by omega) (by omega))
      refine ⟨_, rfl, ?_⟩
      change tailWp _ _ _ _ (Act.put _ (some 65) _) _
      rw [put_list, setAll_app]
      simp only [List.cons_append, List.nil_append]
      refine op_value rfl rfl (run_eqlapiErrno (p := (m.sleep who).err) (q := (m.sleep who).err) w2 rfl ((eval_setAll (t := [(58, .pointer (some ⟨c, 0, none⟩)), (59, .pointer (some ⟨db, 1, none⟩)), (60, .int .i64 who), (61, .int .i64 ((m.sleep who).err)), (62, .pointer (some ⟨r, 0, none⟩)), (63, .pointer (some ⟨db, 1, none⟩)), (64, .int .i64 who), (65, .int .i64 ((m.sleep who).err))]) 61 (show ([58, 59, 60, 61, 62, 63, 64, 65] : List Nat).Nodup by decide) (by kernel_rfl)).trans rfl) ((eval_setAll (t := [(58, .pointer (some ⟨c, 0, none⟩)), (59, .pointer (some ⟨db, 1, none⟩)), (60, .int .i64 who), (61, .int .i64 ((m.sleep who).err)), (62, .pointer (some ⟨r, 0, none⟩)), (63, .pointer (some ⟨db, 1, none⟩)), (64, .int .i64 who), (65, .int .i64 ((m.sleep who).err))]) 65 (show ([58, 59, 60, 61, 62, 63, 64, 65] : List Nat).Nodup by decide) (by kernel_rfl)).trans rfl)) ?_
      change tailWp _ _ _ _ (Act.put _ (some 66) _) _
      rw [put_list, setAll_app]
      simp only [List.cons_append, List.nil_append]
      refine op_value rfl rfl (run_assignL w2 rfl ((eval_setAll (t := [(58, .pointer (some ⟨c, 0, none⟩)), (59, .pointer (some ⟨db, 1, none⟩)), (60, .int .i64 who), (61, .int .i64 ((m.sleep who).err)), (62, .pointer (some ⟨r, 0, none⟩)), (63, .pointer (some ⟨db, 1, none⟩)), (64, .int .i64 who), (65, .int .i64 ((m.sleep who).err)), (66, .bool ((m.sleep who).err == (m.sleep who).err))]) 66 (show ([58, 59, 60, 61, 62, 63, 64, 65, 66] : List Nat).Nodup by decide) (by kernel_rfl)).trans rfl)) ⟨rfl, ?_, k2⟩
      change Act.put _ (some 6) _ = _
      rw [put_list, setAll_app]
      rfl)) ?_
  rintro e a' w' ⟨rfl, rfl, hp'⟩
  dsimp only [setAll, List.set, List.append_nil, List.cons_append, List.nil_append]
  generalize (m.sleep who).err = E at *
  simp only [beq_self_eq_true]
  go_wp2_with fail
  exact hp'
end Go.Proofs.Ytcnkcbipkchoiag
