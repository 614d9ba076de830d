import Derived.Test.YtcnkcbipkchoiagK28
namespace Go.Proofs.Ytcnkcbipkchoiag
open Go.ChangeShapes Go.WideShapes Go.ChangeAt Go.RowKit
set_option maxRecDepth 100000 in
set_option maxHeartbeats 8000000 in
theorem deed0 {w0 w : World} {c r n : Nat} {m : CoM} (d : DeedM) (k : Du w0 w c r m n) (ok : d.ok) (hn : n < 3518437208880) (hk : d.kind = 0) : Calls Try.prog 25 #[ptrV c, ptrV r, d.val] w (DeedPost w0 c r m d n) := by
  have k0 := k.lay 72 d.cells
  have hm : m.deed d = (m.join d.who d.a).m := by unfold CoM.deed; rw [if_pos hk]
  have HP : Hid (∀ w', Dd w0 w' c r w.heap.size 72 d.cells (m.join d.who d.a).m (m.join d.who d.a).m (n + 1) (n + 1) → DeedPost w0 c r m d n (.returned (.bool true)) w') := hid fun w' k' => ⟨rfl, _, by rw [hm]; exact k'⟩
  generalize DeedPost w0 c r m d n = P at *
  obtain ⟨z0, z1, z2, z3, z4, z5, z6⟩ := ok
  obtain ⟨kind, who, a, b, g, t, y, f⟩ := d
  dsimp only at *
  unfold DeedM.cells at *
  unfold DeedM.val
  dsimp only at *
  have Z1 := hid z1
  have Z4 := hid z4
  have Z5 := hid z5
  have Z6 := hid z6
  subst hk
  obtain ⟨W, eW⟩ : ∃ W, W = w.alloc (.cells #[.int .i64 0, .int .i64 who, .int .i64 a, .int .i64 b, .int .i64 g, .int .i64 t, .int .i64 y, .bool f] 72) := ⟨_, rfl⟩
  have k0 : Dd w0 W c r w.heap.size 72 [.int .i64 0, .int .i64 who, .int .i64 a, .int .i64 b, .int .i64 g, .int .i64 t, .int .i64 y, .bool f] m m n n := by rw [eW]; exact k0
  obtain ⟨F, FG, k0⟩ := k0
  have a0 : W.cell? ⟨w.heap.size, 0, none⟩ = some (.int .i64 0) := k0.da.cell 0
  have a1 : W.cell? ⟨w.heap.size, 1, none⟩ = some (.int .i64 who) := k0.da.cell 1
  have a2 : W.cell? ⟨w.heap.size, 2, none⟩ = some (.int .i64 a) := k0.da.cell 2
  have a3 : W.cell? ⟨w.heap.size, 3, none⟩ = some (.int .i64 b) := k0.da.cell 3
  have a4 : W.cell? ⟨w.heap.size, 4, none⟩ = some (.int .i64 g) := k0.da.cell 4
  have a5 : W.cell? ⟨w.heap.size, 5, none⟩ = some (.int .i64 t) := k0.da.cell 5
  have a6 : W.cell? ⟨w.heap.size, 6, none⟩ = some (.int .i64 y) := k0.da.cell 6
  have a7 : W.cell? ⟨w.heap.size, 7, none⟩ = some (.bool f) := k0.da.cell 7
  have K0 := hid k0
  have hdf := k0.df
  have hPC : ∀ wc, Below W.heap.size W wc → PCo wc c F m n := fun wc hb => K0.out.co.kept (Kept.of_below (S := []) hb) (by simp)
  have hmix : Try.prog.follows .mixedOrders = true := by kernel_rfl
  clear k k0 hm z0 z1 z2 z3 z4 z5 z6
  unfold ptrV
  go_enter Try.func25, Try.ntmps25
  go_upto_region 1 with fail
  rw [← eW]
  clear eW
  generalize w.heap.size = db at *
  go_upto_region 3 with fail
  refine wp_mono (region_knownU (Q := fun e a' w' => e = .normal ∧ a' = ({ tmps := (setAll _ [(17, .pointer (some ⟨c, 0, none⟩)), (18, .pointer (some ⟨db, 1, none⟩)), (19, .int .i64 who), (20, .pointer (some ⟨db, 2, none⟩)), (21, .int .i64 a), (22, .int .i64 ((m.join who a).err)), (23, .pointer (some ⟨r, 0, none⟩)), (24, .pointer (some ⟨db, 1, none⟩)), (25, .int .i64 who), (26, .pointer (some ⟨db, 2, none⟩)), (27, .int .i64 a), (28, .int .i64 ((m.join who a).err)), (29, .bool ((m.join who a).err == (m.join who a).err)), (6, .bool ((m.join who a).err == (m.join who a).err))]).toArray, defers := [] } : Act) ∧ P (.returned (.bool true)) w') 14 11 5 F (fun w' => ∃ F', PCo w' c F' (m.join who a).m (n + 1) ∧ Grown W.heap.size F F') [(17, .pointer (some ⟨c, 0, none⟩)), (18, .pointer (some ⟨db, 1, none⟩)), (19, .int .i64 who), (20, .pointer (some ⟨db, 2, none⟩)), (21, .int .i64 a), (22, .int .i64 ((m.join who a).err)), (23, .pointer (some ⟨r, 0, none⟩)), (24, .pointer (some ⟨db, 1, none⟩)), (25, .int .i64 who), (26, .pointer (some ⟨db, 2, none⟩)), (27, .int .i64 a)]
    [[0], [5], [18], [5], [20], [17, 19, 21], [1], [5], [24], [5], [26]] [5, 2, 5, 4, 5, 11, 11, 8, 11, 10, 11] W hmix rfl (by decide) rfl (show ([17, 18, 19, 20, 21, 22, 23, 24, 25, 26, 27] : List Nat).Nodup by decide) (by kernel_rfl) (by kernel_rfl) (by kernel_rfl) (by kernel_rfl) (by kernel_rfl) (by kernel_rfl) (fun _ _ h hk => by obtain ⟨F', h1, h2⟩ := h; exact ⟨F', h1.kept hk (by simp), h2⟩)
    (fun i' hi' hiu ac wc hk hr Q K hK => by
      have hor : i' = 0 ∨ i' = 1 ∨ i' = 2 ∨ i' = 3 ∨ i' = 4 ∨ i' = 5 ∨ i' = 6 ∨ i' = 7 ∨ i' = 8 ∨ i' = 9 ∨ i' = 10 := by omega
      rcases hor with rfl | rfl | rfl | rfl | rfl | rfl | rfl | rfl | rfl | rfl | rfl
      · have e0 : ac.eval (.tmp 0) = .pointer (some ⟨c, 0, none⟩) := hr 0 (by decide)
        exact op_value rfl rfl (run_moveQ wc rfl e0) (hK wc (keptU wc))
      · have e5 : ac.eval (.tmp 5) = .pointer (some ⟨db, 0, none⟩) := hr 5 (by decide)
        exact op_value rfl rfl (run_fdroamlawDeed1 wc rfl e5) (hK wc (keptU wc))
      · have e18 : ac.eval (.tmp 18) = .pointer (some ⟨db, 1, none⟩) := hr 18 (by decide)
        exact op_value rfl rfl (run_ldint wc rfl e18 (hk.cell_offD a1 hdf)) (hK wc (keptU wc))
      · have e5 : ac.eval (.tmp 5) = .pointer (some ⟨db, 0, none⟩) := hr 5 (by decide)
        exact op_value rfl rfl (run_fdroamlawDeed2 wc rfl e5) (hK wc (keptU wc))
      · have e20 : ac.eval (.tmp 20) = .pointer (some ⟨db, 2, none⟩) := hr 20 (by decide)
        exact op_value rfl rfl (run_ldint wc rfl e20 (hk.cell_offD a2 hdf)) (hK wc (keptU wc))
      · exact absurd rfl hiu
      · have e1 : ac.eval (.tmp 1) = .pointer (some ⟨r, 0, none⟩) := hr 1 (by decide)
        exact op_value rfl rfl (run_moveQ wc rfl e1) (hK wc (keptU wc))
      · have e5 : ac.eval (.tmp 5) = .pointer (some ⟨db, 0, none⟩) := hr 5 (by decide)
        exact op_value rfl rfl (run_fdroamlawDeed1 wc rfl e5) (hK wc (keptU wc))
      · have e24 : ac.eval (.tmp 24) = .pointer (some ⟨db, 1, none⟩) := hr 24 (by decide)
        exact op_value rfl rfl (run_ldint wc rfl e24 (hk.cell_offD a1 hdf)) (hK wc (keptU wc))
      · have e5 : ac.eval (.tmp 5) = .pointer (some ⟨db, 0, none⟩) := hr 5 (by decide)
        exact op_value rfl rfl (run_fdroamlawDeed2 wc rfl e5) (hK wc (keptU wc))
      · have e26 : ac.eval (.tmp 26) = .pointer (some ⟨db, 2, none⟩) := hr 26 (by decide)
        exact op_value rfl rfl (run_ldint wc rfl e26 (hk.cell_offD a2 hdf)) (hK wc (keptU wc)))
    (fun _ ac wc hb hr Q K hK => by
      have e17 : ac.eval (.tmp 17) = .pointer (some ⟨c, 0, none⟩) := hr 17 (by decide)
      have e19 : ac.eval (.tmp 19) = .int .i64 who := hr 19 (by decide)
      have e21 : ac.eval (.tmp 21) = .int .i64 a := hr 21 (by decide)
      refine op_callNL rfl rfl rfl (enters_of Try.func31 (by kernel_rfl) rfl) (map3L e17 e19 e21) (cjoin_any a (hPC wc hb) Z1.out (by unfold manyN; omega)) fun e w' hr' => ?_
      obtain ⟨rfl, hk', F', hc', hg'⟩ := hr'
      exact ⟨_, rfl, hK w' hk' ⟨F', hc', fun x hx => (hg' x hx).elim .inl (fun h => .inr (Nat.le_trans hb.size h))⟩⟩)
    (fun wc hk hu => by
      obtain ⟨F', hc1, hg1⟩ := hu (by decide)
      obtain ⟨F2, G2, k1⟩ := K0.out.prog hk hc1 hg1
      have hRC := k1.rc
      refine op_callNL rfl rfl rfl (enters_of Try.func65 (by kernel_rfl) rfl) (map3L ((eval_setAll (t := [(17, .pointer (some ⟨c, 0, none⟩)), (18, .pointer (some ⟨db, 1, none⟩)), (19, .int .i64 who), (20, .pointer (some ⟨db, 2, none⟩)), (21, .int .i64 a), (22, .int .i64 ((m.join who a).err)), (23, .pointer (some ⟨r, 0, none⟩)), (24, .pointer (some ⟨db, 1, none⟩)), (25, .int .i64 who), (26, .pointer (some ⟨db, 2, none⟩)), (27, .int .i64 a)]) 23 (show ([17, 18, 19, 20, 21, 22, 23, 24, 25, 26, 27] : List Nat).Nodup by decide) (by kernel_rfl)).trans rfl) ((eval_setAll (t := [(17, .pointer (some ⟨c, 0, none⟩)), (18, .pointer (some ⟨db, 1, none⟩)), (19, .int .i64 who), (20, .pointer (some ⟨db, 2, none⟩)), (21, .int .i64 a), (22, .int .i64 ((m.join who a).err)), (23, .pointer (some ⟨r, 0, none⟩)), (24, .pointer (some ⟨db, 1, none⟩)), (25, .int .i64 who), (26, .pointer (some ⟨db, 2, none⟩)), (27, .int .i64 a)]) 25 (show ([17, 18, 19, 20, 21, 22, 23, 24, 25, 26, 27] : List Nat).Nodup by decide) (by kernel_rfl)).trans rfl) ((eval_setAll (t := [(17, .pointer (some ⟨c, 0, none⟩)), (18, .pointer (some ⟨db, 1, none⟩)), (19, .int .i64 who), (20, .pointer (some ⟨db, 2, none⟩)), (21, .int .i64 a), (22, .int .i64 ((m.join who a).err)), (23, .pointer (some ⟨r, 0, none⟩)), (24, .pointer (some ⟨db, 1, none⟩)), (25, .int .i64 who), (26, .pointer (some ⟨db, 2, none⟩)), (27, .int .i64 a)]) 27 (show ([17, 18, 19, 20, 21, 22, 23, 24, 25, 26, 27] : List Nat).Nodup by decide) (by kernel_rfl)).trans rfl)) (rjoin_any a hRC) fun e w2 hr' => ?_
      obtain ⟨rfl, hk2, G', hc2, hg2⟩ := hr'
      have k2 := HP.out w2 ((k1.ref hk2 hc2 hg2).mono (by omega) (by omega))
      refine ⟨_, rfl, ?_⟩
      change tailWp _ _ _ _ (Act.put _ (some 28) _) _
      rw [put_list, setAll_app]
      simp only [List.cons_append, List.nil_append]
      refine op_value rfl rfl (run_eqlapiErrno (p := (m.join who a).err) (q := (m.join who a).err) w2 rfl ((eval_setAll (t := [(17, .pointer (some ⟨c, 0, none⟩)), (18, .pointer (some ⟨db, 1, none⟩)), (19, .int .i64 who), (20, .pointer (some ⟨db, 2, none⟩)), (21, .int .i64 a), (22, .int .i64 ((m.join who a).err)), (23, .pointer (some ⟨r, 0, none⟩)), (24, .pointer (some ⟨db, 1, none⟩)), (25, .int .i64 who), (26, .pointer (some ⟨db, 2, none⟩)), (27, .int .i64 a), (28, .int .i64 ((m.join who a).err))]) 22 (show ([17, 18, 19, 20, 21, 22, 23, 24, 25, 26, 27, 28] : List Nat).Nodup by decide) (by kernel_rfl)).trans rfl) ((eval_setAll (t := [(17, .pointer (some ⟨c, 0, none⟩)), (18, .pointer (some ⟨db, 1, none⟩)), (19, .int .i64 who), (20, .pointer (some ⟨db, 2, none⟩)), (21, .int .i64 a), (22, .int .i64 ((m.join who a).err)), (23, .pointer (some ⟨r, 0, none⟩)), (24, .pointer (some ⟨db, 1, none⟩)), (25, .int .i64 who), (26, .pointer (some ⟨db, 2, none⟩)), (27, .int .i64 a), (28, .int .i64 ((m.join who a).err))]) 28 (show ([17, 18, 19, 20, 21, 22, 23, 24, 25, 26, 27, 28] : List Nat).Nodup by decide) (by kernel_rfl)).trans rfl)) ?_
      change tailWp _ _ _ _ (Act.put _ (some 29) _) _
      rw [put_list, setAll_app]
      simp only [List.cons_append, List.nil_append]
      refine op_value rfl rfl (run_assignL w2 rfl ((eval_setAll (t := [(17, .pointer (some ⟨c, 0, none⟩)), (18, .pointer (some ⟨db, 1, none⟩)), (19, .int .i64 who), (20, .pointer (some ⟨db, 2, none⟩)), (21, .int .i64 a), (22, .int .i64 ((m.join who a).err)), (23, .pointer (some ⟨r, 0, none⟩)), (24, .pointer (some ⟨db, 1, none⟩)), (25, .int .i64 who), (26, .pointer (some ⟨db, 2, none⟩)), (27, .int .i64 a), (28, .int .i64 ((m.join who a).err)), (29, .bool ((m.join who a).err == (m.join who a).err))]) 29 (show ([17, 18, 19, 20, 21, 22, 23, 24, 25, 26, 27, 28, 29] : List Nat).Nodup by decide) (by kernel_rfl)).trans rfl)) ⟨rfl, ?_, k2⟩
      change Act.put _ (some 6) _ = _
      rw [put_list, setAll_app]
      rfl)) ?_
  rintro e a' w' ⟨rfl, rfl, hp'⟩
  dsimp only [setAll, List.set, List.append_nil, List.cons_append, List.nil_append]
  generalize (m.join who a).err = E at *
  simp only [beq_self_eq_true]
  go_wp2_with fail
  exact hp'
end Go.Proofs.Ytcnkcbipkchoiag
namespace Go.Proofs.Ytcnkcbipkchoiag
open Go.ChangeShapes Go.WideShapes Go.ChangeAt Go.RowKit
set_option maxRecDepth 100000 in
set_option maxHeartbeats 8000000 in
theorem deed1 {w0 w : World} {c r n : Nat} {m : CoM} (d : DeedM) (k : Du w0 w c r m n) (ok : d.ok) (_hn : n < 3518437208880) (hk : d.kind = 1) : Calls Try.prog 25 #[ptrV c, ptrV r, d.val] w (DeedPost w0 c r m d n) := by
  have k0 := k.lay 72 d.cells
  have hm : m.deed d = (m.attach d.who d.a).m := by unfold CoM.deed; simp [hk]
  have HP : Hid (∀ w', Dd w0 w' c r w.heap.size 72 d.cells (m.attach d.who d.a).m (m.attach d.who d.a).m (n + 1) (n + 1) → DeedPost w0 c r m d n (.returned (.bool true)) w') := hid fun w' k' => ⟨rfl, _, by rw [hm]; exact k'⟩
  generalize DeedPost w0 c r m d n = P at *
  obtain ⟨z0, z1, z2, z3, z4, z5, z6⟩ := ok
  obtain ⟨kind, who, a, b, g, t, y, f⟩ := d
  dsimp only at *
  unfold DeedM.cells at *
  unfold DeedM.val
  dsimp only at *
  have Z1 := hid z1
  have Z4 := hid z4
  have Z5 := hid z5
  have Z6 := hid z6
  subst hk
  obtain ⟨W, eW⟩ : ∃ W, W = w.alloc (.cells #[.int .i64 1, .int .i64 who, .int .i64 a, .int .i64 b, .int .i64 g, .int .i64 t, .int .i64 y, .bool f] 72) := ⟨_, rfl⟩
  have k0 : Dd w0 W c r w.heap.size 72 [.int .i64 1, .int .i64 who, .int .i64 a, .int .i64 b, .int .i64 g, .int .i64 t, .int .i64 y, .bool f] m m n n := by rw [eW]; exact k0
  obtain ⟨F, FG, k0⟩ := k0
  have a0 : W.cell? ⟨w.heap.size, 0, none⟩ = some (.int .i64 1) := k0.da.cell 0
  have a1 : W.cell? ⟨w.heap.size, 1, none⟩ = some (.int .i64 who) := k0.da.cell 1
  have a2 : W.cell? ⟨w.heap.size, 2, none⟩ = some (.int .i64 a) := k0.da.cell 2
  have a3 : W.cell? ⟨w.heap.size, 3, none⟩ = some (.int .i64 b) := k0.da.cell 3
  have a4 : W.cell? ⟨w.heap.size, 4, none⟩ = some (.int .i64 g) := k0.da.cell 4
  have a5 : W.cell? ⟨w.heap.size, 5, none⟩ = some (.int .i64 t) := k0.da.cell 5
  have a6 : W.cell? ⟨w.heap.size, 6, none⟩ = some (.int .i64 y) := k0.da.cell 6
  have a7 : W.cell? ⟨w.heap.size, 7, none⟩ = some (.bool f) := k0.da.cell 7
  have K0 := hid k0
  have hdf := k0.df
  have hPC : ∀ wc, Below W.heap.size W wc → PCo wc c F m n := fun wc hb => K0.out.co.kept (Kept.of_below (S := []) hb) (by simp)
  have hmix : Try.prog.follows .mixedOrders = true := by kernel_rfl
  clear k k0 hm z0 z1 z2 z3 z4 z5 z6
  unfold ptrV
  go_enter Try.func25, Try.ntmps25
  go_upto_region 1 with fail
  rw [← eW]
  clear eW
  generalize w.heap.size = db at *
  go_upto_region 5 with fail
  refine wp_mono (region_knownU (Q := fun e a' w' => e = .normal ∧ a' = ({ tmps := (setAll _ [(32, .pointer (some ⟨c, 0, none⟩)), (33, .pointer (some ⟨db, 1, none⟩)), (34, .int .i64 who), (35, .pointer (some ⟨db, 2, none⟩)), (36, .int .i64 a), (37, .int .i64 ((m.attach who a).err)), (38, .pointer (some ⟨r, 0, none⟩)), (39, .pointer (some ⟨db, 1, none⟩)), (40, .int .i64 who), (41, .pointer (some ⟨db, 2, none⟩)), (42, .int .i64 a), (43, .int .i64 ((m.attach who a).err)), (44, .bool ((m.attach who a).err == (m.attach who a).err)), (6, .bool ((m.attach who a).err == (m.attach who a).err))]).toArray, defers := [] } : Act) ∧ P (.returned (.bool true)) w') 14 11 5 F (fun w' => ∃ F', PCo w' c F' (m.attach who a).m n ∧ Grown W.heap.size F F') [(32, .pointer (some ⟨c, 0, none⟩)), (33, .pointer (some ⟨db, 1, none⟩)), (34, .int .i64 who), (35, .pointer (some ⟨db, 2, none⟩)), (36, .int .i64 a), (37, .int .i64 ((m.attach who a).err)), (38, .pointer (some ⟨r, 0, none⟩)), (39, .pointer (some ⟨db, 1, none⟩)), (40, .int .i64 who), (41, .pointer (some ⟨db, 2, none⟩)), (42, .int .i64 a)]
    [[0], [5], [33], [5], [35], [32, 34, 36], [1], [5], [39], [5], [41]] [5, 2, 5, 4, 5, 11, 11, 8, 11, 10, 11] W hmix rfl (by decide) rfl (show ([32, 33, 34, 35, 36, 37, 38, 39, 40, 41, 42] : List Nat).Nodup by decide) (by kernel_rfl) (by kernel_rfl) (by kernel_rfl) (by kernel_rfl) (by kernel_rfl) (by kernel_rfl) (fun _ _ h hk => by obtain ⟨F', h1, h2⟩ := h; exact ⟨F', h1.kept hk (by simp), h2⟩)
    (fun i' hi' hiu ac wc hk hr Q K hK => by
      have hor : i' = 0 ∨ i' = 1 ∨ i' = 2 ∨ i' = 3 ∨ i' = 4 ∨ i' = 5 ∨ i' = 6 ∨ i' = 7 ∨ i' = 8 ∨ i' = 9 ∨ i' = 10 := by omega
      rcases hor with rfl | rfl | rfl | rfl | rfl | rfl | rfl | rfl | rfl | rfl | rfl
      · have e0 : ac.eval (.tmp 0) = .pointer (some ⟨c, 0, none⟩) := hr 0 (by decide)
        exact op_value rfl rfl (run_moveQ wc rfl e0) (hK wc (keptU wc))
      · have e5 : ac.eval (.tmp 5) = .pointer (some ⟨db, 0, none⟩) := hr 5 (by decide)
        exact op_value rfl rfl (run_fdroamlawDeed1 wc rfl e5) (hK wc (keptU wc))
      · have e33 : ac.eval (.tmp 33) = .pointer (some ⟨db, 1, none⟩) := hr 33 (by decide)
        exact op_value rfl rfl (run_ldint wc rfl e33 (hk.cell_offD a1 hdf)) (hK wc (keptU wc))
      · have e5 : ac.eval (.tmp 5) = .pointer (some ⟨db, 0, none⟩) := hr 5 (by decide)
        exact op_value rfl rfl (run_fdroamlawDeed2 wc rfl e5) (hK wc (keptU wc))
      · have e35 : ac.eval (.tmp 35) = .pointer (some ⟨db, 2, none⟩) := hr 35 (by decide)
        exact op_value rfl rfl (run_ldint wc rfl e35 (hk.cell_offD a2 hdf)) (hK wc (keptU wc))
      · exact absurd rfl hiu
      · have e1 : ac.eval (.tmp 1) = .pointer (some ⟨r, 0, none⟩) := hr 1 (by decide)
        exact op_value rfl rfl (run_moveQ wc rfl e1) (hK wc (keptU wc))
      · have e5 : ac.eval (.tmp 5) = .pointer (some ⟨db, 0, none⟩) := hr 5 (by decide)
        exact op_value rfl rfl (run_fdroamlawDeed1 wc rfl e5) (hK wc (keptU wc))
      · have e39 : ac.eval (.tmp 39) = .pointer (some ⟨db, 1, none⟩) := hr 39 (by decide)
        exact op_value rfl rfl (run_ldint wc rfl e39 (hk.cell_offD a1 hdf)) (hK wc (keptU wc))
      · have e5 : ac.eval (.tmp 5) = .pointer (some ⟨db, 0, none⟩) := hr 5 (by decide)
        exact op_value rfl rfl (run_fdroamlawDeed2 wc rfl e5) (hK wc (keptU wc))
      · have e41 : ac.eval (.tmp 41) = .pointer (some ⟨db, 2, none⟩) := hr 41 (by decide)
        exact op_value rfl rfl (run_ldint wc rfl e41 (hk.cell_offD a2 hdf)) (hK wc (keptU wc)))
    (fun _ ac wc hb hr Q K hK => by
      have e32 : ac.eval (.tmp 32) = .pointer (some ⟨c, 0, none⟩) := hr 32 (by decide)
      have e34 : ac.eval (.tmp 34) = .int .i64 who := hr 34 (by decide)
      have e36 : ac.eval (.tmp 36) = .int .i64 a := hr 36 (by decide)
      refine op_callNL rfl rfl rfl (enters_of Try.func32 (by kernel_rfl) rfl) (map3L e32 e34 e36) (cattach_co a (hPC wc hb) Z1.out) fun e w' hr' => ?_
      obtain ⟨rfl, hk', F', hc', hg'⟩ := hr'
      exact ⟨_, rfl, hK w' hk' ⟨F', hc', fun x hx => (hg' x hx).elim .inl (fun h => .inr (Nat.le_trans hb.size h))⟩⟩)
    (fun wc hk hu => by
      obtain ⟨F', hc1, hg1⟩ := hu (by decide)
      obtain ⟨F2, G2, k1⟩ := K0.out.prog hk hc1 hg1
      have hRC := k1.rc
      refine op_callNL rfl rfl rfl (enters_of Try.func66 (by kernel_rfl) rfl) (map3L ((eval_setAll (t := [(32, .pointer (some ⟨c, 0, none⟩)), (33, .pointer (some ⟨db, 1, none⟩)), (34, .int .i64 who), (35, .pointer (some ⟨db, 2, none⟩)), (36, .int .i64 a), (37, .int .i64 ((m.attach who a).err)), (38, .pointer (some ⟨r, 0, none⟩)), (39, .pointer (some ⟨db, 1, none⟩)), (40, .int .i64 who), (41, .pointer (some ⟨db, 2, none⟩)), (42, .int .i64 a)]) 38 (show ([32, 33, 34, 35, 36, 37, 38, 39, 40, 41, 42] : List Nat).Nodup by decide) (by kernel_rfl)).trans rfl) ((eval_setAll (t := [(32, .pointer (some ⟨c, 0, none⟩)), (33, .pointer (some ⟨db, 1, none⟩)), (34, .int .i64 who), (35, .pointer (some ⟨db, 2, none⟩)), (36, .int .i64 a), (37, .int .i64 ((m.attach who a).err)), (38, .pointer (some ⟨r, 0, none⟩)), (39, .pointer (some ⟨db, 1, none⟩)), (40, .int .i64 who), (41, .pointer (some ⟨db, 2, none⟩)), (42, .int .i64 a)]) 40 (show ([32, 33, 34, 35, 36, 37, 38, 39, 40, 41, 42] : List Nat).Nodup by decide) (by kernel_rfl)).trans rfl) ((eval_setAll (t := [(32, .pointer (some ⟨c, 0, none⟩)), (33, .pointer (some ⟨db, 1, none⟩)), (34, .int .i64 who), (35, .pointer (some ⟨db, 2, none⟩)), (36, .int .i64 a), (37, .int .i64 ((m.attach who a).err)), (38, .pointer (some ⟨r, 0, none⟩)), (39, .pointer (some ⟨db, 1, none⟩)), (40, .int .i64 who), (41, .pointer (some ⟨db, 2, none⟩)), (42, .int .i64 a)]) 42 (show ([32, 33, 34, 35, 36, 37, 38, 39, 40, 41, 42] : List Nat).Nodup by decide) (by kernel_rfl)).trans rfl)) (rattach_any a hRC) fun e w2 hr' => ?_
      obtain ⟨rfl, hk2, G', hc2, hg2⟩ := hr'
      have k2 := HP.out w2 ((k1.ref hk2 hc2 hg2).mono (by omega) (by omega))
      refine ⟨_, rfl, ?_⟩
      change tailWp _ _ _ _ (Act.put _ (some 43) _) _
      rw [put_list, setAll_app]
      simp only [List.cons_append, List.nil_append]
      refine op_value rfl rfl (run_eqlapiErrno (p := (m.attach who a).err) (q := (m.attach who a).err) w2 rfl ((eval_setAll (t := [(32, .pointer (some ⟨c, 0, none⟩)), (33, .pointer (some ⟨db, 1, none⟩)), (34, .int .i64 who), (35, .pointer (some ⟨db, 2, none⟩)), (36, .int .i64 a), (37, .int .i64 ((m.attach who a).err)), (38, .pointer (some ⟨r, 0, none⟩)), (39, .pointer (some ⟨db, 1, none⟩)), (40, .int .i64 who), (41, .pointer (some ⟨db, 2, none⟩)), (42, .int .i64 a), (43, .int .i64 ((m.attach who a).err))]) 37 (show ([32, 33, 34, 35, 36, 37, 38, 39, 40, 41, 42, 43] : List Nat).Nodup by decide) (by kernel_rfl)).trans rfl) ((eval_setAll (t := [(32, .pointer (some ⟨c, 0, none⟩)), (33, .pointer (some ⟨db, 1, none⟩)), (34, .int .i64 who), (35, .pointer (some ⟨db, 2, none⟩)), (36, .int .i64 a), (37, .int .i64 ((m.attach who a).err)), (38, .pointer (some ⟨r, 0, none⟩)), (39, .pointer (some ⟨db, 1, none⟩)), (40, .int .i64 who), (41, .pointer (some ⟨db, 2, none⟩)), (42, .int .i64 a), (43, .int .i64 ((m.attach who a).err))]) 43 (show ([32, 33, 34, 35, 36, 37, 38, 39, 40, 41, 42, 43] : List Nat).Nodup by decide) (by kernel_rfl)).trans rfl)) ?_
      change tailWp _ _ _ _ (Act.put _ (some 44) _) _
      rw [put_list, setAll_app]
      simp only [List.cons_append, List.nil_append]
      refine op_value rfl rfl (run_assignL w2 rfl ((eval_setAll (t := [(32, .pointer (some ⟨c, 0, none⟩)), (33, .pointer (some ⟨db, 1, none⟩)), (34, .int .i64 who), (35, .pointer (some ⟨db, 2, none⟩)), (36, .int .i64 a), (37, .int .i64 ((m.attach who a).err)), (38, .pointer (some ⟨r, 0, none⟩)), (39, .pointer (some ⟨db, 1, none⟩)), (40, .int .i64 who), (41, .pointer (some ⟨db, 2, none⟩)), (42, .int .i64 a), (43, .int .i64 ((m.attach who a).err)), (44, .bool ((m.attach who a).err == (m.attach who a).err))]) 44 (show ([32, 33, 34, 35, 36, 37, 38, 39, 40, 41, 42, 43, 44] : List Nat).Nodup by decide) (by kernel_rfl)).trans rfl)) ⟨rfl, ?_, k2⟩
      change Act.put _ (some 6) _ = _
      rw [put_list, setAll_app]
      rfl)) ?_
  rintro e a' w' ⟨rfl, rfl, hp'⟩
  dsimp only [setAll, List.set, List.append_nil, List.cons_append, List.nil_append]
  generalize (m.attach who a).err = E at *
  simp only [beq_self_eq_true]
  go_wp2_with fail
  exact hp'
end Go.Proofs.Ytcnkcbipkchoiag
