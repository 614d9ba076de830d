import Derived.Test.YtcnkcbipkchoiagK28
namespace Go.Proofs.Ytcnkcbipkchoiag
open Go.ChangeShapes Go.WideShapes Go.ChangeAt Go.RowKit
set_option maxRecDepth 100000 in
set_option maxHeartbeats 8000000 in
theorem deed5 {w0 w : World} {c r n : Nat} {m : CoM} (d : DeedM) (k : Du w0 w c r m n) (ok : d.ok) (_hn : n < 3518437208880) (hk : d.kind = 5) : Calls Try.prog 25 #[ptrV c, ptrV r, d.val] w (DeedPost w0 c r m d n) := by
  have k0 := k.lay 72 d.cells
  have hm : m.deed d = (m.hand d.who d.a d.b).m := by unfold CoM.deed; simp [hk]
  have HP : Hid (∀ w', Dd w0 w' c r w.heap.size 72 d.cells (m.hand d.who d.a d.b).m (m.hand d.who d.a d.b).m (n + 1) (n + 1) → DeedPost w0 c r m d n (.returned (.bool true)) w') := hid fun w' k' => ⟨rfl, _, by rw [hm]; exact k'⟩
  generalize DeedPost w0 c r m d n = P at *
  obtain ⟨z0, z1, z2, z3, z4, z5, z6⟩ := ok
  obtain ⟨kind, who, a, b, g, t, y, f⟩ := d
  dsimp only at *
  unfold DeedM.cells at *
  unfold DeedM.val
  dsimp only at *
  have Z1 := hid z1
  have Z4 := hid z4
  have Z5 := hid z5
  have Z6 := hid z6
  subst hk
  obtain ⟨W, eW⟩ : ∃ W, W = w.alloc (.cells #[.int .i64 5, .int .i64 who, .int .i64 a, .int .i64 b, .int .i64 g, .int .i64 t, .int .i64 y, .bool f] 72) := ⟨_, rfl⟩
  have k0 : Dd w0 W c r w.heap.size 72 [.int .i64 5, .int .i64 who, .int .i64 a, .int .i64 b, .int .i64 g, .int .i64 t, .int .i64 y, .bool f] m m n n := by rw [eW]; exact k0
  obtain ⟨F, FG, k0⟩ := k0
  have a0 : W.cell? ⟨w.heap.size, 0, none⟩ = some (.int .i64 5) := k0.da.cell 0
  have a1 : W.cell? ⟨w.heap.size, 1, none⟩ = some (.int .i64 who) := k0.da.cell 1
  have a2 : W.cell? ⟨w.heap.size, 2, none⟩ = some (.int .i64 a) := k0.da.cell 2
  have a3 : W.cell? ⟨w.heap.size, 3, none⟩ = some (.int .i64 b) := k0.da.cell 3
  have a4 : W.cell? ⟨w.heap.size, 4, none⟩ = some (.int .i64 g) := k0.da.cell 4
  have a5 : W.cell? ⟨w.heap.size, 5, none⟩ = some (.int .i64 t) := k0.da.cell 5
  have a6 : W.cell? ⟨w.heap.size, 6, none⟩ = some (.int .i64 y) := k0.da.cell 6
  have a7 : W.cell? ⟨w.heap.size, 7, none⟩ = some (.bool f) := k0.da.cell 7
  have K0 := hid k0
  have hdf := k0.df
  have hPC : ∀ wc, Below W.heap.size W wc → PCo wc c F m n := fun wc hb => K0.out.co.kept (Kept.of_below (S := []) hb) (by simp)
  have hmix : Try.prog.follows .mixedOrders = true := by kernel_rfl
  clear k k0 hm z0 z1 z2 z3 z4 z5 z6
  unfold ptrV
  go_enter Try.func25, Try.ntmps25
  go_upto_region 1 with fail
  rw [← eW]
  clear eW
  generalize w.heap.size = db at *
  go_upto_region 13 with fail
  refine wp_mono (region_knownU (Q := fun e a' w' => e = .normal ∧ a' = ({ tmps := (setAll _ [(84, .pointer (some ⟨c, 0, none⟩)), (85, .pointer (some ⟨db, 1, none⟩)), (86, .int .i64 who), (87, .pointer (some ⟨db, 2, none⟩)), (88, .int .i64 a), (89, .pointer (some ⟨db, 3, none⟩)), (90, .int .i64 b), (91, .int .i64 ((m.hand who a b).err)), (92, .pointer (some ⟨r, 0, none⟩)), (93, .pointer (some ⟨db, 1, none⟩)), (94, .int .i64 who), (95, .pointer (some ⟨db, 2, none⟩)), (96, .int .i64 a), (97, .pointer (some ⟨db, 3, none⟩)), (98, .int .i64 b), (99, .int .i64 ((m.hand who a b).err)), (100, .bool ((m.hand who a b).err == (m.hand who a b).err)), (6, .bool ((m.hand who a b).err == (m.hand who a b).err))]).toArray, defers := [] } : Act) ∧ P (.returned (.bool true)) w') 18 15 7 F (fun w' => ∃ F', PCo w' c F' (m.hand who a b).m n ∧ Grown W.heap.size F F') [(84, .pointer (some ⟨c, 0, none⟩)), (85, .pointer (some ⟨db, 1, none⟩)), (86, .int .i64 who), (87, .pointer (some ⟨db, 2, none⟩)), (88, .int .i64 a), (89, .pointer (some ⟨db, 3, none⟩)), (90, .int .i64 b), (91, .int .i64 ((m.hand who a b).err)), (92, .pointer (some ⟨r, 0, none⟩)), (93, .pointer (some ⟨db, 1, none⟩)), (94, .int .i64 who), (95, .pointer (some ⟨db, 2, none⟩)), (96, .int .i64 a), (97, .pointer (some ⟨db, 3, none⟩)), (98, .int .i64 b)]
    [[0], [5], [85], [5], [87], [5], [89], [84, 86, 88, 90], [1], [5], [93], [5], [95], [5], [97]] [7, 2, 7, 4, 7, 6, 7, 15, 15, 10, 15, 12, 15, 14, 15] W hmix rfl (by decide) rfl (show ([84, 85, 86, 87, 88, 89, 90, 91, 92, 93, 94, 95, 96, 97, 98] : List Nat).Nodup by decide) (by kernel_rfl) (by kernel_rfl) (by kernel_rfl) (by kernel_rfl) (by kernel_rfl) (by kernel_rfl) (fun _ _ h hk => by obtain ⟨F', h1, h2⟩ := h; exact ⟨F', h1.kept hk (by simp), h2⟩)
    (fun i' hi' hiu ac wc hk hr Q K hK => by
      have hor : i' = 0 ∨ i' = 1 ∨ i' = 2 ∨ i' = 3 ∨ i' = 4 ∨ i' = 5 ∨ i' = 6 ∨ i' = 7 ∨ i' = 8 ∨ i' = 9 ∨ i' = 10 ∨ i' = 11 ∨ i' = 12 ∨ i' = 13 ∨ i' = 14 := by omega
      rcases hor with rfl | rfl | rfl | rfl | rfl | rfl | rfl | rfl | rfl | rfl | rfl | rfl | rfl | rfl | rfl
      · have e0 : ac.eval (.tmp 0) = .pointer (some ⟨c, 0, none⟩) := hr 0 (by decide)
        exact op_value rfl rfl (run_moveQ wc rfl e0) (hK wc (keptU wc))
      · have e5 : ac.eval (.tmp 5) = .pointer (some ⟨db, 0, none⟩) := hr 5 (by decide)
        exact op_value rfl rfl (run_fdroamlawDeed1 wc rfl e5) (hK wc (keptU wc))
      · have e85 : ac.eval (.tmp 85) = .pointer (some ⟨db, 1, none⟩) := hr 85 (by decide)
        exact op_value rfl rfl (run_ldint wc rfl e85 (hk.cell_offD a1 hdf)) (hK wc (keptU wc))
      · have e5 : ac.eval (.tmp 5) = .pointer (some ⟨db, 0, none⟩) := hr 5 (by decide)
        exact op_value rfl rfl (run_fdroamlawDeed2 wc rfl e5) (hK wc (keptU wc))
      · have e87 : ac.eval (.tmp 87) = .pointer (some ⟨db, 2, none⟩) := hr 87 (by decide)
        exact op_value rfl rfl (run_ldint wc rfl e87 (hk.cell_offD a2 hdf)) (hK wc (keptU wc))
      · have e5 : ac.eval (.tmp 5) = .pointer (some ⟨db, 0, none⟩) := hr 5 (by decide)
        exact op_value rfl rfl (run_fdroamlawDeed3 wc rfl e5) (hK wc (keptU wc))
      · have e89 : ac.eval (.tmp 89) = .pointer (some ⟨db, 3, none⟩) := hr 89 (by decide)
        exact op_value rfl rfl (run_ldint wc rfl e89 (hk.cell_offD a3 hdf)) (hK wc (keptU wc))
      · exact absurd rfl hiu
      · have e1 : ac.eval (.tmp 1) = .pointer (some ⟨r, 0, none⟩) := hr 1 (by decide)
        exact op_value rfl rfl (run_moveQ wc rfl e1) (hK wc (keptU wc))
      · have e5 : ac.eval (.tmp 5) = .pointer (some ⟨db, 0, none⟩) := hr 5 (by decide)
        exact op_value rfl rfl (run_fdroamlawDeed1 wc rfl e5) (hK wc (keptU wc))
      · have e93 : ac.eval (.tmp 93) = .pointer (some ⟨db, 1, none⟩) := hr 93 (by decide)
        exact op_value rfl rfl (run_ldint wc rfl e93 (hk.cell_offD a1 hdf)) (hK wc (keptU wc))
      · have e5 : ac.eval (.tmp 5) = .pointer (some ⟨db, 0, none⟩) := hr 5 (by decide)
        exact op_value rfl rfl (run_fdroamlawDeed2 wc rfl e5) (hK wc (keptU wc))
      · have e95 : ac.eval (.tmp 95) = .pointer (some ⟨db, 2, none⟩) := hr 95 (by decide)
        exact op_value rfl rfl (run_ldint wc rfl e95 (hk.cell_offD a2 hdf)) (hK wc (keptU wc))
      · have e5 : ac.eval (.tmp 5) = .pointer (some ⟨db, 0, none⟩) := hr 5 (by decide)
        exact op_value rfl rfl (run_fdroamlawDeed3 wc rfl e5) (hK wc (keptU wc))
      · have e97 : ac.eval (.tmp 97) = .pointer (some ⟨db, 3, none⟩) := hr 97 (by decide)
        exact op_value rfl rfl (run_ldint wc rfl e97 (hk.cell_offD a3 hdf)) (hK wc (keptU wc)))
    (fun _ ac wc hb hr Q K hK => by
      have e84 : ac.eval (.tmp 84) = .pointer (some ⟨c, 0, none⟩) := hr 84 (by decide)
      have e86 : ac.eval (.tmp 86) = .int .i64 who := hr 86 (by decide)
      have e88 : ac.eval (.tmp 88) = .int .i64 a := hr 88 (by decide)
      have e90 : ac.eval (.tmp 90) = .int .i64 b := hr 90 (by decide)
      refine op_callNL rfl rfl rfl (enters_of Try.func71 (by kernel_rfl) rfl) (map4L e84 e86 e88 e90) (chand_co a b (hPC wc hb) Z1.out) fun e w' hr' => ?_
      obtain ⟨rfl, hk', F', hc', hg'⟩ := hr'
      exact ⟨_, rfl, hK w' hk' ⟨F', hc', fun x hx => (hg' x hx).elim .inl (fun h => .inr (Nat.le_trans hb.size h))⟩⟩)
    (fun wc hk hu => by
      obtain ⟨F', hc1, hg1⟩ := hu (by decide)
      obtain ⟨F2, G2, k1⟩ := K0.out.prog hk hc1 hg1
      have hRC := k1.rc
      refine op_callNL rfl rfl rfl (enters_of Try.func72 (by kernel_rfl) rfl) (map4L ((eval_setAll (t := [(84, .pointer (some ⟨c, 0, none⟩)), (85, .pointer (some ⟨db, 1, none⟩)), (86, .int .i64 who), (87, .pointer (some ⟨db, 2, none⟩)), (88, .int .i64 a), (89, .pointer (some ⟨db, 3, none⟩)), (90, .int .i64 b), (91, .int .i64 ((m.hand who a b).err)), (92, .pointer (some ⟨r, 0, none⟩)), (93, .pointer (some ⟨db, 1, none⟩)), (94, .int .i64 who), (95, .pointer (some ⟨db, 2, none⟩)), (96, .int .i64 a), (97, .pointer (some ⟨db, 3, none⟩)), (98, .int .i64 b)]) 92 (show ([84, 85, 86, 87, 88, 89, 90, 91, 92, 93, 94, 95, 96, 97, 98] : List Nat).Nodup by decide) (by kernel_rfl)).trans rfl) ((eval_setAll (t := [(84, .pointer (some ⟨c, 0, none⟩)), (85, .pointer (some ⟨db, 1, none⟩)), (86, .int .i64 who), (87, .pointer (some ⟨db, 2, none⟩)), (88, .int .i64 a), (89, .pointer (some ⟨db, 3, none⟩)), (90, .int .i64 b), (91, .int .i64 ((m.hand who a b).err)), (92, .pointer (some ⟨r, 0, none⟩)), (93, .pointer (some ⟨db, 1, none⟩)), (94, .int .i64 who), (95, .pointer (some ⟨db, 2, none⟩)), (96, .int .i64 a), (97, .pointer (some ⟨db, 3, none⟩)), (98, .int .i64 b)]) 94 (show ([84, 85, 86, 87, 88, 89, 90, 91, 92, 93, 94, 95, 96, 97, 98] : List Nat).Nodup by decide) (by kernel_rfl)).trans rfl) ((eval_setAll (t := [(84, .pointer (some ⟨c, 0, none⟩)), (85, .pointer (some ⟨db, 1, none⟩)), (86, .int .i64 who), (87, .pointer (some ⟨db, 2, none⟩)), (88, .int .i64 a), (89, .pointer (some ⟨db, 3, none⟩)), (90, .int .i64 b), (91, .int .i64 ((m.hand who a b).err)), (92, .pointer (some ⟨r, 0, none⟩)), (93, .pointer (some ⟨db, 1, none⟩)), (94, .int .i64 who), (95, .pointer (some ⟨db, 2, none⟩)), (96, .int .i64 a), (97, .pointer (some ⟨db, 3, none⟩)), (98, .int .i64 b)]) 96 (show ([84, 85, 86, 87, 88, 89, 90, 91, 92, 93, 94, 95, 96, 97, 98] : List Nat).Nodup by decide) (by kernel_rfl)).trans rfl) ((eval_setAll (t := [(84, .pointer (some ⟨c, 0, none⟩)), (85, .pointer (some ⟨db, 1, none⟩)), (86, .int .i64 who), (87, .pointer (some ⟨db, 2, none⟩)), (88, .int .i64 a), (89, .pointer (some ⟨db, 3, none⟩)), (90, .int .i64 b), (91, .int .i64 ((m.hand who a b).err)), (92, .pointer (some ⟨r, 0, none⟩)), (93, .pointer (some ⟨db, 1, none⟩)), (94, .int .i64 who), (95, .pointer (some ⟨db, 2, none⟩)), (96, .int .i64 a), (97, .pointer (some ⟨db, 3, none⟩)), (98, .int .i64 b)]) 98 (show ([84, 85, 86, 87, 88, 89, 90, 91, 92, 93, 94, 95, 96, 97, 98] : List Nat).Nodup by decide) (by kernel_rfl)).trans rfl)) (rhand_any a b hRC) fun e w2 hr' => ?_
      obtain ⟨rfl, hk2, G', hc2, hg2⟩ := hr'
      have k2 := HP.out w2 ((k1.ref hk2 hc2 hg2).mono (by omega) (by omega))
      refine ⟨_, rfl, ?_⟩
      change tailWp _ _ _ _ (Act.put _ (some 99) _) _
      rw [put_list, setAll_app]
      simp only [List.cons_append, List.nil_append]
      refine op_value rfl rfl (run_eqlapiErrno (p := (m.hand who a b).err) (q := (m.hand who a b).err) w2 rfl ((eval_setAll (t := [(84, .pointer (some ⟨c, 0, none⟩)), (85, .pointer (some ⟨db, 1, none⟩)), (86, .int .i64 who), (87, .pointer (some ⟨db, 2, none⟩)), (88, .int .i64 a), (89, .pointer (some ⟨db, 3, none⟩)), (90, .int .i64 b), (91, .int .i64 ((m.hand who a b).err)), (92, .pointer (some ⟨r, 0, none⟩)), (93, .pointer (some ⟨db, 1, none⟩)), (94, .int .i64 who), (95, .pointer (some ⟨db, 2, none⟩)), (96, .int .i64 a), (97, .pointer (some ⟨db, 3, none⟩)), (98, .int .i64 b), (99, .int .i64 ((m.hand who a b).err))]) 91 (show ([84, 85, 86, 87, 88, 89, 90, 91, 92, 93, 94, 95, 96, 97, 98, 99] : List Nat).Nodup by decide) (by kernel_rfl)).trans rfl) ((eval_setAll (t := [(84, .pointer (some ⟨c, 0, none⟩)), (85, .pointer (some ⟨db, 1, none⟩)), (86, .int .i64 who), (87, .pointer (some ⟨db, 2, none⟩)), (88, .int .i64 a), (89, .pointer (some ⟨db, 3, none⟩)), (90, .int .i64 b), (91, .int .i64 ((m.hand who a b).err)), (92, .pointer (some ⟨r, 0, none⟩)), (93, .pointer (some ⟨db, 1, none⟩)), (94, .int .i64 who), (95, .pointer (some ⟨db, 2, none⟩)), (96, .int .i64 a), (97, .pointer (some ⟨db, 3, none⟩)), (98, .int .i64 b), (99, .int .i64 ((m.hand who a b).err))]) 99 (show ([84, 85, 86, 87, 88, 89, 90, 91, 92, 93, 94, 95, 96, 97, 98, 99] : List Nat).Nodup by decide) (by kernel_rfl)).trans rfl)) ?_
      change tailWp _ _ _ _ (Act.put _ (some 100) _) _
      rw [put_list, setAll_app]
      simp only [List.cons_append, List.nil_append]
      refine op_value rfl rfl (run_assignL w2 rfl ((eval_setAll (t := [(84, .pointer (some ⟨c, 0, none⟩)), (85, .pointer (some ⟨db, 1, none⟩)), (86, .int .i64 who), (87, .pointer (some ⟨db, 2, none⟩)), (88, .int .i64 a), (89, .pointer (some ⟨db, 3, none⟩)), (90, .int .i64 b), (91, .int .i64 ((m.hand who a b).err)), (92, .pointer (some ⟨r, 0, none⟩)), (93, .pointer (some ⟨db, 1, none⟩)), (94, .int .i64 who), (95, .pointer (some ⟨db, 2, none⟩)), (96, .int .i64 a), (97, .pointer (some ⟨db, 3, none⟩)), (98, .int .i64 b), (99, .int .i64 ((m.hand who a b).err)), (100, .bool ((m.hand who a b).err == (m.hand who a b).err))]) 100 (show ([84, 85, 86, 87, 88, 89, 90, 91, 92, 93, 94, 95, 96, 97, 98, 99, 100] : List Nat).Nodup by decide) (by kernel_rfl)).trans rfl)) ⟨rfl, ?_, k2⟩
      change Act.put _ (some 6) _ = _
      rw [put_list, setAll_app]
      rfl)) ?_
  rintro e a' w' ⟨rfl, rfl, hp'⟩
  dsimp only [setAll, List.set, List.append_nil, List.cons_append, List.nil_append]
  generalize (m.hand who a b).err = E at *
  simp only [beq_self_eq_true]
  go_wp2_with fail
  exact hp'
end Go.Proofs.Ytcnkcbipkchoiag
namespace Go.Proofs.Ytcnkcbipkchoiag
open Go.ChangeShapes Go.WideShapes Go.ChangeAt Go.RowKit
set_option maxRecDepth 100000 in
set_option maxHeartbeats 8000000 in
theorem deed6 {w0 w : World} {c r n : Nat} {m : CoM} (d : DeedM) (k : Du w0 w c r m n) (ok : d.ok) (hn : n < 3518437208880) (hk : d.kind = 6) : Calls Try.prog 25 #[ptrV c, ptrV r, d.val] w (DeedPost w0 c r m d n) := by
  have k0 := k.lay 72 d.cells
  have hm : m.deed d = m.lent' d.who := by unfold CoM.deed; simp [hk]
  have HP : Hid (∀ w', Dd w0 w' c r w.heap.size 72 d.cells (m.lent' d.who) (m.lent' d.who) (n + 1) (n + 1) → DeedPost w0 c r m d n (.returned (.bool true)) w') := hid fun w' k' => ⟨rfl, _, by rw [hm]; exact k'⟩
  generalize DeedPost w0 c r m d n = P at *
  obtain ⟨z0, z1, z2, z3, z4, z5, z6⟩ := ok
  obtain ⟨kind, who, a, b, g, t, y, f⟩ := d
  dsimp only at *
  unfold DeedM.cells at *
  unfold DeedM.val
  dsimp only at *
  have Z1 := hid z1
  subst hk
  obtain ⟨W, eW⟩ : ∃ W, W = w.alloc (.cells #[.int .i64 6, .int .i64 who, .int .i64 a, .int .i64 b, .int .i64 g, .int .i64 t, .int .i64 y, .bool f] 72) := ⟨_, rfl⟩
  have k0 : Dd w0 W c r w.heap.size 72 [.int .i64 6, .int .i64 who, .int .i64 a, .int .i64 b, .int .i64 g, .int .i64 t, .int .i64 y, .bool f] m m n n := by rw [eW]; exact k0
  have a0 : W.cell? ⟨w.heap.size, 0, none⟩ = some (.int .i64 6) := k0.at.cell 0
  have a1 : W.cell? ⟨w.heap.size, 1, none⟩ = some (.int .i64 who) := k0.at.cell 1
  have hp := dp_lend k0 z1 (by unfold manyN; omega)
  have HR : Hid (∀ w1, Dd w0 w1 c r w.heap.size 72 [.int .i64 6, .int .i64 who, .int .i64 a, .int .i64 b, .int .i64 g, .int .i64 t, .int .i64 y, .bool f] (m.lent' who) m (n + 1) n → w1.cell? ⟨w.heap.size, 1, none⟩ = some (.int .i64 who) ∧ Calls Try.prog 73 #[ptrV r, .int .i64 who] w1 fun e w' => e = .returned (.tuple #[.int .i64 (m.lendG who : Nat), .int .i64 (m.lendX who : Nat), .int .i64 (m.lendErr who)]) ∧ P (.returned (.bool true)) w') := hid fun w1 k1 => by
    refine ⟨k1.at.cell 1, (dr_lend k1 hn).mono ?_⟩
    rintro e w' ⟨h1, h2⟩
    exact ⟨h1, HP.out w' h2⟩
  generalize m.lendG who = A0 at *
  generalize m.lendX who = A1 at *
  generalize m.lendErr who = A2 at *
  clear k k0 hm z0 z1 z2 z3 z4 z5 z6
  unfold ptrV at *
  go_enter Try.func25, Try.ntmps25
  go_upto_region 1 with fail
  rw [← eW]
  clear eW
  generalize w.heap.size = db at *
  go_wp2_with (first
    | (go_at_call 33; refine hp.mono ?_; rintro e w1 ⟨rfl, k1⟩; obtain ⟨b1, hr⟩ := HR.out w1 k1; clear k1)
    | (go_at_call 73; refine hr.mono ?_; rintro e w2 ⟨rfl, hP⟩))
  exact hP
end Go.Proofs.Ytcnkcbipkchoiag
