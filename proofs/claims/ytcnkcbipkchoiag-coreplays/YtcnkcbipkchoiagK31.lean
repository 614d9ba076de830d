import Derived.Test.YtcnkcbipkchoiagK28
namespace Go.Proofs.Ytcnkcbipkchoiag
open Go.ChangeShapes Go.WideShapes Go.ChangeAt Go.RowKit
set_option maxRecDepth 100000 in
set_option maxHeartbeats 8000000 in
theorem deed4 {w0 w : World} {c r n : Nat} {m : CoM} (d : DeedM) (k : Du w0 w c r m n) (ok : d.ok) (_hn : n < 3518437208880) (hk : d.kind = 4) : Calls Try.prog 25 #[ptrV c, ptrV r, d.val] w (DeedPost w0 c r m d n) := by
  have k0 := k.lay 72 d.cells
  have hm : m.deed d = (m.wake d.who d.a).m := by unfold CoM.deed; simp [hk]
  have HP : Hid (∀ w', Dd w0 w' c r w.heap.size 72 d.cells (m.wake d.who d.a).m (m.wake d.who d.a).m (n + 1) (n + 1) → DeedPost w0 c r m d n (.returned (.bool true)) w') := hid fun w' k' => ⟨rfl, _, by rw [hm]; exact k'⟩
  generalize DeedPost w0 c r m d n = P at *
  obtain ⟨z0, z1, z2, z3, z4, z5, z6⟩ := ok
  obtain ⟨kind, who, a, b, g, t, y, f⟩ := d
  dsimp only at *
  unfold DeedM.cells at *
  unfold DeedM.val
  dsimp only at *
  have Z1 := hid z1
  have Z4 := hid z4
  have Z5 := hid z5
  have Z6 := hid z6
  subst hk
  obtain ⟨W, eW⟩ : ∃ W, W = w.alloc (.cells #[.int .i64 4, .int .i64 who, .int .i64 a, .int .i64 b, .int .i64 g, .int .i64 t, .int .i64 y, .bool f] 72) := ⟨_, rfl⟩
  have k0 : Dd w0 W c r w.heap.size 72 [.int .i64 4, .int .i64 who, .int .i64 a, .int .i64 b, .int .i64 g, .int .i64 t, .int .i64 y, .bool f] m m n n := by rw [eW]; exact k0
  obtain ⟨F, FG, k0⟩ := k0
  have a0 : W.cell? ⟨w.heap.size, 0, none⟩ = some (.int .i64 4) := k0.da.cell 0
  have a1 : W.cell? ⟨w.heap.size, 1, none⟩ = some (.int .i64 who) := k0.da.cell 1
  have a2 : W.cell? ⟨w.heap.size, 2, none⟩ = some (.int .i64 a) := k0.da.cell 2
  have a3 : W.cell? ⟨w.heap.size, 3, none⟩ = some (.int .i64 b) := k0.da.cell 3
  have a4 : W.cell? ⟨w.heap.size, 4, none⟩ = some (.int .i64 g) := k0.da.cell 4
  have a5 : W.cell? ⟨w.heap.size, 5, none⟩ = some (.int .i64 t) := k0.da.cell 5
  have a6 : W.cell? ⟨w.heap.size, 6, none⟩ = some (.int .i64 y) := k0.da.cell 6
  have a7 : W.cell? ⟨w.heap.size, 7, none⟩ = some (.bool f) := k0.da.cell 7
  have K0 := hid k0
  have hdf := k0.df
  have hPC : ∀ wc, Below W.heap.size W wc → PCo wc c F m n := fun wc hb => K0.out.co.kept (Kept.of_below (S := []) hb) (by simp)
  have hmix : Try.prog.follows .mixedOrders = true := by kernel_rfl
  clear k k0 hm z0 z1 z2 z3 z4 z5 z6
  unfold ptrV
  go_enter Try.func25, Try.ntmps25
  go_upto_region 1 with fail
  rw [← eW]
  clear eW
  generalize w.heap.size = db at *
  go_upto_region 11 with fail
  refine wp_mono (region_knownU (Q := fun e a' w' => e = .normal ∧ a' = ({ tmps := (setAll _ [(69, .pointer (some ⟨c, 0, none⟩)), (70, .pointer (some ⟨db, 1, none⟩)), (71, .int .i64 who), (72, .pointer (some ⟨db, 2, none⟩)), (73, .int .i64 a), (74, .int .i64 ((m.wake who a).err)), (75, .pointer (some ⟨r, 0, none⟩)), (76, .pointer (some ⟨db, 1, none⟩)), (77, .int .i64 who), (78, .pointer (some ⟨db, 2, none⟩)), (79, .int .i64 a), (80, .int .i64 ((m.wake who a).err)), (81, .bool ((m.wake who a).err == (m.wake who a).err)), (6, .bool ((m.wake who a).err == (m.wake who a).err))]).toArray, defers := [] } : Act) ∧ P (.returned (.bool true)) w') 14 11 5 F (fun w' => ∃ F', PCo w' c F' (m.wake who a).m n ∧ Grown W.heap.size F F') [(69, .pointer (some ⟨c, 0, none⟩)), (70, .pointer (some ⟨db, 1, none⟩)), (71, .int .i64 who), (72, .pointer (some ⟨db, 2, none⟩)), (73, .int .i64 a), (74, .int .i64 ((m.wake who a).err)), (75, .pointer (some ⟨r, 0, none⟩)), (76, .pointer (some ⟨db, 1, none⟩)), (77, .int .i64 who), (78, .pointer (some ⟨db, 2, none⟩)), (79, .int .i64 a)]
    [[0], [5], [70], [5], [72], [69, 71, 73], [1], [5], [76], [5], [78]] [5, 2, 5, 4, 5, 11, 11, 8, 11, 10, 11] W hmix rfl (by decide) rfl (show ([69, 70, 71, 72, 73, 74, 75, 76, 77, 78, 79] : List Nat).Nodup by decide) (by kernel_rfl) (by kernel_rfl) (by kernel_rfl) (by kernel_rfl) (by kernel_rfl) (by kernel_rfl) (fun _ _ h hk => by obtain ⟨F', h1, h2⟩ := h; exact ⟨F', h1.kept hk (by simp), h2⟩)
    (fun i' hi' hiu ac wc hk hr Q K hK => by
      have hor : i' = 0 ∨ i' = 1 ∨ i' = 2 ∨ i' = 3 ∨ i' = 4 ∨ i' = 5 ∨ i' = 6 ∨ i' = 7 ∨ i' = 8 ∨ i' = 9 ∨ i' = 10 := by omega
      rcases hor with rfl | rfl | rfl | rfl | rfl | rfl | rfl | rfl | rfl | rfl | rfl
      · have e0 : ac.eval (.tmp 0) = .pointer (some ⟨c, 0, none⟩) := hr 0 (by decide)
        exact op_value rfl rfl (run_moveQ wc rfl e0) (hK wc (keptU wc))
      · have e5 : ac.eval (.tmp 5) = .pointer (some ⟨db, 0, none⟩) := hr 5 (by decide)
        exact op_value rfl rfl (run_fdroamlawDeed1 wc rfl e5) (hK wc (keptU wc))
      · have e70 : ac.eval (.tmp 70) = .pointer (some ⟨db, 1, none⟩) := hr 70 (by decide)
        exact op_value rfl rfl (run_ldint wc rfl e70 (hk.cell_offD a1 hdf)) (hK wc (keptU wc))
      · have e5 : ac.eval (.tmp 5) = .pointer (some ⟨db, 0, none⟩) := hr 5 (by decide)
        exact op_value rfl rfl (run_fdroamlawDeed2 wc rfl e5) (hK wc (keptU wc))
      · have e72 : ac.eval (.tmp 72) = .pointer (some ⟨db, 2, none⟩) := hr 72 (by decide)
        exact op_value rfl rfl (run_ldint wc rfl e72 (hk.cell_offD a2 hdf)) (hK wc (keptU wc))
      · exact absurd rfl hiu
      · have e1 : ac.eval (.tmp 1) = .pointer (some ⟨r, 0, none⟩) := hr 1 (by decide)
        exact op_value rfl rfl (run_moveQ wc rfl e1) (hK wc (keptU wc))
      · have e5 : ac.eval (.tmp 5) = .pointer (some ⟨db, 0, none⟩) := hr 5 (by decide)
        exact op_value rfl rfl (run_fdroamlawDeed1 wc rfl e5) (hK wc (keptU wc))
      · have e76 : ac.eval (.tmp 76) = .pointer (some ⟨db, 1, none⟩) := hr 76 (by decide)
        exact op_value rfl rfl (run_ldint wc rfl e76 (hk.cell_offD a1 hdf)) (hK wc (keptU wc))
      · have e5 : ac.eval (.tmp 5) = .pointer (some ⟨db, 0, none⟩) := hr 5 (by decide)
        exact op_value rfl rfl (run_fdroamlawDeed2 wc rfl e5) (hK wc (keptU wc))
      · have e78 : ac.eval (.tmp 78) = .pointer (some ⟨db, 2, none⟩) := hr 78 (by decide)
        exact op_value rfl rfl (run_ldint wc rfl e78 (hk.cell_offD a2 hdf)) (hK wc (keptU wc)))
    (fun _ ac wc hb hr Q K hK => by
      have e69 : ac.eval (.tmp 69) = .pointer (some ⟨c, 0, none⟩) := hr 69 (by decide)
      have e71 : ac.eval (.tmp 71) = .int .i64 who := hr 71 (by decide)
      have e73 : ac.eval (.tmp 73) = .int .i64 a := hr 73 (by decide)
      refine op_callNL rfl rfl rfl (enters_of Try.func69 (by kernel_rfl) rfl) (map3L e69 e71 e73) (cwake_co a (hPC wc hb) Z1.out) fun e w' hr' => ?_
      obtain ⟨rfl, hk', F', hc', hg'⟩ := hr'
      exact ⟨_, rfl, hK w' hk' ⟨F', hc', fun x hx => (hg' x hx).elim .inl (fun h => .inr (Nat.le_trans hb.size h))⟩⟩)
    (fun wc hk hu => by
      obtain ⟨F', hc1, hg1⟩ := hu (by decide)
      obtain ⟨F2, G2, k1⟩ := K0.out.prog hk hc1 hg1
      have hRC := k1.rc
      refine op_callNL rfl rfl rfl (enters_of Try.func70 (by kernel_rfl) rfl) (map3L ((eval_setAll (t := [(69, .pointer (some ⟨c, 0, none⟩)), (70, .pointer (some ⟨db, 1, none⟩)), (71, .int .i64 who), (72, .pointer (some ⟨db, 2, none⟩)), (73, .int .i64 a), (74, .int .i64 ((m.wake who a).err)), (75, .pointer (some ⟨r, 0, none⟩)), (76, .pointer (some ⟨db, 1, none⟩)), (77, .int .i64 who), (78, .pointer (some ⟨db, 2, none⟩)), (79, .int .i64 a)]) 75 (show ([69, 70, 71, 72, 73, 74, 75, 76, 77, 78, 79] : List Nat).Nodup by decide) (by kernel_rfl)).trans rfl) ((eval_setAll (t := [(69, .pointer (some ⟨c, 0, none⟩)), (70, .pointer (some ⟨db, 1, none⟩)), (71, .int .i64 who), (72, .pointer (some ⟨db, 2, none⟩)), (73, .int .i64 a), (74, .int .i64 ((m.wake who a).err)), (75, .pointer (some ⟨r, 0, none⟩)), (76, .pointer (some ⟨db, 1, none⟩)), (77, .int .i64 who), (78, .pointer (some ⟨db, 2, none⟩)), (79, .int .i64 a)]) 77 (show ([69, 70, 71, 72, 73, 74, 75, 76, 77, 78, 79] : List Nat).Nodup by decide) (by kernel_rfl)).trans rfl) ((eval_setAll (t := [(69, .pointer (some ⟨c, 0, none⟩)), (70, .pointer (some ⟨db, 1, none⟩)), (71, .int .i64 who), (72, .pointer (some ⟨db, 2, none⟩)), (73, .int .i64 a), (74, .int .i64 ((m.wake who a).err)), (75, .pointer (some ⟨r, 0, none⟩)), (76, .pointer (some ⟨db, 1, none⟩)), (77, .int .i64 who), (78, .pointer (some ⟨db, 2, none⟩)), (79, .int .i64 a)]) 79 (show ([69, 70, 71, 72, 73, 74, 75, 76, 77, 78, 79] : List Nat).Nodup by decide) (by kernel_rfl)).trans rfl)) (rwake_any a hRC) fun e w2 hr' => ?_
      obtain ⟨rfl, hk2, G', hc2, hg2⟩ := hr'
      have k2 := HP.out w2 ((k1.ref hk2 hc2 hg2).mono (by omega) (by omega))
      refine ⟨_, rfl, ?_⟩
      change tailWp _ _ _ _ (Act.put _ (some 80) _) _
      rw [put_list, setAll_app]
      simp only [List.cons_append, List.nil_append]
      refine op_value rfl rfl (run_eqlapiErrno (p := (m.wake who a).err) (q := (m.wake who a).err) w2 rfl ((eval_setAll (t := [(69, .pointer (some ⟨c, 0, none⟩)), (70, .pointer (some ⟨db, 1, none⟩)), (71, .int .i64 who), (72, .pointer (some ⟨db, 2, none⟩)), (73, .int .i64 a), (74, .int .i64 ((m.wake who a).err)), (75, .pointer (some ⟨r, 0, none⟩)), (76, .pointer (some ⟨db, 1, none⟩)), (77, .int .i64 who), (78, .pointer (some ⟨db, 2, none⟩)), (79, .int .i64 a), (80, .int .i64 ((m.wake who a).err))]) 74 (show ([69, 70, 71, 72, 73, 74, 75, 76, 77, 78, 79, 80] : List Nat).Nodup by decide) (by kernel_rfl)).trans rfl) ((eval_setAll (t := [(69, .pointer (some ⟨c, 0, none⟩)), (70, .pointer (some ⟨db, 1, none⟩)), (71, .int .i64 who), (72, .pointer (some ⟨db, 2, none⟩)), (73, .int .i64 a), (74, .int .i64 ((m.wake who a).err)), (75, .pointer (some ⟨r, 0, none⟩)), (76, .pointer (some ⟨db, 1, none⟩)), (77, .int .i64 who), (78, .pointer (some ⟨db, 2, none⟩)), (79, .int .i64 a), (80, .int .i64 ((m.wake who a).err))]) 80 (show ([69, 70, 71, 72, 73, 74, 75, 76, 77, 78, 79, 80] : List Nat).Nodup by decide) (by kernel_rfl)).trans rfl)) ?_
      change tailWp _ _ _ _ (Act.put _ (some 81) _) _
      rw [put_list, setAll_app]
      simp only [List.cons_append, List.nil_append]
      refine op_value rfl rfl (run_assignL w2 rfl ((eval_setAll (t := [(69, .pointer (some ⟨c, 0, none⟩)), (70, .pointer (some ⟨db, 1, none⟩)), (71, .int .i64 who), (72, .pointer (some ⟨db, 2, none⟩)), (73, .int .i64 a), (74, .int .i64 ((m.wake who a).err)), (75, .pointer (some ⟨r, 0, none⟩)), (76, .pointer (some ⟨db, 1, none⟩)), (77, .int .i64 who), (78, .pointer (some ⟨db, 2, none⟩)), (79, .int .i64 a), (80, .int .i64 ((m.wake who a).err)), (81, .bool ((m.wake who a).err == (m.wake who a).err))]) 81 (show ([69, 70, 71, 72, 73, 74, 75, 76, 77, 78, 79, 80, 81] : List Nat).Nodup by decide) (by kernel_rfl)).trans rfl)) ⟨rfl, ?_, k2⟩
      change Act.put _ (some 6) _ = _
      rw [put_list, setAll_app]
      rfl)) ?_
  rintro e a' w' ⟨rfl, rfl, hp'⟩
  dsimp only [setAll, List.set, List.append_nil, List.cons_append, List.nil_append]
  generalize (m.wake who a).err = E at *
  simp only [beq_self_eq_true]
  go_wp2_with fail
  exact hp'
end Go.Proofs.Ytcnkcbipkchoiag
