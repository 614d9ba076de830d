import Derived.Test.YtcnkcbipkchoiagK28
import Derived.Test.YtcnkcbipkchoiagK01
namespace Go.Proofs.Ytcnkcbipkchoiag
open Go.ChangeShapes Go.WideShapes Go.ChangeAt Go.RowKit
set_option maxRecDepth 100000 in
set_option maxHeartbeats 8000000 in
theorem deed7 {w0 w : World} {c r n : Nat} {m : CoM} (d : DeedM) (k : Du w0 w c r m n) (ok : d.ok) (hn : n < 3518437208880) (h0 : d.kind ≠ 0) (h1 : d.kind ≠ 1) (h2 : d.kind ≠ 2) (h3 : d.kind ≠ 3) (h4 : d.kind ≠ 4) (h5 : d.kind ≠ 5) (h6 : d.kind ≠ 6) : Calls Try.prog 25 #[ptrV c, ptrV r, d.val] w (DeedPost w0 c r m d n) := by
  have k0 := k.lay 72 d.cells
  have hm : m.deed d = (m.report d.g d.t d.y d.f).m := by unfold CoM.deed; simp [h0, h1, h2, h3, h4, h5, h6]
  have HP : Hid (∀ w', Dd w0 w' c r w.heap.size 72 d.cells (m.report d.g d.t d.y d.f).m (m.report d.g d.t d.y d.f).m (n + 1) (n + 1) → DeedPost w0 c r m d n (.returned (.bool true)) w') := hid fun w' k' => ⟨rfl, _, by rw [hm]; exact k'⟩
  generalize DeedPost w0 c r m d n = P at *
  obtain ⟨z0, z1, z2, z3, z4, z5, z6⟩ := ok
  obtain ⟨kind, who, a, b, g, t, y, f⟩ := d
  dsimp only at *
  unfold DeedM.cells at *
  unfold DeedM.val
  dsimp only at *
  have Z1 := hid z1
  have Z4 := hid z4
  have Z5 := hid z5
  have Z6 := hid z6
  obtain ⟨W, eW⟩ : ∃ W, W = w.alloc (.cells #[.int .i64 kind, .int .i64 who, .int .i64 a, .int .i64 b, .int .i64 g, .int .i64 t, .int .i64 y, .bool f] 72) := ⟨_, rfl⟩
  have k0 : Dd w0 W c r w.heap.size 72 [.int .i64 kind, .int .i64 who, .int .i64 a, .int .i64 b, .int .i64 g, .int .i64 t, .int .i64 y, .bool f] m m n n := by rw [eW]; exact k0
  obtain ⟨F, FG, k0⟩ := k0
  have a0 : W.cell? ⟨w.heap.size, 0, none⟩ = some (.int .i64 kind) := k0.da.cell 0
  have a1 : W.cell? ⟨w.heap.size, 1, none⟩ = some (.int .i64 who) := k0.da.cell 1
  have a2 : W.cell? ⟨w.heap.size, 2, none⟩ = some (.int .i64 a) := k0.da.cell 2
  have a3 : W.cell? ⟨w.heap.size, 3, none⟩ = some (.int .i64 b) := k0.da.cell 3
  have a4 : W.cell? ⟨w.heap.size, 4, none⟩ = some (.int .i64 g) := k0.da.cell 4
  have a5 : W.cell? ⟨w.heap.size, 5, none⟩ = some (.int .i64 t) := k0.da.cell 5
  have a6 : W.cell? ⟨w.heap.size, 6, none⟩ = some (.int .i64 y) := k0.da.cell 6
  have a7 : W.cell? ⟨w.heap.size, 7, none⟩ = some (.bool f) := k0.da.cell 7
  have K0 := hid k0
  have hdf := k0.df
  have hPC : ∀ wc, Below W.heap.size W wc → PCo wc c F m n := fun wc hb => K0.out.co.kept (Kept.of_below (S := []) hb) (by simp)
  have hmix : Try.prog.follows .mixedOrders = true := by kernel_rfl
  clear k k0 hm z0 z1 z2 z3 z4 z5 z6
  unfold ptrV
  go_enter Try.func25, Try.ntmps25
  go_upto_region 1 with fail
  rw [← eW]
  clear eW
  generalize w.heap.size = db at *
  go_upto_region 18 with fail
  refine wp_mono (region_knownU (Q := fun e a' w' => e = .normal ∧ a' = ({ tmps := (setAll _ [(132, .pointer (some ⟨c, 0, none⟩)), (133, .pointer (some ⟨db, 4, none⟩)), (134, .agg #[.int .i64 g, .int .i64 t, .int .i64 y, .bool f]), (135, .int .i64 ((m.report g t y f).err)), (136, .pointer (some ⟨r, 0, none⟩)), (137, .pointer (some ⟨db, 4, none⟩)), (138, .agg #[.int .i64 g, .int .i64 t, .int .i64 y, .bool f]), (139, .int .i64 ((m.report g t y f).err)), (140, .bool ((m.report g t y f).err == (m.report g t y f).err)), (6, .bool ((m.report g t y f).err == (m.report g t y f).err))]).toArray, defers := [] } : Act) ∧ P (.returned (.bool true)) w') 10 7 3 F (fun w' => ∃ F', PCo w' c F' (m.report g t y f).m (n + 1) ∧ Grown W.heap.size F F') [(132, .pointer (some ⟨c, 0, none⟩)), (133, .pointer (some ⟨db, 4, none⟩)), (134, .agg #[.int .i64 g, .int .i64 t, .int .i64 y, .bool f]), (135, .int .i64 ((m.report g t y f).err)), (136, .pointer (some ⟨r, 0, none⟩)), (137, .pointer (some ⟨db, 4, none⟩)), (138, .agg #[.int .i64 g, .int .i64 t, .int .i64 y, .bool f])]
    [[0], [5], [133], [132, 134], [1], [5], [137]] [3, 2, 3, 7, 7, 6, 7] W hmix rfl (by decide) rfl (show ([132, 133, 134, 135, 136, 137, 138] : List Nat).Nodup by decide) (by kernel_rfl) (by kernel_rfl) (by kernel_rfl) (by kernel_rfl) (by kernel_rfl) (by kernel_rfl) (fun _ _ h hk => by obtain ⟨F', h1, h2⟩ := h; exact ⟨F', h1.kept hk (by simp), h2⟩)
    (fun i' hi' hiu ac wc hk hr Q K hK => by
      have hor : i' = 0 ∨ i' = 1 ∨ i' = 2 ∨ i' = 3 ∨ i' = 4 ∨ i' = 5 ∨ i' = 6 := by omega
      rcases hor with rfl | rfl | rfl | rfl | rfl | rfl | rfl
      · have e0 : ac.eval (.tmp 0) = .pointer (some ⟨c, 0, none⟩) := hr 0 (by decide)
        exact op_value rfl rfl (run_moveQ wc rfl e0) (hK wc (keptU wc))
      · have e5 : ac.eval (.tmp 5) = .pointer (some ⟨db, 0, none⟩) := hr 5 (by decide)
        exact op_value rfl rfl (run_fdroamlawDeed4 wc rfl e5) (hK wc (keptU wc))
      · have e133 : ac.eval (.tmp 133) = .pointer (some ⟨db, 4, none⟩) := hr 133 (by decide)
        exact op_value rfl rfl (run_ldapiUsage wc rfl e133 (hk.cell_offD a4 hdf) (hk.cell_offD a5 hdf) (hk.cell_offD a6 hdf) (hk.cell_offD a7 hdf)) (hK wc (keptU wc))
      · exact absurd rfl hiu
      · have e1 : ac.eval (.tmp 1) = .pointer (some ⟨r, 0, none⟩) := hr 1 (by decide)
        exact op_value rfl rfl (run_moveQ wc rfl e1) (hK wc (keptU wc))
      · have e5 : ac.eval (.tmp 5) = .pointer (some ⟨db, 0, none⟩) := hr 5 (by decide)
        exact op_value rfl rfl (run_fdroamlawDeed4 wc rfl e5) (hK wc (keptU wc))
      · have e137 : ac.eval (.tmp 137) = .pointer (some ⟨db, 4, none⟩) := hr 137 (by decide)
        exact op_value rfl rfl (run_ldapiUsage wc rfl e137 (hk.cell_offD a4 hdf) (hk.cell_offD a5 hdf) (hk.cell_offD a6 hdf) (hk.cell_offD a7 hdf)) (hK wc (keptU wc)))
    (fun _ ac wc hb hr Q K hK => by
      have e132 : ac.eval (.tmp 132) = .pointer (some ⟨c, 0, none⟩) := hr 132 (by decide)
      have e134 : ac.eval (.tmp 134) = .agg #[.int .i64 g, .int .i64 t, .int .i64 y, .bool f] := hr 134 (by decide)
      refine op_callNL rfl rfl rfl (enters_of Try.func34 (by kernel_rfl) rfl) (map2L e132 e134) (creport_any (n + 1) (hPC wc hb) Z4.out Z5.out Z6.out (by unfold manyN; omega) (by omega) (fun _ => Nat.le_refl _)) fun e w' hr' => ?_
      obtain ⟨rfl, hk', F', hc', hg'⟩ := hr'
      exact ⟨_, rfl, hK w' hk' ⟨F', hc', fun x hx => (hg' x hx).elim .inl (fun h => .inr (Nat.le_trans hb.size h))⟩⟩)
    (fun wc hk hu => by
      obtain ⟨F', hc1, hg1⟩ := hu (by decide)
      obtain ⟨F2, G2, k1⟩ := K0.out.prog hk hc1 hg1
      have hRC := k1.rc
      refine op_callNL rfl rfl rfl (enters_of Try.func74 (by kernel_rfl) rfl) (map2L ((eval_setAll (t := [(132, .pointer (some ⟨c, 0, none⟩)), (133, .pointer (some ⟨db, 4, none⟩)), (134, .agg #[.int .i64 g, .int .i64 t, .int .i64 y, .bool f]), (135, .int .i64 ((m.report g t y f).err)), (136, .pointer (some ⟨r, 0, none⟩)), (137, .pointer (some ⟨db, 4, none⟩)), (138, .agg #[.int .i64 g, .int .i64 t, .int .i64 y, .bool f])]) 136 (show ([132, 133, 134, 135, 136, 137, 138] : List Nat).Nodup by decide) (by kernel_rfl)).trans rfl) ((eval_setAll (t := [(132, .pointer (some ⟨c, 0, none⟩)), (133, .pointer (some ⟨db, 4, none⟩)), (134, .agg #[.int .i64 g, .int .i64 t, .int .i64 y, .bool f]), (135, .int .i64 ((m.report g t y f).err)), (136, .pointer (some ⟨r, 0, none⟩)), (137, .pointer (some ⟨db, 4, none⟩)), (138, .agg #[.int .i64 g, .int .i64 t, .int .i64 y, .bool f])]) 138 (show ([132, 133, 134, 135, 136, 137, 138] : List Nat).Nodup by decide) (by kernel_rfl)).trans rfl)) (rreport_any hRC Z4.out Z5.out Z6.out (by unfold manyN; omega)) fun e w2 hr' => ?_
      obtain ⟨rfl, hk2, G', hc2, hg2⟩ := hr'
      have k2 := HP.out w2 ((k1.ref hk2 hc2 hg2).mono (by omega) (by omega))
      refine ⟨_, rfl, ?_⟩
      change tailWp _ _ _ _ (Act.put _ (some 139) _) _
      rw [put_list, setAll_app]
      simp only [List.cons_append, List.nil_append]
      refine op_value rfl rfl (run_eqlapiErrno (p := (m.report g t y f).err) (q := (m.report g t y f).err) w2 rfl ((eval_setAll (t := [(132, .pointer (some ⟨c, 0, none⟩)), (133, .pointer (some ⟨db, 4, none⟩)), (134, .agg #[.int .i64 g, .int .i64 t, .int .i64 y, .bool f]), (135, .int .i64 ((m.report g t y f).err)), (136, .pointer (some ⟨r, 0, none⟩)), (137, .pointer (some ⟨db, 4, none⟩)), (138, .agg #[.int .i64 g, .int .i64 t, .int .i64 y, .bool f]), (139, .int .i64 ((m.report g t y f).err))]) 135 (show ([132, 133, 134, 135, 136, 137, 138, 139] : List Nat).Nodup by decide) (by kernel_rfl)).trans rfl) ((eval_setAll (t := [(132, .pointer (some ⟨c, 0, none⟩)), (133, .pointer (some ⟨db, 4, none⟩)), (134, .agg #[.int .i64 g, .int .i64 t, .int .i64 y, .bool f]), (135, .int .i64 ((m.report g t y f).err)), (136, .pointer (some ⟨r, 0, none⟩)), (137, .pointer (some ⟨db, 4, none⟩)), (138, .agg #[.int .i64 g, .int .i64 t, .int .i64 y, .bool f]), (139, .int .i64 ((m.report g t y f).err))]) 139 (show ([132, 133, 134, 135, 136, 137, 138, 139] : List Nat).Nodup by decide) (by kernel_rfl)).trans rfl)) ?_
      change tailWp _ _ _ _ (Act.put _ (some 140) _) _
      rw [put_list, setAll_app]
      simp only [List.cons_append, List.nil_append]
      refine op_value rfl rfl (run_assignL w2 rfl ((eval_setAll (t := [(132, .pointer (some ⟨c, 0, none⟩)), (133, .pointer (some ⟨db, 4, none⟩)), (134, .agg #[.int .i64 g, .int .i64 t, .int .i64 y, .bool f]), (135, .int .i64 ((m.report g t y f).err)), (136, .pointer (some ⟨r, 0, none⟩)), (137, .pointer (some ⟨db, 4, none⟩)), (138, .agg #[.int .i64 g, .int .i64 t, .int .i64 y, .bool f]), (139, .int .i64 ((m.report g t y f).err)), (140, .bool ((m.report g t y f).err == (m.report g t y f).err))]) 140 (show ([132, 133, 134, 135, 136, 137, 138, 139, 140] : List Nat).Nodup by decide) (by kernel_rfl)).trans rfl)) ⟨rfl, ?_, k2⟩
      change Act.put _ (some 6) _ = _
      rw [put_list, setAll_app]
      rfl)) ?_
  rintro e a' w' ⟨rfl, rfl, hp'⟩
  dsimp only [setAll, List.set, List.append_nil, List.cons_append, List.nil_append]
  generalize (m.report g t y f).err = E at *
  simp only [beq_self_eq_true]
  go_wp2_with fail
  exact hp'
end Go.Proofs.Ytcnkcbipkchoiag
namespace Go.Proofs.Ytcnkcbipkchoiag
open Go.ChangeShapes Go.WideShapes Go.ChangeAt Go.RowKit
theorem take_ext {xs ys : List Int} {k : Nat} (hl : ys.length = xs.length) (hk : k < xs.length) (h : xs.take k = ys.take k) (e : xs[k]?.getD 0 = ys[k]?.getD 0) : xs.take (k + 1) = ys.take (k + 1) := by
  rw [List.take_add_one, List.take_add_one, h]
  have h1 : xs[k]? = some xs[k] := List.getElem?_eq_getElem hk
  have h2 : ys[k]? = some (ys[k]'(by omega)) := List.getElem?_eq_getElem (by omega)
  rw [h1, h2] at e
  simp at e
  rw [h1, h2, e]
theorem take_ext' {xs ys : List Int} {k : Nat} (hl : ys.length = xs.length) (hk : k < xs.length) (h : xs.take k = ys.take k) (e : (xs[k] != ys[k]?.getD 0) = false) : xs.take (k + 1) = ys.take (k + 1) := by
  refine take_ext hl hk h ?_
  rw [List.getElem?_eq_getElem hk]
  simpa using e
theorem dec_ne {xs ys : List Int} {k : Nat} (hk : k < xs.length) (e : (xs[k] != ys[k]?.getD 0) = true) : Ending.returned (.bool false) = .returned (.bool (decide (xs = ys))) := by
  have : ¬ xs = ys := by
    intro h
    subst h
    simp [List.getElem?_eq_getElem hk] at e
  simp [this]
theorem dec_eq {xs ys : List Int} {k : Nat} (hl : ys.length = xs.length) (hk : xs.length ≤ k) (h : xs.take k = ys.take k) : Ending.returned (.bool true) = .returned (.bool (decide (xs = ys))) := by
  rw [List.take_of_length_le hk, List.take_of_length_le (by omega)] at h
  simp [h]
end Go.Proofs.Ytcnkcbipkchoiag
namespace Go.Proofs.Ytcnkcbipkchoiag
open Go.ChangeShapes Go.WideShapes Go.ChangeAt Go.RowKit
set_option maxHeartbeats 400000 in
theorem same_ints (xs ys : List Int) (a b : Option Addr) (ca cb : Nat) (w : World) (ha : Rd .i64 w a xs) (hb : Rd .i64 w b ys) (hx : xs.length ≤ maxLen) (hy : ys.length ≤ maxLen) :
    Calls Try.prog 30 #[.slice a xs.length ca, .slice b ys.length cb] w fun e w' => e = .returned (.bool (decide (xs = ys))) ∧ Below w.heap.size w w' := by
  unfold maxLen at hx hy
  by_cases hl : ys.length = xs.length
  · have hne : (((xs.length : Nat) : Int) != ((ys.length : Nat) : Int)) = false := by rw [hl]; simp
    rw [hl] at hne ⊢
    clear hy
    have HL : Hid (ys.length = xs.length) := hl
    clear hl
    go_enter Try.func30, Try.ntmps30
    go_wp2
    go_loopw [5] (fun i wr => ∃ k : Nat, k ≤ xs.length ∧ i = .int .i64 k ∧ Hid (xs.take k = ys.take k) ∧ Below w.heap.size w wr) (fun i _ => xs.length - (intOf i).toNat)
    case atStart => exact ⟨0, Nat.zero_le _, rfl, rfl, Below.refl _ _⟩
    case round =>
      obtain ⟨k, hk, rfl, htk, hbel⟩ := hrel
      by_cases hlt : k < xs.length
      · obtain ⟨b1, o1, rfl, hc1⟩ := (ha.below hbel).at hlt
        obtain ⟨b2, o2, rfl, hc2⟩ := (hb.below hbel).at (i := k) (by rw [HL.out]; exact hlt)
        have g1 := hc1 k hlt
        have g2 := hc2 k (by rw [HL.out]; exact hlt)
        clear hc1 hc2
        go_wp2_with fail
        go_quiet (fail)
        go_wp2
        · go_ret
          exact ⟨dec_ne hlt ‹_›, below_drewN hbel _⟩
        · go_roundw
          case rel => exact ⟨k + 1, by omega, by go_num, take_ext' HL.out hlt htk.out ‹_›, below_drewN hbel _⟩
          case measure => simp [intOf]; omega
      · go_wp2
        go_ret
        exact ⟨dec_eq HL.out (by omega) htk.out, hbel⟩
  · have hne : (((xs.length : Nat) : Int) != ((ys.length : Nat) : Int)) = true := by simp; omega
    have hd : decide (xs = ys) = false := by simp; intro h; subst h; exact hl rfl
    rw [hd]
    clear hl
    go_enter Try.func30, Try.ntmps30
    go_wp2
    go_ret
    exact ⟨rfl, Below.refl _ _⟩
end Go.Proofs.Ytcnkcbipkchoiag
