import Derived.Test.YtfbjedcfppghgabDoorDocS
namespace Go.Proofs.YtfbjedcfppghgabDoor
open Go.ChangeShapes Go.WideShapes Go.ChangeAt Go.RowKit

theorem Own.slice {w : World} {B : Nat} {v : Value} {L : List Int} {k : Nat} (h : Own w B v L) (hk : L.length = k) : ∃ a c, v = .slice a k c ∧ k ≤ c ∧ c ≤ maxLen ∧ Rd .u8 w a L ∧ (∀ g o, a = some ⟨g, o, none⟩ → B ≤ g) := by
  obtain ⟨a, c, rfl, -, h1, h2⟩ := h.shape
  subst hk
  refine ⟨a, c, rfl, h1, h2, h.rd, ?_⟩
  rintro g o rfl
  exact own_blocks h g rfl

set_option maxRecDepth 100000 in
set_option maxHeartbeats 4000000 in
theorem rsight_g (m : Nat) (ih : ∀ (l f : List Int) (a b : Option Addr) (n t c cf K : Nat) (w : World), Rd .i64 w a l → Rd .u8 w b f → l.length = n → n = 2 ^ m → n ≤ 512 → f.length = t → t < n → t ≤ cf → AllBits f → Within l K → K * n ≤ 1152921504606846976 →
      Calls Tryd.prog 42 #[.slice a n c, .slice b t cf] w fun e w' => e = .returned (.int .i64 (sightM m l f)) ∧ Below w.heap.size w w')
    (l f : List Int) (a b : Option Addr) (n h t c cf K : Nat) (w : World) (ha : Rd .i64 w a l) (hf : Rd .u8 w b f) (hl : l.length = n) (eh : h = 2 ^ m) (hnh : n = h + h) (h5 : n ≤ 512) (hft : f.length = t) (hth : h ≤ t) (htn : t < n) (hcf : t ≤ cf) (bf : AllBits f) (hK : Within l K) (hKn : K * n ≤ 1152921504606846976) :
    Calls Tryd.prog 42 #[.slice a n c, .slice b t cf] w fun e w' => e = .returned (.int .i64 (sightM m (gL (turnM m (f.take h)) (l.take h) (l.drop h)) (f.drop h))) ∧ Below w.heap.size w w' := by
  have h0 : 1 ≤ h := by rw [eh]; exact Nat.one_le_two_pow
  have hK1 : K ≤ 1152921504606846976 := Nat.le_trans (Nat.le_mul_of_pos_right K (by omega)) hKn
  have hKh : 2 * K * h ≤ 1152921504606846976 := by
    have e : 2 * K * h = K * n := by rw [hnh, Nat.mul_add, Nat.mul_assoc]; omega
    rw [e]; exact hKn
  obtain ⟨b1, o1, rfl, hc1⟩ := ha.at (i := 0) (by omega)
  obtain ⟨b2, o2, rfl, hc2⟩ := hf.at (i := 0) (by omega)
  have l1 : (l.take h).length = h := by rw [List.length_take]; omega
  have l2 : (l.drop h).length = h := by rw [List.length_drop]; omega
  have f1 : (f.take h).length = h := by rw [List.length_take]; omega
  have f2 := hid (show (f.drop h).length = t - h by rw [List.length_drop]; omega)
  have bf1 : AllBits (f.take h) := fun y hy => bf y (List.mem_of_mem_take hy)
  have bf2 : AllBits (f.drop h) := fun y hy => bf y (List.mem_of_mem_drop hy)
  have rF1 := Rd.take hc2 h
  have rF2 := Rd.drop hc2 h
  obtain ⟨X, eX⟩ : ∃ X, X = turnM m (f.take h) := ⟨_, rfl⟩
  have lX : X.length = h := by rw [eX, turn_length m _ (f1.trans eh), eh]
  have LX := hid lX
  obtain ⟨G, eG⟩ : ∃ G, G = gL X (l.take h) (l.drop h) := ⟨_, rfl⟩
  have LL := hid (show G.length = h by rw [eG]; exact gL_length lX l1 l2)
  have LA : Hid (∀ j, j < h → G.getD j 0 = gI (X.getD j 0) (l.getD j 0) (l.getD (h + j) 0)) := by
    intro j hj
    rw [eG, gL_at lX l1 l2 hj, getD_take hj, getD_drop]
  have LW : Hid (Within G (2 * K)) := by unfold Hid; rw [eG]; exact within_g lX l1 l2 (hK.take h) (hK.drop h)
  rw [← eX, ← eG]
  have hTu := rturn_any m (f.take h) (some ⟨b2, o2, none⟩) h cf w rF1 f1 eh (by omega) (by omega) bf1
  rw [← eX] at hTu
  have hq : (n : Int).tdiv 2 = (h : Int) := by rw [Int.tdiv_eq_ediv_of_nonneg (by omega)]; omega
  have hn1 : ((n : Int) == 1) = false := by simp; omega
  have hle : h ≤ n := by omega
  have hlf : h ≤ cf := by omega
  have HL := hid hl
  have HN := hid hnh
  have HE := hid eh
  have HF := hid hft
  have hn2 : h < n := by omega
  have hnt : ¬ t < h := by omega
  have HTH : Hid (t - h < h) := by unfold Hid; omega
  have HTC : Hid (t - h ≤ cf - h) := by unfold Hid; omega
  clear hl hnh eh hft l1 l2 eG eX hKn f1 lX rF1 bf1
  go_enter Tryd.func42, Tryd.ntmps42
  go_wp2_with fail
  refine hTu.mono ?_
  rintro e w1 ⟨v1, rfl, hown1, hbel1⟩
  obtain ⟨a3, c3, rfl, hc3, hc3m, hrX, -⟩ := hown1.slice LX.out
  clear hown1 hTu
  go_wp2
  go_loopw [6, 12] (fun v q wr => ∃ i : Nat, i ≤ h ∧ q = .int .i64 i ∧ OwnI wr w1.heap.size v (G.take i) ∧ Below w1.heap.size w1 wr) (fun _ q _ => h - (intOf q).toNat)
  case atStart => exact ⟨0, Nat.zero_le _, rfl, OwnI.nil _ _, Below.refl _ _⟩
  case round =>
    obtain ⟨i, hi, rfl, hown, hbel⟩ := hrel
    have hbw := bthen hbel1 hbel
    by_cases hlt : i < h
    · have g1 := (hbw.cell (World.block_lt_of_cell? w _ (hc1 i (by rw [HL.out]; omega)))).trans (hc1 i (by rw [HL.out]; omega))
      have g2 := (hbw.cell (World.block_lt_of_cell? w _ (hc1 (i + h) (by rw [HL.out, HN.out]; omega)))).trans (hc1 (i + h) (by rw [HL.out, HN.out]; omega))
      obtain ⟨b4, o4, rfl, hc4⟩ := (hrX.below hbel).at (i := i) (by rw [LX.out]; exact hlt)
      have g4 := hc4 i (by rw [LX.out]; exact hlt)
      have b1' := hK i
      have b2' := hK (i + h)
      have HV := hid (LA.out i hlt)
      rw [Nat.add_comm h i] at HV
      obtain ⟨s, es⟩ : ∃ s, s = i + h := ⟨_, rfl⟩
      rw [← es] at g2 b2' HV
      have hil : s < n := by rw [HN.out]; omega
      have hwi : IntKind.i64.wrap ((i : Int) + (h : Int)) = (s : Int) := by rw [IntKind.wrap_i64]; omega
      have hili : (s : Int) < (n : Int) := by omega
      clear es
      have hin : i < n := by omega
      have HTL : Hid ((G.take i).length < 8796093022208) := by unfold Hid; rw [List.length_take]; omega
      have HI : Hid (i < G.length) := by unfold Hid; rw [LL.out]; exact hlt
      generalize l.getD i 0 = x at *
      generalize l.getD s 0 = y at *
      generalize X.getD i 0 = z at *
      have hsz := hbel.size
      clear hc1 hc2 hc4
      by_cases cz : z = 1
      · have HW : Hid (y - x = G.getD i 0) := by unfold Hid; rw [HV.out, gI, if_pos cz]
        have dz : (z == 1) = true := by simpa using cz
        have hws : IntKind.i64.wrap (y - x) = y - x := by rw [IntKind.wrap_i64]; omega
        clear HV cz
        go_wp2_with fail
        go_region_law (refine step_pushI w1.heap.size w1 wr.heap.size (y - x) (show OwnI (wr.alloc (.cells #[.int .i64 (y - x)] 3)).drew _ _ _ from World.ownsRow.alloc hown _) rfl (.tmp 80) (.tmp 92) rfl rfl rfl (cell_one _ _ _) HTL.out (hbel.alloc hsz _).drew (by simp; omega) ?_; intro v' w2 hown' hbel')
        all_goals
          replace hown' := hown'.cast (take_push HI.out HW.out)
          clear hown hbel
          go_wp2
          go_roundw
          case rel => exact ⟨i + 1, by omega, by go_num, hown', hbel'⟩
          case measure => simp [intOf]; omega
      · have HW : Hid (y + x = G.getD i 0) := by unfold Hid; rw [HV.out, gI, if_neg cz]
        have dz : (z == 1) = false := by simpa using cz
        have hws : IntKind.i64.wrap (y + x) = y + x := by rw [IntKind.wrap_i64]; omega
        clear HV cz
        go_wp2_with fail
        go_region_law (refine step_pushI w1.heap.size w1 wr.heap.size (y + x) (show OwnI (wr.alloc (.cells #[.int .i64 (y + x)] 3)).drew _ _ _ from World.ownsRow.alloc hown _) rfl (.tmp 94) (.tmp 106) rfl rfl rfl (cell_one _ _ _) HTL.out (hbel.alloc hsz _).drew (by simp; omega) ?_; intro v' w2 hown' hbel')
        all_goals
          replace hown' := hown'.cast (take_push HI.out HW.out)
          clear hown hbel
          go_wp2
          go_roundw
          case rel => exact ⟨i + 1, by omega, by go_num, hown', hbel'⟩
          case measure => simp [intOf]; omega
    · obtain rfl : i = h := by omega
      have HTA : Hid (G.take i = G) := by unfold Hid; exact List.take_of_length_le (by rw [LL.out]; omega)
      rw [HTA.out] at hown
      obtain ⟨a5, c5, rfl, -, -, hr5, -⟩ := hown.slice LL.out
      clear hc1 hc2 LA
      by_cases hci : cf = i
      · obtain rfl : t = i := by omega
        subst hci
        have HD : Hid (f.drop cf = []) := by unfold Hid; exact List.eq_nil_of_length_eq_zero (by rw [f2.out]; omega)
        have ih0 := ih G (f.drop cf) a5 (some ⟨b2, o2, none⟩) cf 0 c5 0 (2 * K) wr hr5 (by rw [HD.out]; exact Rd.nil _ _ _) LL.out HE.out (by omega) (by rw [HD.out]; rfl) (by omega) (Nat.le_refl _) bf2 LW.out hKh
        go_wp2_with fail
        refine ih0.mono ?_
        rintro e w2 ⟨rfl, hb2⟩
        go_wp2
        go_ret
        exact ⟨rfl, hbw.trans (hb2.mono hbw.size)⟩
      · have ih0 := ih G (f.drop i) a5 (some ⟨b2, o2 + i, none⟩) i (t - i) c5 (cf - i) (2 * K) wr hr5 (rF2.below hbw) LL.out HE.out (by omega) f2.out HTH.out HTC.out bf2 LW.out hKh
        go_wp2_with fail
        refine ih0.mono ?_
        rintro e w2 ⟨rfl, hb2⟩
        go_wp2
        go_ret
        exact ⟨rfl, hbw.trans (hb2.mono hbw.size)⟩

set_option maxRecDepth 100000 in
set_option maxHeartbeats 1000000 in
theorem rsight_any : ∀ (m : Nat) (l f : List Int) (a b : Option Addr) (n t c cf K : Nat) (w : World), Rd .i64 w a l → Rd .u8 w b f → l.length = n → n = 2 ^ m → n ≤ 512 → f.length = t → t < n → t ≤ cf → AllBits f → Within l K → K * n ≤ 1152921504606846976 →
      Calls Tryd.prog 42 #[.slice a n c, .slice b t cf] w fun e w' => e = .returned (.int .i64 (sightM m l f)) ∧ Below w.heap.size w w'
  | 0, l, f, a, b, n, t, c, cf, K, w, ha, hf, hl, hn, h5, hft, htn, hcf, bf, hK, hKn => by
    obtain rfl : n = 1 := hn
    obtain ⟨b1, o1, rfl, hc1⟩ := ha.at (i := 0) (by omega)
    have g1 := hc1 0 (by omega)
    rw [Nat.add_zero] at g1
    rw [sightM]
    clear hl hft hc1
    go_enter Tryd.func42, Tryd.ntmps42
    go_wp2
    go_ret
    exact ⟨rfl, Below.refl _ _⟩
  | m + 1, l, f, a, b, n, t, c, cf, K, w, ha, hf, hl, hn, h5, hft, htn, hcf, bf, hK, hKn => by
    have hnh : n = 2 ^ m + 2 ^ m := by rw [hn, Nat.pow_succ]; omega
    rw [sightM, hft]
    by_cases hth : t < 2 ^ m
    · rw [if_pos hth]
      exact rsight_f m (rsight_any m) l f a b n (2 ^ m) t c cf K w ha hf hl rfl hnh h5 hft hth hcf bf hK hKn
    · rw [if_neg hth]
      exact rsight_g m (rsight_any m) l f a b n (2 ^ m) t c cf K w ha hf hl rfl hnh h5 hft (by omega) htn hcf bf hK hKn
end Go.Proofs.YtfbjedcfppghgabDoor
