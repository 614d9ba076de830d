import Derived.Test.YtdndeegpbjlibadGreatDoorK41
import Derived.Test.YtdndeegpbjlibadGreatDoorK39
namespace Go.Proofs.YtdndeegpbjlibadGreatDoor
open Go.ChangeShapes Go.WideShapes Go.ChangeAt Go.RowKit Go.Shelf

/-! THE PROGRAM'S Hear. -/

set_option maxRecDepth 100000 in
set_option maxHeartbeats 4000000 in
theorem hear_good (ps : List (Int × Int)) (h o n N : Nat) (a : Option Addr) (c : Nat) (w : World) (hp : Pts w a ps) (h1 : 1 ≤ h) (hh : h ≤ 3) (ho : o = 2 * h) (hn : ps.length = n) (hN : N = n * o) (hN4 : N ≤ 4096) (hok : hearsOk ps o = true) :
    Calls Tryz.prog 18 #[.slice a n c, .int .i64 o] w fun e w' => ∃ g, e = .returned (.tuple #[.slice (some ⟨g, 0, none⟩) N N, .int .i64 0]) ∧ OwnI w' w.heap.size (.slice (some ⟨g, 0, none⟩) N N) (pairsAll (hearM h) h ps n) ∧ Below w.heap.size w w' := by
  have hn4 : n ≤ 4096 := by
    have : n * 1 ≤ n * o := Nat.mul_le_mul_left _ (by omega)
    omega
  have hchk := cheard_any ps o a c w hp (by omega)
  rw [show chErr ps o = 0 by unfold chErr; rw [hok]; rfl, hn] at hchk
  have hin : ∀ k, k < ps.length → inSq (ps.getD k (0, 0)) = true := fun k hk => by
    unfold hearsOk at hok
    rw [Bool.and_eq_true] at hok
    have e : ps.getD k (0, 0) = ps[k] := by simp [List.getD, hk]
    rw [e]
    exact List.all_eq_true.1 hok.2 _ (List.getElem_mem hk)
  have hlev := fun w => levels_any h (2 ^ h) w h1 hh rfl
  obtain ⟨N8, eN⟩ : ∃ N8, N8 = 2 ^ h := ⟨_, rfl⟩
  rw [← eN] at hlev
  have HN8 := hid eN
  have HL := hid hn
  have HO := hid ho
  have HN := hid hN
  have ho6 : o = 2 ∨ o = 4 ∨ o = 6 := by omega
  have hq2 : (o : Int).tdiv 2 = h := by rw [ho, Int.tdiv_eq_ediv_of_nonneg (by omega)]; omega
  have hq2' : (o : Int) / 2 = h := by rw [ho]; omega
  have hmul : (n : Int) * (o : Int) = (N : Int) := by rw [hN, Int.natCast_mul]
  have hHB : Enters Tryz.prog 44 := enters_of Tryz.func44 (by kernel_rfl) rfl
  have hmix : Tryz.prog.follows .mixedOrders = true := by kernel_rfl
  clear eN hn ho hN hok
  go_enter Tryz.func18, Tryz.ntmps18
  go_wp2_with (first
    | (go_at_call 43; refine hchk.mono ?_; rintro e w1 ⟨rfl, hb1⟩)
    | (go_at_call 41; refine (hlev _).mono ?_; rintro e w2 ⟨gL, rfl, harL, hgL, hbelL⟩)
    | (refine wpList_makeFitI N rfl _ _ rfl _ rfl rfl (by first | rfl | exact hmul) (by omega) ?_; intro w3 hown3 hb3))
  obtain ⟨G, eG⟩ : ∃ G, G = w2.heap.size := ⟨_, rfl⟩
  rw [← eG] at hown3 hb3
  rw [← eG]
  have HG := hid eG
  have hGw : w.heap.size ≤ G := by rw [eG]; exact Nat.le_trans hb1.size hbelL.size
  have hgLG : gL < G := by rw [eG]; exact harL.lt
  have harL3 := harL.below hb3 hgLG
  have hbw3 : Below w.heap.size w w3 := (bthen hb1 hbelL).trans (hb3.mono hGw)
  clear eG hchk hlev harL hb3 hbelL hb1
  go_loopw [9, 30] (fun s q wr => ∃ k m : Nat, k ≤ n ∧ q = .int .i64 k ∧ Hid (m = k * o) ∧ s = .slice (some ⟨G, 0, none⟩) m N ∧ OwnI wr G (.slice (some ⟨G, 0, none⟩) m N) (pairsAll (hearM h) h ps k) ∧ Kept [G] w3 wr) (fun _ q _ => n - (intOf q).toNat)
  case atStart => exact ⟨0, 0, Nat.zero_le _, rfl, by unfold Hid; omega, rfl, by simpa [pairsAll] using hown3, Kept.refl _ _⟩
  case round =>
    clear hown3
    obtain ⟨k, m, hk, rfl, HM, rfl, hown, hkept⟩ := hrel
    by_cases hlt : k < n
    · have hlt' : k < ps.length := by rw [HL.out]; exact hlt
      have HKN := hid hlt
      have HSUC := hid (pairsAll_succ (F := hearM h) (h := h) hlt')
      have hkb : Below w.heap.size w wr := hbw3.trans (hkept.below (B := w.heap.size) hbw3.size (by simpa using hGw))
      obtain ⟨b1, o1, rfl, hc1⟩ := (hp.below hkb).at hlt'
      obtain ⟨g1, g1'⟩ := hc1 k hlt'
      have hsq := of_decide_eq_true (hin k hlt')
      have HMB : Hid (∀ t, t < h → m + 2 * t + 2 ≤ N) := fun t ht => by
        have e1 := HM.out
        have e2 := HN.out
        have e3 := HO.out
        have : (k + 1) * o ≤ n * o := Nat.mul_le_mul_right _ (by omega)
        rw [Nat.add_mul] at this
        omega
      obtain ⟨A, eA⟩ : ∃ A, A = pairsAll (hearM h) h ps k := ⟨_, rfl⟩
      rw [← eA] at hown HSUC
      obtain ⟨x, e1⟩ : ∃ x, x = (ps.getD k (0, 0)).1 := ⟨_, rfl⟩
      obtain ⟨y, e2⟩ : ∃ y, y = (ps.getD k (0, 0)).2 := ⟨_, rfl⟩
      rw [← e1] at g1 hsq HSUC
      rw [← e2] at g1' hsq HSUC
      have hGs : G < wr.heap.size := hown.block.2
      have hownP := hown.below ((Below.refl wr.heap.size wr).alloc (Nat.le_refl _) (.cells #[.int .i64 x, .int .i64 y] 29))
      have hkP := hkept.trans (Kept.of_below ((Below.refl wr.heap.size wr).alloc (Nat.le_refl _) (.cells #[.int .i64 x, .int .i64 y] 29)))
      have cx : (wr.alloc (.cells #[.int .i64 x, .int .i64 y] 29)).cell? ⟨wr.heap.size, 0, none⟩ = some (.int .i64 x) := by rw [cell_of_row _ _ _ _ _ _ (heap_alloc_new wr _)]; rfl
      have cy : (wr.alloc (.cells #[.int .i64 x, .int .i64 y] 29)).cell? ⟨wr.heap.size, 1, none⟩ = some (.int .i64 y) := by rw [cell_of_row _ _ _ _ _ _ (heap_alloc_new wr _)]; rfl
      clear hc1 eA e1 e2 hlt' hown hkept hkb
      go_wp2
      generalize wr.alloc (.cells #[.int .i64 x, .int .i64 y] 29) = wp at *
      generalize wr.heap.size = gP at *
      go_loopw [9, 12] (fun s q ws => ∃ (t m' : Nat) (z : Int), t ≤ h ∧ Hid (z = (h : Int) - 1 - t) ∧ q = .int .i64 z ∧ Hid (m' = m + 2 * t) ∧ s = .slice (some ⟨G, 0, none⟩) m' N ∧ OwnI ws G (.slice (some ⟨G, 0, none⟩) m' N) (A ++ pairsTo (hearM h x) (hearM h y) h t) ∧ Kept [G] wp ws) (fun _ q _ => (intOf q + 1).toNat)
      case atStart => exact ⟨0, m, _, Nat.zero_le _, by unfold Hid; omega, rfl, by unfold Hid; omega, rfl, by simpa [pairsTo] using hownP, Kept.refl _ _⟩
      case round =>
        clear hownP
        obtain ⟨t, m', z, ht, HZ, rfl, HM', rfl, hown, hkept⟩ := hrel
        by_cases htl : t < h
        · obtain ⟨pl, ez⟩ : ∃ pl : Nat, z = (pl : Int) := ⟨z.toNat, by have := HZ.out; omega⟩
          subst ez
          have hpl : pl < h := by have := HZ.out; omega
          have HPT := hid (show h - 1 - t = pl by have := HZ.out; omega)
          have HTL := hid htl
          have hcap : m' + 2 ≤ N := by rw [HM'.out]; exact HMB.out t htl
          have qx := hkept.cellQ cx (by simp; omega)
          have qy := hkept.cellQ cy (by simp; omega)
          have harW := harL3.kept (hkP.trans hkept) (by simp; omega)
          have f0 := fun wc har => hearBit_any h N8 gL pl x wc hh HN8.out hpl hsq.1 har
          have f1 := fun wc har => hearBit_any h N8 gL pl y wc hh HN8.out hpl hsq.2 har
          have HST := hid (pairsTo_succ (hearM h x) (hearM h y) h t)
          rw [HPT.out] at HST
          generalize hearM h x pl = y0 at *
          generalize hearM h y pl = y1 at *
          clear htl
          go_upto_region 13 with fail
          refine wp_mono (region_push 14 12 11 [(40, .slice (some ⟨G, 0, none⟩) m' N), (41, .slice (some ⟨gL, 0, none⟩) N8 N8), (42, .pointer (some ⟨gP, 0, none⟩)), (43, .int .i64 x), (44, .int .i64 pl), (45, .int .i64 y0), (46, .slice (some ⟨gL, 0, none⟩) N8 N8), (47, .pointer (some ⟨gP, 1, none⟩)), (48, .int .i64 y), (49, .int .i64 pl), (50, .int .i64 y1)] 51 []
              [[9], [8], [11], [42], [12], [41, 43, 44], [8], [11], [47], [12], [46, 48, 49], [45, 50]] [12, 5, 3, 5, 5, 11, 10, 8, 10, 10, 11, 12] (fun u w => Two .i64 y0 y1 u w) wr _ 52 9 (.slice (some ⟨G, 0, none⟩) (m' + 2) N) (fun w' => OwnI w' G (.slice (some ⟨G, 0, none⟩) (m' + 2) N) ((A ++ pairsTo (hearM h x) (hearM h y) h t) ++ [y0, y1]) ∧ Kept [G] wr w') hmix rfl rfl rfl rfl (show ([40, 41, 42, 43, 44, 45, 46, 47, 48, 49, 50, 51] : List Nat).Nodup by decide) (by kernel_rfl) (by kernel_rfl) (by kernel_rfl) (by kernel_rfl) (by kernel_rfl) (by kernel_rfl) (fun _ _ _ h hg => h.grow hg) rfl rfl rfl rfl (of_decide_eq_true (by kernel_rfl))
              (fun i' hi' u0 a wc hbc hr Q K hK1 hK => by
                have h12 : i' = 0 ∨ i' = 1 ∨ i' = 2 ∨ i' = 3 ∨ i' = 4 ∨ i' = 5 ∨ i' = 6 ∨ i' = 7 ∨ i' = 8 ∨ i' = 9 ∨ i' = 10 ∨ i' = 11 := by omega
                have hgr := grownBy_self wc
                have cx' := (hbc.cell (World.block_lt_of_cell? wr _ qx)).trans qx
                have cy' := (hbc.cell (World.block_lt_of_cell? wr _ qy)).trans qy
                have har' := harW.below hbc harW.lt
                rcases h12 with rfl | rfl | rfl | rfl | rfl | rfl | rfl | rfl | rfl | rfl | rfl | rfl
                · exact op_value rfl rfl (run_moveQ wc rfl (hr 9 (by decide))) (hK (by decide) wc hgr)
                · exact op_value rfl rfl (run_moveQ wc rfl (hr 8 (by decide))) (hK (by decide) wc hgr)
                · exact op_value rfl rfl (run_fieldQ0 wc rfl (hr 11 (by decide))) (hK (by decide) wc hgr)
                · exact op_value rfl rfl (run_loadI wc rfl (hr 42 (by decide)) cx') (hK (by decide) wc hgr)
                · exact op_value rfl rfl (run_moveQ wc rfl (hr 12 (by decide))) (hK (by decide) wc hgr)
                · refine op_callN rfl rfl rfl hHB (by simp only [List.map_toArray, List.map_cons, List.map_nil]; rw [hr 41 (by decide), hr 43 (by decide), hr 44 (by decide)]; rfl) (f0 wc har') fun e w' hr' => ?_
                  obtain ⟨rfl, hb'⟩ := hr'
                  exact ⟨_, rfl, hK (by decide) w' (grownQ hb')⟩
                · exact op_value rfl rfl (run_moveQ wc rfl (hr 8 (by decide))) (hK (by decide) wc hgr)
                · exact op_value rfl rfl (run_fieldQ1 wc rfl (hr 11 (by decide))) (hK (by decide) wc hgr)
                · exact op_value rfl rfl (run_loadI wc rfl (hr 47 (by decide)) cy') (hK (by decide) wc hgr)
                · exact op_value rfl rfl (run_moveQ wc rfl (hr 12 (by decide))) (hK (by decide) wc hgr)
                · refine op_callN rfl rfl rfl hHB (by simp only [List.map_toArray, List.map_cons, List.map_nil]; rw [hr 46 (by decide), hr 48 (by decide), hr 49 (by decide)]; rfl) (f1 wc har') fun e w' hr' => ?_
                  obtain ⟨rfl, hb'⟩ := hr'
                  exact ⟨_, rfl, hK (by decide) w' (grownQ hb')⟩
                · exact op_value rfl rfl (run_build2I wc rfl (hr 45 (by decide)) (hr 50 (by decide))) (hK1 rfl _ _ (grown_alloc wc _) (two_new .i64 y0 y1 wc _)))
              (fun u0 wc hbc hu0 Q K hK => op_fit2I rfl rfl rfl (eval_setAll 40 (show ([40, 41, 42, 43, 44, 45, 46, 47, 48, 49, 50, 51] : List Nat).Nodup by decide) (by kernel_rfl)) (eval_setAll 51 (show ([40, 41, 42, 43, 44, 45, 46, 47, 48, 49, 50, 51] : List Nat).Nodup by decide) (by kernel_rfl)) (hown.below hbc) hu0 hcap fun w' ho' hg' => hK w' ⟨ho', (Kept.of_below hbc).trans (kept_grown hg')⟩)) ?_
          rintro e a' w' ⟨rfl, ⟨u0, rfl⟩, hown', hk'⟩
          rw [List.append_assoc, ← HST.out] at hown'
          have hkept' := hkept.trans hk'
          clear hown hkept hk' qx qy harW f0 f1 HST
          dsimp only [setAll, List.set, List.append_nil, List.cons_append, List.nil_append]
          go_wp2
          go_roundw
          case rel =>
            have := HTL.out
            first | exact ⟨t + 1, m' + 2, _, by omega, by unfold Hid; have := HZ.out; omega, rfl, by unfold Hid; have := HM'.out; omega, rfl, hown', hkept'⟩ | ((repeat apply Exists.intro); exact ⟨⟨t + 1, m' + 2, _, by omega, by unfold Hid; have := HZ.out; omega, rfl, by unfold Hid; have := HM'.out; omega, rfl, hown', hkept'⟩, rfl⟩)
          case measure => simp [intOf]
        · have hth : t = h := by omega
          have hz1 : z = -1 := by have := HZ.out; omega
          subst hz1
          rw [hth, ← HSUC.out] at hown
          have hm2 : Hid (m' = (k + 1) * o) := by
            unfold Hid
            have e1 := HM.out
            have e2 := HM'.out
            have e3 := HO.out
            rw [Nat.add_mul, Nat.one_mul]
            omega
          have hkept' := hkP.trans hkept
          clear hth hkept
          go_wp2
          go_roundw
          case rel =>
            have := HKN.out
            first | exact ⟨k + 1, m', by omega, by go_num, hm2, rfl, hown, hkept'⟩ | ((repeat apply Exists.intro); exact ⟨⟨k + 1, m', by omega, by go_num, hm2, rfl, hown, hkept'⟩, rfl⟩)
          case measure =>
            have := HKN.out
            simp [intOf]
            omega
    · obtain rfl : k = n := by omega
      have hmN : m = N := by rw [HM.out, HN.out]
      subst hmN
      have hkb : Below w.heap.size w wr := hbw3.trans (hkept.below (B := w.heap.size) hbw3.size (by simpa using hGw))
      clear hkept
      go_wp2
      go_ret2
      exact ⟨G, rfl, hown.mono hGw, hkb⟩
end Go.Proofs.YtdndeegpbjlibadGreatDoor
