import Derived.Test.YtplkmkbambbemadGreatDoorK06
import Derived.Test.YtplkmkbambbemadGreatDoorK01
import Derived.OrdersIn
import Derived.OwnWalkIn
import Derived.Great.Frames
namespace Go.Proofs.YtplkmkbambbemadGreatDoor
open Go.ChangeShapes Go.WideShapes Go.ChangeAt Go.RowKit
theorem ownS_slice {w : World} {B : Nat} {v : Value} {vs : List Value} {R : Nat} (h : OwnS w B v vs) (hl : vs.length = R) (h0 : 0 < R) : ∃ g cap, v = .slice (some ⟨g, 0, none⟩) R cap ∧ B ≤ g := by
  rcases h.2 with ⟨_, e⟩ | ⟨g, cap, cur, e, hb, _⟩
  · omega
  · exact ⟨g, cap, by rw [e, hl], hb⟩
theorem ownS_snoc {w : World} {B : Nat} {v u : Value} {vs : List Value} (h : w.ownsRow B 23 1 v (vs.length + 1) (vs ++ [u])) : OwnS w B v (vs ++ [u]) := by
  unfold OwnS
  rw [List.length_append]
  exact h
theorem Tab.facts {w : World} {B g cap i d : Nat} {vs : List Value} (h : Tab w B (.slice (some ⟨g, 0, none⟩) (d + 1) cap) i (d + 1) vs) : ∃ u, u = vs.getD d undef ∧ w.cell? ⟨g, d, none⟩ = some u ∧ OwnI w B u (rowM i d) := by
  refine ⟨_, rfl, ?_, h.row d (by omega)⟩
  have h0 := h.tab
  unfold OwnS at h0
  rw [h.len] at h0
  rw [h0.cellAt d (by omega)]
  unfold List.getD
  rw [List.getElem?_eq_getElem (by rw [h.len]; omega)]
  rfl
theorem Tab.step {w w2 : World} {B g cap i d : Nat} {vs : List Value} {u v2 : Value} {o : Obj} (h : Tab w B (.slice (some ⟨g, 0, none⟩) (d + 1) cap) i (d + 1) vs) (hd : d = i / 8) (hu : u = vs.getD d undef)
    (hg : (w.alloc o).grownBy w2 u.ownBlock) (hn : OwnI w2 B v2 (rowM i d ++ [(i : Int)])) (hloc : v2.ownBlock = u.ownBlock ∨ v2.ownBlock = some (w.alloc o).heap.size) :
    w2.cell? ⟨g, d, none⟩ = some u ∧ w2.frozen? ⟨g, d, none⟩ = false ∧ Tab (w2.setCell ⟨g, d, none⟩ v2) B (.slice (some ⟨g, 0, none⟩) (d + 1) cap) (i + 1) (d + 1) (vs.set d v2) ∧ w2.grownBy (w2.setCell ⟨g, d, none⟩ v2) (some g) := by
  subst hu
  subst hd
  have hga := (World.grownBy_alloc w o (vs.getD (i / 8) undef).ownBlock).trans hg
  have hT2 := own_grow h.tab hga (fun k hk => (h.blocks (r := i / 8) (by omega)).symm k hk)
  rw [h.len] at hT2
  obtain ⟨hP, hP2⟩ := Tab.push h rfl hga hn (hloc.imp id (fun e => ⟨_, e, by simp⟩))
  refine ⟨?_, hT2.frozenAt _, hP, hP2⟩
  rw [hT2.cellAt (i / 8) (by omega)]
  unfold List.getD
  rw [List.getElem?_eq_getElem (by rw [h.len]; omega)]
  rfl
theorem intsM_append (a b : List Nat) : intsM (a ++ b) = intsM a ++ intsM b := by simp [intsM]
theorem intsM_length (a : List Nat) : (intsM a).length = a.length := by simp [intsM]
theorem intsM_at (l : List Nat) (j : Nat) : (intsM l).getD j 0 = ((l.getD j 0 : Nat) : Int) := by
  unfold intsM List.getD
  rw [List.getElem?_map]
  cases l[j]? <;> rfl
theorem ordTo_le {n k : Nat} (h : n ≤ 4096) (hk : k ≤ 8) : (ordTo n k).length ≤ 512 * k := by
  induction k with
  | zero => simp [ordTo]
  | succ k ih =>
    rw [ordTo_succ (by omega), List.length_append]
    have h1 := colTo_len n (colsM.getD k 0) (rowsM n)
    have h2 : rowsM n ≤ 512 := by unfold rowsM; omega
    have := ih (by omega)
    omega
/-- A row of the table, as it is read. -/
theorem Tab.read {w : World} {B n R : Nat} {v : Value} {vs : List Value} (h : Tab w B v n R vs) (hR : R = (n + 7) / 8) {r : Nat} (hr : r < R) :
    ∃ gT cT gr cr, v = .slice (some ⟨gT, 0, none⟩) R cT ∧ w.cell? ⟨gT, r, none⟩ = some (.slice (some ⟨gr, 0, none⟩) (min 8 (n - 8 * r)) cr) ∧ gT < w.heap.size ∧ gr < w.heap.size ∧ (∀ j, j < min 8 (n - 8 * r) → w.cell? ⟨gr, j, none⟩ = some (.int .i64 ((8 * r + j : Nat) : Int))) := by
  have h0 := h.tab
  unfold OwnS at h0
  rw [h.len] at h0
  have hrow := h.row r hr
  have hpos : 0 < min 8 (n - 8 * r) := by omega
  rcases h0.2 with ⟨_, e⟩ | ⟨gT, cT, cur, rfl, _, hg, _⟩
  · omega
  · rcases hrow.2 with ⟨_, e⟩ | ⟨gr, cr, cur', e, _, hg', _⟩
    · rw [rowM_length] at e; omega
    · rw [rowM_length] at e
      refine ⟨gT, cT, gr, cr, rfl, ?_, (h0.lt gT rfl).2, (hrow.lt gr (by rw [e]; rfl)).2, fun j hj => ?_⟩
      · rw [h0.cellAt r (by omega), ← e]
        unfold List.getD
        rw [List.getElem?_eq_getElem (by rw [h.len]; omega)]
        rfl
      · rw [e] at hrow
        obtain ⟨b, o, e2, hc⟩ := (OwnI.rd hrow).at (i := j) (by rw [rowM_length]; exact hj)
        simp only [Option.some.injEq, Addr.mk.injEq, and_true] at e2
        obtain ⟨rfl, rfl⟩ := e2
        have := hc j (by rw [rowM_length]; exact hj)
        rw [Nat.zero_add, rowM_at hj] at this
        exact this
set_option maxRecDepth 100000 in
set_option maxHeartbeats 4000000 in
theorem rorder_any (n : Nat) (w : World) (hn : n ≤ 4096) :
    Calls Tryz.prog 113 #[.int .i64 n] w fun e w' => ∃ v, e = .returned v ∧ OwnI w' w.heap.size v (intsM (ordM n)) ∧ Below w.heap.size w w' := by
  go_enter Tryz.func113, Tryz.ntmps113
  go_wp2
  go_loopw [3, 4] (fun v q wr => ∃ i : Nat, i ≤ n ∧ q = .int .i64 i ∧ ∃ vs, Tab wr w.heap.size v i ((i + 7) / 8) vs ∧ Below w.heap.size w wr) (fun _ q _ => n - (intOf q).toNat)
  case atStart => exact ⟨0, Nat.zero_le _, rfl, [], Tab.start _ _, Below.refl _ _⟩
  case round =>
    obtain ⟨i, hi, rfl, vs, hTab, hbel⟩ := hrel
    have hsz := hbel.size
    by_cases hlt : i < n
    · obtain ⟨d, ed⟩ : ∃ d, d = i / 8 := ⟨_, rfl⟩
      have HD := hid ed
      have hquo : (i : Int).tdiv 8 = (d : Int) := by rw [Int.tdiv_eq_ediv_of_nonneg (by omega)]; omega
      have hd5 : d ≤ 512 := by omega
      have hdl : (d : Int) < (d : Int) + 1 := by omega
      have hrl : (rowM i d).length ≤ 8 := by rw [rowM_length]; omega
      obtain ⟨i0, hi0, hz0, hz1, hz2⟩ := info_parts Tryz.infoS
      obtain ⟨j0, hj0, hy0, hy1, hy2⟩ := info_parts Tryz.info3
      by_cases h8 : i % 8 = 0
      · have hrem : (i : Int).tmod 8 = 0 := by rw [Int.tmod_eq_emod_of_nonneg (by omega)]; omega
        have HR0 := hid (show (i + 7) / 8 = d by omega)
        rw [HR0.out] at hTab
        have hvl : vs.length ≤ 512 := by rw [hTab.len]; exact hd5
        have H8 := hid h8
        have hown0 := World.ownsRow.alloc hTab.tab (.cells #[.slice none 0 0] 23)
        clear ed h8
        go_wp2_with (first
          | (at_builtin; refine wpList_append_own_at _ rfl (.tmp 17) (.tmp 18) 179 rfl w.heap.size 23 i0 (.slice none 0 0) 1 24 Tryz.underlying179 hi0 hz0 hz1 hz2 rfl (by decide) u3 _ _ rfl hown0 ⟨wr.heap.size, 0, none⟩ 1 1 [.slice none 0 0] rfl rfl (cell_one_new _ _ _) (by intro x hx; simp at hx; subst hx; rfl) (by unfold maxLen; omega) (by omega) (by simp; omega) ?_; intro v1 w1 hown1 hgrow1 _hn1 _hl1; have hga1 := (World.grownBy_alloc wr (.cells #[.slice none 0 0] 23) u3.ownBlock).trans hgrow1; have hT1 := hTab.more H8.out HD.out hga1 (ownS_snoc hown1); obtain ⟨g, cap, rfl, hgB⟩ := ownS_slice hT1.tab hT1.len (by omega); obtain ⟨u, eu, hcell, hu⟩ := hT1.facts; have HU := hid eu; have hbelZ := hbel.grown hga1 hsz (fun k hk => (hTab.tab.lt k hk).1); have hszZ := hbelZ.size; clear eu)
          | (at_builtin; refine wpList_append_own_at _ rfl (.tmp 27) (.tmp 29) 23 rfl w.heap.size 3 j0 (.int .i64 0) 1 8 Tryz.underlying23 hj0 hy0 hy1 hy2 rfl (by decide) u _ _ rfl (World.ownsRow.alloc hu _) ⟨w1.heap.size, 0, none⟩ 1 1 [.int .i64 (i : Int)] rfl rfl (cell_one_new _ _ _) (by intro x hx; simp at hx; subst hx; rfl) (by unfold maxLen; omega) (by omega) (by simp; omega) ?_; intro v2 w2 hown2 hgrow2 _hn2 hloc2; obtain ⟨a2, c2, rfl, -⟩ := (OwnI.snoc hown2).shape; obtain ⟨hc2, hf2, hT3, hg3⟩ := hT1.step HD.out HU.out hgrow2 (OwnI.snoc hown2) hloc2))
        have hlen2 : (rowM i d ++ [(i : Int)]).length = (rowM i d).length + 1 := by simp
        rw [hlen2] at hT3 hg3
        have hbel3 := (hbelZ.grown ((World.grownBy_alloc w1 _ u.ownBlock).trans hgrow2) hszZ (fun k hk => (hu.lt k hk).1)).grown hg3 (Nat.le_trans hszZ (Nat.le_trans (by simp) hgrow2.size)) (fun k hk => by simp at hk; omega)
        have hE : d + 1 = (i + 1 + 7) / 8 := by rw [HD.out]; omega
        rw [hE] at hT3
        go_roundw
        case rel => exact ⟨i + 1, by omega, by go_num, _, by rw [← hE] at hT3 ⊢; exact hT3, hbel3⟩
        case measure => simp [intOf]; omega
      · have hrem : (i : Int).tmod 8 = ((i % 8 : Nat) : Int) := by rw [Int.tmod_eq_emod_of_nonneg (by omega)]; simp
        obtain ⟨r8, er8⟩ : ∃ r8, r8 = i % 8 := ⟨_, rfl⟩
        rw [← er8] at hrem h8
        have hb8 : ((r8 : Int) == 0) = false := by simp; omega
        have HR0 := hid (show (i + 7) / 8 = d + 1 by omega)
        rw [HR0.out] at hTab
        obtain ⟨g, cap, rfl, hgB⟩ := ownS_slice hTab.tab hTab.len (by omega)
        obtain ⟨u, eu, hcell, hu⟩ := hTab.facts
        have HU := hid eu
        have hT1 := hTab
        have hbelZ := hbel
        have hszZ := hsz
        clear eu er8 h8 ed
        go_wp2_with (first
          | (at_builtin; refine wpList_append_own_at _ rfl (.tmp 27) (.tmp 29) 23 rfl w.heap.size 3 j0 (.int .i64 0) 1 8 Tryz.underlying23 hj0 hy0 hy1 hy2 rfl (by decide) u _ _ rfl (World.ownsRow.alloc hu _) ⟨wr.heap.size, 0, none⟩ 1 1 [.int .i64 (i : Int)] rfl rfl (cell_one_new _ _ _) (by intro x hx; simp at hx; subst hx; rfl) (by unfold maxLen; omega) (by omega) (by simp; omega) ?_; intro v2 w2 hown2 hgrow2 _hn2 hloc2; obtain ⟨a2, c2, rfl, -⟩ := (OwnI.snoc hown2).shape; obtain ⟨hc2, hf2, hT3, hg3⟩ := hT1.step HD.out HU.out hgrow2 (OwnI.snoc hown2) hloc2))
        have hlen2 : (rowM i d ++ [(i : Int)]).length = (rowM i d).length + 1 := by simp
        rw [hlen2] at hT3 hg3
        have hbel3 := (hbelZ.grown ((World.grownBy_alloc wr _ u.ownBlock).trans hgrow2) hszZ (fun k hk => (hu.lt k hk).1)).grown hg3 (Nat.le_trans hszZ (Nat.le_trans (by simp) hgrow2.size)) (fun k hk => by simp at hk; omega)
        have hE : d + 1 = (i + 1 + 7) / 8 := by rw [HD.out]; omega
        rw [hE] at hT3
        go_roundw
        case rel => exact ⟨i + 1, by omega, by go_num, _, by rw [← hE] at hT3 ⊢; exact hT3, hbel3⟩
        case measure => simp [intOf]; omega
    · obtain rfl : n = i := by omega
      generalize wr = WR at *
      have har := arr_new .i64 3 WR (intsM colsM)
      have hshape : ∃ aT cT, u3 = .slice aT ((n + 7) / 8) cT := by
        rcases hTab.tab.2 with ⟨e, e0⟩ | ⟨g, cap, cur, e, _⟩
        · exact ⟨none, 0, by rw [e, ← hTab.len, e0]⟩
        · exact ⟨_, cap, by rw [e, hTab.len]⟩
      obtain ⟨aT, cT, rfl⟩ := hshape
      obtain ⟨R, eR⟩ : ∃ R, R = (n + 7) / 8 := ⟨_, rfl⟩
      rw [← eR] at hTab ⊢
      have HR := hid eR
      have hR5 : R ≤ 512 := by omega
      clear eR
      have hbC : Below w.heap.size w (WR.alloc (.cells ((intsM colsM).map (Value.int .i64)).toArray 3)) := hbel.alloc hsz _
      have hTabC : ∀ r, r < R → ∃ gT gr cr, aT = some ⟨gT, 0, none⟩ ∧ WR.cell? ⟨gT, r, none⟩ = some (.slice (some ⟨gr, 0, none⟩) (min 8 (n - 8 * r)) cr) ∧ gT < WR.heap.size ∧ gr < WR.heap.size ∧ (∀ j, j < min 8 (n - 8 * r) → WR.cell? ⟨gr, j, none⟩ = some (.int .i64 ((8 * r + j : Nat) : Int))) := fun r hr => by
        obtain ⟨gT, cT', gr, cr, e, h1, h2, h3, h4⟩ := hTab.read HR.out hr
        simp only [Value.slice.injEq] at e
        exact ⟨gT, gr, cr, e.1, h1, h2, h3, h4⟩
      have hbW := hbel
      clear hTab hbel
      go_wp2
      go_loopw [6, 7] (fun v q ws => ∃ k : Nat, k ≤ 8 ∧ q = .int .i64 k ∧ OwnI ws (WR.heap.size + 1) v (intsM (ordTo n k)) ∧ ArrAt .i64 3 ws WR.heap.size (intsM colsM) ∧ Below WR.heap.size WR ws ∧ WR.heap.size + 1 ≤ ws.heap.size) (fun _ q _ => 8 - (intOf q).toNat)
      case atStart => exact ⟨0, Nat.zero_le _, rfl, OwnI.nil _ _, har, (Below.refl _ _).alloc (Nat.le_refl _) _, by simp⟩
      case round =>
        obtain ⟨k, hk, rfl, hown, hC, hbs, hss⟩ := hrel
        by_cases hltk : k < 8
        · obtain ⟨ck, eck⟩ : ∃ ck, ck = colsM.getD k 0 := ⟨_, rfl⟩
          have hck : ck < 8 := by rw [eck]; exact cols_lt hltk
          have HCK := hid eck
          have HOS := hid (ordTo_succ (n := n) hltk)
          rw [← eck] at HOS
          have HOL := hid (ordTo_le (n := n) (k := k) hn hk)
          have dk : decide ((k : Int) < 8) = true := decide_eq_true (by omega)
          clear eck
          go_wp2
          go_loopw [6, 8] (fun v q wt => ∃ r : Nat, r ≤ R ∧ q = .int .i64 r ∧ OwnI wt (WR.heap.size + 1) v (intsM (ordTo n k ++ colTo n ck r)) ∧ ArrAt .i64 3 wt WR.heap.size (intsM colsM) ∧ Below WR.heap.size WR wt ∧ WR.heap.size + 1 ≤ wt.heap.size) (fun _ q _ => R - (intOf q).toNat)
          case atStart => exact ⟨0, Nat.zero_le _, rfl, by simpa [colTo] using hown, hC, hbs, hss⟩
          case round =>
            obtain ⟨r, hr, rfl, hown', hC', hbt, hst⟩ := hrel
            by_cases hltr : r < R
            · obtain ⟨gT, gr, cr, rfl, t1, t2, t3, t4⟩ := hTabC r hltr
              have g1 : wr.cell? ⟨gT, r, none⟩ = some (.slice (some ⟨gr, 0, none⟩) (min 8 (n - 8 * r)) cr) := (hbt.cell (by exact t2)).trans t1
              have g2 : wr.cell? ⟨WR.heap.size, k, none⟩ = some (.int .i64 (ck : Int)) := by
                have := hC'.cell (j := k) (by rw [intsM_length]; exact hltk)
                rw [intsM_at, ← HCK.out] at this
                exact this
              obtain ⟨m, em⟩ : ∃ m, m = min 8 (n - 8 * r) := ⟨_, rfl⟩
              rw [← em] at g1 t4
              have HLE : Hid ((intsM (ordTo n k ++ colTo n ck r)).length < 8796093022208) := by
                unfold Hid
                rw [intsM_length, List.length_append]
                have h1 := HOL.out
                have h2 := colTo_len n ck r
                omega
              have r0 : (0 : Int) ≤ (r : Int) := by omega
              have k0 : (0 : Int) ≤ (k : Int) := by omega
              have k8 : (k : Int) < 8 := by omega
              have c0 : (0 : Int) ≤ (ck : Int) := by omega
              have rR : (r : Int) < (R : Int) := by omega
              by_cases hin : 8 * r + ck < n
              · have hcm : ck < m := by omega
                have hcmi : (ck : Int) < (m : Int) := by omega
                have g3 : wr.cell? ⟨gr, ck, none⟩ = some (.int .i64 ((8 * r + ck : Nat) : Int)) := (hbt.cell (by exact t3)).trans (t4 ck hcm)
                have HCT := hid (colTo_yes hin)
                obtain ⟨x, ex⟩ : ∃ x, x = 8 * r + ck := ⟨_, rfl⟩
                rw [← ex] at g3 HCT
                clear em t4 hin ex t1
                go_wp2_with fail
                go_quiet (fail)
                have hown0 : OwnI (wr.drewN nq) (WR.heap.size + 1) u6 (intsM (ordTo n k ++ colTo n ck r)) := hown'
                have h01 : (wr.drewN nq).cell? ⟨gT, r, none⟩ = some (.slice (some ⟨gr, 0, none⟩) m cr) := g1
                have h02 : (wr.drewN nq).cell? ⟨WR.heap.size, k, none⟩ = some (.int .i64 (ck : Int)) := g2
                have h03 : (wr.drewN nq).cell? ⟨gr, ck, none⟩ = some (.int .i64 (x : Int)) := g3
                have hCq : ArrAt .i64 3 (wr.drewN nq) WR.heap.size (intsM colsM) := hC'
                have hbq := below_drewN hbt nq
                have hsq : WR.heap.size + 1 ≤ (wr.drewN nq).heap.size := hst
                generalize wr.drewN nq = wq at *
                clear hown' g1 g2 g3 hC' hbt hst
                go_wp2_with fail
                go_region_law (refine step_pushJ (WR.heap.size + 1) wq wq.heap.size (x : Int) (show OwnI (wq.alloc (.cells #[.int .i64 (x : Int)] 3)).drew _ _ _ from World.ownsRow.alloc hown0 _) rfl (.tmp 53) (.tmp 64) rfl rfl rfl (cell_one _ _ _) HLE.out (((Below.refl _ _).alloc hsq _).drew) (by simp; omega) ?_; intro v' w2 hown2 hbel2)
                all_goals
                  have hs2 := hbel2.size
                  have e2 : intsM (ordTo n k ++ colTo n ck r) ++ [(x : Int)] = intsM (ordTo n k ++ colTo n ck (r + 1)) := by rw [HCT.out, ← List.append_assoc, intsM_append _ [x]]; rfl
                  rw [e2] at hown2
                  have hC2 := hCq.below hbel2 (by omega)
                  have hb2 := hbq.trans (hbel2.mono (by omega))
                  clear e2 hown0 hbq hCq
                  go_wp2
                  go_roundw
                  case rel => first | exact ⟨r + 1, by omega, by go_num, hown2, hC2, hb2, by omega⟩ | ((repeat apply Exists.intro); exact ⟨⟨r + 1, by omega, by go_num, hown2, hC2, hb2, by omega⟩, rfl⟩)
                  case measure => simp [intOf]; omega
              · have hcm : ¬ ck < m := by omega
                have hcmi : ¬ (ck : Int) < (m : Int) := by omega
                have HCT := hid (colTo_no hin)
                rw [← HCT.out] at hown'
                clear em t4 hin t1
                go_wp2_with fail
                go_quiet (fail)
                go_wp2
                go_roundw
                case rel => first | exact ⟨r + 1, by omega, by go_num, hown', hC', below_drewN hbt nq, hst⟩ | ((repeat apply Exists.intro); exact ⟨⟨r + 1, by omega, by go_num, hown', hC', below_drewN hbt nq, hst⟩, rfl⟩)
                case measure => simp [intOf]; omega
            · obtain rfl : R = r := by omega
              have HRW := hid (show rowsM n = R by rw [HR.out]; rfl)
              rw [← HRW.out, ← HOS.out] at hown'
              go_wp2
              go_roundw
              case rel => first | exact ⟨k + 1, by omega, by go_num, hown', hC', hbt, hst⟩ | ((repeat apply Exists.intro); exact ⟨⟨k + 1, by omega, by go_num, hown', hC', hbt, hst⟩, rfl⟩)
              case measure => simp [intOf]; omega
        · obtain rfl : k = 8 := by omega
          go_wp2
          go_ret
          exact ⟨_, rfl, OwnI.mono hown (by omega), hbW.trans (hbs.mono hsz)⟩
end Go.Proofs.YtplkmkbambbemadGreatDoor
namespace Go.Proofs.YtplkmkbambbemadGreatDoor
open Go.ChangeShapes Go.WideShapes Go.ChangeAt Go.RowKit
def verOk (v : Int) : Bool := decide (0 ≤ v ∧ v ≤ 3)
theorem ret_boolM {a b : Bool} (h : a = b) : Ending.returned (.bool a) = .returned (.bool b) := by rw [h]
set_option maxHeartbeats 400000 in
theorem rversion_any (v : Int) (w : World) : Calls Tryz.prog 33 #[.int .i64 v] w fun e w' => e = .returned (.bool (verOk v)) ∧ w = w' := by
  by_cases h0 : 0 ≤ v
  · have d0 : decide (0 ≤ v) = true := decide_eq_true h0
    by_cases h3 : v ≤ 3
    · have HV := hid (show true = verOk v by simp [verOk, h0, h3])
      have d3 : decide (v ≤ 3) = true := decide_eq_true h3
      clear h0 h3
      go_enter Tryz.func33, Tryz.ntmps33
      go_wp2
      go_ret
      exact ⟨ret_boolM HV.out, rfl⟩
    · have HV := hid (show false = verOk v by simp [verOk]; omega)
      have d3 : decide (v ≤ 3) = false := decide_eq_false h3
      clear h0 h3
      go_enter Tryz.func33, Tryz.ntmps33
      go_wp2
      go_ret
      exact ⟨ret_boolM HV.out, rfl⟩
  · have HV := hid (show false = verOk v by simp [verOk]; omega)
    have d0 : decide (0 ≤ v) = false := decide_eq_false h0
    clear h0
    go_enter Tryz.func33, Tryz.ntmps33
    go_wp2
    go_ret
    exact ⟨ret_boolM HV.out, rfl⟩
/-- Which coded bit the i-th picked one is. -/
def pickM (n v i : Nat) : Nat := (ordM n).getD ((n * v / 4 + i) % n) 0
def pickTo (n v c : Nat) : List Nat := (List.range c).map (pickM n v)
theorem pickTo_succ (n v i : Nat) : intsM (pickTo n v (i + 1)) = intsM (pickTo n v i) ++ [((pickM n v i : Nat) : Int)] := by simp [pickTo, intsM, List.range_succ]
theorem pickTo_length (n v c : Nat) : (intsM (pickTo n v c)).length = c := by simp [pickTo, intsM]
theorem pickM_lt {n v i : Nat} (h : 1 ≤ n) : pickM n v i < n := by
  unfold pickM
  have hm : (n * v / 4 + i) % n < (ordM n).length := by rw [ordM_length]; exact Nat.mod_lt _ (by omega)
  have e : (ordM n).getD ((n * v / 4 + i) % n) 0 = (ordM n)[(n * v / 4 + i) % n] := by simp [List.getD, hm]
  rw [e]
  exact mem_ordM.1 (List.getElem_mem hm)
set_option maxRecDepth 100000 in
set_option maxHeartbeats 2000000 in
theorem rpicked_any (n v c : Nat) (w : World) (h1 : 1 ≤ n) (hn : n ≤ 4096) (hv : v ≤ 3) (hc : c ≤ 4096) :
    Calls Tryz.prog 78 #[.int .i64 n, .int .i64 v, .int .i64 c] w fun e w' => ∃ u, e = .returned u ∧ OwnI w' w.heap.size u (intsM (pickTo n v c)) ∧ Below w.heap.size w w' := by
  have hmul : (n : Int) * (v : Int) = ((n * v : Nat) : Int) := by simp
  have hnv : n * v ≤ 12288 := by
    have := Nat.mul_le_mul hn hv
    omega
  obtain ⟨p, ep⟩ : ∃ p, p = n * v := ⟨_, rfl⟩
  rw [← ep] at hmul hnv
  have hquo : (p : Int).tdiv 4 = ((p / 4 : Nat) : Int) := by rw [Int.tdiv_eq_ediv_of_nonneg (by omega)]; simp
  obtain ⟨b, eb⟩ : ∃ b, b = p / 4 := ⟨_, rfl⟩
  rw [← eb] at hquo
  have hbn : b < n := by
    have h3 : n * v ≤ n * 3 := Nat.mul_le_mul_left n hv
    omega
  have HB := hid (show b = n * v / 4 by rw [eb, ep])
  have HLO := hid ((intsM_length (ordM n)).trans (ordM_length n))
  have hwm : IntKind.i64.wrap ((n : Int) * (v : Int)) = (p : Int) := by rw [hmul, IntKind.wrap_i64]; omega
  clear ep eb
  go_enter Tryz.func78, Tryz.ntmps78
  go_wp2_with fail
  refine (rorder_any n _ hn).mono ?_
  rintro e w1 ⟨v1, rfl, hown1, hbel1⟩
  obtain ⟨aL, cL, rfl, -, -⟩ := hown1.shape
  have hrL := hown1.rd
  rw [HLO.out]
  clear hown1
  go_wp2
  go_loopw [8, 9, 10] (fun u q9 q10 wr => ∃ i t : Nat, i ≤ c ∧ Hid (t = (b + i) % n) ∧ t < n ∧ q9 = .int .i64 t ∧ q10 = .int .i64 i ∧ OwnI wr w1.heap.size u (intsM (pickTo n v i)) ∧ Below w1.heap.size w1 wr) (fun _ _ q10 _ => c - (intOf q10).toNat)
  case atStart => exact ⟨0, b, Nat.zero_le _, by unfold Hid; rw [Nat.add_zero, Nat.mod_eq_of_lt hbn], hbn, rfl, rfl, OwnI.nil _ _, Below.refl _ _⟩
  case round =>
    obtain ⟨i, t, hi, HT, htn, rfl, rfl, hown, hbel⟩ := hrel
    have hsz := hbel.size
    by_cases hlt : i < c
    · obtain ⟨b1, o1, rfl, hc1⟩ := (hrL.below hbel).at (i := t) (by rw [HLO.out]; exact htn)
      have g1 := hc1 t (by rw [HLO.out]; exact htn)
      rw [intsM_at] at g1
      have HPS := hid (pickTo_succ n v i)
      have HP := hid (show (ordM n).getD t 0 = pickM n v i by unfold pickM; rw [HT.out, HB.out])
      have HL8 : Hid ((intsM (pickTo n v i)).length < 8796093022208) := by unfold Hid; rw [pickTo_length]; omega
      rw [HP.out] at g1
      generalize pickM n v i = x at *
      clear hc1 HP
      by_cases he : t + 1 = n
      · have hbe : ((t : Int) + 1 == (n : Int)) = true := by simp; omega
        have HT' : Hid (0 = (b + (i + 1)) % n) := by
          unfold Hid
          rw [← Nat.add_assoc, Nat.add_mod, ← HT.out]
          by_cases h1n : n = 1
          · subst h1n; omega
          · rw [Nat.mod_eq_of_lt (show 1 < n by omega), he, Nat.mod_self]
        clear he
        go_wp2_with (first | (at_builtin; refine wpList_pushI w1.heap.size w1 (x : Int) hown rfl _ _ rfl rfl rfl HL8.out hbel hsz ?_))
        intro u' w2 hown' hbel'
        rw [← HPS.out] at hown'
        go_wp2
        go_roundw
        case rel => first | exact ⟨i + 1, 0, by omega, HT', by omega, rfl, by go_num, hown', hbel'⟩ | ((repeat apply Exists.intro); exact ⟨⟨i + 1, 0, by omega, HT', by omega, rfl, by go_num, hown', hbel'⟩, rfl⟩)
        case measure => simp [intOf]; omega
      · have hbe : ((t : Int) + 1 == (n : Int)) = false := by simp; omega
        have ht1 : t + 1 < n := by omega
        have HT' : Hid (t + 1 = (b + (i + 1)) % n) := by
          unfold Hid
          rw [← Nat.add_assoc, Nat.add_mod, ← HT.out, Nat.mod_eq_of_lt (show 1 < n by omega), Nat.mod_eq_of_lt (by omega)]
        clear he
        go_wp2_with (first | (at_builtin; refine wpList_pushI w1.heap.size w1 (x : Int) hown rfl _ _ rfl rfl rfl HL8.out hbel hsz ?_))
        intro u' w2 hown' hbel'
        rw [← HPS.out] at hown'
        go_wp2
        go_roundw
        case rel => exact ⟨i + 1, t + 1, by omega, HT', by omega, by go_num, by go_num, hown', hbel'⟩
        case measure => simp [intOf]; omega
    · obtain rfl : i = c := by omega
      go_wp2
      go_ret
      exact ⟨_, rfl, hown.mono hbel1.size, bthen hbel1 hbel⟩
end Go.Proofs.YtplkmkbambbemadGreatDoor
namespace Go.Proofs.YtplkmkbambbemadGreatDoor
/-- The first k of xs added at the places ps. -/
def gathTo (s : List Int) (ps : List Nat) (xs : List Int) : Nat → List Int
  | 0 => s
  | k + 1 => (gathTo s ps xs k).set (ps.getD k 0) ((gathTo s ps xs k).getD (ps.getD k 0) 0 + xs.getD k 0)
/-- What comes to the place j by the first k. -/
def comesTo (ps : List Nat) (xs : List Int) (j : Nat) : Nat → Int
  | 0 => 0
  | k + 1 => comesTo ps xs j k + if ps.getD k 0 = j then xs.getD k 0 else 0
theorem gathTo_length (s : List Int) (ps : List Nat) (xs : List Int) (k : Nat) : (gathTo s ps xs k).length = s.length := by
  induction k with
  | zero => rfl
  | succ k ih => rw [gathTo, List.length_set, ih]
theorem gathTo_at (s : List Int) (ps : List Nat) (xs : List Int) (k : Nat) {j : Nat} (hj : j < s.length) : (gathTo s ps xs k).getD j 0 = s.getD j 0 + comesTo ps xs j k := by
  induction k with
  | zero => simp [gathTo, comesTo]
  | succ k ih =>
    rw [gathTo, comesTo, ← Int.add_assoc, ← ih]
    have hl : j < (gathTo s ps xs k).length := by rw [gathTo_length]; exact hj
    by_cases e : ps.getD k 0 = j
    · rw [if_pos e, e]
      simp [List.getD, hl]
    · rw [if_neg e, Int.add_zero]
      simp only [List.getD] at e ⊢
      rw [List.getElem?_set_ne e]
end Go.Proofs.YtplkmkbambbemadGreatDoor
namespace Go.Proofs.YtplkmkbambbemadGreatDoor
open Go.ChangeShapes Go.WideShapes Go.ChangeAt Go.RowKit
/-- Operation i waits for operation j. -/
def waitsFor (ops : Array Oper) (i j : Nat) : Bool := ((ops[i]?).map fun o => o.after.any fun e => e.on == j && Region.binds .any e).getD false
/-- Operation i waits for none behind it. -/
def laterNone (ops : Array Oper) (i : Nat) : Bool := ((ops[i]?).map fun o => o.after.all fun e => !Region.binds .any e || decide (e.on < i)).getD true
theorem ready_waits {ops : Array Oper} {listed : Array Bool} {i j : Nat} (h : i ∈ Region.ready .any ops listed) (hw : waitsFor ops i j = true) : listed.getD j false = true := by
  unfold Region.ready at h
  rw [List.mem_filter] at h
  obtain ⟨_, h⟩ := h
  unfold waitsFor at hw
  cases ho : ops[i]? with
  | none => rw [ho] at hw; simp at hw
  | some o =>
    rw [ho] at h hw
    simp only [Option.map_some, Option.getD_some, Bool.and_eq_true, Array.any_eq_true, Array.all_eq_true] at h hw
    obtain ⟨x, hx, he⟩ := hw
    have h2 := h.2 x hx
    simp only [beq_iff_eq, Bool.or_eq_true, Bool.not_eq_true'] at he h2
    rw [← he.1]
    rcases h2 with h2 | h2
    · rw [he.2] at h2; cases h2
    · exact h2
theorem ready_un {ops : Array Oper} {listed : Array Bool} {i : Nat} (h : i ∈ Region.ready .any ops listed) : i < ops.size ∧ listed.getD i true = false := by
  unfold Region.ready at h
  rw [List.mem_filter] at h
  simp only [List.mem_range, Bool.and_eq_true, Bool.not_eq_true'] at h
  exact ⟨h.1, h.2.1⟩
/-- The first that is not listed is ready. -/
theorem ready_first {ops : Array Oper} {listed : Array Bool} {i : Nat} (hi : i < ops.size) (hl : listed.getD i true = false) (hp : ∀ j, j < i → listed.getD j false = true) (ht : laterNone ops i = true) : i ∈ Region.ready .any ops listed := by
  unfold Region.ready
  rw [List.mem_filter]
  refine ⟨List.mem_range.2 hi, ?_⟩
  unfold laterNone at ht
  have ho : ops[i]? = some ops[i] := Array.getElem?_eq_getElem hi
  rw [ho] at ht ⊢
  simp only [Option.map_some, Option.getD_some, Array.all_eq_true, decide_eq_true_eq, Bool.and_eq_true, Bool.not_eq_true', Bool.or_eq_true] at ht ⊢
  exact ⟨hl, fun x hx => (ht x hx).imp id (hp _)⟩
theorem ready_done {ops : Array Oper} {listed : Array Bool} (h : ∀ i, i < ops.size → listed.getD i true = true) : Region.ready .any ops listed = [] := by
  unfold Region.ready
  rw [List.filter_eq_nil_iff]
  intro i hi
  rw [List.mem_range] at hi
  rw [h i hi]
  simp
theorem getD_set (L : Array Bool) (i j : Nat) (b : Bool) : (L.setIfInBounds i true).getD j b = if i = j ∧ j < L.size then true else L.getD j b := by
  simp only [Array.getD_eq_getD_getElem?, Array.getElem?_setIfInBounds]
  by_cases h : i = j
  · subst h
    by_cases h2 : i < L.size
    · simp [h2]
    · simp [h2]
  · simp [h]
theorem count_set (L : Array Bool) (i : Nat) (h : L.getD i true = false) : (L.setIfInBounds i true).toList.count false + 1 = L.toList.count false := by
  have hi : i < L.size := by
    rcases Nat.lt_or_ge i L.size with h' | h'
    · exact h'
    · rw [Array.getD_eq_getD_getElem?, Array.getElem?_eq_none h'] at h; cases h
  have he : L.toList[i]'(by simpa using hi) = false := by
    rw [Array.getD_eq_getD_getElem?, Array.getElem?_eq_getElem hi] at h
    simpa using h
  rw [Array.toList_setIfInBounds, List.count_set (by simpa using hi), he]
  have : 0 < L.toList.count false := List.count_pos_iff.2 (he ▸ List.getElem_mem _)
  show L.toList.count false - 1 + 0 + 1 = L.toList.count false
  omega
theorem least {p : Nat → Prop} : ∀ n, p n → ∃ m, p m ∧ ∀ j, j < m → ¬ p j := by
  intro n
  induction n using Nat.strongRecOn with
  | ind n ih =>
    intro hn
    by_cases h : ∃ j, j < n ∧ p j
    · obtain ⟨j, hj, hp⟩ := h
      exact ih j hj hp
    · exact ⟨n, hn, fun j hj hp => h ⟨j, hj, hp⟩⟩
theorem anyIn_quiet {F : Fence} {n : Nat} {P : Program} {ops : Array Oper} {Q : Exit → Act → World → Prop} (k d0 : Nat) (vals : List Value) (uses : Nat → List Nat) (a0 : Act) (w : World) (hk : ops.size = k + 1) (hN : d0 + k ≤ a0.tmps.size)
    (havail : ∀ i, i < k → ∀ j ∈ uses i, waitsFor ops i j = true) (htopo : ∀ i, i ≤ k → laterNone ops i = true) (hlast : ∀ j, j < k → waitsFor ops k j = true)
    (hstep : ∀ i, i < k → ∀ a : Act, (∀ j ∈ uses i, a.eval (.tmp (d0 + j)) = vals.getD j undef) → (∀ s, s < d0 ∨ d0 + k ≤ s → a.eval (.tmp s) = a0.eval (.tmp s)) → ∀ K : Act → World → Prop, K (a.put (some (d0 + i)) (vals.getD i undef)) w → wpOpIn F n P ops Q i K a w)
    (hstore : ∀ a : Act, (∀ j, j < k → a.eval (.tmp (d0 + j)) = vals.getD j undef) → (∀ s, s < d0 ∨ d0 + k ≤ s → a.eval (.tmp s) = a0.eval (.tmp s)) → wpOpIn F n P ops Q k (fun a w => Q .normal a w) a w) :
    ∀ (fuel : Nat) (listed : Array Bool) (a : Act), listed.size = k + 1 → listed.getD k true = false → listed.toList.count false ≤ fuel → a.tmps.size = a0.tmps.size → (∀ j, j < k → listed.getD j false = true → a.eval (.tmp (d0 + j)) = vals.getD j undef) →
      (∀ s, s < d0 ∨ d0 + k ≤ s → a.eval (.tmp s) = a0.eval (.tmp s)) → wpAnyIn F n P .any ops Q fuel listed a w := by
  intro fuel
  induction fuel with
  | zero =>
    intro listed a hls hl hc _ _ _
    have := count_set listed k hl
    omega
  | succ fuel ih =>
    intro listed a hls hl hc hsz hv ho
    have hne : ∃ i, i ∈ Region.ready .any ops listed := by
      obtain ⟨i, ⟨hi, hf⟩, hmin⟩ := least (p := fun i => i ≤ k ∧ listed.getD i true = false) k ⟨Nat.le_refl _, hl⟩
      refine ⟨i, ready_first (by omega) hf (fun j hj => ?_) (htopo i hi)⟩
      have hjs : j < listed.size := by omega
      cases hb : listed.getD j false with
      | true => rfl
      | false =>
        have : listed.getD j true = false := by
          rw [Array.getD_eq_getD_getElem?, Array.getElem?_eq_getElem hjs] at hb ⊢
          simpa using hb
        exact absurd (show j ≤ k ∧ listed.getD j true = false from ⟨by omega, this⟩) (hmin j hj)
    refine ⟨fun h => (by obtain ⟨i, hi⟩ := hne; rw [h] at hi; cases hi), fun i hi => ?_⟩
    obtain ⟨his, hiu⟩ := ready_un hi
    by_cases hik : i = k
    · subst hik
      refine wpOpIn_mono (fun a' w' hq => ?_) (hstore a (fun j hj => hv j hj (ready_waits hi (hlast j hj))) ho)
      refine wpAnyIn_done (ready_done fun j hj => ?_) hq fuel
      rw [getD_set]
      by_cases hji : i = j
      · rw [if_pos ⟨hji, by omega⟩]
      · rw [if_neg (fun h => hji h.1)]
        have := ready_waits hi (hlast j (by omega))
        rw [Array.getD_eq_getD_getElem?, Array.getElem?_eq_getElem (by omega)] at this ⊢
        simpa using this
    · have hilt : i < k := by omega
      refine hstep i hilt a (fun j hj => ?_) ho _ ?_
      · have hw := ready_waits hi (havail i hilt j hj)
        by_cases hjk : j < k
        · exact hv j hjk hw
        · exfalso
          by_cases hj2 : j = k
          · subst hj2
            rw [Array.getD_eq_getD_getElem?, Array.getElem?_eq_getElem (by omega)] at hl hw
            simp at hl hw
            rw [hl] at hw
            cases hw
          · rw [Array.getD_eq_getD_getElem?, Array.getElem?_eq_none (by omega)] at hw
            cases hw
      · refine ih _ _ (by rw [Array.size_setIfInBounds]; exact hls) ?_ ?_ ?_ ?_ ?_
        · rw [getD_set, if_neg (fun h => hik h.1)]
          exact hl
        · have := count_set listed i hiu
          omega
        · simp [Act.put, hsz]
        · intro j hj hjl
          by_cases hji : i = j
          · subst hji
            exact Act.eval_put_same a _ _ (by omega)
          · rw [Act.eval_put_ne a _ _ _ (by omega)]
            rw [getD_set, if_neg (fun h => hji h.1)] at hjl
            exact hv j hj hjl
        · intro s hs
          rw [Act.eval_put_ne a _ _ _ (by omega)]
          exact ho s hs
/-- The same, with what is asked of the operations' order as tests. -/
theorem region_quiet {F : Fence} {n : Nat} {P : Program} {ops : Array Oper} {Q : Exit → Act → World → Prop} {id : Nat} (k d0 : Nat) (vals : List Value) (uses : List (List Nat)) (a0 : Act) (w : World) (hm : P.follows .mixedOrders = true) (hk : ops.size = k + 1) (hN : d0 + k ≤ a0.tmps.size)
    (havail : ((List.range k).all fun i => (uses.getD i []).all fun j => waitsFor ops i j) = true) (htopo : ((List.range (k + 1)).all fun i => laterNone ops i) = true) (hlast : ((List.range k).all fun j => waitsFor ops k j) = true)
    (hstep : ∀ i, i < k → ∀ a : Act, (∀ j ∈ uses.getD i [], a.eval (.tmp (d0 + j)) = vals.getD j undef) → (∀ s, s < d0 ∨ d0 + k ≤ s → a.eval (.tmp s) = a0.eval (.tmp s)) → ∀ K : Act → World → Prop, K (a.put (some (d0 + i)) (vals.getD i undef)) w.drew → wpOpIn F n P ops Q i K a w.drew)
    (hstore : ∀ a : Act, (∀ j, j < k → a.eval (.tmp (d0 + j)) = vals.getD j undef) → (∀ s, s < d0 ∨ d0 + k ≤ s → a.eval (.tmp s) = a0.eval (.tmp s)) → wpOpIn F n P ops Q k (fun a w => Q .normal a w) a w.drew) :
    (Code.region id ops true).wpIn F n P Q a0 w := by
  refine wpIn_region_any hm ?_
  show wpAnyIn F n P .any ops Q ops.size (Array.replicate ops.size false) a0 w.drew
  rw [hk]
  have hr : ∀ (j : Nat) (b : Bool), j < k + 1 → (Array.replicate (k + 1) false).getD j b = false := fun j b hj => by simp [Array.getD_eq_getD_getElem?, hj]
  refine anyIn_quiet k d0 vals (fun i => uses.getD i []) a0 w.drew hk hN (fun i hi j hj => ?_) (fun i hi => ?_) (fun j hj => ?_) hstep hstore (k + 1) _ a0 (by simp) (hr k true (by omega)) (by simp) rfl (fun j hj h => ?_) (fun s _ => rfl)
  · have := List.all_eq_true.1 havail i (List.mem_range.2 hi)
    exact List.all_eq_true.1 this j hj
  · exact List.all_eq_true.1 htopo i (List.mem_range.2 (by omega))
  · exact List.all_eq_true.1 hlast j (List.mem_range.2 hj)
  · rw [hr j false (by omega)] at h
    cases h
theorem opIn_value {F : Fence} {n : Nat} {P : Program} {ops : Array Oper} {Q : Exit → Act → World → Prop} {i : Nat} {o : Oper} {a : Act} {w w' : World} {v : Value} {K : Act → World → Prop} (hi : ops[i]? = some o) (hg : o.guard = none) (hd : ∀ c, o.op ≠ .defer c)
    (hab : o.about P w a.eval = none) (hrun : (execOp a.eval o).run P w = .ok (.value v) w') (hK : K (a.put o.dst v) w') : wpOpIn F n P ops Q i K a w := by
  unfold wpOpIn
  rw [hi]
  have hw : Region.wanted o (yielded ops a.tmps) = true := by simp [Region.wanted, hg]
  simp only [hw, if_true, Oper.wpIn]
  refine ⟨fun f hf => ?_, ?_⟩
  · rw [hab] at hf; cases hf
  · rw [Oper.semAt_plain F _ _ hd, hrun]
    exact hK
theorem opIn_skip {F : Fence} {n : Nat} {P : Program} {ops : Array Oper} {Q : Exit → Act → World → Prop} {i : Nat} {o : Oper} {a : Act} {w w' : World} {K : Act → World → Prop} (hi : ops[i]? = some o) (hg : o.guard = none) (hd : ∀ c, o.op ≠ .defer c)
    (hab : o.about P w a.eval = none) (hrun : (execOp a.eval o).run P w = .ok .skip w') (hK : K (a.put o.dst undef) w') : wpOpIn F n P ops Q i K a w := by
  unfold wpOpIn
  rw [hi]
  have hw : Region.wanted o (yielded ops a.tmps) = true := by simp [Region.wanted, hg]
  simp only [hw, if_true, Oper.wpIn]
  refine ⟨fun f hf => ?_, ?_⟩
  · rw [hab] at hf; cases hf
  · rw [Oper.semAt_plain F _ _ hd, hrun]
    exact hK
end Go.Proofs.YtplkmkbambbemadGreatDoor
