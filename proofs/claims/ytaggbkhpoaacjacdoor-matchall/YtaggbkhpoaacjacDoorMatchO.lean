import Derived.Test.YtaggbkhpoaacjacDoorMatchT
import Derived.Test.YtaggbkhpoaacjacDoorPushI
namespace Go.Proofs.YtaggbkhpoaacjacDoor
open Go.ChangeShapes Go.WideShapes Go.ChangeAt Go.RowKit

/-! THE DOCUMENT'S Order. -/

theorem ownS_slice {w : World} {B : Nat} {v : Value} {vs : List Value} {R : Nat} (h : OwnS w B v vs) (hl : vs.length = R) (h0 : 0 < R) : ∃ g cap, v = .slice (some ⟨g, 0, none⟩) R cap ∧ B ≤ g := by
  rcases h.2 with ⟨_, e⟩ | ⟨g, cap, cur, e, hb, _⟩
  · omega
  · exact ⟨g, cap, by rw [e, hl], hb⟩
theorem ownS_snoc {w : World} {B : Nat} {v u : Value} {vs : List Value} (h : w.ownsRow B 23 1 v (vs.length + 1) (vs ++ [u])) : OwnS w B v (vs ++ [u]) := by
  unfold OwnS
  rw [List.length_append]
  exact h
theorem Tab.facts {w : World} {B g cap i d : Nat} {vs : List Value} (h : Tab w B (.slice (some ⟨g, 0, none⟩) (d + 1) cap) i (d + 1) vs) : ∃ u, u = vs.getD d undef ∧ w.cell? ⟨g, d, none⟩ = some u ∧ OwnI w B u (rowM i d) := by
  refine ⟨_, rfl, ?_, h.row d (by omega)⟩
  have h0 := h.tab
  unfold OwnS at h0
  rw [h.len] at h0
  rw [h0.cellAt d (by omega)]
  unfold List.getD
  rw [List.getElem?_eq_getElem (by rw [h.len]; omega)]
  rfl
theorem Tab.step {w w2 : World} {B g cap i d : Nat} {vs : List Value} {u v2 : Value} {o : Obj} (h : Tab w B (.slice (some ⟨g, 0, none⟩) (d + 1) cap) i (d + 1) vs) (hd : d = i / 8) (hu : u = vs.getD d undef)
    (hg : (w.alloc o).grownBy w2 u.ownBlock) (hn : OwnI w2 B v2 (rowM i d ++ [(i : Int)])) (hloc : v2.ownBlock = u.ownBlock ∨ v2.ownBlock = some (w.alloc o).heap.size) :
    w2.cell? ⟨g, d, none⟩ = some u ∧ w2.frozen? ⟨g, d, none⟩ = false ∧ Tab (w2.setCell ⟨g, d, none⟩ v2) B (.slice (some ⟨g, 0, none⟩) (d + 1) cap) (i + 1) (d + 1) (vs.set d v2) ∧ w2.grownBy (w2.setCell ⟨g, d, none⟩ v2) (some g) := by
  subst hu
  subst hd
  have hga := (World.grownBy_alloc w o (vs.getD (i / 8) undef).ownBlock).trans hg
  have hT2 := own_grow h.tab hga (fun k hk => (h.blocks (r := i / 8) (by omega)).symm k hk)
  rw [h.len] at hT2
  obtain ⟨hP, hP2⟩ := Tab.push h rfl hga hn (hloc.imp id (fun e => ⟨_, e, by simp⟩))
  refine ⟨?_, hT2.frozenAt _, hP, hP2⟩
  rw [hT2.cellAt (i / 8) (by omega)]
  unfold List.getD
  rw [List.getElem?_eq_getElem (by rw [h.len]; omega)]
  rfl

theorem intsM_append (a b : List Nat) : intsM (a ++ b) = intsM a ++ intsM b := by simp [intsM]
theorem intsM_length (a : List Nat) : (intsM a).length = a.length := by simp [intsM]
theorem intsM_at (l : List Nat) (j : Nat) : (intsM l).getD j 0 = ((l.getD j 0 : Nat) : Int) := by
  unfold intsM List.getD
  rw [List.getElem?_map]
  cases l[j]? <;> rfl
theorem ordTo_le {n k : Nat} (h : n ≤ 4096) (hk : k ≤ 8) : (ordTo n k).length ≤ 512 * k := by
  induction k with
  | zero => simp [ordTo]
  | succ k ih =>
    rw [ordTo_succ (by omega), List.length_append]
    have h1 := colTo_len n (colsM.getD k 0) (rowsM n)
    have h2 : rowsM n ≤ 512 := by unfold rowsM; omega
    have := ih (by omega)
    omega
/-- A row of the table, as it is read. -/
theorem Tab.read {w : World} {B n R : Nat} {v : Value} {vs : List Value} (h : Tab w B v n R vs) (hR : R = (n + 7) / 8) {r : Nat} (hr : r < R) :
    ∃ gT cT gr cr, v = .slice (some ⟨gT, 0, none⟩) R cT ∧ w.cell? ⟨gT, r, none⟩ = some (.slice (some ⟨gr, 0, none⟩) (min 8 (n - 8 * r)) cr) ∧ gT < w.heap.size ∧ gr < w.heap.size ∧ (∀ j, j < min 8 (n - 8 * r) → w.cell? ⟨gr, j, none⟩ = some (.int .i64 ((8 * r + j : Nat) : Int))) := by
  have h0 := h.tab
  unfold OwnS at h0
  rw [h.len] at h0
  have hrow := h.row r hr
  have hpos : 0 < min 8 (n - 8 * r) := by omega
  rcases h0.2 with ⟨_, e⟩ | ⟨gT, cT, cur, rfl, _, hg, _⟩
  · omega
  · rcases hrow.2 with ⟨_, e⟩ | ⟨gr, cr, cur', e, _, hg', _⟩
    · rw [rowM_length] at e; omega
    · rw [rowM_length] at e
      refine ⟨gT, cT, gr, cr, rfl, ?_, (h0.lt gT rfl).2, (hrow.lt gr (by rw [e]; rfl)).2, fun j hj => ?_⟩
      · rw [h0.cellAt r (by omega), ← e]
        unfold List.getD
        rw [List.getElem?_eq_getElem (by rw [h.len]; omega)]
        rfl
      · rw [e] at hrow
        obtain ⟨b, o, e2, hc⟩ := (OwnI.rd hrow).at (i := j) (by rw [rowM_length]; exact hj)
        simp only [Option.some.injEq, Addr.mk.injEq, and_true] at e2
        obtain ⟨rfl, rfl⟩ := e2
        have := hc j (by rw [rowM_length]; exact hj)
        rw [Nat.zero_add, rowM_at hj] at this
        exact this

set_option maxRecDepth 100000 in
set_option maxHeartbeats 4000000 in
theorem rorder_any (n : Nat) (w : World) (hn : n ≤ 4096) :
    Calls Tryd.prog 15 #[.int .i64 n] w fun e w' => ∃ v, e = .returned v ∧ OwnI w' w.heap.size v (intsM (ordM n)) ∧ Below w.heap.size w w' := by
  go_enter Tryd.func15, Tryd.ntmps15
  go_wp2
  go_loopw [3, 4] (fun v q wr => ∃ i : Nat, i ≤ n ∧ q = .int .i64 i ∧ ∃ vs, Tab wr w.heap.size v i ((i + 7) / 8) vs ∧ Below w.heap.size w wr) (fun _ q _ => n - (intOf q).toNat)
  case atStart => exact ⟨0, Nat.zero_le _, rfl, [], Tab.start _ _, Below.refl _ _⟩
  case round =>
    obtain ⟨i, hi, rfl, vs, hTab, hbel⟩ := hrel
    have hsz := hbel.size
    by_cases hlt : i < n
    · obtain ⟨d, ed⟩ : ∃ d, d = i / 8 := ⟨_, rfl⟩
      have HD := hid ed
      have hquo : (i : Int).tdiv 8 = (d : Int) := by rw [Int.tdiv_eq_ediv_of_nonneg (by omega)]; omega
      have hd5 : d ≤ 512 := by omega
      have hdl : (d : Int) < (d : Int) + 1 := by omega
      have hrl : (rowM i d).length ≤ 8 := by rw [rowM_length]; omega
      obtain ⟨i0, hi0, hz0, hz1, hz2⟩ := info_parts Tryd.infoS
      obtain ⟨j0, hj0, hy0, hy1, hy2⟩ := info_parts Tryd.info3
      by_cases h8 : i % 8 = 0
      · have hrem : (i : Int).tmod 8 = 0 := by rw [Int.tmod_eq_emod_of_nonneg (by omega)]; omega
        have HR0 := hid (show (i + 7) / 8 = d by omega)
        rw [HR0.out] at hTab
        have hvl : vs.length ≤ 512 := by rw [hTab.len]; exact hd5
        have H8 := hid h8
        have hown0 := World.ownsRow.alloc hTab.tab (.cells #[.slice none 0 0] 23)
        clear ed h8
        go_wp2_with (first
          | (at_builtin; refine wpList_append_own_at _ rfl (.tmp 17) (.tmp 18) 63 rfl w.heap.size 23 i0 (.slice none 0 0) 1 24 Tryd.underlying63 hi0 hz0 hz1 hz2 rfl (by decide) u3 _ _ rfl hown0 ⟨wr.heap.size, 0, none⟩ 1 1 [.slice none 0 0] rfl rfl (cell_one_new _ _ _) (by intro x hx; simp at hx; subst hx; rfl) (by unfold maxLen; omega) (by omega) (by simp; omega) ?_; intro v1 w1 hown1 hgrow1 _hn1 _hl1; have hga1 := (World.grownBy_alloc wr (.cells #[.slice none 0 0] 23) u3.ownBlock).trans hgrow1; have hT1 := hTab.more H8.out HD.out hga1 (ownS_snoc hown1); obtain ⟨g, cap, rfl, hgB⟩ := ownS_slice hT1.tab hT1.len (by omega); obtain ⟨u, eu, hcell, hu⟩ := hT1.facts; have HU := hid eu; have hbelZ := hbel.grown hga1 hsz (fun k hk => (hTab.tab.lt k hk).1); have hszZ := hbelZ.size; clear eu)
          | (at_builtin; refine wpList_append_own_at _ rfl (.tmp 27) (.tmp 29) 23 rfl w.heap.size 3 j0 (.int .i64 0) 1 8 Tryd.underlying23 hj0 hy0 hy1 hy2 rfl (by decide) u _ _ rfl (World.ownsRow.alloc hu _) ⟨w1.heap.size, 0, none⟩ 1 1 [.int .i64 (i : Int)] rfl rfl (cell_one_new _ _ _) (by intro x hx; simp at hx; subst hx; rfl) (by unfold maxLen; omega) (by omega) (by simp; omega) ?_; intro v2 w2 hown2 hgrow2 _hn2 hloc2; obtain ⟨a2, c2, rfl, -⟩ := (OwnI.snoc hown2).shape; obtain ⟨hc2, hf2, hT3, hg3⟩ := hT1.step HD.out HU.out hgrow2 (OwnI.snoc hown2) hloc2))
        have hlen2 : (rowM i d ++ [(i : Int)]).length = (rowM i d).length + 1 := by simp
        rw [hlen2] at hT3 hg3
        have hbel3 := (hbelZ.grown ((World.grownBy_alloc w1 _ u.ownBlock).trans hgrow2) hszZ (fun k hk => (hu.lt k hk).1)).grown hg3 (Nat.le_trans hszZ (Nat.le_trans (by simp) hgrow2.size)) (fun k hk => by simp at hk; omega)
        have hE : d + 1 = (i + 1 + 7) / 8 := by rw [HD.out]; omega
        rw [hE] at hT3
        go_roundw
        case rel => exact ⟨i + 1, by omega, by go_num, _, by rw [← hE] at hT3 ⊢; exact hT3, hbel3⟩
        case measure => simp [intOf]; omega
      · have hrem : (i : Int).tmod 8 = ((i % 8 : Nat) : Int) := by rw [Int.tmod_eq_emod_of_nonneg (by omega)]; simp
        obtain ⟨r8, er8⟩ : ∃ r8, r8 = i % 8 := ⟨_, rfl⟩
        rw [← er8] at hrem h8
        have hb8 : ((r8 : Int) == 0) = false := by simp; omega
        have HR0 := hid (show (i + 7) / 8 = d + 1 by omega)
        rw [HR0.out] at hTab
        obtain ⟨g, cap, rfl, hgB⟩ := ownS_slice hTab.tab hTab.len (by omega)
        obtain ⟨u, eu, hcell, hu⟩ := hTab.facts
        have HU := hid eu
        have hT1 := hTab
        have hbelZ := hbel
        have hszZ := hsz
        clear eu er8 h8 ed
        go_wp2_with (first
          | (at_builtin; refine wpList_append_own_at _ rfl (.tmp 27) (.tmp 29) 23 rfl w.heap.size 3 j0 (.int .i64 0) 1 8 Tryd.underlying23 hj0 hy0 hy1 hy2 rfl (by decide) u _ _ rfl (World.ownsRow.alloc hu _) ⟨wr.heap.size, 0, none⟩ 1 1 [.int .i64 (i : Int)] rfl rfl (cell_one_new _ _ _) (by intro x hx; simp at hx; subst hx; rfl) (by unfold maxLen; omega) (by omega) (by simp; omega) ?_; intro v2 w2 hown2 hgrow2 _hn2 hloc2; obtain ⟨a2, c2, rfl, -⟩ := (OwnI.snoc hown2).shape; obtain ⟨hc2, hf2, hT3, hg3⟩ := hT1.step HD.out HU.out hgrow2 (OwnI.snoc hown2) hloc2))
        have hlen2 : (rowM i d ++ [(i : Int)]).length = (rowM i d).length + 1 := by simp
        rw [hlen2] at hT3 hg3
        have hbel3 := (hbelZ.grown ((World.grownBy_alloc wr _ u.ownBlock).trans hgrow2) hszZ (fun k hk => (hu.lt k hk).1)).grown hg3 (Nat.le_trans hszZ (Nat.le_trans (by simp) hgrow2.size)) (fun k hk => by simp at hk; omega)
        have hE : d + 1 = (i + 1 + 7) / 8 := by rw [HD.out]; omega
        rw [hE] at hT3
        go_roundw
        case rel => exact ⟨i + 1, by omega, by go_num, _, by rw [← hE] at hT3 ⊢; exact hT3, hbel3⟩
        case measure => simp [intOf]; omega
    · obtain rfl : n = i := by omega
      generalize wr = WR at *
      have har := arr_new .i64 3 WR (intsM colsM)
      have hshape : ∃ aT cT, u3 = .slice aT ((n + 7) / 8) cT := by
        rcases hTab.tab.2 with ⟨e, e0⟩ | ⟨g, cap, cur, e, _⟩
        · exact ⟨none, 0, by rw [e, ← hTab.len, e0]⟩
        · exact ⟨_, cap, by rw [e, hTab.len]⟩
      obtain ⟨aT, cT, rfl⟩ := hshape
      obtain ⟨R, eR⟩ : ∃ R, R = (n + 7) / 8 := ⟨_, rfl⟩
      rw [← eR] at hTab ⊢
      have HR := hid eR
      have hR5 : R ≤ 512 := by omega
      clear eR
      have hbC : Below w.heap.size w (WR.alloc (.cells ((intsM colsM).map (Value.int .i64)).toArray 3)) := hbel.alloc hsz _
      have hTabC : ∀ r, r < R → ∃ gT gr cr, aT = some ⟨gT, 0, none⟩ ∧ WR.cell? ⟨gT, r, none⟩ = some (.slice (some ⟨gr, 0, none⟩) (min 8 (n - 8 * r)) cr) ∧ gT < WR.heap.size ∧ gr < WR.heap.size ∧ (∀ j, j < min 8 (n - 8 * r) → WR.cell? ⟨gr, j, none⟩ = some (.int .i64 ((8 * r + j : Nat) : Int))) := fun r hr => by
        obtain ⟨gT, cT', gr, cr, e, h1, h2, h3, h4⟩ := hTab.read HR.out hr
        simp only [Value.slice.injEq] at e
        exact ⟨gT, gr, cr, e.1, h1, h2, h3, h4⟩
      have hbW := hbel
      clear hTab hbel
      go_wp2
      go_loopw [6, 7] (fun v q ws => ∃ k : Nat, k ≤ 8 ∧ q = .int .i64 k ∧ OwnI ws (WR.heap.size + 1) v (intsM (ordTo n k)) ∧ ArrAt .i64 3 ws WR.heap.size (intsM colsM) ∧ Below WR.heap.size WR ws ∧ WR.heap.size + 1 ≤ ws.heap.size) (fun _ q _ => 8 - (intOf q).toNat)
      case atStart => exact ⟨0, Nat.zero_le _, rfl, OwnI.nil _ _, har, (Below.refl _ _).alloc (Nat.le_refl _) _, by simp⟩
      case round =>
        obtain ⟨k, hk, rfl, hown, hC, hbs, hss⟩ := hrel
        by_cases hltk : k < 8
        · obtain ⟨ck, eck⟩ : ∃ ck, ck = colsM.getD k 0 := ⟨_, rfl⟩
          have hck : ck < 8 := by rw [eck]; exact cols_lt hltk
          have HCK := hid eck
          have HOS := hid (ordTo_succ (n := n) hltk)
          rw [← eck] at HOS
          have HOL := hid (ordTo_le (n := n) (k := k) hn hk)
          have dk : decide ((k : Int) < 8) = true := decide_eq_true (by omega)
          clear eck
          go_wp2
          go_loopw [6, 8] (fun v q wt => ∃ r : Nat, r ≤ R ∧ q = .int .i64 r ∧ OwnI wt (WR.heap.size + 1) v (intsM (ordTo n k ++ colTo n ck r)) ∧ ArrAt .i64 3 wt WR.heap.size (intsM colsM) ∧ Below WR.heap.size WR wt ∧ WR.heap.size + 1 ≤ wt.heap.size) (fun _ q _ => R - (intOf q).toNat)
          case atStart => exact ⟨0, Nat.zero_le _, rfl, by simpa [colTo] using hown, hC, hbs, hss⟩
          case round =>
            obtain ⟨r, hr, rfl, hown', hC', hbt, hst⟩ := hrel
            by_cases hltr : r < R
            · obtain ⟨gT, gr, cr, rfl, t1, t2, t3, t4⟩ := hTabC r hltr
              have g1 : wr.cell? ⟨gT, r, none⟩ = some (.slice (some ⟨gr, 0, none⟩) (min 8 (n - 8 * r)) cr) := (hbt.cell (by exact t2)).trans t1
              have g2 : wr.cell? ⟨WR.heap.size, k, none⟩ = some (.int .i64 (ck : Int)) := by
                have := hC'.cell (j := k) (by rw [intsM_length]; exact hltk)
                rw [intsM_at, ← HCK.out] at this
                exact this
              obtain ⟨m, em⟩ : ∃ m, m = min 8 (n - 8 * r) := ⟨_, rfl⟩
              rw [← em] at g1 t4
              have HLE : Hid ((intsM (ordTo n k ++ colTo n ck r)).length < 8796093022208) := by
                unfold Hid
                rw [intsM_length, List.length_append]
                have h1 := HOL.out
                have h2 := colTo_len n ck r
                omega
              have r0 : (0 : Int) ≤ (r : Int) := by omega
              have k0 : (0 : Int) ≤ (k : Int) := by omega
              have k8 : (k : Int) < 8 := by omega
              have c0 : (0 : Int) ≤ (ck : Int) := by omega
              have rR : (r : Int) < (R : Int) := by omega
              by_cases hin : 8 * r + ck < n
              · have hcm : ck < m := by omega
                have hcmi : (ck : Int) < (m : Int) := by omega
                have g3 : wr.cell? ⟨gr, ck, none⟩ = some (.int .i64 ((8 * r + ck : Nat) : Int)) := (hbt.cell (by exact t3)).trans (t4 ck hcm)
                have HCT := hid (colTo_yes hin)
                obtain ⟨x, ex⟩ : ∃ x, x = 8 * r + ck := ⟨_, rfl⟩
                rw [← ex] at g3 HCT
                clear em t4 hin ex t1
                go_wp2_with fail
                go_quiet (fail)
                have hown0 : OwnI (wr.drewN nq) (WR.heap.size + 1) u6 (intsM (ordTo n k ++ colTo n ck r)) := hown'
                have h01 : (wr.drewN nq).cell? ⟨gT, r, none⟩ = some (.slice (some ⟨gr, 0, none⟩) m cr) := g1
                have h02 : (wr.drewN nq).cell? ⟨WR.heap.size, k, none⟩ = some (.int .i64 (ck : Int)) := g2
                have h03 : (wr.drewN nq).cell? ⟨gr, ck, none⟩ = some (.int .i64 (x : Int)) := g3
                have hCq : ArrAt .i64 3 (wr.drewN nq) WR.heap.size (intsM colsM) := hC'
                have hbq := below_drewN hbt nq
                have hsq : WR.heap.size + 1 ≤ (wr.drewN nq).heap.size := hst
                generalize wr.drewN nq = wq at *
                clear hown' g1 g2 g3 hC' hbt hst
                go_wp2_with fail
                go_region_law (refine step_pushJ (WR.heap.size + 1) wq wq.heap.size (x : Int) (show OwnI (wq.alloc (.cells #[.int .i64 (x : Int)] 3)).drew _ _ _ from World.ownsRow.alloc hown0 _) rfl (.tmp 53) (.tmp 64) rfl rfl rfl (cell_one _ _ _) HLE.out (((Below.refl _ _).alloc hsq _).drew) (by simp; omega) ?_; intro v' w2 hown2 hbel2)
                all_goals
                  have hs2 := hbel2.size
                  have e2 : intsM (ordTo n k ++ colTo n ck r) ++ [(x : Int)] = intsM (ordTo n k ++ colTo n ck (r + 1)) := by rw [HCT.out, ← List.append_assoc, intsM_append _ [x]]; rfl
                  rw [e2] at hown2
                  have hC2 := hCq.below hbel2 (by omega)
                  have hb2 := hbq.trans (hbel2.mono (by omega))
                  clear e2 hown0 hbq hCq
                  go_wp2
                  go_roundw
                  case rel => first | exact ⟨r + 1, by omega, by go_num, hown2, hC2, hb2, by omega⟩ | ((repeat apply Exists.intro); exact ⟨⟨r + 1, by omega, by go_num, hown2, hC2, hb2, by omega⟩, rfl⟩)
                  case measure => simp [intOf]; omega
              · have hcm : ¬ ck < m := by omega
                have hcmi : ¬ (ck : Int) < (m : Int) := by omega
                have HCT := hid (colTo_no hin)
                rw [← HCT.out] at hown'
                clear em t4 hin t1
                go_wp2_with fail
                go_quiet (fail)
                go_wp2
                go_roundw
                case rel => first | exact ⟨r + 1, by omega, by go_num, hown', hC', below_drewN hbt nq, hst⟩ | ((repeat apply Exists.intro); exact ⟨⟨r + 1, by omega, by go_num, hown', hC', below_drewN hbt nq, hst⟩, rfl⟩)
                case measure => simp [intOf]; omega
            · obtain rfl : R = r := by omega
              have HRW := hid (show rowsM n = R by rw [HR.out]; rfl)
              rw [← HRW.out, ← HOS.out] at hown'
              go_wp2
              go_roundw
              case rel => first | exact ⟨k + 1, by omega, by go_num, hown', hC', hbt, hst⟩ | ((repeat apply Exists.intro); exact ⟨⟨k + 1, by omega, by go_num, hown', hC', hbt, hst⟩, rfl⟩)
              case measure => simp [intOf]; omega
        · obtain rfl : k = 8 := by omega
          go_wp2
          go_ret
          exact ⟨_, rfl, OwnI.mono hown (by omega), hbW.trans (hbs.mono hsz)⟩
end Go.Proofs.YtaggbkhpoaacjacDoor
