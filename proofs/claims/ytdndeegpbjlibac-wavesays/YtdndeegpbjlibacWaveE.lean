import Derived.Test.YtdndeegpbjlibacWaveD
namespace Go.Proofs.Ytdndeegpbjlibac
open Go.ChangeShapes Go.WideShapes Go.ChangeAt Go.RowKit Go.Shelf

set_option maxHeartbeats 1000000 in
theorem pt_region {ops : Array Oper} {id : Nat} (hops : ∀ i, i < 15 → ∃ o : Oper, ops[i]? = some o ∧ o.op = ptOp i ∧ o.dst = some (if i = 14 then 8 else 46 + i) ∧ o.guard = none) (hdeps : ((List.range 15).all fun i => (ptDeps i).all fun j => waitsFor ops i j) = true)
    (htopo : ((List.range 15).all fun i => laterNone ops i) = true) (hk : ops.size = 15) (hm : Try.prog.follows .mixedOrders = true) (B : Nat) (wr : World) (a0 : Act) (hN : 60 ≤ a0.tmps.size) (v8 : Value) (ps : List (Int × Int)) (hB : B ≤ wr.heap.size) (hout : OwnP wr B v8 ps) (hv : ps.length ≤ 1000)
    (gL nL cL i0 : Nat) (l : List Int) (ai : Option Addr) (n h ci : Nat) (e8 : a0.eval (.tmp 8) = v8) (e4 : a0.eval (.tmp 4) = .slice (some ⟨gL, 0, none⟩) nL cL) (e9 : a0.eval (.tmp 9) = .int .i64 i0) (hi0 : i0 < nL)
    (hcell : wr.cell? ⟨gL, 0 + i0, none⟩ = some (.slice ai n ci)) (hrd : Rd .u8 wr ai l) (hl : l.length = n) (hn : n = 2 * h) (hh : h ≤ 3) :
    (Code.region id ops true).wp Try.prog (fun e a' w' => e = .normal ∧ ∃ v', a'.eval (.tmp 8) = v' ∧ PtF wr a0 B v8 ps (sideR l 0 h, sideR l 1 h) v' a' w') a0 wr := by
  have hD : ∀ i, i < 15 → ∀ j ∈ ptDeps i, waitsFor ops i j = true := fun i hi j hj => List.all_eq_true.1 (List.all_eq_true.1 hdeps i (List.mem_range.2 hi)) j hj
  have hE : Enters Try.prog 26 := enters_of Try.func26 (by kernel_rfl) rfl
  obtain ⟨x, ex⟩ : ∃ x, x = sideR l 0 h := ⟨_, rfl⟩
  obtain ⟨y, ey⟩ : ∃ y, y = sideR l 1 h := ⟨_, rfl⟩
  rw [← ex, ← ey]
  obtain ⟨pv, epv⟩ : ∃ pv, pv = ptPv v8 (.slice (some ⟨gL, 0, none⟩) nL cL) (.int .i64 i0) (.pointer (some ⟨gL, 0 + i0, none⟩)) (.slice ai n ci) x y := ⟨_, rfl⟩
  refine region_inv 15 (fun L a w => PtI wr a0 pv x y L a w ∨ (L 13 = true ∧ ClosP L ∧ ∃ v', a.eval (.tmp 59) = v' ∧ (L 14 = true → a.eval (.tmp 8) = v') ∧ PtF wr a0 B v8 ps (x, y) v' a w)) a0 wr hm hk htopo ?_ ?_ ?_
  · exact .inl ⟨rfl, rfl, (Below.refl _ wr).drew, fun s _ => rfl, fun i v _ h => (by cases h), fun i j _ h => (by cases h), fun h => (by cases h), rfl⟩
  · intro L a w i hI hi hLi hw
    obtain ⟨o, ho, hop, hdst, hgd⟩ := hops i hi
    have hd : ∀ j ∈ ptDeps i, L j = true := fun j hj => hw j (hD i hi j hj)
    rcases hI with hP | ⟨h13, hcl, v', h59, h8, hF⟩
    · have hsz := hP.below.size
      have hcase : i = 0 ∨ i = 1 ∨ i = 2 ∨ i = 3 ∨ i = 4 ∨ i = 5 ∨ i = 6 ∨ i = 7 ∨ i = 8 ∨ i = 9 ∨ i = 10 ∨ i = 11 ∨ i = 12 ∨ i = 13 ∨ i = 14 := by omega
      have hcw : w.cell? ⟨gL, 0 + i0, none⟩ = some (.slice ai n ci) := (hP.below.cell (World.block_lt_of_cell? wr _ hcell)).trans hcell
      have hrw : Rd .u8 w ai l := hrd.below hP.below
      rcases hcase with rfl | rfl | rfl | rfl | rfl | rfl | rfl | rfl | rfl | rfl | rfl | rfl | rfl | rfl | rfl
      · refine op_value ho hgd (run_moveQ w hop ((hP.frame 8 (by omega)).trans e8)) ?_
        rw [hdst]
        exact .inl (hP.step (by omega) hN hd (grown_refl w) (by rw [epv]; rfl))
      · refine op_value ho hgd (run_moveQ w hop ((hP.frame 4 (by omega)).trans e4)) ?_
        rw [hdst]
        exact .inl (hP.step (by omega) hN hd (grown_refl w) (by rw [epv]; rfl))
      · refine op_value ho hgd (run_moveQ w hop ((hP.frame 9 (by omega)).trans e9)) ?_
        rw [hdst]
        exact .inl (hP.step (by omega) hN hd (grown_refl w) (by rw [epv]; rfl))
      · refine op_value ho hgd (run_idxR w hop (hP.pure 1 _ (by rw [epv]; rfl) (hd 1 (by decide))) (hP.pure 2 _ (by rw [epv]; rfl) (hd 2 (by decide))) hi0) ?_
        rw [hdst]
        exact .inl (hP.step (by omega) hN hd (grown_refl w) (by rw [epv]; rfl))
      · refine op_value ho hgd (run_loadSB w hop (hP.pure 3 _ (by rw [epv]; rfl) (hd 3 (by decide))) hcw) ?_
        rw [hdst]
        exact .inl (hP.step (by omega) hN hd (grown_refl w) (by rw [epv]; rfl))
      · refine op_call2 ho hgd hop hE (hP.pure 4 _ (by rw [epv]; rfl) (hd 4 (by decide))) rfl (rsides_any l 0 h ai n ci w hrw hl hn hh (by omega)) fun e w' hr => ?_
        obtain ⟨rfl, hb⟩ := hr
        refine ⟨_, rfl, ?_⟩
        rw [hdst]
        exact .inl (hP.step (by omega) hN hd (grown_of_below hb) (by rw [epv, ← ex]; rfl))
      · refine op_value ho hgd (run_moveQ w hop ((hP.frame 4 (by omega)).trans e4)) ?_
        rw [hdst]
        exact .inl (hP.step (by omega) hN hd (grown_refl w) (by rw [epv]; rfl))
      · refine op_value ho hgd (run_moveQ w hop ((hP.frame 9 (by omega)).trans e9)) ?_
        rw [hdst]
        exact .inl (hP.step (by omega) hN hd (grown_refl w) (by rw [epv]; rfl))
      · refine op_value ho hgd (run_idxR w hop (hP.pure 6 _ (by rw [epv]; rfl) (hd 6 (by decide))) (hP.pure 7 _ (by rw [epv]; rfl) (hd 7 (by decide))) hi0) ?_
        rw [hdst]
        exact .inl (hP.step (by omega) hN hd (grown_refl w) (by rw [epv]; rfl))
      · refine op_value ho hgd (run_loadSB w hop (hP.pure 8 _ (by rw [epv]; rfl) (hd 8 (by decide))) hcw) ?_
        rw [hdst]
        exact .inl (hP.step (by omega) hN hd (grown_refl w) (by rw [epv]; rfl))
      · refine op_call2 ho hgd hop hE (hP.pure 9 _ (by rw [epv]; rfl) (hd 9 (by decide))) rfl (rsides_any l 1 h ai n ci w hrw hl hn hh (by omega)) fun e w' hr => ?_
        obtain ⟨rfl, hb⟩ := hr
        refine ⟨_, rfl, ?_⟩
        rw [hdst]
        exact .inl (hP.step (by omega) hN hd (grown_of_below hb) (by rw [epv, ← ey]; rfl))
      · refine op_value ho hgd (run_buildS w hop (hP.pure 5 _ (by rw [epv]; rfl) (hd 5 (by decide))) (hP.pure 10 _ (by rw [epv]; rfl) (hd 10 (by decide)))) ?_
        rw [hdst]
        exact .inl (hP.step (by omega) hN hd (grown_refl w) (by rw [epv]; rfl))
      · have hg := World.grownBy_alloc w (.cells #[.int .i64 x, .int .i64 y] 47) none
        refine op_value ho hgd (run_buildP w hop (hP.pure 11 _ (by rw [epv]; rfl) (hd 11 (by decide)))) ?_
        rw [hdst, show (if (12 : Nat) = 14 then 8 else 46 + 12) = 58 from rfl]
        refine .inl ⟨by simp [Act.put, hP.size], hP.defers, hP.below.grown hg hsz (fun g e => by cases e), fun s hs => ?_, fun j u hj hL => ?_, hP.clos.upd hd, fun _ => ⟨w.heap.size, hsz, Act.eval_put_same a _ _ (by rw [hP.size]; omega), by simp, by simp⟩, ?_⟩
        · rw [Act.eval_put_ne a _ _ _ (by omega)]
          exact hP.frame s hs
        · have hj12 : j ≠ 12 := by rintro rfl; rw [epv] at hj; cases hj
          have hL' : L j = true := by rw [← upd_other L hj12]; exact hL
          rw [Act.eval_put_ne a _ _ _ (by omega)]
          exact hP.pure j u hj hL'
        · show upd L 12 13 = false
          rw [upd_other L (by omega)]
          exact hP.no13
      · obtain ⟨g, hgl, e58, c1, c2⟩ := hP.last (hd 12 (by decide))
        have hnw : OwnP w B v8 ps := own_growN hout (grown_of_below hP.below) (fun k e => by cases e)
        obtain ⟨v', w', hrun, hown, hg, hat⟩ := run_pushP (p := (x, y)) w hop (hP.pure 0 _ (by rw [epv]; rfl) (hd 0 (by decide))) e58 hnw c1 c2 (by omega) (by omega)
        refine op_value ho hgd hrun ?_
        rw [hdst, show (if (13 : Nat) = 14 then 8 else 46 + 13) = 59 from rfl]
        refine .inr ⟨upd_same L 13, hP.clos.upd hd, v', Act.eval_put_same a _ _ (by rw [hP.size]; omega), fun h14 => ?_, ⟨by simp [Act.put, hP.size], hP.defers, fun s hs _ => ?_, ⟨w, hown, hP.below, hg, hat⟩⟩⟩
        · have h14' : L 14 = true := by rw [← upd_other L (show 14 ≠ 13 by omega)]; exact h14
          have := hP.clos 14 13 (by decide) h14'
          rw [hP.no13] at this
          cases this
        · rw [Act.eval_put_ne a _ _ _ (by omega)]
          exact hP.frame s hs
      · have := hd 13 (by decide)
        rw [hP.no13] at this
        cases this
    · by_cases h14 : i = 14
      · subst h14
        refine op_value ho hgd (run_assignQ w hop h59) ?_
        rw [hdst]
        refine .inr ⟨?_, hcl.upd hd, v', ?_, fun _ => ?_, ⟨by simp [Act.put, hF.size], hF.defers, fun s hs hs8 => ?_, hF.facts⟩⟩
        · show upd L 14 13 = true
          rw [upd_other L (by omega)]
          exact h13
        · rw [if_pos rfl, Act.eval_put_ne a _ _ _ (by omega)]
          exact h59
        · rw [if_pos rfl]
          exact Act.eval_put_same a _ _ (by rw [hF.size]; omega)
        · rw [if_pos rfl, Act.eval_put_ne a _ _ _ (by omega)]
          exact hF.frame s hs hs8
      · have := hcl.all13 h13 i (by omega)
        rw [hLi] at this
        cases this
  · rintro L a w hL (hP | ⟨_, _, v', h59, h8, hF⟩)
    · have := hL 13 (by omega)
      rw [hP.no13] at this
      cases this
    · exact ⟨rfl, v', h8 (hL 14 (by omega)), hF⟩
end Go.Proofs.Ytdndeegpbjlibac
