import Derived.Test.YtplkmkbambbemadGreatDoorK08
import Derived.Test.YtplkmkbambbemadGreatDoorK03
import Derived.Test.YtplkmkbambbemadGreatDoorK04
import Derived.Shelf.Abstract
namespace Go.Proofs.YtplkmkbambbemadGreatDoor
open Go.ChangeShapes Go.WideShapes Go.ChangeAt Go.RowKit
def conPv (v6 v4 vi p rowv : Value) : Nat → Option Value
  | 0 => some v6
  | 1 => some v4
  | 2 => some vi
  | 3 => some p
  | 4 => some rowv
  | 8 => some v4
  | 9 => some vi
  | 10 => some p
  | 11 => some rowv
  | _ => none
/-- Behind it. -/
structure ConF (wr : World) (a0 : Act) (B : Nat) (v6 : Value) (vs6 : List Value) (l : List Int) (v' : Value) (a : Act) (w : World) : Prop where
  size : a.tmps.size = a0.tmps.size
  defers : a.defers = a0.defers
  frame : ∀ s : Nat, s < 22 ∨ 38 < s → s ≠ 6 → a.eval (.tmp s) = a0.eval (.tmp s)
  facts : ∃ u1 u2 w1, OwnR w B v' (vs6 ++ [u1, u2]) ∧ Own w wr.heap.size u1 (l ++ [0]) ∧ Own w wr.heap.size u2 (l ++ [1]) ∧ Below wr.heap.size wr w1 ∧ w1.grownBy w v6.ownBlock ∧ (v'.ownBlock = v6.ownBlock ∨ v'.ownBlock = some w1.heap.size)
theorem one_of_own {w : World} {B : Nat} {v : Value} {L : List Int} (h : Own w B v L) : ∃ a n c, v = .slice a n c := by
  rcases h.2 with ⟨h', _⟩ | ⟨g, cap, cur, h', _⟩
  · exact ⟨_, _, _, h'⟩
  · exact ⟨_, _, _, h'⟩
set_option maxHeartbeats 1000000 in
theorem con_region {ops : Array Oper} {id : Nat} (hops : ∀ i, i < 18 → ∃ o : Oper, ops[i]? = some o ∧ o.op = conOp i ∧ o.dst = some (if i = 17 then 6 else 22 + i) ∧ o.guard = none) (hdeps : ((List.range 18).all fun i => (conDeps i).all fun j => waitsFor ops i j) = true)
    (htopo : ((List.range 18).all fun i => laterNone ops i) = true) (hk : ops.size = 18) (hm : Tryz.prog.follows .mixedOrders = true) (B : Nat) (wr : World) (a0 : Act) (hN : 39 ≤ a0.tmps.size) (v6 : Value) (vs6 : List Value) (hB : B ≤ wr.heap.size) (hnext : OwnR wr B v6 vs6) (hv : vs6.length ≤ 1000)
    (gL nL cL i0 : Nat) (l : List Int) (ai : Option Addr) (n ci : Nat) (e6 : a0.eval (.tmp 6) = v6) (e4 : a0.eval (.tmp 4) = .slice (some ⟨gL, 0, none⟩) nL cL) (e7 : a0.eval (.tmp 7) = .int .i64 i0) (hi0 : i0 < nL)
    (hcell : wr.cell? ⟨gL, 0 + i0, none⟩ = some (.slice ai n ci)) (hrd : Rd .u8 wr ai l) (hl : l.length = n) (h0 : n = 0 → ai = none ∧ ci = 0) (hn : n ≤ 90) :
    (Code.region id ops true).wp Tryz.prog (fun e a' w' => e = .normal ∧ ∃ v', a'.eval (.tmp 6) = v' ∧ ConF wr a0 B v6 vs6 l v' a' w') a0 wr := by
  have hD : ∀ i, i < 18 → ∀ j ∈ conDeps i, waitsFor ops i j = true := fun i hi j hj => List.all_eq_true.1 (List.all_eq_true.1 hdeps i (List.mem_range.2 hi)) j hj
  obtain ⟨pv, epv⟩ : ∃ pv, pv = conPv v6 (.slice (some ⟨gL, 0, none⟩) nL cL) (.int .i64 i0) (.pointer (some ⟨gL, 0 + i0, none⟩)) (.slice ai n ci) := ⟨_, rfl⟩
  refine region_inv 18 (fun L a w => ConI wr a0 pv l L a w ∨ (L 16 = true ∧ Clos L ∧ ∃ v', a.eval (.tmp 38) = v' ∧ (L 17 = true → a.eval (.tmp 6) = v') ∧ ConF wr a0 B v6 vs6 l v' a w)) a0 wr hm hk htopo ?_ ?_ ?_
  · refine .inl ⟨rfl, rfl, (Below.refl _ wr).drew, fun s _ => rfl, fun i v _ h => (by cases h), fun i j _ h => (by cases h), ⟨[], [], fun g h => (by cases h), Ch.start _ _ _ _ _ _ _, Ch.start _ _ _ _ _ _ _⟩, fun h => (by cases h), rfl⟩
  · intro L a w i hI hi hLi hw
    obtain ⟨o, ho, hop, hdst, hgd⟩ := hops i hi
    have hd : ∀ j ∈ conDeps i, L j = true := fun j hj => hw j (hD i hi j hj)
    rcases hI with h | ⟨h16, hcl, v', h38, h6, hF⟩
    · have hsz := h.below.size
      have hcase : i = 0 ∨ i = 1 ∨ i = 2 ∨ i = 3 ∨ i = 4 ∨ i = 5 ∨ i = 6 ∨ i = 7 ∨ i = 8 ∨ i = 9 ∨ i = 10 ∨ i = 11 ∨ i = 12 ∨ i = 13 ∨ i = 14 ∨ i = 15 ∨ i = 16 ∨ i = 17 := by omega
      have hcw : w.cell? ⟨gL, 0 + i0, none⟩ = some (.slice ai n ci) := (h.below.cell (World.block_lt_of_cell? wr _ hcell)).trans hcell
      rcases hcase with rfl | rfl | rfl | rfl | rfl | rfl | rfl | rfl | rfl | rfl | rfl | rfl | rfl | rfl | rfl | rfl | rfl | rfl
      · refine op_value ho hgd (run_moveQ w hop ((h.frame 6 (by omega)).trans e6)) ?_
        rw [hdst]
        exact .inl (h.read (by omega) hN hLi hd (by rw [epv]; rfl))
      · refine op_value ho hgd (run_moveQ w hop ((h.frame 4 (by omega)).trans e4)) ?_
        rw [hdst]
        exact .inl (h.read (by omega) hN hLi hd (by rw [epv]; rfl))
      · refine op_value ho hgd (run_moveQ w hop ((h.frame 7 (by omega)).trans e7)) ?_
        rw [hdst]
        exact .inl (h.read (by omega) hN hLi hd (by rw [epv]; rfl))
      · refine op_value ho hgd (run_idxR w hop (h.pure 1 _ (by rw [epv]; rfl) (hd 1 (by decide))) (h.pure 2 _ (by rw [epv]; rfl) (hd 2 (by decide))) hi0) ?_
        rw [hdst]
        exact .inl (h.read (by omega) hN hLi hd (by rw [epv]; rfl))
      · refine op_value ho hgd (run_loadSB w hop (h.pure 3 _ (by rw [epv]; rfl) (hd 3 (by decide))) hcw) ?_
        rw [hdst]
        exact .inl (h.read (by omega) hN hLi hd (by rw [epv]; rfl))
      · obtain ⟨SA, SB, hdis, hA, hBb⟩ := h.ch
        have l7 : L 7 = false := by
          cases h7 : L 7 with
          | false => rfl
          | true =>
            have := h.clos 7 5 (by decide) h7
            rw [hLi] at this
            cases this
        obtain ⟨v, w', hrun, hown, hg⟩ := run_copyB w hop rfl (h.pure 4 _ (by rw [epv]; rfl) (hd 4 (by decide))) (hrd.below h.below) hl h0 (by omega)
        refine op_value ho hgd hrun ?_
        rw [hdst]
        refine .inl (h.step (row := none) (by omega) hN hLi hd hg (fun g e => by cases e) (fun u hu => by rw [epv] at hu; cases hu) (fun e => by cases e) ⟨blocksOf v ++ SA, SB, ?_, ?_, ?_⟩)
        · intro g hgm hgo
          rw [List.mem_append] at hgm
          rcases hgm with hm | hm
          · have h1 := World.ownsRow.lt hown g (mem_blocks.1 hm)
            have h2 := (hBb.lt g hgo).2
            omega
          · exact hdis g hm hgo
        · rw [show (a.put (some (22 + 5)) v).eval (.tmp 27) = v from Act.eval_put_same a _ _ (by rw [h.size]; omega), Act.eval_put_ne a _ _ _ (by omega), Act.eval_put_ne a _ _ _ (by omega), upd_same, upd_other L (by omega), upd_other L (by omega), l7]
          rw [hLi, l7] at hA
          exact hA.op5 hg hsz hown
        · rw [Act.eval_put_ne a _ _ _ (by omega), Act.eval_put_ne a _ _ _ (by omega), Act.eval_put_ne a _ _ _ (by omega), upd_other L (by omega), upd_other L (by omega), upd_other L (by omega)]
          exact hBb.keep hg (fun g e => by cases e)
      · obtain ⟨SA, SB, hdis, hA, hBb⟩ := h.ch
        have l7 : L 7 = false := by
          cases h7 : L 7 with
          | false => rfl
          | true =>
            have := h.clos 7 6 (by decide) h7
            rw [hLi] at this
            cases this
        have hg := World.grownBy_alloc w (.cells #[.int .u8 0] 5) none
        refine op_value ho hgd (run_build1 w hop rfl) ?_
        rw [hdst]
        refine .inl (h.step (row := none) (by omega) hN hLi hd hg (fun g e => by cases e) (fun u hu => by rw [epv] at hu; cases hu) (fun e => by cases e) ⟨w.heap.size :: SA, SB, ?_, ?_, ?_⟩)
        · intro g hgm hgo
          rw [List.mem_cons] at hgm
          rcases hgm with hm | hm
          · have h2 := (hBb.lt g hgo).2
            omega
          · exact hdis g hm hgo
        · rw [Act.eval_put_ne a _ _ _ (by omega), show (a.put (some (22 + 6)) (.slice (some ⟨w.heap.size, 0, none⟩) 1 1)).eval (.tmp 28) = .slice (some ⟨w.heap.size, 0, none⟩) 1 1 from Act.eval_put_same a _ _ (by rw [h.size]; omega), Act.eval_put_ne a _ _ _ (by omega), upd_other L (by omega), upd_same, upd_other L (by omega), l7]
          rw [hLi, l7] at hA
          exact hA.op6 hsz
        · rw [Act.eval_put_ne a _ _ _ (by omega), Act.eval_put_ne a _ _ _ (by omega), Act.eval_put_ne a _ _ _ (by omega), upd_other L (by omega), upd_other L (by omega), upd_other L (by omega)]
          exact hBb.keep hg (fun g e => by cases e)
      · obtain ⟨SA, SB, hdis, hA, hBb⟩ := h.ch
        obtain ⟨ho5, hb5⟩ := hA.five (hd 5 (by decide)) hLi
        obtain ⟨g6, hg6, e28, c28⟩ := hA.six (hd 6 (by decide)) hLi
        obtain ⟨v, w', hrun, hown, hg, hat⟩ := run_push1 w hop rfl e28 ho5 c28 (by omega) hsz
        refine op_value ho hgd hrun ?_
        rw [hdst]
        refine .inl (h.step (by omega) hN hLi hd hg (fun g e => (hA.lt g (hb5 g e)).1) (fun u hu => by rw [epv] at hu; cases hu) (fun e => by cases e) ⟨blocksOf v ++ SA, SB, ?_, ?_, ?_⟩)
        · intro g hgm hgo
          rw [List.mem_append] at hgm
          rcases hgm with hm | hm
          · rcases hat with e | e
            · exact hdis g (hb5 g (e.symm.trans (mem_blocks.1 hm))) hgo
            · have h1 : some w.heap.size = some g := e.symm.trans (mem_blocks.1 hm)
              have h2 := (hBb.lt g hgo).2
              simp at h1
              omega
          · exact hdis g hm hgo
        · rw [Act.eval_put_ne a _ _ _ (by omega), Act.eval_put_ne a _ _ _ (by omega), show (a.put (some (22 + 7)) v).eval (.tmp 29) = v from Act.eval_put_same a _ _ (by rw [h.size]; omega), upd_other L (by omega), upd_other L (by omega), upd_same, hd 5 (by decide), hd 6 (by decide)]
          rw [hd 5 (by decide), hd 6 (by decide), hLi] at hA
          exact hA.op7 hg hown
        · rw [Act.eval_put_ne a _ _ _ (by omega), Act.eval_put_ne a _ _ _ (by omega), Act.eval_put_ne a _ _ _ (by omega), upd_other L (by omega), upd_other L (by omega), upd_other L (by omega)]
          exact hBb.keep hg (fun g e  => hdis g (hb5 g e))
      · refine op_value ho hgd (run_moveQ w hop ((h.frame 4 (by omega)).trans e4)) ?_
        rw [hdst]
        exact .inl (h.read (by omega) hN hLi hd (by rw [epv]; rfl))
      · refine op_value ho hgd (run_moveQ w hop ((h.frame 7 (by omega)).trans e7)) ?_
        rw [hdst]
        exact .inl (h.read (by omega) hN hLi hd (by rw [epv]; rfl))
      · refine op_value ho hgd (run_idxR w hop (h.pure 8 _ (by rw [epv]; rfl) (hd 8 (by decide))) (h.pure 9 _ (by rw [epv]; rfl) (hd 9 (by decide))) hi0) ?_
        rw [hdst]
        exact .inl (h.read (by omega) hN hLi hd (by rw [epv]; rfl))
      · refine op_value ho hgd (run_loadSB w hop (h.pure 10 _ (by rw [epv]; rfl) (hd 10 (by decide))) hcw) ?_
        rw [hdst]
        exact .inl (h.read (by omega) hN hLi hd (by rw [epv]; rfl))
      · obtain ⟨SA, SB, hdis, hA, hBb⟩ := h.ch
        have l7 : L 14 = false := by
          cases h7 : L 14 with
          | false => rfl
          | true =>
            have := h.clos 14 12 (by decide) h7
            rw [hLi] at this
            cases this
        obtain ⟨v, w', hrun, hown, hg⟩ := run_copyB w hop rfl (h.pure 11 _ (by rw [epv]; rfl) (hd 11 (by decide))) (hrd.below h.below) hl h0 (by omega)
        refine op_value ho hgd hrun ?_
        rw [hdst]
        refine .inl (h.step (row := none) (by omega) hN hLi hd hg (fun g e => by cases e) (fun u hu => by rw [epv] at hu; cases hu) (fun e => by cases e) ⟨SA, blocksOf v ++ SB, ?_, ?_, ?_⟩)
        · intro g hgm hgo
          rw [List.mem_append] at hgo
          rcases hgo with hm | hm
          · have h1 := World.ownsRow.lt hown g (mem_blocks.1 hm)
            have h2 := (hA.lt g hgm).2
            omega
          · exact hdis g hgm hm
        · rw [Act.eval_put_ne a _ _ _ (by omega), Act.eval_put_ne a _ _ _ (by omega), Act.eval_put_ne a _ _ _ (by omega), upd_other L (by omega), upd_other L (by omega), upd_other L (by omega)]
          exact hA.keep hg (fun g e => by cases e)
        · rw [show (a.put (some (22 + 12)) v).eval (.tmp 34) = v from Act.eval_put_same a _ _ (by rw [h.size]; omega), Act.eval_put_ne a _ _ _ (by omega), Act.eval_put_ne a _ _ _ (by omega), upd_same, upd_other L (by omega), upd_other L (by omega), l7]
          rw [hLi, l7] at hBb
          exact hBb.op5 hg hsz hown
      · obtain ⟨SA, SB, hdis, hA, hBb⟩ := h.ch
        have l7 : L 14 = false := by
          cases h7 : L 14 with
          | false => rfl
          | true =>
            have := h.clos 14 13 (by decide) h7
            rw [hLi] at this
            cases this
        have hg := World.grownBy_alloc w (.cells #[.int .u8 1] 5) none
        refine op_value ho hgd (run_build1 w hop rfl) ?_
        rw [hdst]
        refine .inl (h.step (row := none) (by omega) hN hLi hd hg (fun g e => by cases e) (fun u hu => by rw [epv] at hu; cases hu) (fun e => by cases e) ⟨SA, w.heap.size :: SB, ?_, ?_, ?_⟩)
        · intro g hgm hgo
          rw [List.mem_cons] at hgo
          rcases hgo with hm | hm
          · have h2 := (hA.lt g hgm).2
            omega
          · exact hdis g hgm hm
        · rw [Act.eval_put_ne a _ _ _ (by omega), Act.eval_put_ne a _ _ _ (by omega), Act.eval_put_ne a _ _ _ (by omega), upd_other L (by omega), upd_other L (by omega), upd_other L (by omega)]
          exact hA.keep hg (fun g e => by cases e)
        · rw [Act.eval_put_ne a _ _ _ (by omega), show (a.put (some (22 + 13)) (.slice (some ⟨w.heap.size, 0, none⟩) 1 1)).eval (.tmp 35) = .slice (some ⟨w.heap.size, 0, none⟩) 1 1 from Act.eval_put_same a _ _ (by rw [h.size]; omega), Act.eval_put_ne a _ _ _ (by omega), upd_other L (by omega), upd_same, upd_other L (by omega), l7]
          rw [hLi, l7] at hBb
          exact hBb.op6 hsz
      · obtain ⟨SA, SB, hdis, hA, hBb⟩ := h.ch
        obtain ⟨ho5, hb5⟩ := hBb.five (hd 12 (by decide)) hLi
        obtain ⟨g6, hg6, e28, c28⟩ := hBb.six (hd 13 (by decide)) hLi
        obtain ⟨v, w', hrun, hown, hg, hat⟩ := run_push1 w hop rfl e28 ho5 c28 (by omega) hsz
        refine op_value ho hgd hrun ?_
        rw [hdst]
        refine .inl (h.step (by omega) hN hLi hd hg (fun g e => (hBb.lt g (hb5 g e)).1) (fun u hu => by rw [epv] at hu; cases hu) (fun e => by cases e) ⟨SA, blocksOf v ++ SB, ?_, ?_, ?_⟩)
        · intro g hgm hgo
          rw [List.mem_append] at hgo
          rcases hgo with hm | hm
          · rcases hat with e | e
            · exact hdis g hgm (hb5 g (e.symm.trans (mem_blocks.1 hm)))
            · have h1 : some w.heap.size = some g := e.symm.trans (mem_blocks.1 hm)
              have h2 := (hA.lt g hgm).2
              simp at h1
              omega
          · exact hdis g hgm hm
        · rw [Act.eval_put_ne a _ _ _ (by omega), Act.eval_put_ne a _ _ _ (by omega), Act.eval_put_ne a _ _ _ (by omega), upd_other L (by omega), upd_other L (by omega), upd_other L (by omega)]
          exact hA.keep hg (fun g e hm => hdis g hm (hb5 g e))
        · rw [Act.eval_put_ne a _ _ _ (by omega), Act.eval_put_ne a _ _ _ (by omega), show (a.put (some (22 + 14)) v).eval (.tmp 36) = v from Act.eval_put_same a _ _ (by rw [h.size]; omega), upd_other L (by omega), upd_other L (by omega), upd_same, hd 12 (by decide), hd 13 (by decide)]
          rw [hd 12 (by decide), hd 13 (by decide), hLi] at hBb
          exact hBb.op7 hg hown
      · obtain ⟨SA, SB, hdis, hA, hBb⟩ := h.ch
        obtain ⟨oA, -⟩ := hA.seven (hd 7 (by decide))
        obtain ⟨oB, -⟩ := hBb.seven (hd 14 (by decide))
        obtain ⟨p1, p2, p3, ep⟩ := one_of_own oA
        obtain ⟨q1, q2, q3, eq⟩ := one_of_own oB
        have hg := World.grownBy_alloc w (.cells #[.slice p1 p2 p3, .slice q1 q2 q3] 22) none
        refine op_value ho hgd (run_build2 w hop ep eq) ?_
        rw [hdst, show (if (15 : Nat) = 17 then 6 else 22 + 15) = 37 from rfl]
        refine .inl ⟨by simp [Act.put, h.size], h.defers, h.below.grown hg hsz (fun g e => by cases e), fun s hs => ?_, fun j u hj hL => ?_, h.clos.upd hd, ⟨SA, SB, hdis, ?_, ?_⟩, fun _ => ⟨w.heap.size, hsz, ?_, ?_, ?_⟩, ?_⟩
        · rw [Act.eval_put_ne a _ _ _ (by omega)]
          exact h.frame s hs
        · have hj15 : j ≠ 15 := by rintro rfl; rw [epv] at hj; cases hj
          have hL' : L j = true := by rw [← upd_other L hj15]; exact hL
          rw [Act.eval_put_ne a _ _ _ (by omega)]
          exact h.pure j u hj hL'
        · show Ch _ _ _ _ _ _ _ (upd L 15 5) (upd L 15 6) (upd L 15 7) _
          rw [Act.eval_put_ne a _ _ _ (by omega), Act.eval_put_ne a _ _ _ (by omega), Act.eval_put_ne a _ _ _ (by omega), upd_other L (by omega), upd_other L (by omega), upd_other L (by omega)]
          exact hA.keep hg (fun g e => by cases e)
        · show Ch _ _ _ _ _ _ _ (upd L 15 12) (upd L 15 13) (upd L 15 14) _
          rw [Act.eval_put_ne a _ _ _ (by omega), Act.eval_put_ne a _ _ _ (by omega), Act.eval_put_ne a _ _ _ (by omega), upd_other L (by omega), upd_other L (by omega), upd_other L (by omega)]
          exact hBb.keep hg (fun g e => by cases e)
        · exact Act.eval_put_same a _ _ (by rw [h.size]; omega)
        · rw [Act.eval_put_ne a _ _ _ (by omega), ep]
          simp
        · rw [Act.eval_put_ne a _ _ _ (by omega), eq]
          simp
        · show upd L 15 16 = false
          rw [upd_other L (by omega)]
          exact h.no16
      · obtain ⟨SA, SB, hdis, hA, hBb⟩ := h.ch
        have l15 := hd 15 (by decide)
        have l7 := h.clos 15 7 (by decide) l15
        have l14 := h.clos 15 14 (by decide) l15
        obtain ⟨oA, bA⟩ := hA.seven l7
        obtain ⟨oB, bB⟩ := hBb.seven l14
        obtain ⟨p1, p2, p3, ep⟩ := one_of_own oA
        obtain ⟨q1, q2, q3, eq⟩ := one_of_own oB
        obtain ⟨g, hgl, e37, c1, c2⟩ := h.last l15
        have hgw : wr.grownBy w none := ⟨h.below.os, h.below.tape, h.below.output, h.below.size, fun k hk _ => h.below.block k hk⟩
        have hnw : OwnR w B v6 vs6 := own_growW hnext hgw (fun k e => by cases e)
        obtain ⟨v', w', hrun, hown, hg, hat⟩ := run_push2 w hop (h.pure 0 _ (by rw [epv]; rfl) (hd 0 (by decide))) e37 hnw c1 c2 (by rw [ep]; rfl) (by rw [eq]; rfl) hv (by omega)
        refine op_value ho hgd hrun ?_
        rw [hdst, show (if (16 : Nat) = 17 then 6 else 22 + 16) = 38 from rfl]
        refine .inr ⟨upd_same L 16, h.clos.upd hd, v', Act.eval_put_same a _ _ (by rw [h.size]; omega), fun h17 => ?_, ⟨by simp [Act.put, h.size], h.defers, fun s hs _ => ?_, ⟨a.eval (.tmp 29), a.eval (.tmp 36), w, hown, ?_, ?_, h.below, hg, hat⟩⟩⟩
        · have h17' : L 17 = true := by rw [← upd_other L (show 17 ≠ 16 by omega)]; exact h17
          have := h.clos 17 16 (by decide) h17'
          rw [h.no16] at this
          cases this
        · rw [Act.eval_put_ne a _ _ _ (by omega)]
          exact h.frame s hs
        · exact own_growW oA hg (fun k hk e => by
            have h1 := (hA.lt k (bA k e)).1
            have h2 := (World.ownsRow.lt hnext k hk).2
            omega)
        · exact own_growW oB hg (fun k hk e => by
            have h1 := (hBb.lt k (bB k e)).1
            have h2 := (World.ownsRow.lt hnext k hk).2
            omega)
      · have := hd 16 (by decide)
        rw [h.no16] at this
        cases this
    · by_cases h17 : i = 17
      · subst h17
        refine op_value ho hgd (run_assignQ w hop h38) ?_
        rw [hdst]
        refine .inr ⟨?_, hcl.upd hd, v', ?_, fun _ => ?_, ⟨by simp [Act.put, hF.size], hF.defers, fun s hs hs6 => ?_, hF.facts⟩⟩
        · show upd L 17 16 = true
          rw [upd_other L (by omega)]
          exact h16
        · rw [if_pos rfl, Act.eval_put_ne a _ _ _ (by omega)]
          exact h38
        · rw [if_pos rfl]
          exact Act.eval_put_same a _ _ (by rw [hF.size]; omega)
        · rw [if_pos rfl, Act.eval_put_ne a _ _ _ (by omega)]
          exact hF.frame s hs hs6
      · have := hcl.all16 h16 i (by omega)
        rw [hLi] at this
        cases this
  · rintro L a w hL (h | ⟨_, _, v', h38, h6, hF⟩)
    · have := hL 16 (by omega)
      rw [h.no16] at this
      cases this
    · exact ⟨rfl, v', h6 (hL 17 (by omega)), hF⟩
end Go.Proofs.YtplkmkbambbemadGreatDoor
namespace Go.Proofs.YtplkmkbambbemadGreatDoor
open Go.ChangeShapes Go.WideShapes Go.ChangeAt Go.RowKit
/-- Lists of bits, each of one's own. -/
def RowsB (w : World) (B : Nat) (vs : List Value) (LL : List (List Int)) : Prop := vs.length = LL.length ∧ ∀ i, i < LL.length → Own w B (vs.getD i undef) (LL.getD i [])
theorem RowsB.grow {w w' : World} {B : Nat} {vs : List Value} {LL : List (List Int)} {row : Option Nat} (h : RowsB w B vs LL) (hg : w.grownBy w' row) (hr : ∀ g, row = some g → ∀ i, i < LL.length → (vs.getD i undef).ownBlock ≠ some g) : RowsB w' B vs LL :=
  ⟨h.1, fun i hi => own_growW (h.2 i hi) hg (fun k hk => hr k hk i hi)⟩
theorem grown_of_below {w w' : World} (h : Below w.heap.size w w') : w.grownBy w' none := ⟨h.os, h.tape, h.output, h.size, fun k hk _ => h.block k hk⟩
theorem RowsB.below {w w' : World} {B : Nat} {vs : List Value} {LL : List (List Int)} (h : RowsB w B vs LL) (hb : Below w.heap.size w w') : RowsB w' B vs LL := h.grow (grown_of_below hb) (fun g e => by cases e)
theorem RowsB.snoc2 {w : World} {B : Nat} {vs : List Value} {LL : List (List Int)} {u1 u2 : Value} {l1 l2 : List Int} (h : RowsB w B vs LL) (h1 : Own w B u1 l1) (h2 : Own w B u2 l2) : RowsB w B (vs ++ [u1, u2]) (LL ++ [l1, l2]) := by
  refine ⟨by rw [List.length_append, List.length_append, h.1]; rfl, fun i hi => ?_⟩
  rw [List.length_append] at hi
  simp only [List.length_cons, List.length_nil] at hi
  by_cases h3 : i < LL.length
  · have e1 : (vs ++ [u1, u2]).getD i undef = vs.getD i undef := by simp [List.getD, List.getElem?_append_left (show i < vs.length by rw [h.1]; exact h3)]
    have e2 : (LL ++ [l1, l2]).getD i [] = LL.getD i [] := by simp [List.getD, List.getElem?_append_left h3]
    rw [e1, e2]
    exact h.2 i h3
  · have hv := h.1
    have : i = LL.length ∨ i = LL.length + 1 := by omega
    rcases this with rfl | rfl
    · have e1 : (vs ++ [u1, u2]).getD LL.length undef = u1 := by rw [← hv]; simp [List.getD]
      have e2 : (LL ++ [l1, l2]).getD LL.length [] = l1 := by simp [List.getD]
      rw [e1, e2]
      exact h1
    · have e1 : (vs ++ [u1, u2]).getD (LL.length + 1) undef = u2 := by rw [← hv]; simp [List.getD]
      have e2 : (LL ++ [l1, l2]).getD (LL.length + 1) [] = l2 := by simp [List.getD]
      rw [e1, e2]
      exact h2
theorem apart_typesW {w : World} {B B' : Nat} {e e' : TypeId} {v u : Value} {n n' : Nat} {xs ys : List Value} (h : w.ownsRow B e 1 v n xs) (h' : w.ownsRow B' e' 1 u n' ys) (he : e ≠ e') : ∀ k, v.ownBlock = some k → u.ownBlock ≠ some k := by
  intro k hk hu
  rcases h.2 with ⟨rfl, _⟩ | ⟨g, cap, cur, rfl, _, hg, _⟩
  · cases hk
  · rcases h'.2 with ⟨rfl, _⟩ | ⟨g', cap', cur', rfl, _, hg', _⟩
    · cases hu
    · have e1 : g = k := by simpa [Value.ownBlock] using hk
      have e2 : g' = k := by simpa [Value.ownBlock] using hu
      subst e1
      subst e2
      rw [hg] at hg'
      simp only [Option.some.injEq, Obj.cells.injEq] at hg'
      exact he hg'.2.1
theorem OwnR.cell {w : World} {B g n c : Nat} {vs : List Value} (h : OwnR w B (.slice (some ⟨g, 0, none⟩) n c) vs) {i : Nat} (hi : i < vs.length) : w.cell? ⟨g, i, none⟩ = some (vs.getD i undef) := by
  have hl : vs.length = n := by
    rcases h.2 with ⟨h', _⟩ | ⟨g', cap', cur', h', _⟩
    · cases h'
    · simp only [Value.slice.injEq] at h'
      exact h'.2.1.symm
  subst hl
  unfold OwnR at h
  rw [h.cellAt i (by omega)]
  simp [List.getD, hi]
theorem OwnR.shape1 {w : World} {B : Nat} {v : Value} {vs : List Value} (h : OwnR w B v vs) (h1 : 1 ≤ vs.length) : ∃ g c, v = .slice (some ⟨g, 0, none⟩) vs.length c ∧ vs.length ≤ c ∧ c ≤ maxLen ∧ g < w.heap.size := by
  rcases h.2 with ⟨_, h0⟩ | ⟨g, cap, cur, h', _, hg, h2, h3, _⟩
  · omega
  · exact ⟨g, cap, h', h2, h3, (Array.getElem?_eq_some_iff.1 hg).1⟩
theorem OwnR.below {w w' : World} {B : Nat} {v : Value} {vs : List Value} (h : OwnR w B v vs) (hb : Below w.heap.size w w') : OwnR w' B v vs := own_growW h (grown_of_below hb) (fun k e => by cases e)
/-- The step of the lists, as the loop wants it told. -/
theorem con_step {B : Nat} {wr w : World} {a0 a : Act} {v4 v6 v' : Value} {vs4 vs6 : List Value} {LL : List (List Int)} {i : Nat} (hF : ConF wr a0 B v6 vs6 (LL.getD i []) v' a w) (hi : i < LL.length) (hB : B ≤ wr.heap.size) (h4 : OwnR wr B v4 vs4) (r4 : RowsB wr B vs4 LL) (h6 : OwnR wr B v6 vs6) (r6 : RowsB wr B vs6 (growW LL i))
    (hap : ∀ k, v6.ownBlock = some k → v4.ownBlock ≠ some k) : OwnR w B v4 vs4 ∧ RowsB w B vs4 LL ∧ (∃ vs', OwnR w B v' vs' ∧ RowsB w B vs' (growW LL (i + 1))) ∧ (∀ k, v'.ownBlock = some k → v4.ownBlock ≠ some k) ∧ Below B wr w := by
  obtain ⟨u1, u2, w1, f1, f2, f3, f4, f5, f6⟩ := hF.facts
  have g4 := h4.below f4
  have g6 := h6.below f4
  have hsz := f4.size
  have lt6 : ∀ g, v6.ownBlock = some g → B ≤ g ∧ g < wr.heap.size := fun g e => World.ownsRow.lt h6 g e
  refine ⟨own_growW g4 f5 (fun k hk => hap k hk), (r4.below f4).grow f5 (fun g e j hj => ?_), ⟨vs6 ++ [u1, u2], f1, ?_⟩, fun k hk he => ?_, ?_⟩
  · exact fun he => apart_typesW (e := 5) (e' := 22) ((r4.below f4).2 j hj) g6 (by decide) g he e
  · rw [growW_succ hi]
    refine RowsB.snoc2 ((r6.below f4).grow f5 (fun g e j hj => ?_)) (own_monoW f2 hB) (own_monoW f3 hB)
    exact fun he => apart_typesW (e := 5) (e' := 22) ((r6.below f4).2 j hj) g6 (by decide) g he e
  · rcases f6 with e | e
    · exact hap k (e.symm.trans hk) he
    · have h1 := (World.ownsRow.lt h4 k he).2
      have h2 : some w1.heap.size = some k := e.symm.trans hk
      simp at h2
      omega
  · exact (f4.mono hB).grown f5 (by omega) (fun g e => (lt6 g e).1)
end Go.Proofs.YtplkmkbambbemadGreatDoor
namespace Go.Proofs.YtplkmkbambbemadGreatDoor
open Go.ChangeShapes Go.WideShapes Go.ChangeAt Go.RowKit Go.Shelf
theorem Tryz.infoP : (Tryz.prog.info? 29).map (fun i => (i.zero, i.size, i.bytes)) = some (some (.agg #[.int .i64 0, .int .i64 0]), 2, 16) := by kernel_rfl
/-- Points of one's own. -/
def cellsP (ps : List (Int × Int)) : List Value := ps.flatMap fun p => [.int .i64 p.1, .int .i64 p.2]
def OwnP (w : World) (B : Nat) (v : Value) (ps : List (Int × Int)) : Prop := w.ownsRow B 29 2 v ps.length (cellsP ps)
theorem own_growN {w w' : World} {B : Nat} {e : TypeId} {z : Nat} {v : Value} {n : Nat} {xs : List Value} {row : Option Nat} (h : w.ownsRow B e z v n xs) (hg : w.grownBy w' row) (hr : ∀ k, row = some k → v.ownBlock ≠ some k) : w'.ownsRow B e z v n xs := by
  refine ⟨h.1, ?_⟩
  rcases h.2 with h' | ⟨g, cap, cur, h1, h2, h3, h4⟩
  · exact .inl h'
  · have hlt : g < w.heap.size := (Array.getElem?_eq_some_iff.1 h3).1
    refine .inr ⟨g, cap, cur, h1, h2, (hg.block g hlt (fun e => hr g e.symm ?_)).trans h3, h4⟩
    rw [h1]; rfl
theorem cellsP_at (ps : List (Int × Int)) : ∀ i, i < ps.length → (cellsP ps)[i * 2]? = some (.int .i64 (ps.getD i (0, 0)).1) ∧ (cellsP ps)[i * 2 + 1]? = some (.int .i64 (ps.getD i (0, 0)).2) := by
  induction ps with
  | nil => intro i hi; simp at hi
  | cons p ps ih =>
    intro i hi
    have e : cellsP (p :: ps) = .int .i64 p.1 :: .int .i64 p.2 :: cellsP ps := rfl
    cases i with
    | zero => rw [e]; simp [List.getD]
    | succ i =>
      have := ih i (by simpa using hi)
      rw [e, show (i + 1) * 2 = i * 2 + 1 + 1 by omega, List.getElem?_cons_succ, List.getElem?_cons_succ, show i * 2 + 1 + 1 + 1 = (i * 2 + 1) + 1 + 1 by omega, List.getElem?_cons_succ, List.getElem?_cons_succ]
      simpa [List.getD] using this
theorem OwnP.pts {w : World} {B n c : Nat} {a : Option Addr} {ps : List (Int × Int)} (h : OwnP w B (.slice a n c) ps) : Pts w a ps := by
  intro hne
  rcases h.2 with ⟨_, h0⟩ | ⟨g, cap, cur, h', _⟩
  · exact absurd (List.eq_nil_of_length_eq_zero h0) hne
  · simp only [Value.slice.injEq] at h'
    obtain ⟨rfl, rfl, rfl⟩ := h'
    refine ⟨g, 0, rfl, fun i hi => ?_⟩
    have := cellsP_at ps i hi
    unfold OwnP at h
    rw [Nat.zero_add, h.cellAt _ (by omega), h.cellAt _ (by omega)]
    exact this
theorem OwnP.shape {w : World} {B : Nat} {v : Value} {ps : List (Int × Int)} (h : OwnP w B v ps) : ∃ a c, v = .slice a ps.length c ∧ ps.length ≤ c ∧ c ≤ maxLen := by
  rcases h.2 with ⟨rfl, h0⟩ | ⟨g, cap, cur, rfl, _, _, h1, h2, _⟩
  · exact ⟨none, 0, by rw [h0], by omega, by unfold maxLen; omega⟩
  · exact ⟨_, cap, rfl, h1, h2⟩
theorem run_buildS {ρ : Operand → Value} (w : World) {o : Oper} {x y : Operand} {p q : Int} (ho : o.op = .build 29 #[(0, x), (1, y)]) (h : ρ x = .int .i64 p) (h' : ρ y = .int .i64 q) : (execOp ρ o).run Tryz.prog w = .ok (.value (.agg #[.int .i64 p, .int .i64 q])) w := by
  unfold execOp
  simp only [ho]
  simp [go_sem, h, h']
theorem run_buildP {ρ : Operand → Value} (w : World) {o : Oper} {x : Operand} {p q : Int} (ho : o.op = .buildSlice 24 1 #[(0, x)]) (h : ρ x = .agg #[.int .i64 p, .int .i64 q]) : (execOp ρ o).run Tryz.prog w = .ok (.value (.slice (some ⟨w.heap.size, 0, none⟩) 1 1)) (w.alloc (.cells #[.int .i64 p, .int .i64 q] 29)) := by
  unfold execOp
  simp only [ho]
  simp [go_sem, h]
theorem run_pushP {ρ : Operand → Value} (w : World) {o : Oper} {x y : Operand} {B g : Nat} {v : Value} {ps : List (Int × Int)} {p : Int × Int} (ho : o.op = .call { callee := .builtin .append, args := #[x, y], argTypes := #[24, 24] }) (h : ρ x = v) (h' : ρ y = .slice (some ⟨g, 0, none⟩) 1 1)
    (hown : OwnP w B v ps) (hc1 : w.cell? ⟨g, 0, none⟩ = some (.int .i64 p.1)) (hc2 : w.cell? ⟨g, 1, none⟩ = some (.int .i64 p.2)) (hl : ps.length ≤ 100000) (hB : B ≤ w.heap.size) :
    ∃ v' w', (execOp ρ o).run Tryz.prog w = .ok (.value v') w' ∧ OwnP w' B v' (ps ++ [p]) ∧ w.grownBy w' v.ownBlock ∧ (v'.ownBlock = v.ownBlock ∨ v'.ownBlock = some w.heap.size) := by
  obtain ⟨i0, hi, hz0, hz1, hz2⟩ := info_parts Tryz.infoP
  obtain ⟨v', w', hrun, h1, h2, _, h3⟩ := run_append_own_at (P := Tryz.prog) (w := w) B 24 o.type 29 i0 (.agg #[.int .i64 0, .int .i64 0]) 2 16 Tryz.underlying24 hi hz0 hz1 hz2 rfl (by decide) v _ _ hown ⟨g, 0, none⟩ 1 1 [.int .i64 p.1, .int .i64 p.2] rfl (by
    intro j u hj
    match j, hj with
    | 0, hj => simp at hj; subst hj; simpa [Addr.add] using hc1
    | 1, hj => simp at hj; subst hj; simpa [Addr.add] using hc2) (by intro u hu; simp at hu; rcases hu with rfl | rfl <;> rfl) (by unfold maxLen; omega) (by omega) hB
  refine ⟨v', w', ?_, ?_, h2, h3⟩
  · unfold execOp
    simp only [ho]
    simp [resolve, invoke, builtin, h, h', hrun, Result.andThen]
  · unfold OwnP
    rw [List.length_append, show cellsP (ps ++ [p]) = cellsP ps ++ [.int .i64 p.1, .int .i64 p.2] by simp [cellsP]]
    exact h1
/-- A call of a Go function of two arguments in a region. -/
theorem op_call2 {ops : Array Oper} {Q : Exit → Act → World → Prop} {i f : Nat} {o : Oper} {a : Act} {w : World} {x y : Operand} {u v : Value} {ts : Array TypeId} {K : Act → World → Prop} {R : Ending → World → Prop} (hi : ops[i]? = some o) (hg : o.guard = none) (hop : o.op = .call { callee := .value (.func f), args := #[x, y], argTypes := ts })
    (he : Enters Tryz.prog f) (hx : a.eval x = u) (hy : a.eval y = v) (hc : Calls Tryz.prog f #[u, v] w R) (hR : ∀ e w', R e w' → ∃ r, e = .returned r ∧ K (a.put o.dst r) w') : wpOp Tryz.prog ops Q i K a w := by
  unfold wpOp
  rw [hi]
  have hw : Region.wanted o (yielded ops a.tmps) = true := by simp [Region.wanted, hg]
  simp only [hw, if_true, Oper.wp]
  left
  have hrun : (execOp a.eval o).run Tryz.prog w = .ok (.enter f #[u, v]) w := by
    unfold execOp
    simp only [hop]
    have := he #[u, v] w
    have hfn : a.eval (.func f) = .func (.func f) #[] #[] := rfl
    simp [resolve, invoke, hx, hy, hfn, Deferred.ofValue, this]
  rw [hrun, Oper.upon_enter]
  refine hc.mono fun e w' h => ?_
  obtain ⟨r, rfl, hK⟩ := hR e w' h
  exact hK
def ptOp : Nat → Op
  | 0 => .move (.tmp 8)
  | 1 => .move (.tmp 4)
  | 2 => .move (.tmp 9)
  | 3 => .indexAddr 157 (.tmp 47) (.tmp 48)
  | 4 => .load 22 (.tmp 49)
  | 5 => .call { callee := .value (.func 131), args := #[.tmp 50, .const (.int .i64 0)], argTypes := #[22, 3] }
  | 6 => .move (.tmp 4)
  | 7 => .move (.tmp 9)
  | 8 => .indexAddr 157 (.tmp 52) (.tmp 53)
  | 9 => .load 22 (.tmp 54)
  | 10 => .call { callee := .value (.func 131), args := #[.tmp 55, .const (.int .i64 1)], argTypes := #[22, 3] }
  | 11 => .build 29 #[(0, .tmp 51), (1, .tmp 56)]
  | 12 => .buildSlice 24 1 #[(0, .tmp 57)]
  | 13 => .call { callee := .builtin .append, args := #[.tmp 46, .tmp 58], argTypes := #[24, 24] }
  | _ => .assign (.tmp 59)
def ptDeps : Nat → List Nat
  | 3 => [1, 2]
  | 4 => [3]
  | 5 => [4]
  | 8 => [6, 7]
  | 9 => [8]
  | 10 => [9]
  | 11 => [5, 10]
  | 12 => [11]
  | 13 => [0, 12]
  | 14 => [13]
  | _ => []
def ptPv (v8 v4 vi p rowv : Value) (x y : Int) : Nat → Option Value
  | 0 => some v8
  | 1 => some v4
  | 2 => some vi
  | 3 => some p
  | 4 => some rowv
  | 5 => some (.int .i64 x)
  | 6 => some v4
  | 7 => some vi
  | 8 => some p
  | 9 => some rowv
  | 10 => some (.int .i64 y)
  | 11 => some (.agg #[.int .i64 x, .int .i64 y])
  | _ => none
def ClosP (L : Nat → Bool) : Prop := ∀ i j, j ∈ ptDeps i → L i = true → L j = true
theorem ClosP.upd {L : Nat → Bool} (h : ClosP L) {i : Nat} (hi : ∀ j ∈ ptDeps i, L j = true) : ClosP (upd L i) := by
  intro p j hj hp
  by_cases hji : j = i
  · rw [hji]; exact upd_same L i
  · rw [upd_other L hji]
    by_cases hpi : p = i
    · subst hpi; exact hi j hj
    · rw [upd_other L hpi] at hp
      exact h p j hj hp
theorem ClosP.all13 {L : Nat → Bool} (h : ClosP L) (h13 : L 13 = true) : ∀ j, j ≤ 13 → L j = true := by
  have l0 := h 13 0 (by decide) h13
  have l12 := h 13 12 (by decide) h13
  have l11 := h 12 11 (by decide) l12
  have l5 := h 11 5 (by decide) l11
  have l10 := h 11 10 (by decide) l11
  have l4 := h 5 4 (by decide) l5
  have l3 := h 4 3 (by decide) l4
  have l2 := h 3 2 (by decide) l3
  have l1 := h 3 1 (by decide) l3
  have l9 := h 10 9 (by decide) l10
  have l8 := h 9 8 (by decide) l9
  have l7 := h 8 7 (by decide) l8
  have l6 := h 8 6 (by decide) l8
  intro j hj
  have : j = 0 ∨ j = 1 ∨ j = 2 ∨ j = 3 ∨ j = 4 ∨ j = 5 ∨ j = 6 ∨ j = 7 ∨ j = 8 ∨ j = 9 ∨ j = 10 ∨ j = 11 ∨ j = 12 ∨ j = 13 := by omega
  rcases this with rfl | rfl | rfl | rfl | rfl | rfl | rfl | rfl | rfl | rfl | rfl | rfl | rfl | rfl <;> assumption
structure PtI (wr : World) (a0 : Act) (pv : Nat → Option Value) (x y : Int) (L : Nat → Bool) (a : Act) (w : World) : Prop where
  size : a.tmps.size = a0.tmps.size
  defers : a.defers = a0.defers
  below : Below wr.heap.size wr w
  frame : ∀ s : Nat, s < 46 ∨ 59 < s → a.eval (.tmp s) = a0.eval (.tmp s)
  pure : ∀ i v, pv i = some v → L i = true → a.eval (.tmp (46 + i)) = v
  clos : ClosP L
  last : L 12 = true → ∃ g, wr.heap.size ≤ g ∧ a.eval (.tmp 58) = .slice (some ⟨g, 0, none⟩) 1 1 ∧ w.cell? ⟨g, 0, none⟩ = some (.int .i64 x) ∧ w.cell? ⟨g, 1, none⟩ = some (.int .i64 y)
  no13 : L 13 = false
structure PtF (wr : World) (a0 : Act) (B : Nat) (v8 : Value) (ps : List (Int × Int)) (p : Int × Int) (v' : Value) (a : Act) (w : World) : Prop where
  size : a.tmps.size = a0.tmps.size
  defers : a.defers = a0.defers
  frame : ∀ s : Nat, s < 46 ∨ 59 < s → s ≠ 8 → a.eval (.tmp s) = a0.eval (.tmp s)
  facts : ∃ w1, OwnP w B v' (ps ++ [p]) ∧ Below wr.heap.size wr w1 ∧ w1.grownBy w v8.ownBlock ∧ (v'.ownBlock = v8.ownBlock ∨ v'.ownBlock = some w1.heap.size)
theorem PtI.step {wr : World} {a0 : Act} {pv : Nat → Option Value} {x y : Int} {L : Nat → Bool} {a : Act} {w w' : World} {i : Nat} {v : Value} (h : PtI wr a0 pv x y L a w) (hi : i ≤ 11) (hN : 60 ≤ a0.tmps.size) (hd : ∀ j ∈ ptDeps i, L j = true) (hg : w.grownBy w' none) (hp : pv i = some v) : PtI wr a0 pv x y (upd L i) (a.put (some (46 + i)) v) w' := by
  refine ⟨by simp [Act.put, h.size], h.defers, h.below.grown hg h.below.size (fun g e => by cases e), fun s hs => ?_, fun j u hj hL => ?_, h.clos.upd hd, fun h12 => ?_, ?_⟩
  · rw [Act.eval_put_ne a _ _ _ (by omega)]
    exact h.frame s hs
  · by_cases hji : j = i
    · subst hji
      rw [Act.eval_put_same a _ _ (by rw [h.size]; omega)]
      rw [hp] at hj
      exact Option.some.inj hj
    · rw [upd_other L hji] at hL
      rw [Act.eval_put_ne a _ _ _ (by omega)]
      exact h.pure j u hj hL
  · rw [upd_other L (by omega)] at h12
    obtain ⟨g, h1, h2, h3, h4⟩ := h.last h12
    refine ⟨g, h1, ?_, cell_grown h3 hg (fun k e => by cases e), cell_grown h4 hg (fun k e => by cases e)⟩
    rw [Act.eval_put_ne a _ _ _ (by omega)]
    exact h2
  · rw [upd_other L (by omega)]
    exact h.no13
end Go.Proofs.YtplkmkbambbemadGreatDoor
