import Derived.Test.YtdndeegpbjlibacWaveT
namespace Go.Proofs.Ytdndeegpbjlibac
open Go.ChangeShapes Go.WideShapes Go.ChangeAt Go.RowKit

def conPv (v6 v4 vi p rowv : Value) : Nat → Option Value
  | 0 => some v6
  | 1 => some v4
  | 2 => some vi
  | 3 => some p
  | 4 => some rowv
  | 8 => some v4
  | 9 => some vi
  | 10 => some p
  | 11 => some rowv
  | _ => none

/-- Behind it. -/
structure ConF (wr : World) (a0 : Act) (B : Nat) (v6 : Value) (vs6 : List Value) (l : List Int) (v' : Value) (a : Act) (w : World) : Prop where
  size : a.tmps.size = a0.tmps.size
  defers : a.defers = a0.defers
  frame : ∀ s : Nat, s < 22 ∨ 38 < s → s ≠ 6 → a.eval (.tmp s) = a0.eval (.tmp s)
  facts : ∃ u1 u2 w1, OwnR w B v' (vs6 ++ [u1, u2]) ∧ Own w wr.heap.size u1 (l ++ [0]) ∧ Own w wr.heap.size u2 (l ++ [1]) ∧ Below wr.heap.size wr w1 ∧ w1.grownBy w v6.ownBlock ∧ (v'.ownBlock = v6.ownBlock ∨ v'.ownBlock = some w1.heap.size)

theorem one_of_own {w : World} {B : Nat} {v : Value} {L : List Int} (h : Own w B v L) : ∃ a n c, v = .slice a n c := by
  rcases h.2 with ⟨h', _⟩ | ⟨g, cap, cur, h', _⟩
  · exact ⟨_, _, _, h'⟩
  · exact ⟨_, _, _, h'⟩

set_option maxHeartbeats 1000000 in
theorem con_region {ops : Array Oper} {id : Nat} (hops : ∀ i, i < 18 → ∃ o : Oper, ops[i]? = some o ∧ o.op = conOp i ∧ o.dst = some (if i = 17 then 6 else 22 + i) ∧ o.guard = none) (hdeps : ((List.range 18).all fun i => (conDeps i).all fun j => waitsFor ops i j) = true)
    (htopo : ((List.range 18).all fun i => laterNone ops i) = true) (hk : ops.size = 18) (hm : Try.prog.follows .mixedOrders = true) (B : Nat) (wr : World) (a0 : Act) (hN : 39 ≤ a0.tmps.size) (v6 : Value) (vs6 : List Value) (hB : B ≤ wr.heap.size) (hnext : OwnR wr B v6 vs6) (hv : vs6.length ≤ 1000)
    (gL nL cL i0 : Nat) (l : List Int) (ai : Option Addr) (n ci : Nat) (e6 : a0.eval (.tmp 6) = v6) (e4 : a0.eval (.tmp 4) = .slice (some ⟨gL, 0, none⟩) nL cL) (e7 : a0.eval (.tmp 7) = .int .i64 i0) (hi0 : i0 < nL)
    (hcell : wr.cell? ⟨gL, 0 + i0, none⟩ = some (.slice ai n ci)) (hrd : Rd .u8 wr ai l) (hl : l.length = n) (h0 : n = 0 → ai = none ∧ ci = 0) (hn : n ≤ 90) :
    (Code.region id ops true).wp Try.prog (fun e a' w' => e = .normal ∧ ∃ v', a'.eval (.tmp 6) = v' ∧ ConF wr a0 B v6 vs6 l v' a' w') a0 wr := by
  have hD : ∀ i, i < 18 → ∀ j ∈ conDeps i, waitsFor ops i j = true := fun i hi j hj => List.all_eq_true.1 (List.all_eq_true.1 hdeps i (List.mem_range.2 hi)) j hj
  obtain ⟨pv, epv⟩ : ∃ pv, pv = conPv v6 (.slice (some ⟨gL, 0, none⟩) nL cL) (.int .i64 i0) (.pointer (some ⟨gL, 0 + i0, none⟩)) (.slice ai n ci) := ⟨_, rfl⟩
  refine region_inv 18 (fun L a w => ConI wr a0 pv l L a w ∨ (L 16 = true ∧ Clos L ∧ ∃ v', a.eval (.tmp 38) = v' ∧ (L 17 = true → a.eval (.tmp 6) = v') ∧ ConF wr a0 B v6 vs6 l v' a w)) a0 wr hm hk htopo ?_ ?_ ?_
  · refine .inl ⟨rfl, rfl, (Below.refl _ wr).drew, fun s _ => rfl, fun i v _ h => (by cases h), fun i j _ h => (by cases h), ⟨[], [], fun g h => (by cases h), Ch.start _ _ _ _ _ _ _, Ch.start _ _ _ _ _ _ _⟩, fun h => (by cases h), rfl⟩
  · intro L a w i hI hi hLi hw
    obtain ⟨o, ho, hop, hdst, hgd⟩ := hops i hi
    have hd : ∀ j ∈ conDeps i, L j = true := fun j hj => hw j (hD i hi j hj)
    rcases hI with h | ⟨h16, hcl, v', h38, h6, hF⟩
    · have hsz := h.below.size
      have hcase : i = 0 ∨ i = 1 ∨ i = 2 ∨ i = 3 ∨ i = 4 ∨ i = 5 ∨ i = 6 ∨ i = 7 ∨ i = 8 ∨ i = 9 ∨ i = 10 ∨ i = 11 ∨ i = 12 ∨ i = 13 ∨ i = 14 ∨ i = 15 ∨ i = 16 ∨ i = 17 := by omega
      have hcw : w.cell? ⟨gL, 0 + i0, none⟩ = some (.slice ai n ci) := (h.below.cell (World.block_lt_of_cell? wr _ hcell)).trans hcell
      rcases hcase with rfl | rfl | rfl | rfl | rfl | rfl | rfl | rfl | rfl | rfl | rfl | rfl | rfl | rfl | rfl | rfl | rfl | rfl
      · refine op_value ho hgd (run_moveQ w hop ((h.frame 6 (by omega)).trans e6)) ?_
        rw [hdst]
        exact .inl (h.read (by omega) hN hLi hd (by rw [epv]; rfl))
      · refine op_value ho hgd (run_moveQ w hop ((h.frame 4 (by omega)).trans e4)) ?_
        rw [hdst]
        exact .inl (h.read (by omega) hN hLi hd (by rw [epv]; rfl))
      · refine op_value ho hgd (run_moveQ w hop ((h.frame 7 (by omega)).trans e7)) ?_
        rw [hdst]
        exact .inl (h.read (by omega) hN hLi hd (by rw [epv]; rfl))
      · refine op_value ho hgd (run_idxR w hop (h.pure 1 _ (by rw [epv]; rfl) (hd 1 (by decide))) (h.pure 2 _ (by rw [epv]; rfl) (hd 2 (by decide))) hi0) ?_
        rw [hdst]
        exact .inl (h.read (by omega) hN hLi hd (by rw [epv]; rfl))
      · refine op_value ho hgd (run_loadSB w hop (h.pure 3 _ (by rw [epv]; rfl) (hd 3 (by decide))) hcw) ?_
        rw [hdst]
        exact .inl (h.read (by omega) hN hLi hd (by rw [epv]; rfl))
      · obtain ⟨SA, SB, hdis, hA, hBb⟩ := h.ch
        have l7 : L 7 = false := by
          cases h7 : L 7 with
          | false => rfl
          | true =>
            have := h.clos 7 5 (by decide) h7
            rw [hLi] at this
            cases this
        obtain ⟨v, w', hrun, hown, hg⟩ := run_copyB w hop rfl (h.pure 4 _ (by rw [epv]; rfl) (hd 4 (by decide))) (hrd.below h.below) hl h0 (by omega)
        refine op_value ho hgd hrun ?_
        rw [hdst]
        refine .inl (h.step (row := none) (by omega) hN hLi hd hg (fun g e => by cases e) (fun u hu => by rw [epv] at hu; cases hu) (fun e => by cases e) ⟨blocksOf v ++ SA, SB, ?_, ?_, ?_⟩)
        · intro g hgm hgo
          rw [List.mem_append] at hgm
          rcases hgm with hm | hm
          · have h1 := World.ownsRow.lt hown g (mem_blocks.1 hm)
            have h2 := (hBb.lt g hgo).2
            omega
          · exact hdis g hm hgo
        · rw [show (a.put (some (22 + 5)) v).eval (.tmp 27) = v from Act.eval_put_same a _ _ (by rw [h.size]; omega), Act.eval_put_ne a _ _ _ (by omega), Act.eval_put_ne a _ _ _ (by omega), upd_same, upd_other L (by omega), upd_other L (by omega), l7]
          rw [hLi, l7] at hA
          exact hA.op5 hg hsz hown
        · rw [Act.eval_put_ne a _ _ _ (by omega), Act.eval_put_ne a _ _ _ (by omega), Act.eval_put_ne a _ _ _ (by omega), upd_other L (by omega), upd_other L (by omega), upd_other L (by omega)]
          exact hBb.keep hg (fun g e => by cases e)
      · obtain ⟨SA, SB, hdis, hA, hBb⟩ := h.ch
        have l7 : L 7 = false := by
          cases h7 : L 7 with
          | false => rfl
          | true =>
            have := h.clos 7 6 (by decide) h7
            rw [hLi] at this
            cases this
        have hg := World.grownBy_alloc w (.cells #[.int .u8 0] 5) none
        refine op_value ho hgd (run_build1 w hop rfl) ?_
        rw [hdst]
        refine .inl (h.step (row := none) (by omega) hN hLi hd hg (fun g e => by cases e) (fun u hu => by rw [epv] at hu; cases hu) (fun e => by cases e) ⟨w.heap.size :: SA, SB, ?_, ?_, ?_⟩)
        · intro g hgm hgo
          rw [List.mem_cons] at hgm
          rcases hgm with hm | hm
          · have h2 := (hBb.lt g hgo).2
            omega
          · exact hdis g hm hgo
        · rw [Act.eval_put_ne a _ _ _ (by omega), show (a.put (some (22 + 6)) (.slice (some ⟨w.heap.size, 0, none⟩) 1 1)).eval (.tmp 28) = .slice (some ⟨w.heap.size, 0, none⟩) 1 1 from Act.eval_put_same a _ _ (by rw [h.size]; omega), Act.eval_put_ne a _ _ _ (by omega), upd_other L (by omega), upd_same, upd_other L (by omega), l7]
          rw [hLi, l7] at hA
          exact hA.op6 hsz
        · rw [Act.eval_put_ne a _ _ _ (by omega), Act.eval_put_ne a _ _ _ (by omega), Act.eval_put_ne a _ _ _ (by omega), upd_other L (by omega), upd_other L (by omega), upd_other L (by omega)]
          exact hBb.keep hg (fun g e => by cases e)
      · obtain ⟨SA, SB, hdis, hA, hBb⟩ := h.ch
        obtain ⟨ho5, hb5⟩ := hA.five (hd 5 (by decide)) hLi
        obtain ⟨g6, hg6, e28, c28⟩ := hA.six (hd 6 (by decide)) hLi
        obtain ⟨v, w', hrun, hown, hg, hat⟩ := run_push1 w hop rfl e28 ho5 c28 (by omega) hsz
        refine op_value ho hgd hrun ?_
        rw [hdst]
        refine .inl (h.step (by omega) hN hLi hd hg (fun g e => (hA.lt g (hb5 g e)).1) (fun u hu => by rw [epv] at hu; cases hu) (fun e => by cases e) ⟨blocksOf v ++ SA, SB, ?_, ?_, ?_⟩)
        · intro g hgm hgo
          rw [List.mem_append] at hgm
          rcases hgm with hm | hm
          · rcases hat with e | e
            · exact hdis g (hb5 g (e.symm.trans (mem_blocks.1 hm))) hgo
            · have h1 : some w.heap.size = some g := e.symm.trans (mem_blocks.1 hm)
              have h2 := (hBb.lt g hgo).2
              simp at h1
              omega
          · exact hdis g hm hgo
        · rw [Act.eval_put_ne a _ _ _ (by omega), Act.eval_put_ne a _ _ _ (by omega), show (a.put (some (22 + 7)) v).eval (.tmp 29) = v from Act.eval_put_same a _ _ (by rw [h.size]; omega), upd_other L (by omega), upd_other L (by omega), upd_same, hd 5 (by decide), hd 6 (by decide)]
          rw [hd 5 (by decide), hd 6 (by decide), hLi] at hA
          exact hA.op7 hg hown
        · rw [Act.eval_put_ne a _ _ _ (by omega), Act.eval_put_ne a _ _ _ (by omega), Act.eval_put_ne a _ _ _ (by omega), upd_other L (by omega), upd_other L (by omega), upd_other L (by omega)]
          exact hBb.keep hg (fun g e  => hdis g (hb5 g e))
      · refine op_value ho hgd (run_moveQ w hop ((h.frame 4 (by omega)).trans e4)) ?_
        rw [hdst]
        exact .inl (h.read (by omega) hN hLi hd (by rw [epv]; rfl))
      · refine op_value ho hgd (run_moveQ w hop ((h.frame 7 (by omega)).trans e7)) ?_
        rw [hdst]
        exact .inl (h.read (by omega) hN hLi hd (by rw [epv]; rfl))
      · refine op_value ho hgd (run_idxR w hop (h.pure 8 _ (by rw [epv]; rfl) (hd 8 (by decide))) (h.pure 9 _ (by rw [epv]; rfl) (hd 9 (by decide))) hi0) ?_
        rw [hdst]
        exact .inl (h.read (by omega) hN hLi hd (by rw [epv]; rfl))
      · refine op_value ho hgd (run_loadSB w hop (h.pure 10 _ (by rw [epv]; rfl) (hd 10 (by decide))) hcw) ?_
        rw [hdst]
        exact .inl (h.read (by omega) hN hLi hd (by rw [epv]; rfl))
      · obtain ⟨SA, SB, hdis, hA, hBb⟩ := h.ch
        have l7 : L 14 = false := by
          cases h7 : L 14 with
          | false => rfl
          | true =>
            have := h.clos 14 12 (by decide) h7
            rw [hLi] at this
            cases this
        obtain ⟨v, w', hrun, hown, hg⟩ := run_copyB w hop rfl (h.pure 11 _ (by rw [epv]; rfl) (hd 11 (by decide))) (hrd.below h.below) hl h0 (by omega)
        refine op_value ho hgd hrun ?_
        rw [hdst]
        refine .inl (h.step (row := none) (by omega) hN hLi hd hg (fun g e => by cases e) (fun u hu => by rw [epv] at hu; cases hu) (fun e => by cases e) ⟨SA, blocksOf v ++ SB, ?_, ?_, ?_⟩)
        · intro g hgm hgo
          rw [List.mem_append] at hgo
          rcases hgo with hm | hm
          · have h1 := World.ownsRow.lt hown g (mem_blocks.1 hm)
            have h2 := (hA.lt g hgm).2
            omega
          · exact hdis g hgm hm
        · rw [Act.eval_put_ne a _ _ _ (by omega), Act.eval_put_ne a _ _ _ (by omega), Act.eval_put_ne a _ _ _ (by omega), upd_other L (by omega), upd_other L (by omega), upd_other L (by omega)]
          exact hA.keep hg (fun g e => by cases e)
        · rw [show (a.put (some (22 + 12)) v).eval (.tmp 34) = v from Act.eval_put_same a _ _ (by rw [h.size]; omega), Act.eval_put_ne a _ _ _ (by omega), Act.eval_put_ne a _ _ _ (by omega), upd_same, upd_other L (by omega), upd_other L (by omega), l7]
          rw [hLi, l7] at hBb
          exact hBb.op5 hg hsz hown
      · obtain ⟨SA, SB, hdis, hA, hBb⟩ := h.ch
        have l7 : L 14 = false := by
          cases h7 : L 14 with
          | false => rfl
          | true =>
            have := h.clos 14 13 (by decide) h7
            rw [hLi] at this
            cases this
        have hg := World.grownBy_alloc w (.cells #[.int .u8 1] 5) none
        refine op_value ho hgd (run_build1 w hop rfl) ?_
        rw [hdst]
        refine .inl (h.step (row := none) (by omega) hN hLi hd hg (fun g e => by cases e) (fun u hu => by rw [epv] at hu; cases hu) (fun e => by cases e) ⟨SA, w.heap.size :: SB, ?_, ?_, ?_⟩)
        · intro g hgm hgo
          rw [List.mem_cons] at hgo
          rcases hgo with hm | hm
          · have h2 := (hA.lt g hgm).2
            omega
          · exact hdis g hgm hm
        · rw [Act.eval_put_ne a _ _ _ (by omega), Act.eval_put_ne a _ _ _ (by omega), Act.eval_put_ne a _ _ _ (by omega), upd_other L (by omega), upd_other L (by omega), upd_other L (by omega)]
          exact hA.keep hg (fun g e => by cases e)
        · rw [Act.eval_put_ne a _ _ _ (by omega), show (a.put (some (22 + 13)) (.slice (some ⟨w.heap.size, 0, none⟩) 1 1)).eval (.tmp 35) = .slice (some ⟨w.heap.size, 0, none⟩) 1 1 from Act.eval_put_same a _ _ (by rw [h.size]; omega), Act.eval_put_ne a _ _ _ (by omega), upd_other L (by omega), upd_same, upd_other L (by omega), l7]
          rw [hLi, l7] at hBb
          exact hBb.op6 hsz
      · obtain ⟨SA, SB, hdis, hA, hBb⟩ := h.ch
        obtain ⟨ho5, hb5⟩ := hBb.five (hd 12 (by decide)) hLi
        obtain ⟨g6, hg6, e28, c28⟩ := hBb.six (hd 13 (by decide)) hLi
        obtain ⟨v, w', hrun, hown, hg, hat⟩ := run_push1 w hop rfl e28 ho5 c28 (by omega) hsz
        refine op_value ho hgd hrun ?_
        rw [hdst]
        refine .inl (h.step (by omega) hN hLi hd hg (fun g e => (hBb.lt g (hb5 g e)).1) (fun u hu => by rw [epv] at hu; cases hu) (fun e => by cases e) ⟨SA, blocksOf v ++ SB, ?_, ?_, ?_⟩)
        · intro g hgm hgo
          rw [List.mem_append] at hgo
          rcases hgo with hm | hm
          · rcases hat with e | e
            · exact hdis g hgm (hb5 g (e.symm.trans (mem_blocks.1 hm)))
            · have h1 : some w.heap.size = some g := e.symm.trans (mem_blocks.1 hm)
              have h2 := (hA.lt g hgm).2
              simp at h1
              omega
          · exact hdis g hgm hm
        · rw [Act.eval_put_ne a _ _ _ (by omega), Act.eval_put_ne a _ _ _ (by omega), Act.eval_put_ne a _ _ _ (by omega), upd_other L (by omega), upd_other L (by omega), upd_other L (by omega)]
          exact hA.keep hg (fun g e hm => hdis g hm (hb5 g e))
        · rw [Act.eval_put_ne a _ _ _ (by omega), Act.eval_put_ne a _ _ _ (by omega), show (a.put (some (22 + 14)) v).eval (.tmp 36) = v from Act.eval_put_same a _ _ (by rw [h.size]; omega), upd_other L (by omega), upd_other L (by omega), upd_same, hd 12 (by decide), hd 13 (by decide)]
          rw [hd 12 (by decide), hd 13 (by decide), hLi] at hBb
          exact hBb.op7 hg hown
      · obtain ⟨SA, SB, hdis, hA, hBb⟩ := h.ch
        obtain ⟨oA, -⟩ := hA.seven (hd 7 (by decide))
        obtain ⟨oB, -⟩ := hBb.seven (hd 14 (by decide))
        obtain ⟨p1, p2, p3, ep⟩ := one_of_own oA
        obtain ⟨q1, q2, q3, eq⟩ := one_of_own oB
        have hg := World.grownBy_alloc w (.cells #[.slice p1 p2 p3, .slice q1 q2 q3] 22) none
        refine op_value ho hgd (run_build2 w hop ep eq) ?_
        rw [hdst, show (if (15 : Nat) = 17 then 6 else 22 + 15) = 37 from rfl]
        refine .inl ⟨by simp [Act.put, h.size], h.defers, h.below.grown hg hsz (fun g e => by cases e), fun s hs => ?_, fun j u hj hL => ?_, h.clos.upd hd, ⟨SA, SB, hdis, ?_, ?_⟩, fun _ => ⟨w.heap.size, hsz, ?_, ?_, ?_⟩, ?_⟩
        · rw [Act.eval_put_ne a _ _ _ (by omega)]
          exact h.frame s hs
        · have hj15 : j ≠ 15 := by rintro rfl; rw [epv] at hj; cases hj
          have hL' : L j = true := by rw [← upd_other L hj15]; exact hL
          rw [Act.eval_put_ne a _ _ _ (by omega)]
          exact h.pure j u hj hL'
        · show Ch _ _ _ _ _ _ _ (upd L 15 5) (upd L 15 6) (upd L 15 7) _
          rw [Act.eval_put_ne a _ _ _ (by omega), Act.eval_put_ne a _ _ _ (by omega), Act.eval_put_ne a _ _ _ (by omega), upd_other L (by omega), upd_other L (by omega), upd_other L (by omega)]
          exact hA.keep hg (fun g e => by cases e)
        · show Ch _ _ _ _ _ _ _ (upd L 15 12) (upd L 15 13) (upd L 15 14) _
          rw [Act.eval_put_ne a _ _ _ (by omega), Act.eval_put_ne a _ _ _ (by omega), Act.eval_put_ne a _ _ _ (by omega), upd_other L (by omega), upd_other L (by omega), upd_other L (by omega)]
          exact hBb.keep hg (fun g e => by cases e)
        · exact Act.eval_put_same a _ _ (by rw [h.size]; omega)
        · rw [Act.eval_put_ne a _ _ _ (by omega), ep]
          simp
        · rw [Act.eval_put_ne a _ _ _ (by omega), eq]
          simp
        · show upd L 15 16 = false
          rw [upd_other L (by omega)]
          exact h.no16
      · obtain ⟨SA, SB, hdis, hA, hBb⟩ := h.ch
        have l15 := hd 15 (by decide)
        have l7 := h.clos 15 7 (by decide) l15
        have l14 := h.clos 15 14 (by decide) l15
        obtain ⟨oA, bA⟩ := hA.seven l7
        obtain ⟨oB, bB⟩ := hBb.seven l14
        obtain ⟨p1, p2, p3, ep⟩ := one_of_own oA
        obtain ⟨q1, q2, q3, eq⟩ := one_of_own oB
        obtain ⟨g, hgl, e37, c1, c2⟩ := h.last l15
        have hgw : wr.grownBy w none := ⟨h.below.os, h.below.tape, h.below.output, h.below.size, fun k hk _ => h.below.block k hk⟩
        have hnw : OwnR w B v6 vs6 := own_growW hnext hgw (fun k e => by cases e)
        obtain ⟨v', w', hrun, hown, hg, hat⟩ := run_push2 w hop (h.pure 0 _ (by rw [epv]; rfl) (hd 0 (by decide))) e37 hnw c1 c2 (by rw [ep]; rfl) (by rw [eq]; rfl) hv (by omega)
        refine op_value ho hgd hrun ?_
        rw [hdst, show (if (16 : Nat) = 17 then 6 else 22 + 16) = 38 from rfl]
        refine .inr ⟨upd_same L 16, h.clos.upd hd, v', Act.eval_put_same a _ _ (by rw [h.size]; omega), fun h17 => ?_, ⟨by simp [Act.put, h.size], h.defers, fun s hs _ => ?_, ⟨a.eval (.tmp 29), a.eval (.tmp 36), w, hown, ?_, ?_, h.below, hg, hat⟩⟩⟩
        · have h17' : L 17 = true := by rw [← upd_other L (show 17 ≠ 16 by omega)]; exact h17
          have := h.clos 17 16 (by decide) h17'
          rw [h.no16] at this
          cases this
        · rw [Act.eval_put_ne a _ _ _ (by omega)]
          exact h.frame s hs
        · exact own_growW oA hg (fun k hk e => by
            have h1 := (hA.lt k (bA k e)).1
            have h2 := (World.ownsRow.lt hnext k hk).2
            omega)
        · exact own_growW oB hg (fun k hk e => by
            have h1 := (hBb.lt k (bB k e)).1
            have h2 := (World.ownsRow.lt hnext k hk).2
            omega)
      · have := hd 16 (by decide)
        rw [h.no16] at this
        cases this
    · by_cases h17 : i = 17
      · subst h17
        refine op_value ho hgd (run_assignQ w hop h38) ?_
        rw [hdst]
        refine .inr ⟨?_, hcl.upd hd, v', ?_, fun _ => ?_, ⟨by simp [Act.put, hF.size], hF.defers, fun s hs hs6 => ?_, hF.facts⟩⟩
        · show upd L 17 16 = true
          rw [upd_other L (by omega)]
          exact h16
        · rw [if_pos rfl, Act.eval_put_ne a _ _ _ (by omega)]
          exact h38
        · rw [if_pos rfl]
          exact Act.eval_put_same a _ _ (by rw [hF.size]; omega)
        · rw [if_pos rfl, Act.eval_put_ne a _ _ _ (by omega)]
          exact hF.frame s hs hs6
      · have := hcl.all16 h16 i (by omega)
        rw [hLi] at this
        cases this
  · rintro L a w hL (h | ⟨_, _, v', h38, h6, hF⟩)
    · have := hL 16 (by omega)
      rw [h.no16] at this
      cases this
    · exact ⟨rfl, v', h6 (hL 17 (by omega)), hF⟩
end Go.Proofs.Ytdndeegpbjlibac
