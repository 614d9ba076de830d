import Derived.Test.YtbjgfoiikhbonafK13
import Derived.Deep.CutRange
set_option linter.unusedVariables false
set_option linter.unusedSimpArgs false
namespace Go.Proofs.Ytbjgfoiikhbonaf
open Go.ChangeShapes Go.WideShapes Go.ChangeAt Go.RowKit
theorem belowN {B : Nat} {a w : World} (h : Below B a w) (n : Nat) : Below B a (w.drewN n) := ⟨h.os, h.tape, h.output, h.size, h.block⟩
def AddPost (w : World) (b o : Nat) (v : Value) (l : Sps) (a z : Nat) : Ending → World → Prop := fun e w' => e = .returned (.tuple #[]) ∧ ∃ v' l', PtrPost w w' b o v.ownBlock.toList v' ∧ OwnSp w' v' l' ∧ Srt l' ∧ (∀ i, inS l' i ↔ inS l i ∨ (a ≤ i ∧ i < z)) ∧ (∀ g, v'.ownBlock = some g → v.ownBlock = some g ∨ w.heap.size ≤ g)
set_option maxHeartbeats 1000000 in
set_option maxRecDepth 100000 in
theorem spAdd_any {w : World} {b o : Nat} {v : Value} {l : Sps} {a z : Nat} (hp : w.cell? ⟨b, o, none⟩ = some v) (hfp : w.frozen? ⟨b, o, none⟩ = false) (h : OwnSp w v l) (hgb : ∀ g, v.ownBlock = some g → g ≠ b) (hs : Srt l) (hE : EndLe l 3000) (haz : a < z) (hz : z ≤ 3000) :
    Calls Try.prog 62 #[.pointer (some ⟨b, o, none⟩), .agg #[.int .i64 (a : Int), .int .i64 (z : Int)]] w (AddPost w b o v l a z) := by
  obtain ⟨ad, c, rfl, hn, hc, hx⟩ := h.shape
  have hlen := hs.few hE
  obtain ⟨N, hN⟩ : ∃ N, N = l.length := ⟨_, rfl⟩
  have hbl : b < w.heap.size := World.block_lt_of_cell? w _ hp
  have hbN : ¬ (b = w.heap.size) := by omega
  have HN := hid hN
  have H := hid h
  have HP := hid hp
  have hN3 : N ≤ 3000 := by omega
  have hcell : ∀ k, k < N → ∃ g, ad = some ⟨g, 0, none⟩ ∧ g < w.heap.size ∧ w.cell? ⟨g, k * 2, none⟩ = some (.int .i64 ((l.getD k (0, 0)).1 : Int)) ∧ w.cell? ⟨g, k * 2 + 1, none⟩ = some (.int .i64 ((l.getD k (0, 0)).2 : Int)) := fun k hk => by
    obtain ⟨g, e, h1, h2⟩ := h.at (i := k) (by omega)
    exact ⟨g, e, h1, h2 k (by omega)⟩
  have HC := hid hcell
  rw [← hN] at hp
  clear h hx hN hcell
  go_enter Try.func62, Try.ntmps62
  go_wp2_with fail
  go_loopw [4] (fun vb wr => ∃ k : Nat, k ≤ N ∧ vb = .int .i64 k ∧ (∀ j, j < k → (l.getD j (0, 0)).2 < a) ∧ Below (w.heap.size + 1) (w.alloc (.cells #[.int .i64 (a : Int), .int .i64 (z : Int)] 114)) wr) (fun vb _ => N - (intOf vb).toNat)
  case atStart => exact ⟨0, by omega, rfl, fun j hj => by omega, Below.refl _ _⟩
  case round =>
    obtain ⟨k, hk, rfl, hj, hb⟩ := hrel
    have hx := at_alloc w 114 [.int .i64 (a : Int), .int .i64 (z : Int)]
    have x0 : wr.cell? ⟨w.heap.size, 0, none⟩ = some (.int .i64 (a : Int)) := (World.cell?_of_block (hb.block w.heap.size (by omega))).trans (hx.cell 0)
    have x1 : wr.cell? ⟨w.heap.size, 1, none⟩ = some (.int .i64 (z : Int)) := (World.cell?_of_block (hb.block w.heap.size (by omega))).trans (hx.cell 1)
    have hb0 : Below w.heap.size w wr := ((Below.refl _ w).alloc (Nat.le_refl _) _).trans (hb.mono (by omega))
    have p0 : wr.cell? ⟨b, o, none⟩ = some (.slice ad N c) := (World.cell?_of_block (hb0.block b hbl)).trans hp
    have HJ := hid hj
    have HB := hid hb
    clear hx hb hj
    go_upto_region 2 with fail
    go_cut [23] from 6 to 25 (fun t wx => t = .bool (decide (k < N ∧ (l.getD k (0, 0)).2 < a)) ∧ ∃ m, wx = wr.drewN m)
    case first =>
      by_cases hkn : k < N
      · obtain ⟨g, eg, hg, q0, q1⟩ := HC.out k hkn
        have r1 := (World.cell?_of_block (hb0.block g hg)).trans q1
        rw [eg] at p0
        have d2 : decide ((k : Int) < (N : Int)) = true := decide_eq_true (by omega)
        generalize (l.getD k (0, 0)).2 = Q at *
        by_cases hlt : Q < a
        · have d1 : decide ((Q : Int) < (a : Int)) = true := decide_eq_true (by omega)
          have hd := hid (show decide (k < N ∧ Q < a) = true from decide_eq_true ⟨hkn, hlt⟩)
          clear hb0 q0 q1 eg
          go_quiet (fail)
          go_wp2
          go_meet
          exact ⟨by rw [hd.out], _, rfl⟩
        · have d1 : decide ((Q : Int) < (a : Int)) = false := decide_eq_false (by omega)
          have hd := hid (show decide (k < N ∧ Q < a) = false from decide_eq_false (fun h => hlt h.2))
          clear hb0 q0 q1 eg
          go_quiet (fail)
          go_wp2
          go_meet
          exact ⟨by rw [hd.out], _, rfl⟩
      · have hkN : k = N := by omega
        subst hkN
        have hd := hid (show decide (k < k ∧ (l.getD k (0, 0)).2 < a) = false from decide_eq_false (fun h => hkn h.1))
        clear hb0 hkn
        go_quiet (fail)
        go_wp2
        go_meet
        exact ⟨by rw [hd.out], _, rfl⟩
    case rest =>
      obtain ⟨rfl, m, rfl⟩ := hcut
      by_cases hgo : k < N ∧ (l.getD k (0, 0)).2 < a
      · have hd : decide (k < N ∧ (l.getD k (0, 0)).2 < a) = true := decide_eq_true hgo
        rw [hd]
        have HG := hid hgo
        have hkN : k < N := hgo.1
        clear hgo hd x0 x1 p0 hb0 hp
        go_wp2_with fail
        refine ⟨⟨k + 1, by omega, by go_num, fun j hj => ?_, belowN HB.out _⟩, by simp [intOf]; omega⟩
        rcases Nat.lt_or_ge j k with h' | h'
        · exact HJ.out j h'
        · rw [show j = k by omega]
          exact HG.out.2
      · have hd : decide (k < N ∧ (l.getD k (0, 0)).2 < a) = false := decide_eq_false hgo
        rw [hd]
        have HST := hid (Joins.start (l := l) (a := a) (z := z) (b := k) (by rw [← HN.out]; exact hk) HJ.out hs (fun h' => by
          rw [← HN.out] at h'
          exact Nat.le_of_not_lt fun h2 => hgo ⟨h', h2⟩))
        have HP0 := hid hp
        clear hgo hd x0 x1 p0 hb0 hp
        go_wp2_with fail
        go_loopw [5] (fun ve wr2 => ∃ e x y : Nat, e ≤ N ∧ ve = .int .i64 e ∧ y ≤ 3000 ∧ Joins l a z k e x y ∧ Kept [w.heap.size] (w.alloc (.cells #[.int .i64 (a : Int), .int .i64 (z : Int)] 114)) wr2 ∧ At wr2 w.heap.size 114 [.int .i64 (x : Int), .int .i64 (y : Int)]) (fun ve _ => N - (intOf ve).toNat)
        case atStart =>
          refine ⟨k, a, z, hk, rfl, hz, HST.out, (Kept.of_below (by rw [World.size_alloc]; exact belowN HB.out _)), ?_⟩
          exact (at_alloc w 114 [.int .i64 (a : Int), .int .i64 (z : Int)]).kept (S := []) (Kept.of_below (by rw [World.size_alloc]; exact belowN HB.out _)) (by simp)
        case round =>
          obtain ⟨e, x, y, he, rfl, hy, hJ, hK, hX⟩ := hrel
          have hkw : Kept [w.heap.size] w wr := ((Kept.refl _ w).alloc _).trans hK
          have x0 : wr.cell? ⟨w.heap.size, 0, none⟩ = some (.int .i64 (x : Int)) := hX.cell 0
          have x1 : wr.cell? ⟨w.heap.size, 1, none⟩ = some (.int .i64 (y : Int)) := hX.cell 1
          have xf0 := hX.free 0
          have xf1 := hX.free 1
          have p0 := keptCellQ hkw HP0.out (by simp; omega)
          have HJ2 := hid hJ
          have HK2 := hid hK
          have HX2 := hid hX
          have HKW := hid hkw
          clear hJ hK hX hkw
          go_upto_region 5 with fail
          go_cut [44] from 27 to 67 (fun t wx => t = .bool (decide (e < N ∧ (l.getD e (0, 0)).1 ≤ y)) ∧ ∃ m, wx = wr.drewN m)
          case first =>
            by_cases hen : e < N
            · obtain ⟨g, eg, hg, q0, q1⟩ := HC.out e hen
              have r0 := keptCellQ HKW.out q0 (by simp; omega)
              rw [eg] at p0
              have d2 : decide ((e : Int) < (N : Int)) = true := decide_eq_true (by omega)
              generalize (l.getD e (0, 0)).1 = Q at *
              by_cases hlt : Q ≤ y
              · have d1 : decide ((Q : Int) ≤ (y : Int)) = true := decide_eq_true (by omega)
                have hd := hid (show decide (e < N ∧ Q ≤ y) = true from decide_eq_true ⟨hen, hlt⟩)
                clear q0 q1 eg
                go_quiet (fail)
                go_wp2
                go_meet
                exact ⟨by rw [hd.out], _, rfl⟩
              · have d1 : decide ((Q : Int) ≤ (y : Int)) = false := decide_eq_false (by omega)
                have hd := hid (show decide (e < N ∧ Q ≤ y) = false from decide_eq_false (fun h => hlt h.2))
                clear q0 q1 eg
                go_quiet (fail)
                go_wp2
                go_meet
                exact ⟨by rw [hd.out], _, rfl⟩
            · have hkN : e = N := by omega
              subst hkN
              have hd := hid (show decide (e < e ∧ (l.getD e (0, 0)).1 ≤ y) = false from decide_eq_false (fun h => hen h.1))
              clear hen
              go_quiet (fail)
              go_wp2
              go_meet
              exact ⟨by rw [hd.out], _, rfl⟩
          case rest =>
            obtain ⟨rfl, m2, rfl⟩ := hcut
            by_cases hgo : e < N ∧ (l.getD e (0, 0)).1 ≤ y
            · have hd : decide (e < N ∧ (l.getD e (0, 0)).1 ≤ y) = true := decide_eq_true hgo
              rw [hd]
              obtain ⟨hen, hle⟩ := hgo
              obtain ⟨g, eg, hg, q0, q1⟩ := HC.out e hen
              have r0 := keptCellQ HKW.out q0 (by simp; omega)
              have r1 := keptCellQ HKW.out q1 (by simp; omega)
              rw [eg] at p0
              have hstep := hid (HJ2.out.step hs haz (by rw [← HN.out]; exact hen) hle)
              have hq2 : (l.getD e (0, 0)).2 ≤ 3000 := hE _ (getD_memS (by rw [← HN.out]; exact hen))
              clear hle hd eg q0 q1
              generalize (l.getD e (0, 0)).1 = Q1 at *
              generalize (l.getD e (0, 0)).2 = Q2 at *
              have m1 : (if Q1 < x then (Q1 : Int) else (x : Int)) = ((min x Q1 : Nat) : Int) := by split <;> omega
              have m2 : (if y < Q2 then (Q2 : Int) else (y : Int)) = ((max y Q2 : Nat) : Int) := by split <;> omega
              have m1' : (if (Q1 : Int) < (x : Int) then (Q1 : Int) else (x : Int)) = ((min x Q1 : Nat) : Int) := by split <;> omega
              have m2' : (if (y : Int) < (Q2 : Int) then (Q2 : Int) else (y : Int)) = ((max y Q2 : Nat) : Int) := by split <;> omega
              have hmx : max y Q2 ≤ 3000 := by omega
              generalize min x Q1 = X' at *
              generalize max y Q2 = Y' at *
              go_upto_region 6 with fail
              go_region
              go_wp2_with fail
              refine ⟨⟨e + 1, X', Y', by omega, by go_num, hmx, hstep.out, ?_, ?_⟩, by simp [intOf]; omega⟩
              · exact ((HK2.out.drewN _).setCell (by simp) _).setCell (by simp) _
              · exact ((At.setCell (w := wr.drewN _) HX2.out (o := 0) (.int .i64 (X' : Int))).setCell (o := 1) (.int .i64 (Y' : Int)))
            · have hd : decide (e < N ∧ (l.getD e (0, 0)).1 ≤ y) = false := decide_eq_false hgo
              rw [hd]
              have hdone := hid (HJ2.out.done hs haz (fun h' => by
                rw [← HN.out] at h'
                exact Nat.lt_of_not_le fun h2 => hgo ⟨h', h2⟩))
              have hkeep : ∀ q, Kept [] wr ((wr.drewN q).alloc (.cells #[.int .i64 (x : Int), .int .i64 (y : Int)] 114)) := fun q => ((Kept.refl _ wr).drewN q).alloc _
              have hkw2 : ∀ q, Kept [w.heap.size] w ((wr.drewN q).alloc (.cells #[.int .i64 (x : Int), .int .i64 (y : Int)] 114)) := fun q => HKW.out.trans ((hkeep q).wider (by simp))
              have hnb : ∀ g, (Value.slice ad l.length c).ownBlock = some g → g ∉ [w.heap.size] := fun g hg => by
                have := H.out.lt hg
                simp
                omega
              obtain ⟨L', eL⟩ : ∃ L', L' = l.take k ++ (x, y) :: l.drop e := ⟨_, rfl⟩
              rw [← eL] at hdone
              obtain ⟨N', eN⟩ : ∃ N', N' = L'.length := ⟨_, rfl⟩
              have hrep : ∀ q, Calls Try.prog 68 #[.slice ad N c, .int .i64 (k : Int), .int .i64 (e : Int), .slice (some ⟨wr.heap.size, 0, none⟩) 1 1] ((wr.drewN q).alloc (.cells #[.int .i64 (x : Int), .int .i64 (y : Int)] 114)) (SpPost ((wr.drewN q).alloc (.cells #[.int .i64 (x : Int), .int .i64 (y : Int)] 114)) ad N' (cellsSp L') (Value.slice ad N c).ownBlock.toList) := fun q => by
                have h1 : OwnSp ((wr.drewN q).alloc (.cells #[.int .i64 (x : Int), .int .i64 (y : Int)] 114)) (.slice ad l.length c) l := H.out.kept (hkw2 q) hnb
                have h2 := replace_any (w := (wr.drewN q).alloc (.cells #[.int .i64 (x : Int), .int .i64 (y : Int)] 114)) (i := k) (j := e) (p := (x : Int)) (q := (y : Int)) h1 (cellsSp_one l) (by omega) (at_alloc (wr.drewN q) _ _) (fun yy hyy => by
                  obtain ⟨_, _, e1, _, _, h4⟩ := H.out.shape
                  simp only [Value.slice.injEq] at e1
                  obtain ⟨rfl, -, rfl⟩ := e1
                  obtain ⟨g, rfl, h5⟩ := h4 yy hyy
                  have h6 := H.out.lt h5
                  have h7 := HKW.out.size
                  show wr.heap.size ≠ g
                  omega) HJ2.out.be HJ2.out.el
                rw [eN, hdone.out.2.2, HN.out, eL, cellsSp_app, ← cellsSp_take, ← HN.out]
                have e5 : cellsSp ((x, y) :: l.drop e) = [.int .i64 (x : Int), .int .i64 (y : Int)] ++ cellsSp (l.drop e) := rfl
                rw [e5, ← cellsSp_drop]
                rw [← HN.out] at h2
                exact h2
              have hbl2 : b < wr.heap.size := Nat.lt_of_lt_of_le hbl HKW.out.size
              have hbN' : b ∉ [w.heap.size] := by simp; omega
              have hF : ∀ q w1, Kept (Value.slice ad N c).ownBlock.toList ((wr.drewN q).alloc (.cells #[.int .i64 (x : Int), .int .i64 (y : Int)] 114)) w1 → w1.cell? ⟨b, o, none⟩ = some (.slice ad N c) ∧ w1.frozen? ⟨b, o, none⟩ = false := fun q w1 hk1 => by
                have hbS : b ∉ (Value.slice ad N c).ownBlock.toList := by
                  intro hm
                  have : (Value.slice ad l.length c).ownBlock = some b := by
                    rw [← HN.out]
                    simpa using hm
                  exact hgb b this rfl
                have h8 := keptCellQ (hkw2 q) HP0.out hbN'
                have h9 := keptFree (hkw2 q) hfp hbl hbN'
                exact ⟨keptCellQ hk1 h8 hbS, keptFree hk1 h9 (Nat.lt_of_lt_of_le hbl (hkw2 q).size) hbS⟩
              have pA : ∀ q, ((wr.drewN q).alloc (.cells #[.int .i64 (x : Int), .int .i64 (y : Int)] 114)).cell? ⟨b, o, none⟩ = some (.slice ad N c) := fun q => keptCellQ (hkw2 q) HP0.out hbN'
              have HKK := hid hkw2
              have EN := hid eN
              clear hgo hd hkeep hkw2 hnb eL eN
              go_upto_region 8 with fail
              go_region_with (go_at_call 68; refine (hrep _).mono ?_; rintro e' w1 ⟨v', rfl, ho1, hL1, hk1⟩; obtain ⟨s1, s2⟩ := hF _ _ hk1; obtain ⟨a', c', rfl, -, -, -⟩ := row_shape ho1; have HO1 := hid ho1; have HL1 := hid hL1; have HK1 := hid hk1; clear ho1 hL1 hk1)
              all_goals
                go_end0
                have hk3 : Kept (Value.slice ad l.length c).ownBlock.toList w w1 := by
                  have h1 := HKK.out (m2 + 1)
                  have h2 := HK1.out
                  rw [HN.out] at h2
                  refine ⟨h2.os.trans h1.os, h2.tape.trans h1.tape, h2.output.trans h1.output, Nat.le_trans h1.size h2.size, fun j hj hn' => ?_⟩
                  rw [h2.block j (Nat.lt_of_lt_of_le hj h1.size) hn', h1.block j hj (by simp; omega)]
                have hbS : b ∉ (Value.slice ad l.length c).ownBlock.toList := by
                  intro hm
                  exact hgb b (by simpa using hm) rfl
                have hnew : ∀ g, (Value.slice a' N' c').ownBlock = some g → (Value.slice ad l.length c).ownBlock = some g ∨ w.heap.size ≤ g := fun g hg => by
                  rcases HL1.out g hg with ⟨o', e1⟩ | h1
                  · left
                    rw [e1]
                    rfl
                  · right
                    exact Nat.le_trans HKW.out.size (Nat.le_trans (by simp) h1)
                refine ⟨rfl, .slice a' N' c', L', PtrPost.store hk3 hbS, ?_, hdone.out.1, hdone.out.2.1, hnew⟩
                have h5 : OwnSp w1 (.slice a' N' c') L' := by
                  have := HO1.out
                  rw [EN.out] at this ⊢
                  exact this
                refine h5.kept (kept_setCell w1 b o _) (fun g hg => ?_)
                rcases hnew g hg with h6 | h6
                · simpa using hgb g h6
                · simp
                  omega
end Go.Proofs.Ytbjgfoiikhbonaf
