import Derived.Test.YtjpohfghibhkiadGridX
import Derived.Shelf.Abstract
namespace Go.Proofs.Ytjpohfghibhkiad
open Go.ChangeShapes Go.WideShapes Go.ChangeAt Go.RowKit Go.Maps Go.Shelf

/-! WHAT THE LAW ASKS OF WHAT IS LAID: the walk. -/

theorem run_eqlG {ρ : Operand → Value} (w : World) {o : Oper} {x y : Operand} {p q : Int} (ho : o.op = .binOp .eql 3 x y 3) (h : ρ x = .int .i64 p) (h' : ρ y = .int .i64 q) : (execOp ρ o).run Try.prog w = .ok (.value (.bool (p == q))) w := by
  unfold execOp
  simp only [ho, h, h']
  simp [go_sem]
theorem run_loadG {ρ : Operand → Value} (w : World) {o : Oper} {x : Operand} {g s : Nat} {u v : Value} (ho : o.op = .load 24 x) (h : ρ x = .pointer (some ⟨g, s, none⟩)) (h0 : w.cell? ⟨g, s, none⟩ = some u) (h1 : w.cell? ⟨g, s + 1, none⟩ = some v) : (execOp ρ o).run Try.prog w = .ok (.value (.agg #[u, v])) w := by
  unfold execOp
  have hc : w.rangeAt g s [u, v] := by
    intro j z hz
    match j, hz with
    | 0, hz => simp at hz; rw [← hz]; simpa using h0
    | 1, hz => simp at hz; rw [← hz]; simpa using h1
  have hr := run_loadVar_mid w g s 24 [u, v] _ hc Try.underlying24 rfl (by kernel_rfl)
  simp only [ho, h, Instr.loadAt, Instr.sureAddr, Sem.run_bind, Sem.run_pure, Result.andThen_ok, hr]
theorem op_callG {ops : Array Oper} {Q : Exit → Act → World → Prop} {i f : Nat} {o : Oper} {a : Act} {w : World} {xs : Array Operand} {us : Array Value} {ts : Array TypeId} {K : Act → World → Prop} {R : Ending → World → Prop} (hi : ops[i]? = some o) (hg : o.guard = none) (hop : o.op = .call { callee := .value (.func f), args := xs, argTypes := ts })
    (he : Enters Try.prog f) (hx : xs.map a.eval = us) (hc : Calls Try.prog f us w R) (hR : ∀ e w', R e w' → ∃ r, e = .returned r ∧ K (a.put o.dst r) w') : wpOp Try.prog ops Q i K a w := by
  unfold wpOp
  rw [hi]
  have hw : Region.wanted o (yielded ops a.tmps) = true := by simp [Region.wanted, hg]
  simp only [hw, if_true, Oper.wp]
  left
  have hrun : (execOp a.eval o).run Try.prog w = .ok (.enter f us) w := by
    unfold execOp
    simp only [hop]
    have := he us w
    have hfn : a.eval (.func f) = .func (.func f) #[] #[] := rfl
    simp [resolve, invoke, hx, hfn, Deferred.ofValue, this]
  rw [hrun, Oper.upon_enter]
  refine hc.mono fun e w' h => ?_
  obtain ⟨r, rfl, hK⟩ := hR e w' h
  exact hK

theorem op_skip {P : Program} {ops : Array Oper} {Q : Exit → Act → World → Prop} {i : Nat} {o : Oper} {a : Act} {w w' : World} {K : Act → World → Prop} (hi : ops[i]? = some o) (hg : o.guard = none)
    (hrun : (execOp a.eval o).run P w = .ok .skip w') (hK : K (a.put o.dst undef) w') : wpOp P ops Q i K a w := by
  unfold wpOp
  rw [hi]
  have hw : Region.wanted o (yielded ops a.tmps) = true := by simp [Region.wanted, hg]
  simp only [hw, if_true, Oper.wp]
  left
  rw [hrun]
  exact hK
theorem run_storeX {ρ : Operand → Value} (w : World) {o : Oper} {x y : Operand} {g : Nat} {p q : Int × Int} (ho : o.op = .store 47 x y) (h : ρ x = .pointer (some ⟨g, 0, none⟩)) (h' : ρ y = .agg #[.int .i64 q.1, .int .i64 q.2]) (hX : XAt w g p) : (execOp ρ o).run Try.prog w = .ok .skip (w.setCells g 0 [.int .i64 q.1, .int .i64 q.2]) := by
  have := run_storeAt_mid (P := Try.prog) w g 0 47 #[.int .i64 q.1, .int .i64 q.2] hX.there Try.sizeX (by simp; exact ⟨rfl, rfl⟩)
  unfold execOp
  simp only [ho, h, h']
  simp [this, Result.andThen]
theorem RoundAt.stay {w3 wz : World} {gM N t z : Nat} {ss : List Sh} (h : RoundAt w3 wz gM N ss t z) (hno : ∀ who, placeOf ss who z t = false) : RoundAt w3 wz gM N ss t (z + 1) := ⟨h.bel, h.lt, h.seen.step hno⟩
theorem RoundAt.next {w3 wz : World} {gM N t : Nat} {ss : List Sh} (h : RoundAt w3 wz gM N ss t N) : RoundAt w3 wz gM N ss (t + 1) 0 := ⟨h.bel, h.lt, h.seen.next⟩
theorem RoundAt.turn {w3 wz wz' : World} {gM N t z : Nat} {ss : List Sh} (h : RoundAt w3 wz gM N ss t z) (hg : wz.grownBy wz' (some gM)) (hM : w3.heap.size ≤ gM) (hs : SeenMap wz' gM N ss t (z + 1)) : RoundAt w3 wz' gM N ss t (z + 1) :=
  ⟨h.bel.trans ⟨hg.os, hg.tape, hg.output, hg.size, fun k hk => hg.block k (Nat.lt_of_lt_of_le hk h.bel.size) (fun e => by simp at e; omega)⟩, Nat.lt_of_lt_of_le h.lt hg.size, hs⟩
theorem XAt.turn {w w' : World} {g gM : Nat} {p : Int × Int} (h : XAt w g p) (hg : w.grownBy w' (some gM)) (hM : gM ≠ g) : XAt w' g p := (hg.block g h.lt (fun e => hM (by simpa using e.symm))).trans h
theorem ownTo_who {B : Int} (ss : List Sh) (tone t : Int) : ∀ k, k ≤ ss.length → (∀ i, i < ss.length → shOk B (shAt ss i) = true) → 0 ≤ (ownTo ss tone t k).1 ∧ (ownTo ss tone t k).1 ≤ 16
  | 0, _, _ => by simp [ownTo]
  | k + 1, hk, hok => by
    have := ownTo_who ss tone t k (by omega) hok
    have h1 := of_decide_eq_true (hok k (by omega))
    rw [ownTo]
    split
    · simp; omega
    · omega

set_option maxRecDepth 100000 in
set_option maxHeartbeats 8000000 in
theorem laid_any (B E : Int) (m N : Nat) (ss : List Sh) (n c : Nat) (a : Option Addr) (ps : List Prt) (ap : Option Addr) (np cp : Nat) (ls : List (List (Int × Int))) (al : Option Addr) (nl cl : Nat) (w : World) (hS : Shs w a ss) (hn : ss.length = n) (hBm : B = (m : Int)) (hm : m ≤ 12) (hN : N = 12 * m) (h100 : n ≤ 100) (hok : ∀ i, i < n → shOk B (shAt ss i) = true)
    (hP : PrtsP w ap ps) (hnp : ps.length = np) (hzp : np ≤ 9223372036854775807) (hpz : ∀ i, i < np → (prAt ps i).pts.length ≤ 9223372036854775807) (hnl : nl ≤ 9223372036854775807)
    (hDup : ∀ i j, i < np → j < i → (prAt ps i).who = (prAt ps j).who → E = 1 ∧ nl = 0)
    (hNum : NoDups ps np → ∀ i, i < np → (prAt ps i).pts.length ≠ (placesOfM N ss (prAt ps i).who).length → E = 3 ∧ nl = 0)
    (hGood : NoDups ps np → (∀ i, i < np → (prAt ps i).pts.length = (placesOfM N ss (prAt ps i).who).length) → E = 0 ∧ nl = 14 ∧ RowsP w al ls ∧ ls.length = 14 ∧ (∀ t, t < 14 → (rowAt ls t).length = N) ∧ ∀ t, t < 14 → ∀ z, z < N → (rowAt ls t).getD z (0, 0) = layAt N ss ps t z) :
    Calls Try.prog 12 #[.agg #[.int .i64 B, .slice a n c], .slice ap np cp, .slice al nl cl, .int .i64 E] w fun e w' => e = .returned (.bool true) ∧ Below w.heap.size w w' := by
  have hpo := fun (who : Int) (wz : World) (hbz : Below w.heap.size w wz) => placesof_any B who m N ss n c a wz (hS.below hbz) hn hBm hm hN h100 hok
  have hown := fun (tone t : Int) (wz : World) (hbz : Below w.heap.size w wz) => owner_any B ss n c a tone t wz (hS.below hbz) hn (by omega) h100 hok
  have h144 : N ≤ 144 := by omega
  have HWO := hid (fun (tone t : Int) => ownTo_who (B := B) ss tone t ss.length (Nat.le_refl _) (by rw [hn]; exact hok))
  have HNO := hid (fun (tone t : Int) => (show (ownM ss tone t).2 ≤ 100 from by have := ownTo_le ss tone t ss.length; unfold ownM; omega))
  have hB12 : (12 : Int) * B = (N : Int) := by rw [hBm, hN]; omega
  have hBb : -12 ≤ B ∧ B ≤ 12 := by omega
  have HN := hid hn
  have HNP := hid hnp
  have HPZ := hid hpz
  have HDUP := hid hDup
  have HNUM := hid hNum
  have HGOOD := hid hGood
  have HPO := hid hpo
  have HOWN := hid hown
  have hmix : Try.prog.follows .mixedOrders = true := by kernel_rfl
  have hPE : Enters Try.prog 11 := enters_of Try.func11 (by kernel_rfl) rfl
  have hb1 : Below w.heap.size w (w.alloc (.cells #[.int .i64 B, .slice a n c] 24)) := (Below.refl _ w).alloc (Nat.le_refl _) _
  have q0 : (w.alloc (.cells #[.int .i64 B, .slice a n c] 24)).cell? ⟨w.heap.size, 0, none⟩ = some (.int .i64 B) := by rw [cell_of_row _ _ _ _ _ _ (heap_alloc_new w _)]; rfl
  have q1 : (w.alloc (.cells #[.int .i64 B, .slice a n c] 24)).cell? ⟨w.heap.size, 1, none⟩ = some (.slice a n c) := by rw [cell_of_row _ _ _ _ _ _ (heap_alloc_new w _)]; rfl
  clear hn hBm hN hok hnp hpz hDup hNum hGood hpo hown
  go_enter Try.func12, Try.ntmps12
  go_wp2
  generalize w.alloc (.cells #[.int .i64 B, .slice a n c] 24) = wb at *
  obtain ⟨gB, eB⟩ : ∃ gB, gB = w.heap.size := ⟨_, rfl⟩
  rw [← eB] at q0 q1
  rw [← eB]
  clear eB
  go_loopw [9] (fun q wr => ∃ i : Nat, i ≤ np ∧ q = .int .i64 i ∧ Hid (NoDups ps i) ∧ Below wb.heap.size wb wr) (fun q _ => np - (intOf q).toNat)
  case atStart => exact ⟨0, Nat.zero_le _, rfl, fun i hi => by omega, Below.refl _ _⟩
  case round =>
    obtain ⟨i, hi, rfl, HND, hbel⟩ := hrel
    by_cases hlt : i < np
    · have HLT := hid hlt
      go_wp2
      clear hlt
      go_loopw [10] (fun q wr => ∃ j : Nat, j ≤ i ∧ q = .int .i64 j ∧ Hid (∀ j', j' < j → (prAt ps i).who ≠ (prAt ps j').who) ∧ Below wb.heap.size wb wr) (fun q _ => i - (intOf q).toNat)
      case atStart => exact ⟨0, Nat.zero_le _, rfl, fun j hj => by omega, hbel⟩
      case round =>
        clear hbel
        obtain ⟨j, hj, rfl, HNJ, hbel⟩ := hrel
        have hfin : Below w.heap.size w wr := hb1.trans (hbel.mono hb1.size)
        by_cases hjl : j < i
        · have hip : i < ps.length := by rw [HNP.out]; exact HLT.out
          have hjn : j < np := by have := HLT.out; omega
          obtain ⟨gp, op, rfl, hcp⟩ := (hP.below hfin).at hip
          have gi := (hcp i hip).1
          have gj := (hcp j (by omega)).1
          have HJL := hid hjl
          have hiN : i < np := HLT.out
          have HD := hid (HDUP.out i j HLT.out hjl)
          have HNJ2 := hid (fun (h : (prAt ps i).who ≠ (prAt ps j).who) => (fun j' (hj' : j' < j + 1) => by
            by_cases e : j' = j
            · subst e; exact h
            · exact HNJ.out j' (by omega) : ∀ j', j' < j + 1 → (prAt ps i).who ≠ (prAt ps j').who))
          obtain ⟨wi, ewi⟩ : ∃ wi, wi = (prAt ps i).who := ⟨_, rfl⟩
          obtain ⟨wj, ewj⟩ : ∃ wj, wj = (prAt ps j).who := ⟨_, rfl⟩
          rw [← ewi] at gi HD
          rw [← ewj] at gj HD
          have HWJ := hid (fun (h : wi ≠ wj) => HNJ2.out (by rw [← ewi, ← ewj]; exact h))
          clear hcp ewi ewj HNJ2
          go_upto_region 7 with fail
          have hc : ∀ (wc : World), Below wr.heap.size wr wc → ∀ q v, wr.cell? q = some v → wc.cell? q = some v := fun wc hbc q v h => (hbc.cell (World.block_lt_of_cell? wr _ h)).trans h
          refine wp_mono (region_known3 11 [(31, .slice (some ⟨gp, op, none⟩) np cp), (32, .int .i64 i), (33, .pointer (some ⟨gp, op + i * 2, none⟩)), (34, .pointer (some ⟨gp, op + i * 2, none⟩)), (35, .int .i64 wi), (36, .slice (some ⟨gp, op, none⟩) np cp), (37, .int .i64 j), (38, .pointer (some ⟨gp, op + j * 2, none⟩)), (39, .pointer (some ⟨gp, op + j * 2, none⟩)), (40, .int .i64 wj), (41, .bool (wi == wj))]
              [[1], [9], [31, 32], [33], [34], [1], [10], [36, 37], [38], [39], [35, 40]] wr hmix rfl rfl (show ([31, 32, 33, 34, 35, 36, 37, 38, 39, 40, 41] : List Nat).Nodup by decide) (by kernel_rfl) (by kernel_rfl) (by kernel_rfl) (by kernel_rfl) (fun i' hi' ac wc hbc hr Q K hK => by
              have hcs : i' = 0 ∨ i' = 1 ∨ i' = 2 ∨ i' = 3 ∨ i' = 4 ∨ i' = 5 ∨ i' = 6 ∨ i' = 7 ∨ i' = 8 ∨ i' = 9 ∨ i' = 10 := by omega
              rcases hcs with rfl | rfl | rfl | rfl | rfl | rfl | rfl | rfl | rfl | rfl | rfl
              · exact op_value rfl rfl (run_moveQ wc rfl (hr 1 (by decide))) (hK wc hbc)
              · exact op_value rfl rfl (run_moveQ wc rfl (hr 9 (by decide))) (hK wc hbc)
              · exact op_value rfl rfl (run_idxPa wc rfl (hr 31 (by decide)) (hr 32 (by decide)) hiN) (hK wc hbc)
              · exact op_value rfl rfl (run_fldPa0 wc rfl (hr 33 (by decide))) (hK wc hbc)
              · exact op_value rfl rfl (run_loadI wc rfl (hr 34 (by decide)) (hc wc hbc _ _ gi)) (hK wc hbc)
              · exact op_value rfl rfl (run_moveQ wc rfl (hr 1 (by decide))) (hK wc hbc)
              · exact op_value rfl rfl (run_moveQ wc rfl (hr 10 (by decide))) (hK wc hbc)
              · exact op_value rfl rfl (run_idxPa wc rfl (hr 36 (by decide)) (hr 37 (by decide)) hjn) (hK wc hbc)
              · exact op_value rfl rfl (run_fldPa0 wc rfl (hr 38 (by decide))) (hK wc hbc)
              · exact op_value rfl rfl (run_loadI wc rfl (hr 39 (by decide)) (hc wc hbc _ _ gj)) (hK wc hbc)
              · exact op_value rfl rfl (run_eqlG wc rfl (hr 35 (by decide)) (hr 40 (by decide))) (hK wc hbc))) ?_
          rintro e a' w' ⟨rfl, rfl, hbw'⟩
          have hbel' : Below wb.heap.size wb w' := hbel.trans (hbw'.mono hbel.size)
          have hfin' : Below w.heap.size w w' := hb1.trans (hbel'.mono hb1.size)
          dsimp only [setAll, List.set]
          clear hbw' hbel hfin gi gj hc
          by_cases hww : wi = wj
          · obtain ⟨rfl, rfl⟩ := HD.out hww
            have d1 : (wi == wj) = true := by simpa using hww
            clear hww HD HWJ
            go_wp2
            go_ret
            exact ⟨rfl, hfin'⟩
          · have HV := hid (HWJ.out hww)
            have d1 : (wi == wj) = false := by simpa using hww
            clear hww HD HWJ
            go_wp2
            go_roundw
            case rel =>
              have := HJL.out
              first | exact ⟨j + 1, by omega, by go_num, HV, hbel'⟩ | ((repeat apply Exists.intro); exact ⟨⟨j + 1, by omega, by go_num, HV, hbel'⟩, by first | rfl | (have e := HLT.out; simp [e])⟩)
            case measure =>
              have := HJL.out
              simp [intOf]
              omega
        · obtain rfl : j = i := by omega
          have HV : Hid (NoDups ps (j + 1)) := fun i' hi' j' hj' => by
            by_cases e : i' = j
            · subst e; exact HNJ.out j' hj'
            · exact HND.out i' (by omega) j' hj'
          have hj1 := HLT.out
          go_wp2
          go_roundw
          case rel =>
            have := HLT.out
            refine ⟨j + 1, ?_, ?_, HV, hbel⟩
            · omega
            · go_num
          case measure =>
            have := HLT.out
            simp [intOf]
            omega
    · obtain rfl : i = np := by omega
      go_wp2
      go_loopw [11] (fun q wr => ∃ k : Nat, k ≤ i ∧ q = .int .i64 k ∧ Hid (∀ j, j < k → (prAt ps j).pts.length = (placesOfM N ss (prAt ps j).who).length) ∧ Below wb.heap.size wb wr) (fun q _ => i - (intOf q).toNat)
      case atStart => exact ⟨0, Nat.zero_le _, rfl, fun j hj => by omega, hbel⟩
      case round =>
        clear hbel hlt hi
        obtain ⟨k, hk, rfl, HLE, hbel⟩ := hrel
        have hfin : Below w.heap.size w wr := hb1.trans (hbel.mono hb1.size)
        have r0 := (hbel.cell (World.block_lt_of_cell? wb _ q0)).trans q0
        have r1 := (hbel.cell (World.block_lt_of_cell? wb _ q1)).trans q1
        by_cases hlt : k < i
        · have hkp : k < ps.length := by rw [HNP.out]; exact hlt
          obtain ⟨gp, op, rfl, hcp⟩ := (hP.below hfin).at hkp
          obtain ⟨gk, ra, rc, gk1, -⟩ := hcp k hkp
          have HLT := hid hlt
          have hLb := HPZ.out k hlt
          have HBADN := hid (HNUM.out HND.out k hlt)
          have HNX := hid (fun (h : (prAt ps k).pts.length = (placesOfM N ss (prAt ps k).who).length) => (fun j' (hj' : j' < k + 1) => by
            by_cases e : j' = k
            · subst e; exact h
            · exact HLE.out j' (by omega) : ∀ j', j' < k + 1 → (prAt ps j').pts.length = (placesOfM N ss (prAt ps j').who).length))
          have hLPb : (placesOfM N ss (prAt ps k).who).length ≤ 2016 := by
            have h1 := placesTo_length N ss (prAt ps k).who 14
            have h2 : 14 * N ≤ 14 * 144 := Nat.mul_le_mul_left _ h144
            unfold placesOfM
            omega
          have hpoK := HPO.out (prAt ps k).who
          have HEQ := hid (show (prAt ps k).pts.length = (placesOfM N ss (prAt ps k).who).length ↔ (prAt ps k).pts.length = (placesOfM N ss (prAt ps k).who).length from Iff.rfl)
          obtain ⟨wk, ewk⟩ : ∃ wk, wk = (prAt ps k).who := ⟨_, rfl⟩
          obtain ⟨Lp, eLp⟩ : ∃ Lp, Lp = (prAt ps k).pts.length := ⟨_, rfl⟩
          obtain ⟨PL, ePL⟩ : ∃ PL, PL = placesOfM N ss (prAt ps k).who := ⟨_, rfl⟩
          obtain ⟨LP, eLP⟩ : ∃ LP, LP = (placesOfM N ss (prAt ps k).who).length := ⟨_, rfl⟩
          have HBN := hid (fun (h : Lp ≠ LP) => HBADN.out (by rw [← eLp, ← eLP]; exact h))
          have HNN := hid (fun (h : Lp = LP) => HNX.out (by rw [← eLp, ← eLP]; exact h))
          have HLP := hid (show PL.length = LP by rw [ePL, eLP])
          simp only [← ePL] at hpoK
          rw [← ewk] at gk hpoK
          rw [← eLp] at gk1 hLb
          rw [← eLP] at hLPb
          clear hcp ewk eLp ePL eLP hkp HBADN HNX HEQ
          go_upto_region 12 with fail
          have hc : ∀ (wc : World), Below wr.heap.size wr wc → ∀ q v, wr.cell? q = some v → wc.cell? q = some v := fun wc hbc q v h => (hbc.cell (World.block_lt_of_cell? wr _ h)).trans h
          refine wp_mono (region_growU (Q := fun e a' w' => e = .normal ∧ (∃ u, a' = { tmps := ((setAll _ ([(55, .slice (some ⟨gp, op, none⟩) i cp), (56, .int .i64 k), (57, .pointer (some ⟨gp, op + k * 2, none⟩)), (58, .pointer (some ⟨gp, op + k * 2 + 1, none⟩)), (59, .slice ra Lp rc), (60, .int .i64 Lp), (61, .agg #[.int .i64 B, .slice a n c]), (62, .slice (some ⟨gp, op, none⟩) i cp), (63, .int .i64 k), (64, .pointer (some ⟨gp, op + k * 2, none⟩)), (65, .pointer (some ⟨gp, op + k * 2, none⟩)), (66, .int .i64 wk)] ++ (67, u) :: [(68, .int .i64 LP)])).set 69 (.bool ((Lp : Int) != (LP : Int)))).toArray, defers := [] }) ∧ Below wr.heap.size wr w') 15 14 12 [(55, .slice (some ⟨gp, op, none⟩) i cp), (56, .int .i64 k), (57, .pointer (some ⟨gp, op + k * 2, none⟩)), (58, .pointer (some ⟨gp, op + k * 2 + 1, none⟩)), (59, .slice ra Lp rc), (60, .int .i64 Lp), (61, .agg #[.int .i64 B, .slice a n c]), (62, .slice (some ⟨gp, op, none⟩) i cp), (63, .int .i64 k), (64, .pointer (some ⟨gp, op + k * 2, none⟩)), (65, .pointer (some ⟨gp, op + k * 2, none⟩)), (66, .int .i64 wk)] 67 [(68, .int .i64 LP)]
              [[1], [11], [55, 56], [57], [58], [59], [4], [1], [11], [62, 63], [64], [65], [61, 66], [67]] [2, 2, 3, 4, 5, 14, 12, 9, 9, 10, 11, 12, 13, 14] (fun x _ => ∃ aq cq, x = .slice aq LP cq) wr hmix rfl (by decide) rfl rfl (show ([55, 56, 57, 58, 59, 60, 61, 62, 63, 64, 65, 66, 67, 68] : List Nat).Nodup by decide) (by kernel_rfl) (by kernel_rfl) (by kernel_rfl) (by kernel_rfl) (by kernel_rfl) (by kernel_rfl) (fun _ _ _ h _ => h)
              (fun i' hi' u0 ac wc hbc hU hr Q K hK1 hK => by
                have hcs : i' = 0 ∨ i' = 1 ∨ i' = 2 ∨ i' = 3 ∨ i' = 4 ∨ i' = 5 ∨ i' = 6 ∨ i' = 7 ∨ i' = 8 ∨ i' = 9 ∨ i' = 10 ∨ i' = 11 ∨ i' = 12 ∨ i' = 13 := by omega
                have hgr := grownG wc
                rcases hcs with rfl | rfl | rfl | rfl | rfl | rfl | rfl | rfl | rfl | rfl | rfl | rfl | rfl | rfl
                · exact op_value rfl rfl (run_moveQ wc rfl (hr 1 (by decide))) (hK (by decide) wc hgr)
                · exact op_value rfl rfl (run_moveQ wc rfl (hr 11 (by decide))) (hK (by decide) wc hgr)
                · exact op_value rfl rfl (run_idxPa wc rfl (hr 55 (by decide)) (hr 56 (by decide)) hlt) (hK (by decide) wc hgr)
                · exact op_value rfl rfl (run_fldPa1 wc rfl (hr 57 (by decide))) (hK (by decide) wc hgr)
                · exact op_value rfl rfl (run_loadRw wc rfl (hr 58 (by decide)) (hc wc hbc _ _ gk1)) (hK (by decide) wc hgr)
                · exact op_value rfl rfl (run_lenPt wc rfl (hr 59 (by decide))) (hK (by decide) wc hgr)
                · exact op_value rfl rfl (run_loadG wc rfl (hr 4 (by decide)) (hc wc hbc _ _ r0) (hc wc hbc _ _ r1)) (hK (by decide) wc hgr)
                · exact op_value rfl rfl (run_moveQ wc rfl (hr 1 (by decide))) (hK (by decide) wc hgr)
                · exact op_value rfl rfl (run_moveQ wc rfl (hr 11 (by decide))) (hK (by decide) wc hgr)
                · exact op_value rfl rfl (run_idxPa wc rfl (hr 62 (by decide)) (hr 63 (by decide)) hlt) (hK (by decide) wc hgr)
                · exact op_value rfl rfl (run_fldPa0 wc rfl (hr 64 (by decide))) (hK (by decide) wc hgr)
                · exact op_value rfl rfl (run_loadI wc rfl (hr 65 (by decide)) (hc wc hbc _ _ gk)) (hK (by decide) wc hgr)
                · refine op_callG rfl rfl rfl hPE (by simp only [List.map_toArray, List.map_cons, List.map_nil]; rw [hr 61 (by decide), hr 66 (by decide)]; rfl) (hpoK wc (bthen hfin hbc)) fun e w' hr' => ?_
                  obtain ⟨v, rfl, hO, hb'⟩ := hr'
                  obtain ⟨aq, cq, rfl, -, -⟩ := hO.shape
                  exact ⟨_, rfl, hK1 rfl _ w' ⟨hb'.os, hb'.tape, hb'.output, hb'.size, fun k hk _ => hb'.block k hk⟩ ⟨aq, cq, by rw [HLP.out]⟩⟩
                · obtain ⟨aq, cq, rfl⟩ := hU (by decide)
                  exact op_value rfl rfl (run_lenPl wc rfl (hr 67 (by decide))) (hK (by decide) wc hgr))
              (fun u0 wc hbc hu0 => by
                exact op_value rfl rfl (run_neqI (p := Lp) (q := LP) wc rfl (eval_setAll 60 (show ([55, 56, 57, 58, 59, 60, 61, 62, 63, 64, 65, 66, 67, 68] : List Nat).Nodup by decide) (by kernel_rfl)) (eval_setAll 68 (show ([55, 56, 57, 58, 59, 60, 61, 62, 63, 64, 65, 66, 67, 68] : List Nat).Nodup by decide) (by kernel_rfl))) ⟨rfl, ⟨u0, put_list _ 69 _⟩, hbc⟩)) ?_
          rintro e a' w' ⟨rfl, ⟨u0, rfl⟩, hbw'⟩
          have hbel' : Below wb.heap.size wb w' := hbel.trans (hbw'.mono hbel.size)
          have hfin' : Below w.heap.size w w' := hb1.trans (hbel'.mono hb1.size)
          clear hbw' hbel hfin gk gk1 hc r0 r1 hpoK
          dsimp only [setAll, List.set, List.append_nil, List.cons_append, List.nil_append]
          by_cases hee : Lp = LP
          · have HV := hid (HNN.out hee)
            have d1 : ((Lp : Int) != (LP : Int)) = false := by simp [hee]
            generalize ((Lp : Int) != (LP : Int)) = dd at *
            subst d1
            clear hee HNN HBN
            go_wp2
            go_roundw
            case rel =>
              have := HLT.out
              first | exact ⟨k + 1, by omega, by go_num, HV, hbel'⟩ | ((repeat apply Exists.intro); exact ⟨⟨k + 1, by omega, by go_num, HV, hbel'⟩, rfl⟩)
            case measure =>
              have := HLT.out
              simp [intOf]
              omega
          · obtain ⟨rfl, rfl⟩ := HBN.out hee
            have d1 : ((Lp : Int) != (LP : Int)) = true := by simp; omega
            generalize ((Lp : Int) != (LP : Int)) = dd at *
            subst d1
            clear hee HNN HBN
            go_wp2
            go_ret
            exact ⟨rfl, hfin'⟩
        · obtain rfl : k = i := by omega
          obtain ⟨rfl, rfl, hRL, hl14, hlr, hlay⟩ := HGOOD.out HND.out HLE.out
          have hmm := run_make_mapG
          have hRL3 := hRL.below hfin
          have hP3 := hP.below hfin
          have HL14 := hid hl14
          have HLR := hid hlr
          have HLAY := hid hlay
          have HLEN := HLE
          have hR0 : RoundAt wr (wr.alloc (.map #[] 0)) wr.heap.size N ss 0 0 := ⟨(Below.refl _ wr).alloc (Nat.le_refl _) _, by simp, seen_new wr N ss⟩
          have hfin3 := hfin
          clear hl14 hlr hlay HLE hRL hP HPO HDUP HNUM HGOOD hbel hfin hlt hk
          go_wp2
          generalize wr.alloc (.map #[] 0) = wM at *
          clear hmm
          obtain ⟨w3, rfl⟩ : ∃ w3, wr = w3 := ⟨wr, rfl⟩
          obtain ⟨gM, eM⟩ : ∃ gM, gM = wr.heap.size := ⟨_, rfl⟩
          rw [← eM] at hR0
          rw [← eM]
          have HGM := hid eM
          clear eM
          generalize hw3 : wr = w3 at *
          clear hw3
          obtain ⟨gl, ol, rfl, hcl3⟩ := hRL3.at (i := 0) (by rw [HL14.out]; omega)
          have HCL := hid hcl3
          clear hcl3
          go_loopw [13] (fun q wz => ∃ t : Nat, t ≤ 14 ∧ q = .int .i64 t ∧ RoundAt w3 wz gM N ss t 0) (fun q _ => 14 - (intOf q).toNat)
          case atStart => exact ⟨0, Nat.zero_le _, rfl, hR0⟩
          case round =>
            clear hR0
            obtain ⟨t, ht, rfl, hRA⟩ := hrel
            have r0' := (hRA.bel.cell (World.block_lt_of_cell? w3 _ r0)).trans r0
            by_cases htl : t < 14
            · obtain ⟨rt, rct, gt3, hpt3⟩ := HCL.out t (by rw [HL14.out]; exact htl)
              rw [HLR.out t htl] at gt3
              have gt := (hRA.bel.cell (World.block_lt_of_cell? w3 _ gt3)).trans gt3
              have hwB : IntKind.i64.wrap (12 * B) = 12 * B := by rw [IntKind.wrap_i64]; omega
              have HTL := hid htl
              have htl' := htl
              go_upto_region 20 with fail
              have hc : ∀ (wc : World), Below wr.heap.size wr wc → ∀ q v, wr.cell? q = some v → wc.cell? q = some v := fun wc hbc q v h => (hbc.cell (World.block_lt_of_cell? wr _ h)).trans h
              refine wp_mono (region_known3 9 [(89, .slice (some ⟨gl, ol, none⟩) 14 cl), (90, .int .i64 t), (91, .pointer (some ⟨gl, ol + t, none⟩)), (92, .slice rt N rct), (93, .int .i64 N), (94, .pointer (some ⟨gB, 0, none⟩)), (95, .int .i64 B), (96, .int .i64 N), (97, .bool ((N : Int) != (N : Int)))]
                  [[2], [13], [89, 90], [91], [92], [4], [94], [95], [93, 96]] wr hmix rfl rfl (show ([89, 90, 91, 92, 93, 94, 95, 96, 97] : List Nat).Nodup by decide) (by kernel_rfl) (by kernel_rfl) (by kernel_rfl) (by kernel_rfl) (fun i' hi' ac wc hbc hr Q K hK => by
                  have hcs : i' = 0 ∨ i' = 1 ∨ i' = 2 ∨ i' = 3 ∨ i' = 4 ∨ i' = 5 ∨ i' = 6 ∨ i' = 7 ∨ i' = 8 := by omega
                  rcases hcs with rfl | rfl | rfl | rfl | rfl | rfl | rfl | rfl | rfl
                  · exact op_value rfl rfl (run_moveQ wc rfl (hr 2 (by decide))) (hK wc hbc)
                  · exact op_value rfl rfl (run_moveQ wc rfl (hr 13 (by decide))) (hK wc hbc)
                  · exact op_value rfl rfl (run_idxRw wc rfl (hr 89 (by decide)) (hr 90 (by decide)) htl') (hK wc hbc)
                  · exact op_value rfl rfl (run_loadRw wc rfl (hr 91 (by decide)) (hc wc hbc _ _ gt)) (hK wc hbc)
                  · exact op_value rfl rfl (run_lenPt wc rfl (hr 92 (by decide))) (hK wc hbc)
                  · exact op_value rfl rfl (run_fldG0 wc rfl (hr 4 (by decide))) (hK wc hbc)
                  · exact op_value rfl rfl (run_loadI wc rfl (hr 94 (by decide)) (hc wc hbc _ _ r0')) (hK wc hbc)
                  · exact op_value rfl rfl (v := .int .i64 (N : Int)) (by rw [← hB12]; exact run_mulG wc rfl rfl (hr 95 (by decide)) hwB) (hK wc hbc)
                  · exact op_value rfl rfl (run_neqI wc rfl (hr 93 (by decide)) (hr 96 (by decide))) (hK wc hbc))) ?_
              rintro e a' w' ⟨rfl, rfl, hbw'⟩
              have hRB := hRA.below hbw'
              dsimp only [setAll, List.set]
              have d1 : ((N : Int) != (N : Int)) = false := by simp
              generalize ((N : Int) != (N : Int)) = dd at *
              subst d1
              have d86 : decide ((t : Int) < 14) = true := by have := HTL.out; simp; omega
              generalize decide ((t : Int) < 14) = dt at *
              subst d86
              clear hbw' hRA gt hc r0' htl htl'
              go_wp2
              go_loopw [14] (fun q wz => ∃ z : Nat, z ≤ N ∧ q = .int .i64 z ∧ RoundAt w3 wz gM N ss t z) (fun q _ => N - (intOf q).toNat)
              case atStart => exact ⟨0, Nat.zero_le _, rfl, hRB⟩
              case round =>
                clear hRB
                obtain ⟨z, hz, rfl, hRA⟩ := hrel
                have r0' := (hRA.bel.cell (World.block_lt_of_cell? w3 _ r0)).trans r0
                have r1' := (hRA.bel.cell (World.block_lt_of_cell? w3 _ r1)).trans r1
                by_cases hzl : z < N
                · have HZL := hid hzl
                  have hpl := fun wz => pilot_any (z : Int) (t : Int) wz (by omega)
                  have HLY := hid (HLAY.out t HTL.out z hzl)
                  have HLD := hid (show layAt N ss ps t z = if pilotM z t then (1, if t % 2 = 1 then -1 else 1) else if 0 < (ownM ss z t).2 then partTo ps (ownM ss z t).1 (seenAt N ss (ownM ss z t).1 t z) ps.length else (0, 0) from rfl)
                  have HPL := hid (fun who => (show placeOf ss who (z : Int) (t : Int) = (decide (0 < (ownM ss (z : Int) (t : Int)).2) && (decide ((ownM ss (z : Int) (t : Int)).1 = who) && !pilotM (z : Int) (t : Int))) from rfl))
                  have hal1 := (Below.refl wr.heap.size wr).alloc (Nat.le_refl _) (.cells #[.int .i64 z, .int .i64 t] 39)
                  have hal2 := (Below.refl _ (wr.alloc (.cells #[.int .i64 z, .int .i64 t] 39))).alloc (Nat.le_refl _) (.cells #[.int .i64 0, .int .i64 0] 47)
                  have hRX := (hRA.below hal1).below hal2
                  have hX := xat_new (wr.alloc (.cells #[.int .i64 z, .int .i64 t] 39)) 0 0
                  rw [World.size_alloc] at hX
                  have p0 := (hal2.cell (p := ⟨wr.heap.size, 0, none⟩) (by simp)).trans (show (wr.alloc (.cells #[.int .i64 z, .int .i64 t] 39)).cell? ⟨wr.heap.size, 0, none⟩ = some (.int .i64 z) by rw [cell_of_row _ _ _ _ _ _ (heap_alloc_new wr _)]; rfl)
                  have p1 := (hal2.cell (p := ⟨wr.heap.size, 1, none⟩) (by simp)).trans (show (wr.alloc (.cells #[.int .i64 z, .int .i64 t] 39)).cell? ⟨wr.heap.size, 1, none⟩ = some (.int .i64 t) by rw [cell_of_row _ _ _ _ _ _ (heap_alloc_new wr _)]; rfl)
                  have hgX3 : w3.heap.size ≤ wr.heap.size + 1 := by have := hRA.bel.size; omega
                  have hgXM : gM ≠ wr.heap.size + 1 := by have := hRA.lt; omega
                  have hgPX : wr.heap.size < wr.heap.size + 1 := by omega
                  go_wp2_with fail
                  generalize (wr.alloc (.cells #[.int .i64 z, .int .i64 t] 39)).alloc (.cells #[.int .i64 0, .int .i64 0] 47) = wx at *
                  obtain ⟨gX, eX⟩ : ∃ gX, gX = wr.heap.size + 1 := ⟨_, rfl⟩
                  obtain ⟨gP, eP⟩ : ∃ gP, gP = wr.heap.size := ⟨_, rfl⟩
                  rw [← eX] at hX hgX3 hgXM hgPX
                  rw [← eX]
                  rw [← eP] at p0 p1 hgPX
                  rw [← eP]
                  clear eX eP hal1 hal2 hRA r0' r1'
                  refine (hpl _).mono ?_
                  rintro e w5 ⟨rfl, hb5⟩
                  have hR5 := hRX.below hb5
                  have hX5 := hX.below hb5
                  have t0 := (hb5.cell (World.block_lt_of_cell? wx _ p0)).trans p0
                  have t1 := (hb5.cell (World.block_lt_of_cell? wx _ p1)).trans p1
                  clear hRX hX p0 p1 hb5
                  obtain ⟨pb, epb⟩ : ∃ pb, pb = pilotM (z : Int) (t : Int) := ⟨_, rfl⟩
                  rw [← epb] at HLD
                  simp only [← epb] at HPL
                  rw [← epb]
                  clear epb hpl
                  go_upto_if 110 with fail
                  go_cut [17, 18, 19] from 98 to 159 (fun _ _ _ wz => XAt wz gX (layAt N ss ps t z) ∧ RoundAt w3 wz gM N ss t (z + 1))
                  case first =>
                    cases pb with
                    | true =>
                      have HNP0 := hid (show ∀ who, placeOf ss who z t = false from fun who => by rw [HPL.out who]; simp)
                      have HE := hid (show layAt N ss ps t z = (1, if t % 2 = 1 then -1 else 1) by rw [HLD.out, if_pos rfl])
                      have hth := hX5.there
                      have h0x := hX5.cells.1
                      have h1x := hX5.cells.2
                      have hfz := hX5.free
                      clear HLD HPL t0 t1
                      by_cases hod : t % 2 = 1
                      · have d1 : ((t : Int) % 2 == 1) = true := by simp; omega
                        have HE2 := hid (show layAt N ss ps t z = (1, -1) by rw [HE.out, if_pos hod])
                        clear hod HE
                        go_wp2_with fail
                        go_meet
                        case rel =>
                          rw [HE2.out]
                          exact ⟨(hX5.store (1, 1)).setQ (-1), ((hR5.store hgX3 hgXM _ _).setCell (p := ⟨gX, 1, none⟩) hgX3 hgXM _).stay HNP0.out⟩
                      · have d1 : ((t : Int) % 2 == 1) = false := by simp; omega
                        have HE2 := hid (show layAt N ss ps t z = (1, 1) by rw [HE.out, if_neg hod])
                        clear hod HE
                        go_wp2_with fail
                        go_meet
                        case rel =>
                          rw [HE2.out]
                          exact ⟨hX5.store (1, 1), (hR5.store hgX3 hgXM _ _).stay HNP0.out⟩
                    | false =>
                      have hown := HOWN.out (z : Int) (t : Int) w5 (hfin3.trans (hR5.bel.mono hfin3.size))
                      have s0 := (hR5.bel.cell (World.block_lt_of_cell? w3 _ r0)).trans r0
                      have s1 := (hR5.bel.cell (World.block_lt_of_cell? w3 _ r1)).trans r1
                      have hwb := HWO.out (z : Int) (t : Int)
                      have hnb := HNO.out (z : Int) (t : Int)
                      obtain ⟨wo, ewo⟩ : ∃ wo, wo = (ownM ss (z : Int) (t : Int)).1 := ⟨_, rfl⟩
                      obtain ⟨no, eno⟩ : ∃ no, no = (ownM ss (z : Int) (t : Int)).2 := ⟨_, rfl⟩
                      change 0 ≤ (ownM ss (z : Int) (t : Int)).1 ∧ (ownM ss (z : Int) (t : Int)).1 ≤ 16 at hwb
                      rw [← ewo, ← eno] at hown HLD
                      simp only [← ewo, ← eno] at HPL
                      rw [← ewo] at hwb
                      rw [← eno] at hnb
                      clear ewo eno
                      by_cases hno : 0 < no
                      · have HE := hid (show layAt N ss ps t z = partTo ps wo (seenAt N ss wo t z) ps.length by rw [HLD.out, if_neg (by simp), if_pos hno])
                        have HP1 := hid (show placeOf ss wo z t = true by rw [HPL.out wo]; simp [hno])
                        have HP2 := hid (show ∀ who, who ≠ wo → placeOf ss who z t = false from fun who hw => by rw [HPL.out who]; simp [Ne.symm hw])
                        have hil := seen_lt HZL.out HTL.out HP1.out
                        have hLPb : (placesOfM N ss wo).length ≤ 2016 := by
                          have h1 := placesTo_length N ss wo 14
                          have h2 : 14 * N ≤ 14 * 144 := Nat.mul_le_mul_left _ h144
                          unfold placesOfM
                          omega
                        obtain ⟨ix, eix⟩ : ∃ ix, ix = seenAt N ss wo t z := ⟨_, rfl⟩
                        rw [← eix] at HE hil
                        have hixb : ix ≤ 2016 := by omega
                        have HIX := hid eix
                        have HIL := hid hil
                        have d1 : decide ((0 : Int) < (no : Int)) = true := by simp; omega
                        have d2 : decide (0 < no) = true := by simp; omega
                        clear HLD HPL eix hil hLPb
                        go_wp2_with fail
                        refine hown.mono ?_
                        rintro e w6 ⟨rfl, hb6⟩
                        have hR6 := hR5.below hb6
                        have hX6 := hX5.below hb6
                        clear hR5 hX5 hown hb6 s0 s1 t0 t1
                        go_wp2_with fail
                        clear hno d1 d2 hnb
                        go_loopw [19] (fun q wz => ∃ y : Nat, y ≤ k ∧ q = .int .i64 y ∧ XAt wz gX (partTo ps wo ix y) ∧ RoundAt w3 wz gM N ss t z) (fun q _ => k - (intOf q).toNat)
                        case atStart => exact ⟨0, Nat.zero_le _, rfl, hX6, hR6⟩
                        case round =>
                          clear hX6 hR6
                          obtain ⟨y, hy, rfl, hXr, hRr⟩ := hrel
                          by_cases hyl : y < k
                          · have hyp : y < ps.length := by rw [HNP.out]; exact hyl
                            obtain ⟨gp, op, rfl, hcp⟩ := hP3.at hyp
                            obtain ⟨c0, ra, rc, c1, hpts⟩ := hcp y hyp
                            have b0 := (hRr.bel.cell (World.block_lt_of_cell? w3 _ c0)).trans c0
                            have b1 := (hRr.bel.cell (World.block_lt_of_cell? w3 _ c1)).trans c1
                            have hlen := HLEN.out y hyl
                            have HX1 := hid (fun (h : (prAt ps y).who = wo) => (show partTo ps wo ix (y + 1) = (prAt ps y).pts.getD ix (0, 0) by rw [partTo, if_pos h]))
                            have HX2 := hid (fun (h : ¬ (prAt ps y).who = wo) => (show partTo ps wo ix (y + 1) = partTo ps wo ix y by rw [partTo, if_neg h]))
                            have HIB := hid (fun (h : (prAt ps y).who = wo) => (show ix < (prAt ps y).pts.length by rw [hlen, h]; exact HIL.out))
                            have HYL := hid hyl
                            obtain ⟨wy, ewy⟩ : ∃ wy, wy = (prAt ps y).who := ⟨_, rfl⟩
                            rw [← ewy] at b0 HX1 HX2 HIB
                            clear hcp c0 c1 ewy hlen hyp
                            by_cases hww : wy = wo
                            · have hib := HIB.out hww
                              have HV := HX1.out hww
                              obtain ⟨gr, orr, rfl, hpc⟩ := hpts.at hib
                              have hpx := hpc ix hib
                              have k0 := (hRr.bel.cell (World.block_lt_of_cell? w3 _ hpx.1)).trans hpx.1
                              have k1 := (hRr.bel.cell (World.block_lt_of_cell? w3 _ hpx.2)).trans hpx.2
                              obtain ⟨px, epx⟩ : ∃ px, px = (prAt ps y).pts.getD ix (0, 0) := ⟨_, rfl⟩
                              obtain ⟨Ly, eLy⟩ : ∃ Ly, Ly = (prAt ps y).pts.length := ⟨_, rfl⟩
                              rw [← epx] at k0 k1 HV
                              rw [← eLy] at b1 hib
                              have HVV := hid HV
                              have HIBB := hid hib
                              have hww0 := hww
                              have d1 : (wy == wo) = true := by simp [hww]
                              have hwl : (Lit.int .i64 wo).wf = true := WalkArith.wf_i64 (by omega)
                              have hixv := HIX.out
                              clear HX1 HX2 HIB hpts hpc hpx epx eLy HV hib hww0 hww
                              go_upto_region 37 with fail
                              have hc : ∀ (wc : World), Below wr.heap.size wr wc → ∀ q v, wr.cell? q = some v → wc.cell? q = some v := fun wc hbc q v h => (hbc.cell (World.block_lt_of_cell? wr _ h)).trans h
                              refine wp_mono (region_growU (Q := fun e a' w' => e = .normal ∧ (∃ u, a' = { tmps := (setAll _ ([(137, .slice (some ⟨gp, op, none⟩) k cp), (138, .int .i64 y), (139, .pointer (some ⟨gp, op + y * 2, none⟩)), (140, .pointer (some ⟨gp, op + y * 2 + 1, none⟩)), (141, .slice (some ⟨gr, orr, none⟩) Ly rc), (142, .map (some gM)), (143, .int .i64 wo)] ++ (144, u) :: [(145, .pointer (some ⟨gr, orr + ix * 2, none⟩)), (146, .agg #[.int .i64 px.1, .int .i64 px.2])])).toArray, defers := [] }) ∧ XAt w' gX px ∧ RoundAt w3 w' gM N ss t z) 11 10 7 [(137, .slice (some ⟨gp, op, none⟩) k cp), (138, .int .i64 y), (139, .pointer (some ⟨gp, op + y * 2, none⟩)), (140, .pointer (some ⟨gp, op + y * 2 + 1, none⟩)), (141, .slice (some ⟨gr, orr, none⟩) Ly rc), (142, .map (some gM)), (143, .int .i64 wo)] 144 [(145, .pointer (some ⟨gr, orr + ix * 2, none⟩)), (146, .agg #[.int .i64 px.1, .int .i64 px.2])]
                                  [[1], [19], [137, 138], [139], [140], [12], [17], [142, 143], [141, 144], [145]] [2, 2, 3, 4, 8, 7, 7, 8, 9, 10] (fun x _ => x = .int .i64 ix) wr hmix rfl (by decide) rfl rfl (show ([137, 138, 139, 140, 141, 142, 143, 144, 145, 146] : List Nat).Nodup by decide) (by kernel_rfl) (by kernel_rfl) (by kernel_rfl) (by kernel_rfl) (by kernel_rfl) (by kernel_rfl) (fun _ _ _ h _ => h)
                                  (fun i' hi' u0 ac wc hbc hU hr Q K hK1 hK => by
                                    have hcs : i' = 0 ∨ i' = 1 ∨ i' = 2 ∨ i' = 3 ∨ i' = 4 ∨ i' = 5 ∨ i' = 6 ∨ i' = 7 ∨ i' = 8 ∨ i' = 9 := by omega
                                    have hgr := grownG wc
                                    rcases hcs with rfl | rfl | rfl | rfl | rfl | rfl | rfl | rfl | rfl | rfl
                                    · exact op_value rfl rfl (run_moveQ wc rfl (hr 1 (by decide))) (hK (by decide) wc hgr)
                                    · exact op_value rfl rfl (run_moveQ wc rfl (hr 19 (by decide))) (hK (by decide) wc hgr)
                                    · exact op_value rfl rfl (run_idxPa wc rfl (hr 137 (by decide)) (hr 138 (by decide)) HYL.out) (hK (by decide) wc hgr)
                                    · exact op_value rfl rfl (run_fldPa1 wc rfl (hr 139 (by decide))) (hK (by decide) wc hgr)
                                    · exact op_value rfl rfl (run_loadRw wc rfl (hr 140 (by decide)) (hc wc hbc _ _ b1)) (hK (by decide) wc hgr)
                                    · exact op_value rfl rfl (run_moveQ wc rfl (hr 12 (by decide))) (hK (by decide) wc hgr)
                                    · exact op_value rfl rfl (run_moveQ wc rfl (hr 17 (by decide))) (hK (by decide) wc hgr)
                                    · exact op_value rfl rfl (run_lookG (hRr.below hbc).seen hwl rfl (hr 142 (by decide)) (hr 143 (by decide))) (hK1 rfl _ wc hgr (by rw [hixv]))
                                    · have eu := hU (by decide)
                                      exact op_value rfl rfl (run_idxPt wc rfl (hr 141 (by decide)) ((hr 144 (by decide)).trans eu) HIBB.out) (hK (by decide) wc hgr)
                                    · exact op_value rfl rfl (run_loadPt wc rfl (hr 145 (by decide)) ⟨hc wc hbc _ _ k0, hc wc hbc _ _ k1⟩) (hK (by decide) wc hgr))
                                  (fun u0 wc hbc hu0 => by
                                    exact op_skip rfl rfl (run_storeX (q := px) wc rfl (eval_setAll 16 (show ([137, 138, 139, 140, 141, 142, 143, 144, 145, 146] : List Nat).Nodup by decide) (by kernel_rfl)) (eval_setAll 146 (show ([137, 138, 139, 140, 141, 142, 143, 144, 145, 146] : List Nat).Nodup by decide) (by kernel_rfl)) (hXr.below hbc)) ⟨rfl, ⟨u0, rfl⟩, (hXr.below hbc).store px, (hRr.below hbc).store hgX3 hgXM _ _⟩)) ?_
                              rintro e a' w' ⟨rfl, ⟨u0, rfl⟩, hX7, hR7⟩
                              clear hc k0 k1 b0 b1 hXr hRr hixv hwl
                              dsimp only [setAll, List.set, List.append_nil, List.cons_append, List.nil_append]
                              go_wp2
                              go_roundw
                              case rel =>
                                have := HYL.out
                                rw [← HVV.out] at hX7
                                first | exact ⟨y + 1, by omega, by go_num, hX7, hR7⟩ | ((repeat apply Exists.intro); exact ⟨⟨y + 1, by omega, by go_num, hX7, hR7⟩, rfl⟩)
                              case measure =>
                                have := HYL.out
                                simp [intOf]
                                omega
                            · have d1 : (wy == wo) = false := by simp [hww]
                              have HV := hid (HX2.out hww)
                              clear HX1 HX2 HIB hpts hww
                              go_wp2_with fail
                              go_roundw
                              case rel =>
                                have := HYL.out
                                rw [← HV.out] at hXr
                                first | exact ⟨y + 1, by omega, by go_num, hXr, hRr⟩ | ((repeat apply Exists.intro); exact ⟨⟨y + 1, by omega, by go_num, hXr, hRr⟩, rfl⟩)
                              case measure =>
                                have := HYL.out
                                simp [intOf]
                                omega
                          · obtain rfl : k = y := by omega
                            rw [← HNP.out] at hXr
                            rw [← HE.out] at hXr
                            have hsn := hRr.seen
                            obtain ⟨n0, D, hn0, hM, hD⟩ := hsn
                            have hn3 : n0 ≤ 3000 := by
                              have h1 : t * N ≤ 14 * 144 := Nat.mul_le_mul ht h144
                              omega
                            have HD := hid hD
                            have HN0 := hid hn0
                            have HAT := hid (hD wo)
                            have hkey : keyOf Try.prog 3 (.int .i64 wo) = some (.int .i64 wo) := keyOf_int_mk Try.underlying3 (WalkArith.wf_i64 (by omega))
                            clear hD hn0
                            go_wp2_with (first
                              | (at_lookup; refine wpList_lookup_own_int _ rfl _ _ 69 rfl 3 3 .i64 Try.law3g Try.underlying69 Try.underlying3 (Try.zero3g _) gM n0 _ rfl hM _ _ rfl hkey ?_; intro v hat hwz; obtain rfl : v = (ix : Int) := by (rw [HAT.out, ← HIX.out] at hat; simpa using hat.symm))
                              | (at_mapUpdate; refine wpList_mapUpdate_own _ rfl _ _ _ 69 rfl 3 3 Try.law3g Try.underlying69 _ gM n0 _ rfl hM (by unfold maxLen; omega) _ _ _ rfl rfl hkey _ [] (plainElem_int Try.underlying3 (WalkArith.wf_i64 (by omega))) ?_; intro w8 hM8 hg8))
                            go_meet
                            case rel =>
                              refine ⟨hXr.turn hg8 hgXM, hRr.turn hg8 (by rw [HGM.out]; exact Nat.le_refl _) (SeenMap.put HN0.out HD.out hM.isMap HP1.out HP2.out ?_)⟩
                              rw [← HIX.out]
                              exact hM8
                      · have HE := hid (show layAt N ss ps t z = (0, 0) by rw [HLD.out, if_neg (by simp), if_neg hno])
                        have HNP0 := hid (show ∀ who, placeOf ss who z t = false from fun who => by rw [HPL.out who]; simp [hno])
                        have d1 : decide ((0 : Int) < (no : Int)) = false := by simp; omega
                        have d2 : decide (0 < no) = false := by simp; omega
                        clear HLD HPL
                        go_wp2_with fail
                        refine hown.mono ?_
                        rintro e w6 ⟨rfl, hb6⟩
                        have hR6 := hR5.below hb6
                        have hX6 := hX5.below hb6
                        clear hR5 hX5 hown hb6 s0 s1 t0 t1
                        go_wp2_with fail
                        go_meet
                        case rel =>
                          rw [HE.out]
                          exact ⟨hX6, hR6.stay HNP0.out⟩
                  case rest =>
                    obtain ⟨hXc, hRc⟩ := hcut
                    have hzr : z < (rowAt ls t).length := by rw [HLR.out t HTL.out]; exact HZL.out
                    obtain ⟨gr, orr, rfl, hpc⟩ := hpt3.at hzr
                    have hpx := hpc z hzr
                    rw [HLY.out] at hpx
                    have gt := (hRc.bel.cell (World.block_lt_of_cell? w3 _ gt3)).trans gt3
                    have k0 := (hRc.bel.cell (World.block_lt_of_cell? w3 _ hpx.1)).trans hpx.1
                    have k1 := (hRc.bel.cell (World.block_lt_of_cell? w3 _ hpx.2)).trans hpx.2
                    obtain ⟨px, epx⟩ : ∃ px, px = layAt N ss ps t z := ⟨_, rfl⟩
                    rw [← epx] at k0 k1 hXc
                    clear hpc hpx epx hR5 hX5 t0 t1 HLD HPL hzr
                    go_upto_region 39 with fail
                    have hc : ∀ (wd : World), Below wc.heap.size wc wd → ∀ q v, wc.cell? q = some v → wd.cell? q = some v := fun wd hbc q v h => (hbc.cell (World.block_lt_of_cell? wc _ h)).trans h
                    refine wp_mono (region_known3 9 [(151, .slice (some ⟨gl, ol, none⟩) 14 cl), (152, .int .i64 t), (153, .pointer (some ⟨gl, ol + t, none⟩)), (154, .slice (some ⟨gr, orr, none⟩) N rct), (155, .int .i64 z), (156, .pointer (some ⟨gr, orr + z * 2, none⟩)), (157, .agg #[.int .i64 px.1, .int .i64 px.2]), (158, .agg #[.int .i64 px.1, .int .i64 px.2]), (159, .bool false)]
                        [[2], [13], [151, 152], [153], [14], [154, 155], [156], [16], [157, 158]] wc hmix rfl rfl (show ([151, 152, 153, 154, 155, 156, 157, 158, 159] : List Nat).Nodup by decide) (by kernel_rfl) (by kernel_rfl) (by kernel_rfl) (by kernel_rfl) (fun i' hi' ac wd hbc hr Q K hK => by
                        have hcs : i' = 0 ∨ i' = 1 ∨ i' = 2 ∨ i' = 3 ∨ i' = 4 ∨ i' = 5 ∨ i' = 6 ∨ i' = 7 ∨ i' = 8 := by omega
                        rcases hcs with rfl | rfl | rfl | rfl | rfl | rfl | rfl | rfl | rfl
                        · exact op_value rfl rfl (run_moveQ wd rfl (hr 2 (by decide))) (hK wd hbc)
                        · exact op_value rfl rfl (run_moveQ wd rfl (hr 13 (by decide))) (hK wd hbc)
                        · exact op_value rfl rfl (run_idxRw wd rfl (hr 151 (by decide)) (hr 152 (by decide)) HTL.out) (hK wd hbc)
                        · exact op_value rfl rfl (run_loadRw wd rfl (hr 153 (by decide)) (hc wd hbc _ _ gt)) (hK wd hbc)
                        · exact op_value rfl rfl (run_moveQ wd rfl (hr 14 (by decide))) (hK wd hbc)
                        · exact op_value rfl rfl (run_idxPt wd rfl (hr 154 (by decide)) (hr 155 (by decide)) HZL.out) (hK wd hbc)
                        · exact op_value rfl rfl (run_loadPt wd rfl (hr 156 (by decide)) ⟨hc wd hbc _ _ k0, hc wd hbc _ _ k1⟩) (hK wd hbc)
                        · exact op_value rfl rfl (run_loadPt wd rfl (hr 16 (by decide)) (hXc.below hbc).cells) (hK wd hbc)
                        · exact op_value rfl rfl (run_neqPt wd rfl (hr 157 (by decide)) (hr 158 (by decide))) (hK wd hbc))) ?_
                    rintro e a' w' ⟨rfl, rfl, hbw'⟩
                    have hRd := hRc.below hbw'
                    dsimp only [setAll, List.set]
                    clear hbw' hRc hXc gt hc k0 k1
                    go_wp2
                    go_roundw
                    case rel =>
                      have := HZL.out
                      first | exact ⟨z + 1, by omega, by go_num, hRd⟩ | ((repeat apply Exists.intro); exact ⟨⟨z + 1, by omega, by go_num, hRd⟩, rfl⟩)
                    case measure =>
                      have := HZL.out
                      simp [intOf]
                      omega
                · obtain rfl : N = z := by omega
                  have hRn := hRA.next
                  clear hRA r1'
                  go_wp2_with fail
                  go_roundw
                  case rel =>
                    have := HTL.out
                    first | exact ⟨t + 1, by omega, by go_num, hRn⟩ | ((repeat apply Exists.intro); exact ⟨⟨t + 1, by omega, by go_num, hRn⟩, rfl⟩)
                  case measure =>
                    have := HTL.out
                    simp [intOf]
                    omega
            · obtain rfl : t = 14 := by omega
              have hfe := hfin3.trans (hRA.bel.mono hfin3.size)
              go_wp2_with fail
              go_ret
              exact ⟨rfl, hfe⟩
end Go.Proofs.Ytjpohfghibhkiad
