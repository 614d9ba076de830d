import Derived.Test.YtjpohfghibhkiadGridQ
import Derived.Test.YtjpohfghibhkiadGridE
import Derived.Deep.CutRange
namespace Go.Proofs.Ytjpohfghibhkiad
open Go.ChangeShapes Go.WideShapes Go.ChangeAt Go.RowKit Go.Shelf

/-! GridSays, over what it asks of Check, Places, Lay and Take. -/

def gN (B : Int) : Nat := 12 * B.toNat
/-- No share begins beyond what an int holds. -/
def ShB (ss : List Sh) : Prop := ∀ i, i < ss.length → (shAt ss i).fr ≤ 9223372036854775807
/-- Whose parts they are: ints. -/
def PrB (ps : List Prt) : Prop := ∀ i, i < ps.length → (Lit.int .i64 (prAt ps i).who).wf = true
structure GridLaws : Prop where
  check : ∀ (B : Int) (ss : List Sh) (a : Option Addr) (c : Nat) (w : World), Shs w a ss → ss.length ≤ 9223372036854775807 → ShB ss → Calls Try.prog 8 #[.agg #[.int .i64 B, .slice a ss.length c]] w fun e w' => e = .returned (.int .i64 (gridErrM B ss)) ∧ Below w.heap.size w w'
  places : ∀ (B who : Int) (ss : List Sh) (a : Option Addr) (c : Nat) (w : World), Shs w a ss → ss.length ≤ 9223372036854775807 → ShB ss → Calls Try.prog 7 #[.agg #[.int .i64 B, .slice a ss.length c], .int .i64 who] w fun e w' => ∃ a' k' c', e = .returned (.tuple #[.slice a' k' c', .int .i64 (gridErrM B ss)]) ∧ Below w.heap.size w w' ∧ (gridErrM B ss = 0 → k' = (placesOfM (gN B) ss who).length ∧ Pts w' a' (placesOfM (gN B) ss who)) ∧ (gridErrM B ss ≠ 0 → k' = 0)
  lay : ∀ (B : Int) (ss : List Sh) (a : Option Addr) (c : Nat) (ps : List Prt) (ap : Option Addr) (cp : Nat) (w : World), Shs w a ss → ss.length ≤ 9223372036854775807 → ShB ss → PrtsP w ap ps → ps.length ≤ 9223372036854775807 → (∀ i, i < ps.length → (prAt ps i).pts.length ≤ 9223372036854775807) → PrB ps → Calls Try.prog 9 #[.agg #[.int .i64 B, .slice a ss.length c], .slice ap ps.length cp] w fun e w' => ∃ al nl cl E, e = .returned (.tuple #[.slice al nl cl, .int .i64 E]) ∧ Below w.heap.size w w' ∧ nl ≤ 9223372036854775807 ∧ (gridErrM B ss ≠ 0 → E = gridErrM B ss ∧ nl = 0) ∧ (gridErrM B ss = 0 →
      (∀ i j, i < ps.length → j < i → (prAt ps i).who = (prAt ps j).who → E = 1 ∧ nl = 0) ∧
      (NoDups ps ps.length → ∀ i, i < ps.length → (prAt ps i).pts.length ≠ (placesOfM (gN B) ss (prAt ps i).who).length → E = 3 ∧ nl = 0) ∧
      (NoDups ps ps.length → (∀ i, i < ps.length → (prAt ps i).pts.length = (placesOfM (gN B) ss (prAt ps i).who).length) → E = 0 ∧ nl = 14 ∧ ∃ ls, RowsP w' al ls ∧ ls.length = 14 ∧ (∀ t, t < 14 → (rowAt ls t).length = gN B) ∧ ∀ t, t < 14 → ∀ z, z < gN B → (rowAt ls t).getD z (0, 0) = layAt (gN B) ss ps t z))
  take : ∀ (B who : Int) (ss : List Sh) (a : Option Addr) (c : Nat) (rs : List (List (Int × Int))) (ar : Option Addr) (cr : Nat) (w : World), Shs w a ss → ss.length ≤ 9223372036854775807 → ShB ss → RowsP w ar rs → rs.length ≤ 9223372036854775807 → (∀ i, i < rs.length → (rowAt rs i).length ≤ 9223372036854775807) → Calls Try.prog 10 #[.agg #[.int .i64 B, .slice a ss.length c], .slice ar rs.length cr, .int .i64 who] w fun e w' => ∃ al nl cl E, e = .returned (.tuple #[.slice al nl cl, .int .i64 E]) ∧ Below w.heap.size w w' ∧ nl ≤ 9223372036854775807 ∧ (gridErrM B ss ≠ 0 → E = gridErrM B ss ∧ nl = 0) ∧ (gridErrM B ss = 0 → (rowsOk (gN B) rs = false → E = 3 ∧ nl = 0) ∧ (rowsOk (gN B) rs = true → E = 0 ∧ nl = (placesOfM (gN B) ss who).length ∧ Pts w' al (takeM (gN B) ss rs who)))

theorem run_loadPl {ρ : Operand → Value} (w : World) {o : Oper} {x : Operand} {g s : Nat} {p : Int × Int} (ho : o.op = .load 39 x) (h : ρ x = .pointer (some ⟨g, s, none⟩)) (hc : w.cell? ⟨g, s, none⟩ = some (.int .i64 p.1) ∧ w.cell? ⟨g, s + 1, none⟩ = some (.int .i64 p.2)) : (execOp ρ o).run Try.prog w = .ok (.value (.agg #[.int .i64 p.1, .int .i64 p.2])) w := by
  unfold execOp
  have hr := run_loadVar_mid w g s 39 [.int .i64 p.1, .int .i64 p.2] _ (pts_range hc) Try.underlying39 rfl (by kernel_rfl)
  simp only [ho, h, Instr.loadAt, Instr.sureAddr, Sem.run_bind, Sem.run_pure, Result.andThen_ok, hr]
theorem run_eqPl (w : World) (p1 p2 : Int) : (Op.equalIn 10000 39 (.agg #[.int .i64 p1, .int .i64 p2]) (.agg #[.int .i64 p1, .int .i64 p2])).run Try.prog w = .ok true w := by
  have hf : Try.prog.underlying 39 = some (.struct (Try.prog.fieldsOf 39)) := by kernel_rfl
  rw [run_equalIn_struct w 9999 39 _ _ hf (by kernel_rfl)]
  simp only [Program.fieldsOf, Try.underlying39]
  simp [Op.eqFields, go_sem]
theorem run_neqPl {ρ : Operand → Value} (w : World) {o : Oper} {x y : Operand} {p : Int × Int} (ho : o.op = .binOp .neq 39 x y 39) (h : ρ x = .agg #[.int .i64 p.1, .int .i64 p.2]) (h' : ρ y = .agg #[.int .i64 p.1, .int .i64 p.2]) : (execOp ρ o).run Try.prog w = .ok (.value (.bool false)) w := by
  have hm : Try.prog.eqGuardType Try.prog.depth 39 = false := by kernel_rfl
  unfold execOp
  simp only [ho, h, h']
  simp [go_sem, hm, run_eqPl]
theorem OwnT.pts {T : TypeId} {w : World} {B n c : Nat} {a : Option Addr} {ps : List (Int × Int)} (h : OwnT T w B (.slice a n c) ps) : Pts w a ps := by
  intro hne
  have h0 : 0 < ps.length := List.length_pos_iff.2 hne
  obtain ⟨g, rfl, -⟩ := h.cells h0
  refine ⟨g, 0, rfl, fun i hi => ?_⟩
  obtain ⟨g', e, h1, h2⟩ := h.cells hi
  simp only [Option.some.injEq, Addr.mk.injEq, and_true] at e
  subst e
  rw [Nat.zero_add]
  exact ⟨h1, h2⟩
theorem griderr_good {B : Int} {ss : List Sh} (h : gridErrM B ss = 0) : (1 ≤ B ∧ B ≤ 12) ∧ ss.length ≤ 100 ∧ ∀ i, i < ss.length → shOk B (shAt ss i) = true := by
  unfold gridErrM at h
  by_cases hc : (decide (1 ≤ B ∧ B ≤ 12) && decide (ss.length ≤ 100) && ss.all (shOk B)) = true
  · rw [Bool.and_eq_true, Bool.and_eq_true, decide_eq_true_eq, decide_eq_true_eq] at hc
    refine ⟨hc.1.1, hc.1.2, fun i hi => ?_⟩
    have e : shAt ss i = ss[i] := by simp [shAt, List.getD, hi]
    rw [e]
    exact List.all_eq_true.1 hc.2 _ (List.getElem_mem hi)
  · rw [if_neg hc] at h
    exact absurd h (by decide)

set_option maxRecDepth 100000 in
set_option maxHeartbeats 4000000 in
theorem gsays_any (hG : GridLaws) (B who : Int) (ss : List Sh) (a : Option Addr) (c : Nat) (ps : List Prt) (ap : Option Addr) (cp : Nat) (rs : List (List (Int × Int))) (ar : Option Addr) (cr : Nat) (w : World) (hS : Shs w a ss) (hn : ss.length ≤ 9223372036854775807) (hF : ShB ss) (hP : PrtsP w ap ps) (hzp : ps.length ≤ 9223372036854775807) (hpz : ∀ i, i < ps.length → (prAt ps i).pts.length ≤ 9223372036854775807) (hPB : PrB ps)
    (hR : RowsP w ar rs) (hzr : rs.length ≤ 9223372036854775807) (hrz : ∀ i, i < rs.length → (rowAt rs i).length ≤ 9223372036854775807) :
    Calls Try.prog 3 #[.agg #[.int .i64 B, .slice a ss.length c], .slice ap ps.length cp, .slice ar rs.length cr, .int .i64 who] w fun e w' => e = .returned (.bool true) ∧ Below w.heap.size w w' := by
  have HPZ := hid hpz
  have HRZ := hid hrz
  have hmix : Try.prog.follows .mixedOrders = true := by kernel_rfl
  have hb1 : Below w.heap.size w (w.alloc (.cells #[.int .i64 B, .slice a ss.length c] 24)) := (Below.refl _ w).alloc (Nat.le_refl _) _
  have q0 : (w.alloc (.cells #[.int .i64 B, .slice a ss.length c] 24)).cell? ⟨w.heap.size, 0, none⟩ = some (.int .i64 B) := by rw [cell_of_row _ _ _ _ _ _ (heap_alloc_new w _)]; rfl
  have q1 : (w.alloc (.cells #[.int .i64 B, .slice a ss.length c] 24)).cell? ⟨w.heap.size, 1, none⟩ = some (.slice a ss.length c) := by rw [cell_of_row _ _ _ _ _ _ (heap_alloc_new w _)]; rfl
  clear hpz hrz
  go_enter Try.func3, Try.ntmps3
  go_wp2_with fail
  generalize w.alloc (.cells #[.int .i64 B, .slice a ss.length c] 24) = wb at *
  obtain ⟨gB, eB⟩ : ∃ gB, gB = w.heap.size := ⟨_, rfl⟩
  rw [← eB] at q0 q1
  rw [← eB]
  clear eB
  obtain ⟨n, en⟩ : ∃ n, n = ss.length := ⟨_, rfl⟩
  obtain ⟨np, enp⟩ : ∃ np, np = ps.length := ⟨_, rfl⟩
  obtain ⟨nr, enr⟩ : ∃ nr, nr = rs.length := ⟨_, rfl⟩
  have hER := griderr_any B ss ss.length c a wb (hS.below hb1) rfl hn
  have hPL := fun (wz : World) (hbz : Below w.heap.size w wz) => hG.places B who ss a c wz (hS.below hbz) hn hF
  have hCH := fun (wz : World) (hbz : Below w.heap.size w wz) => hG.check B ss a c wz (hS.below hbz) hn hF
  have hLA := fun (wz : World) (hbz : Below w.heap.size w wz) => hG.lay B ss a c ps ap cp wz (hS.below hbz) hn hF (hP.below hbz) hzp HPZ.out hPB
  have hTA := fun (wz : World) (hbz : Below w.heap.size w wz) => hG.take B who ss a c rs ar cr wz (hS.below hbz) hn hF (hR.below hbz) hzr HRZ.out
  clear hF hPB
  have HGD := hid (@griderr_good B ss)
  have HLEN := hid en
  have HLENP := hid enp
  have HLENR := hid enr
  rw [← en] at hn
  rw [← enp] at hzp
  rw [← enr] at hzr
  simp only [← en, ← enp, ← enr] at q1 hER hPL hCH hLA hTA HGD ⊢
  clear en enp enr
  obtain ⟨W, eW⟩ : ∃ W, W = gridErrM B ss := ⟨_, rfl⟩
  simp only [← eW] at hER hPL hCH hLA hTA HGD
  clear eW
  have dW : (W != W) = false := by simp
  have HPL := hid hPL
  have HCH := hid hCH
  have HLA := hid hLA
  have HTA := hid hTA
  clear hPL hCH hLA hTA
  refine hER.mono ?_
  rintro e w1 ⟨rfl, hw1⟩
  have hf1 : Below w.heap.size w w1 := hb1.trans (hw1.mono hb1.size)
  have a0 := (hw1.cell (World.block_lt_of_cell? wb _ q0)).trans q0
  have a1 := (hw1.cell (World.block_lt_of_cell? wb _ q1)).trans q1
  clear hER hw1 q0 q1 hb1
  go_wp2_with fail
  refine (HPL.out w1 hf1).mono ?_
  rintro e w2 ⟨p1, k1, c1, rfl, hw2, hp0, hp1⟩
  have hf2 : Below w.heap.size w w2 := hf1.trans (hw2.mono hf1.size)
  have b0 := (hw2.cell (World.block_lt_of_cell? w1 _ a0)).trans a0
  have b1 := (hw2.cell (World.block_lt_of_cell? w1 _ a1)).trans a1
  have HP0 := hid hp0
  have HP1 := hid hp1
  clear hw2 hp0 hp1 a0 a1 hf1
  go_wp2_with fail
  refine (HCH.out w2 hf2).mono ?_
  rintro e w3 ⟨rfl, hw3⟩
  have hf3 : Below w.heap.size w w3 := hf2.trans (hw3.mono hf2.size)
  have a0 := (hw3.cell (World.block_lt_of_cell? w2 _ b0)).trans b0
  have a1 := (hw3.cell (World.block_lt_of_cell? w2 _ b1)).trans b1
  have HP0' := hid (fun (h : W = 0) => (show k1 = (placesOfM (gN B) ss who).length ∧ Pts w3 p1 (placesOfM (gN B) ss who) from ⟨(HP0.out h).1, (HP0.out h).2.below hw3⟩))
  clear hw3 HP0 b0 b1 hf2
  go_wp2_with fail
  refine (HLA.out w3 hf3).mono ?_
  rintro e w4 ⟨p2, k2, c2, E2, rfl, hw4, hz2, hl0, hl1⟩
  have hf4 : Below w.heap.size w w4 := hf3.trans (hw4.mono hf3.size)
  have b0 := (hw4.cell (World.block_lt_of_cell? w3 _ a0)).trans a0
  have b1 := (hw4.cell (World.block_lt_of_cell? w3 _ a1)).trans a1
  have HP2 := hid (fun (h : W = 0) => (show k1 = (placesOfM (gN B) ss who).length ∧ Pts w4 p1 (placesOfM (gN B) ss who) from ⟨(HP0'.out h).1, (HP0'.out h).2.below hw4⟩))
  have HL0 := hid hl0
  have HL1 := hid hl1
  clear hw4 HP0' a0 a1 hf3 hl0 hl1
  go_wp2_with fail
  refine (HTA.out w4 hf4).mono ?_
  rintro e w5 ⟨p3, k3, c3, E3, rfl, hw5, hz3, ht0, ht1⟩
  have hf5 : Below w.heap.size w w5 := hf4.trans (hw5.mono hf4.size)
  have a0 := (hw5.cell (World.block_lt_of_cell? w4 _ b0)).trans b0
  have a1 := (hw5.cell (World.block_lt_of_cell? w4 _ b1)).trans b1
  have HP3 := hid (fun (h : W = 0) => (show k1 = (placesOfM (gN B) ss who).length ∧ Pts w5 p1 (placesOfM (gN B) ss who) from ⟨(HP2.out h).1, (HP2.out h).2.below hw5⟩))
  have HT0 := hid ht0
  have HT1 := hid ht1
  have HW5 := hid hw5
  clear hw5 HP2 b0 b1 hf4 ht0 ht1
  by_cases hW0 : W = 0
  · obtain ⟨⟨hB1, hB2⟩, h100, hok⟩ := HGD.out hW0
    have hBm : B = (B.toNat : Int) := by omega
    have hm : B.toNat ≤ 12 := by omega
    have hgN : gN B = 12 * B.toNat := rfl
    obtain ⟨ek1, hPt⟩ := HP3.out hW0
    have hLD := HL1.out hW0
    have hTD := HT1.out hW0
    have d0 : (W != 0) = false := by simp [hW0]
    have hPO := placesof_any B who B.toNat (gN B) ss n c a w5 (hS.below hf5) HLEN.out.symm hBm hm hgN h100 hok
    have hLAI := fun (wz : World) (hbz : Below w5.heap.size w5 wz) => laid_any B E2 B.toNat (gN B) ss n c a ps ap np cp
    have HBM := hid hBm
    have HOK := hid hok
    have HGN := hid hgN
    have HLD := hid hLD
    have HTD := hid hTD
    have HEK := hid ek1
    have hLb : (placesOfM (gN B) ss who).length ≤ 2016 := by
      have h1 := placesTo_length (gN B) ss who 14
      have h2 : 14 * gN B ≤ 14 * 144 := Nat.mul_le_mul_left _ (by rw [hgN]; omega)
      unfold placesOfM
      omega
    obtain ⟨PL, ePL⟩ : ∃ PL, PL = placesOfM (gN B) ss who := ⟨_, rfl⟩
    have HPE := hid ePL
    rw [← ePL] at hPt hLb HEK hPO
    clear HL1 HT1 HL0 HT0 HP1 HP3 HPL HCH HLA HTA hBm hok hgN hLD hTD ek1 ePL hLAI HGD hB1 hB2
    obtain ⟨L, eL⟩ : ∃ L, L = PL.length := ⟨_, rfl⟩
    have HL := hid eL
    rw [← eL] at hLb HEK
    clear eL
    obtain rfl := HEK.out
    clear HEK
    go_wp2_with fail
    refine hPO.mono ?_
    rintro e w6 ⟨v, rfl, hO, hw6⟩
    obtain ⟨aq, cq, rfl, -, -⟩ := hO.shape
    have hf6 : Below w.heap.size w w6 := hf5.trans (hw6.mono hf5.size)
    have hPt6 := hPt.below hw6
    have hQt6 := OwnT.pts hO
    have e0 := (hw6.cell (World.block_lt_of_cell? w5 _ a0)).trans a0
    have e1 := (hw6.cell (World.block_lt_of_cell? w5 _ a1)).trans a1
    have HW6 := hid hw6
    rw [← HL.out]
    have dL : ((k1 : Int) != (k1 : Int)) = false := by simp
    clear hPO hO hPt a0 a1 hw6 hf5
    go_wp2_with fail
    clear hW0 dW d0 dL
    go_loopw [17] (fun q wr => ∃ i : Nat, i ≤ k1 ∧ q = .int .i64 i ∧ Below w6.heap.size w6 wr) (fun q _ => k1 - (intOf q).toNat)
    case atStart => exact ⟨0, Nat.zero_le _, rfl, Below.refl _ _⟩
    case round =>
      obtain ⟨i, hi, rfl, hbel⟩ := hrel
      by_cases hlt : i < k1
      · have hil : i < PL.length := by rw [← HL.out]; exact hlt
        obtain ⟨g1, o1, rfl, hc1⟩ := (hPt6.below hbel).at hil
        obtain ⟨g2, o2, rfl, hc2⟩ := (hQt6.below hbel).at hil
        have d1 := hc1 i hil
        have d2 := hc2 i hil
        obtain ⟨px, epx⟩ : ∃ px, px = PL.getD i (0, 0) := ⟨_, rfl⟩
        rw [← epx] at d1 d2
        have HLT := hid hlt
        clear hc1 hc2 epx hil
        go_upto_region 15 with fail
        have hc : ∀ (wc : World), Below wr.heap.size wr wc → ∀ q v, wr.cell? q = some v → wc.cell? q = some v := fun wc hbc q v h => (hbc.cell (World.block_lt_of_cell? wr _ h)).trans h
        refine wp_mono (region_known3 9 [(87, .slice (some ⟨g1, o1, none⟩) k1 c1), (88, .int .i64 i), (89, .pointer (some ⟨g1, o1 + i * 2, none⟩)), (90, .agg #[.int .i64 px.1, .int .i64 px.2]), (91, .slice (some ⟨g2, o2, none⟩) k1 cq), (92, .int .i64 i), (93, .pointer (some ⟨g2, o2 + i * 2, none⟩)), (94, .agg #[.int .i64 px.1, .int .i64 px.2]), (95, .bool false)]
            [[10], [17], [87, 88], [89], [16], [17], [91, 92], [93], [90, 94]] wr hmix rfl rfl (show ([87, 88, 89, 90, 91, 92, 93, 94, 95] : List Nat).Nodup by decide) (by kernel_rfl) (by kernel_rfl) (by kernel_rfl) (by kernel_rfl) (fun i' hi' ac wd hbc hr Q K hK => by
            have hcs : i' = 0 ∨ i' = 1 ∨ i' = 2 ∨ i' = 3 ∨ i' = 4 ∨ i' = 5 ∨ i' = 6 ∨ i' = 7 ∨ i' = 8 := by omega
            rcases hcs with rfl | rfl | rfl | rfl | rfl | rfl | rfl | rfl | rfl
            · exact op_value rfl rfl (run_moveQ wd rfl (hr 10 (by decide))) (hK wd hbc)
            · exact op_value rfl rfl (run_moveQ wd rfl (hr 17 (by decide))) (hK wd hbc)
            · exact op_value rfl rfl (run_idxPl wd rfl (hr 87 (by decide)) (hr 88 (by decide)) HLT.out) (hK wd hbc)
            · exact op_value rfl rfl (run_loadPl wd rfl (hr 89 (by decide)) ⟨hc wd hbc _ _ d1.1, hc wd hbc _ _ d1.2⟩) (hK wd hbc)
            · exact op_value rfl rfl (run_moveQ wd rfl (hr 16 (by decide))) (hK wd hbc)
            · exact op_value rfl rfl (run_moveQ wd rfl (hr 17 (by decide))) (hK wd hbc)
            · exact op_value rfl rfl (run_idxPl wd rfl (hr 91 (by decide)) (hr 92 (by decide)) HLT.out) (hK wd hbc)
            · exact op_value rfl rfl (run_loadPl wd rfl (hr 93 (by decide)) ⟨hc wd hbc _ _ d2.1, hc wd hbc _ _ d2.2⟩) (hK wd hbc)
            · exact op_value rfl rfl (run_neqPl wd rfl (hr 90 (by decide)) (hr 94 (by decide))) (hK wd hbc))) ?_
        rintro e a' w' ⟨rfl, rfl, hbw'⟩
        have hbel' : Below w6.heap.size w6 w' := hbel.trans (hbw'.mono hbel.size)
        dsimp only [setAll, List.set]
        clear hbw' hbel hc d1 d2
        go_wp2
        go_roundw
        case rel =>
          have := HLT.out
          first | exact ⟨i + 1, by omega, by go_num, hbel'⟩ | ((repeat apply Exists.intro); exact ⟨⟨i + 1, by omega, by go_num, hbel'⟩, rfl⟩)
        case measure =>
          have := HLT.out
          simp [intOf]
          omega
      · obtain rfl : k1 = i := by omega
        have hf7 : Below w.heap.size w wr := hf6.trans (hbel.mono hf6.size)
        have hw5r : Below w5.heap.size w5 wr := HW6.out.trans (hbel.mono HW6.out.size)
        have hw4r : Below w4.heap.size w4 wr := HW5.out.trans (hw5r.mono HW5.out.size)
        obtain ⟨ls, hGd⟩ : ∃ ls, (NoDups ps np → (∀ i, i < np → (prAt ps i).pts.length = (placesOfM (gN B) ss (prAt ps i).who).length) → E2 = 0 ∧ k2 = 14 ∧ RowsP wr p2 ls ∧ ls.length = 14 ∧ (∀ t, t < 14 → (rowAt ls t).length = gN B) ∧ ∀ t, t < 14 → ∀ z, z < gN B → (rowAt ls t).getD z (0, 0) = layAt (gN B) ss ps t z) := by
          by_cases h : NoDups ps np ∧ ∀ i, i < np → (prAt ps i).pts.length = (placesOfM (gN B) ss (prAt ps i).who).length
          · obtain ⟨h1, h2, ls, h3, h4, h5, h6⟩ := HLD.out.2.2 h.1 h.2
            exact ⟨ls, fun _ _ => ⟨h1, h2, h3.below hw4r, h4, h5, h6⟩⟩
          · exact ⟨[], fun a b => absurd ⟨a, b⟩ h⟩
        have hLAI := laid_any B E2 B.toNat (gN B) ss n c a ps ap np cp ls p2 k2 c2 wr (hS.below hf7) HLEN.out.symm HBM.out hm HGN.out h100 HOK.out (hP.below hf7) HLENP.out.symm hzp (fun i hi => HPZ.out i (by rw [← HLENP.out]; exact hi)) hz2 HLD.out.1 HLD.out.2.1 hGd
        have hTAK := fun (wz : World) (hbz : Below wr.heap.size wr wz) => taken_any B who E3 B.toNat (gN B) ss n c a rs ar nr cr p3 k3 c3 wz ((hS.below hf7).below hbz) HLEN.out.symm HBM.out hm HGN.out h100 HOK.out ((hR.below hf7).below hbz) HLENR.out.symm hzr (fun i hi => HRZ.out i (by rw [← HLENR.out]; exact hi)) hz3 HTD.out.1 (fun h => ⟨(HTD.out.2 h).1, (HTD.out.2 h).2.1, ((HTD.out.2 h).2.2.below hw5r).below hbz⟩)
        have j0 := (hbel.cell (World.block_lt_of_cell? w6 _ e0)).trans e0
        have j1 := (hbel.cell (World.block_lt_of_cell? w6 _ e1)).trans e1
        have HTAK := hid hTAK
        clear hGd hTAK HLD HTD HBM HOK HGN hPt6 hQt6 e0 e1 hw4r hw5r hlt hi
        go_wp2_with fail
        refine hLAI.mono ?_
        rintro e w8 ⟨rfl, hw8⟩
        have hTK := HTAK.out w8 hw8
        have hf8 : Below w.heap.size w w8 := hf7.trans (hw8.mono hf7.size)
        have l0 := (hw8.cell (World.block_lt_of_cell? wr _ j0)).trans j0
        have l1 := (hw8.cell (World.block_lt_of_cell? wr _ j1)).trans j1
        clear hLAI HTAK hw8 j0 j1 hf7 hbel hf6
        go_wp2_with fail
        refine hTK.mono ?_
        rintro e w9 ⟨rfl, hw9⟩
        have hf9 : Below w.heap.size w w9 := hf8.trans (hw9.mono hf8.size)
        clear hTK hw9 l0 l1 hf8
        go_wp2_with fail
        go_ret
        exact ⟨rfl, hf9⟩
  · have d0 : (W != 0) = true := by simp [hW0]
    obtain ⟨rfl, rfl⟩ := HL0.out hW0
    obtain ⟨rfl, rfl⟩ := HT0.out hW0
    obtain rfl := HP1.out hW0
    have d2 : (E3 == E3) = true := by simp
    clear HL0 HT0 HP1 HL1 HT1 HP3 HGD HPL HCH HLA HTA
    go_wp2_with fail
    go_ret
    exact ⟨rfl, hf5⟩
end Go.Proofs.Ytjpohfghibhkiad
