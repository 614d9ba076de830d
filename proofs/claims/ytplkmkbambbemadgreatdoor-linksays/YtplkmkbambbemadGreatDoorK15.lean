import Derived.Test.YtplkmkbambbemadGreatDoorK11
import Derived.Test.YtplkmkbambbemadGreatDoorK02
import Derived.Test.YtplkmkbambbemadGreatDoorK04
import Derived.Test.YtplkmkbambbemadGreatDoorK10
import Derived.Test.YtplkmkbambbemadGreatDoorK01
namespace Go.Proofs.YtplkmkbambbemadGreatDoor
open Go.ChangeShapes Go.WideShapes Go.ChangeAt Go.RowKit Go.Shelf
/-- The least square of a distance to a point whose k-th bit is x, among the first j (-1: to none yet). -/
def bestTo (h order : Nat) (p : Int × Int) (k : Nat) (x : Int) : Nat → Int
  | 0 => -1
  | j + 1 => if ((wordsM order).getD j []).getD k 0 = x ∧ (bestTo h order p k x j < 0 ∨ farM p (ptM h ((wordsM order).getD j [])) < bestTo h order p k x j) then farM p (ptM h ((wordsM order).getD j [])) else bestTo h order p k x j
def heardAt5 (h order : Nat) (p : Int × Int) (k : Nat) : Int := bestTo h order p k 1 (2 ^ order) - bestTo h order p k 0 (2 ^ order)
def heardOf (h order : Nat) (p : Int × Int) (k : Nat) : List Int := (List.range k).map (heardAt5 h order p)
def heardM (h order : Nat) (ps : List (Int × Int)) (n : Nat) : List Int := (ps.take n).flatMap fun p => heardOf h order p order
theorem heardOf_succ (h order : Nat) (p : Int × Int) (k : Nat) : heardOf h order p (k + 1) = heardOf h order p k ++ [heardAt5 h order p k] := by simp [heardOf, List.range_succ]
theorem heardM_succ {h order : Nat} {ps : List (Int × Int)} {n : Nat} (hn : n < ps.length) : heardM h order ps (n + 1) = heardM h order ps n ++ heardOf h order (ps.getD n (0, 0)) order := by
  unfold heardM
  rw [List.take_succ_eq_append_getElem hn, List.flatMap_append]
  simp [List.getD, hn]
theorem heardM_length (h order : Nat) (ps : List (Int × Int)) : ∀ n, n ≤ ps.length → (heardM h order ps n).length = n * order
  | 0, _ => by simp [heardM]
  | n + 1, hn => by rw [heardM_succ (by omega), List.length_append, heardM_length h order ps n (by omega), Nat.add_mul]; simp [heardOf]
theorem ptM_bd (h : Nat) (l : List Int) (hh : h ≤ 3) : (-1000 ≤ (ptM h l).1 ∧ (ptM h l).1 ≤ 1000) ∧ -1000 ≤ (ptM h l).2 ∧ (ptM h l).2 ≤ 1000 := by
  have h1 := sideR_bd l 0 h hh
  have h2 := sideR_bd l 1 h hh
  unfold ptM
  simp only
  omega
theorem farM_bd {p q : Int × Int} (hp : (-1000 ≤ p.1 ∧ p.1 ≤ 1000) ∧ -1000 ≤ p.2 ∧ p.2 ≤ 1000) (hq : (-1000 ≤ q.1 ∧ q.1 ≤ 1000) ∧ -1000 ≤ q.2 ∧ q.2 ≤ 1000) : 0 ≤ farM p q ∧ farM p q ≤ 8000000 := by
  have sq : ∀ z : Int, -2000 ≤ z ∧ z ≤ 2000 → 0 ≤ z * z ∧ z * z ≤ 4000000 := fun z hz => by
    have h1 : z * z = (z.natAbs * z.natAbs : Nat) := by rw [Int.natAbs_mul_self]
    have h2 : z.natAbs * z.natAbs ≤ 2000 * 2000 := Nat.mul_le_mul (by omega) (by omega)
    omega
  have h1 := sq (p.1 - q.1) (by omega)
  have h2 := sq (p.2 - q.2) (by omega)
  unfold farM
  omega
theorem bestTo_bd {h order : Nat} {p : Int × Int} (hh : h ≤ 3) (hp : (-1000 ≤ p.1 ∧ p.1 ≤ 1000) ∧ -1000 ≤ p.2 ∧ p.2 ≤ 1000) (k : Nat) (x : Int) : ∀ j, -1 ≤ bestTo h order p k x j ∧ bestTo h order p k x j ≤ 8000000
  | 0 => by simp [bestTo]
  | j + 1 => by
    have h1 := farM_bd hp (ptM_bd h ((wordsM order).getD j []) hh)
    have h2 := bestTo_bd (order := order) hh hp k x j
    unfold bestTo
    split <;> omega
theorem getD_memW {l : List Int} {k : Nat} (h : k < l.length) : l.getD k 0 ∈ l := by
  have e : l.getD k 0 = l[k] := by simp [List.getD, h]
  rw [e]
  exact List.getElem_mem h
theorem run_idxP {ρ : Operand → Value} (w : World) {o : Oper} {x y : Operand} {g s j n c : Nat} (ho : o.op = .indexAddr 24 x y) (h : ρ x = .slice (some ⟨g, s, none⟩) n c) (h' : ρ y = .int .i64 j) (hj : j < n) : (execOp ρ o).run Tryz.prog w = .ok (.value (.pointer (some ⟨g, s + j * 2, none⟩))) w := by
  unfold execOp
  simp only [ho, h, h']
  simp [go_sem, Tryz.underlying24, hj]
theorem run_loadP {ρ : Operand → Value} (w : World) {o : Oper} {x : Operand} {g s : Nat} {p : Int × Int} (ho : o.op = .load 29 x) (h : ρ x = .pointer (some ⟨g, s, none⟩)) (hc : w.cell? ⟨g, s, none⟩ = some (.int .i64 p.1) ∧ w.cell? ⟨g, s + 1, none⟩ = some (.int .i64 p.2)) : (execOp ρ o).run Tryz.prog w = .ok (.value (.agg #[.int .i64 p.1, .int .i64 p.2])) w := by
  unfold execOp
  have hr := run_loadVar_mid w g s 29 [.int .i64 p.1, .int .i64 p.2] _ (pts_range hc) Tryz.underlying29 rfl (by kernel_rfl)
  simp only [ho, h, Instr.loadAt, Instr.sureAddr, Sem.run_bind, Sem.run_pure, Result.andThen_ok, hr]
set_option maxRecDepth 100000 in
set_option maxHeartbeats 4000000 in
theorem rheard_any (order h : Nat) (ps : List (Int × Int)) (a : Option Addr) (n c : Nat) (w : World) (ho : order = 2 * h) (h1 : 1 ≤ h) (hh : h ≤ 3) (ha : Pts w a ps) (hn : ps.length = n) (hn4 : n ≤ 4096) (hin : PtsIn 1000 ps) :
    Calls Tryz.prog 86 #[.slice a n c, .int .i64 order] w fun e w' => ∃ v, e = .returned v ∧ OwnI w' w.heap.size v (heardM h order ps n) ∧ Below w.heap.size w w' := by
  have ho6 : order ≤ 6 := by omega
  have ho1 : 2 ≤ order := by omega
  have HN := hid hn
  have hcon := constellation_any order h w ho h1 hh
  clear hn ho
  go_enter Tryz.func86, Tryz.ntmps86
  go_wp2_with fail
  refine hcon.mono ?_
  rintro e w1 ⟨v4, v8, vs4, rfl, hown4, hrow4, hown8, hb1⟩
  have hl4 : vs4.length = 2 ^ order := by rw [hrow4.1, wordsM_length]
  have hl8 : ((wordsM order).map fun l => (sideR l 0 h, sideR l 1 h)).length = 2 ^ order := by rw [List.length_map, wordsM_length]
  have hp1 : 1 ≤ 2 ^ order := Nat.one_le_two_pow
  have hp6 : 2 ^ order ≤ 64 := Nat.le_trans (Nat.pow_le_pow_right (by decide) ho6) (by decide)
  obtain ⟨gL, cL, e4, hc4, hm4, hg4⟩ := hown4.shape1 (by omega)
  obtain ⟨aP, cP, e8, hc8, hm8⟩ := hown8.shape
  subst e4
  subst e8
  have hptsP := hown8.pts
  rw [hl4] at hown4 hc4
  rw [hl8] at hc8
  obtain ⟨nL, enL⟩ : ∃ nL, nL = 2 ^ order := ⟨_, rfl⟩
  rw [← enL] at hl4 hl8 hp1 hp6 hown4 hc4 hc8
  rw [hl4, hl8]
  have HNL := hid enL
  unfold maxLen at hm4 hm8
  clear enL hown8 hcon
  obtain ⟨gP, oP, rfl, hcp⟩ := hptsP.at (i := 0) (by omega)
  clear hcp
  go_wp2
  go_loopw [7, 8] (fun v q wr => ∃ i : Nat, i ≤ n ∧ q = .int .i64 i ∧ OwnI wr w1.heap.size v (heardM h order ps i) ∧ Below w1.heap.size w1 wr) (fun _ q _ => n - (intOf q).toNat)
  case atStart => exact ⟨0, Nat.zero_le _, rfl, OwnI.nil _ _, Below.refl _ _⟩
  case round =>
    obtain ⟨i, hi, rfl, hown7, hbel⟩ := hrel
    by_cases hlt : i < n
    · have hlt' : i < ps.length := by rw [HN.out]; exact hlt
      have HIN := hid hlt
      have HSI := hid (heardM_succ (h := h) (order := order) hlt')
      have HLI := hid (heardM_length h order ps i (by omega))
      have hpb := hin i
      obtain ⟨ga, oa, rfl, hca⟩ := ((ha.below hb1).below hbel).at hlt'
      clear hca
      obtain ⟨p, ep⟩ : ∃ p, p = ps.getD i (0, 0) := ⟨_, rfl⟩
      rw [← ep] at hpb HSI
      have HP := hid ep
      clear ep
      go_wp2
      go_loopw [7, 9] (fun v q ws => ∃ k : Nat, k ≤ order ∧ q = .int .i64 k ∧ OwnI ws w1.heap.size v (heardM h order ps i ++ heardOf h order p k) ∧ Below w1.heap.size w1 ws) (fun _ q _ => order - (intOf q).toNat)
      case atStart => exact ⟨0, Nat.zero_le _, rfl, by simpa [heardOf] using hown7, hbel⟩
      case round =>
        clear hown7 hbel
        obtain ⟨k, hk, rfl, hown7, hbel⟩ := hrel
        by_cases hkl : k < order
        · have HKO := hid hkl
          go_wp2
          go_loopw [10, 11, 12] (fun q1 q2 q3 ws => ∃ j : Nat, j ≤ nL ∧ q1 = .int .i64 (bestTo h order p k 1 j) ∧ q2 = .int .i64 (bestTo h order p k 0 j) ∧ q3 = .int .i64 j ∧ OwnI ws w1.heap.size u7 (heardM h order ps i ++ heardOf h order p k) ∧ Below w1.heap.size w1 ws) (fun _ _ q3 _ => nL - (intOf q3).toNat)
          case atStart => exact ⟨0, Nat.zero_le _, rfl, rfl, rfl, hown7, hbel⟩
          case round =>
            clear hown7 hbel
            obtain ⟨j, hj, rfl, rfl, rfl, hown7, hbel⟩ := hrel
            by_cases hjl : j < nL
            · have hjl' : j < (wordsM order).length := by rw [wordsM_length]; have := HNL.out; omega
              have hjv : j < vs4.length := by omega
              have hcell := (hown4.below hbel).cell hjv
              have hOi := (hrow4.below hbel).2 j hjl'
              obtain ⟨ai, ci, ei, hai, hci, hmi⟩ := hOi.shape
              have hmem := words_at (k := order) (i := j) (by rw [← HNL.out]; exact hjl)
              have hwl : ((wordsM order).getD j []).length = order := words_len hmem
              obtain ⟨gw, rfl⟩ := hai (by intro h0; rw [h0] at hwl; simp at hwl; omega)
              rw [ei] at hcell hOi
              obtain ⟨gw', ow, ew, hbc0⟩ := hOi.rd.at (i := k) (by rw [hwl]; exact hkl)
              simp at ew
              obtain ⟨rfl, rfl⟩ := ew
              have hbit := hbc0 k (by rw [hwl]; exact hkl)
              rw [Nat.zero_add] at hbit
              have hz01 : ((wordsM order).getD j []).getD k 0 = 0 ∨ ((wordsM order).getD j []).getD k 0 = 1 := words_bits hmem _ (getD_memW (by rw [hwl]; exact hkl))
              have hca := ((((ha.below hb1).below hbel).at (by rw [HN.out]; exact HIN.out)))
              obtain ⟨ga', oa', ea, hca⟩ := hca
              simp at ea
              obtain ⟨rfl, rfl⟩ := ea
              have hpi := hca i (by rw [HN.out]; exact HIN.out)
              rw [← HP.out] at hpi
              obtain ⟨gP', oP', eP, hcp⟩ := (hptsP.below hbel).at (i := j) (by rw [hl8]; exact hjl)
              simp at eP
              obtain ⟨rfl, rfl⟩ := eP
              have hpj := hcp j (by rw [hl8]; exact hjl)
              have epk : ((wordsM order).map fun l => (sideR l 0 h, sideR l 1 h)).getD j (0, 0) = ptM h ((wordsM order).getD j []) := by
                simp [List.getD, hjl', ptM]
              rw [epk] at hpj
              have hqb := ptM_bd h ((wordsM order).getD j []) hh
              have HB1 := hid (show bestTo h order p k 1 (j + 1) = if ((wordsM order).getD j []).getD k 0 = 1 ∧ (bestTo h order p k 1 j < 0 ∨ farM p (ptM h ((wordsM order).getD j [])) < bestTo h order p k 1 j) then farM p (ptM h ((wordsM order).getD j [])) else bestTo h order p k 1 j from rfl)
              have HB0 := hid (show bestTo h order p k 0 (j + 1) = if ((wordsM order).getD j []).getD k 0 = 0 ∧ (bestTo h order p k 0 j < 0 ∨ farM p (ptM h ((wordsM order).getD j [])) < bestTo h order p k 0 j) then farM p (ptM h ((wordsM order).getD j [])) else bestTo h order p k 0 j from rfl)
              rw [hwl] at hcell
              generalize ptM h ((wordsM order).getD j []) = pj at *
              obtain ⟨z, ez⟩ : ∃ z, z = ((wordsM order).getD j []).getD k 0 := ⟨_, rfl⟩
              rw [← ez] at hbit hz01 HB1 HB0
              obtain ⟨B1, e1⟩ : ∃ B1, B1 = bestTo h order p k 1 j := ⟨_, rfl⟩
              obtain ⟨B0, e0⟩ : ∃ B0, B0 = bestTo h order p k 0 j := ⟨_, rfl⟩
              rw [← e1] at HB1
              rw [← e0] at HB0
              rw [← e1, ← e0]
              have hfar := fun w => rfar_any p pj w hpb hqb
              obtain ⟨d, ed⟩ : ∃ d, d = farM p pj := ⟨_, rfl⟩
              rw [← ed] at hfar HB1 HB0
              have hmix : Tryz.prog.follows .mixedOrders = true := by kernel_rfl
              have hE : Enters Tryz.prog 118 := enters_of Tryz.func118 (by kernel_rfl) rfl
              clear hcp hca epk ez e1 e0 ed hbc0 hOi hmem
              go_upto_region 13 with fail
              refine wp_mono (region_known3 10 [(36, .slice (some ⟨ga, oa, none⟩) n c), (37, .int .i64 i), (38, .pointer (some ⟨ga, oa + i * 2, none⟩)), (39, .agg #[.int .i64 p.1, .int .i64 p.2]), (40, .slice (some ⟨gP, oP, none⟩) nL cP), (41, .int .i64 j), (42, .pointer (some ⟨gP, oP + j * 2, none⟩)), (43, .agg #[.int .i64 pj.1, .int .i64 pj.2]), (44, .int .i64 d), (13, .int .i64 d)] [[0], [8], [36, 37], [38], [6], [12], [40, 41], [42], [39, 43], [44]] wr hmix rfl rfl (show ([36, 37, 38, 39, 40, 41, 42, 43, 44, 13] : List Nat).Nodup by decide) rfl (by kernel_rfl) (by kernel_rfl) rfl (fun i' hi' ac wc hbc hr Q K hK => by
                  have h10 : i' = 0 ∨ i' = 1 ∨ i' = 2 ∨ i' = 3 ∨ i' = 4 ∨ i' = 5 ∨ i' = 6 ∨ i' = 7 ∨ i' = 8 ∨ i' = 9 := by omega
                  rcases h10 with rfl | rfl | rfl | rfl | rfl | rfl | rfl | rfl | rfl | rfl
                  · exact op_value rfl rfl (run_moveQ wc rfl (hr 0 (by decide))) (hK wc hbc)
                  · exact op_value rfl rfl (run_moveQ wc rfl (hr 8 (by decide))) (hK wc hbc)
                  · exact op_value rfl rfl (run_idxP wc rfl (hr 36 (by decide)) (hr 37 (by decide)) HIN.out) (hK wc hbc)
                  · exact op_value rfl rfl (run_loadP wc rfl (hr 38 (by decide)) ⟨(hbc.cell (World.block_lt_of_cell? wr _ hpi.1)).trans hpi.1, (hbc.cell (World.block_lt_of_cell? wr _ hpi.2)).trans hpi.2⟩) (hK wc hbc)
                  · exact op_value rfl rfl (run_moveQ wc rfl (hr 6 (by decide))) (hK wc hbc)
                  · exact op_value rfl rfl (run_moveQ wc rfl (hr 12 (by decide))) (hK wc hbc)
                  · exact op_value rfl rfl (run_idxP wc rfl (hr 40 (by decide)) (hr 41 (by decide)) hjl) (hK wc hbc)
                  · exact op_value rfl rfl (run_loadP wc rfl (hr 42 (by decide)) ⟨(hbc.cell (World.block_lt_of_cell? wr _ hpj.1)).trans hpj.1, (hbc.cell (World.block_lt_of_cell? wr _ hpj.2)).trans hpj.2⟩) (hK wc hbc)
                  · refine op_call2 rfl rfl rfl hE (hr 39 (by decide)) (hr 43 (by decide)) (hfar wc) fun e w' hr' => ?_
                    obtain ⟨rfl, hb'⟩ := hr'
                    exact ⟨_, rfl, hK w' (bthen hbc hb')⟩
                  · exact op_value rfl rfl (run_assignQ wc rfl (hr 44 (by decide))) (hK wc hbc))) ?_
              rintro e a' w' ⟨rfl, rfl, hbw⟩
              have hown7' := hown7.below hbw
              have hbel' : Below w1.heap.size w1 w' := hbel.trans (hbw.mono hbel.size)
              have c1 := (hbw.cell (World.block_lt_of_cell? wr _ hcell)).trans hcell
              have c2 := (hbw.cell (World.block_lt_of_cell? wr _ hbit)).trans hbit
              have HJL := hid hjl
              dsimp only [setAll, List.set]
              clear hown7 hbel hcell hbit hpi hpj hfar
              rcases hz01 with rfl | rfl
              · by_cases n1 : B0 < 0
                · have q1 : decide (B0 < 0) = true := decide_eq_true n1
                  have HO1 := hid (show B1 = bestTo h order p k 1 (j + 1) by rw [HB1.out]; rw [if_neg (by omega)])
                  have HO0 := hid (show d = bestTo h order p k 0 (j + 1) by rw [HB0.out]; rw [if_pos (by omega)])
                  clear HB1 HB0 n1
                  go_wp2
                  go_roundw
                  case rel =>
                    have := HJL.out
                    first | exact ⟨j + 1, by omega, by rw [← HO1.out], by rw [← HO0.out], by go_num, hown7', hbel'⟩ | ((repeat apply Exists.intro); exact ⟨⟨j + 1, by omega, by rw [← HO1.out], by rw [← HO0.out], by go_num, hown7', hbel'⟩, rfl⟩)
                  case measure =>
                    have := HJL.out
                    simp [intOf]
                    omega
                · have q1 : decide (B0 < 0) = false := decide_eq_false n1
                  by_cases n2 : d < B0
                  · have q2 : decide (d < B0) = true := decide_eq_true n2
                    have HO1 := hid (show B1 = bestTo h order p k 1 (j + 1) by rw [HB1.out]; rw [if_neg (by omega)])
                    have HO0 := hid (show d = bestTo h order p k 0 (j + 1) by rw [HB0.out]; rw [if_pos (by omega)])
                    clear HB1 HB0 n1 n2
                    go_wp2
                    go_roundw
                    case rel =>
                      have := HJL.out
                      first | exact ⟨j + 1, by omega, by rw [← HO1.out], by rw [← HO0.out], by go_num, hown7', hbel'⟩ | ((repeat apply Exists.intro); exact ⟨⟨j + 1, by omega, by rw [← HO1.out], by rw [← HO0.out], by go_num, hown7', hbel'⟩, rfl⟩)
                    case measure =>
                      have := HJL.out
                      simp [intOf]
                      omega
                  · have q2 : decide (d < B0) = false := decide_eq_false n2
                    have HO1 := hid (show B1 = bestTo h order p k 1 (j + 1) by rw [HB1.out]; rw [if_neg (by omega)])
                    have HO0 := hid (show B0 = bestTo h order p k 0 (j + 1) by rw [HB0.out]; rw [if_neg (by omega)])
                    clear HB1 HB0 n1 n2
                    go_wp2
                    go_roundw
                    case rel =>
                      have := HJL.out
                      first | exact ⟨j + 1, by omega, by rw [← HO1.out], by rw [← HO0.out], by go_num, hown7', hbel'⟩ | ((repeat apply Exists.intro); exact ⟨⟨j + 1, by omega, by rw [← HO1.out], by rw [← HO0.out], by go_num, hown7', hbel'⟩, rfl⟩)
                    case measure =>
                      have := HJL.out
                      simp [intOf]
                      omega
              · by_cases n1 : B1 < 0
                · have q1 : decide (B1 < 0) = true := decide_eq_true n1
                  have HO1 := hid (show d = bestTo h order p k 1 (j + 1) by rw [HB1.out]; rw [if_pos (by omega)])
                  have HO0 := hid (show B0 = bestTo h order p k 0 (j + 1) by rw [HB0.out]; rw [if_neg (by omega)])
                  clear HB1 HB0 n1
                  go_wp2
                  go_roundw
                  case rel =>
                    have := HJL.out
                    first | exact ⟨j + 1, by omega, by rw [← HO1.out], by rw [← HO0.out], by go_num, hown7', hbel'⟩ | ((repeat apply Exists.intro); exact ⟨⟨j + 1, by omega, by rw [← HO1.out], by rw [← HO0.out], by go_num, hown7', hbel'⟩, rfl⟩)
                  case measure =>
                    have := HJL.out
                    simp [intOf]
                    omega
                · have q1 : decide (B1 < 0) = false := decide_eq_false n1
                  by_cases n2 : d < B1
                  · have q2 : decide (d < B1) = true := decide_eq_true n2
                    have HO1 := hid (show d = bestTo h order p k 1 (j + 1) by rw [HB1.out]; rw [if_pos (by omega)])
                    have HO0 := hid (show B0 = bestTo h order p k 0 (j + 1) by rw [HB0.out]; rw [if_neg (by omega)])
                    clear HB1 HB0 n1 n2
                    go_wp2
                    go_roundw
                    case rel =>
                      have := HJL.out
                      first | exact ⟨j + 1, by omega, by rw [← HO1.out], by rw [← HO0.out], by go_num, hown7', hbel'⟩ | ((repeat apply Exists.intro); exact ⟨⟨j + 1, by omega, by rw [← HO1.out], by rw [← HO0.out], by go_num, hown7', hbel'⟩, rfl⟩)
                    case measure =>
                      have := HJL.out
                      simp [intOf]
                      omega
                  · have q2 : decide (d < B1) = false := decide_eq_false n2
                    have HO1 := hid (show B1 = bestTo h order p k 1 (j + 1) by rw [HB1.out]; rw [if_neg (by omega)])
                    have HO0 := hid (show B0 = bestTo h order p k 0 (j + 1) by rw [HB0.out]; rw [if_neg (by omega)])
                    clear HB1 HB0 n1 n2
                    go_wp2
                    go_roundw
                    case rel =>
                      have := HJL.out
                      first | exact ⟨j + 1, by omega, by rw [← HO1.out], by rw [← HO0.out], by go_num, hown7', hbel'⟩ | ((repeat apply Exists.intro); exact ⟨⟨j + 1, by omega, by rw [← HO1.out], by rw [← HO0.out], by go_num, hown7', hbel'⟩, rfl⟩)
                    case measure =>
                      have := HJL.out
                      simp [intOf]
                      omega
            · have hjn : j = nL := by omega
              have hk1 := bestTo_bd (order := order) hh hpb k 1 j
              have hk0 := bestTo_bd (order := order) hh hpb k 0 j
              have HA := hid (show bestTo h order p k 1 j - bestTo h order p k 0 j = heardAt5 h order p k by unfold heardAt5; rw [hjn, HNL.out])
              have HLL : Hid ((heardM h order ps i ++ heardOf h order p k).length < 17592186044416) := by
                unfold Hid
                rw [List.length_append, HLI.out]
                have h1 : (heardOf h order p k).length = k := by simp [heardOf]
                have h2 : i * order ≤ 4096 * 6 := Nat.mul_le_mul (by have := HIN.out; omega) ho6
                omega
              obtain ⟨B1, e1⟩ : ∃ B1, B1 = bestTo h order p k 1 j := ⟨_, rfl⟩
              obtain ⟨B0, e0⟩ : ∃ B0, B0 = bestTo h order p k 0 j := ⟨_, rfl⟩
              rw [← e1] at HA hk1
              rw [← e0] at HA hk0
              rw [← e1, ← e0]
              clear e1 e0
              go_wp2_with (first | (at_builtin; refine wpList_pushL w1.heap.size w1 (B1 - B0) hown7 rfl _ _ rfl rfl rfl HLL.out hbel hbel.size ?_))
              intro v7 w2 hown7' hbel'
              rw [HA.out, ← heardOf_succ] at hown7'
              go_wp2
              go_roundw
              case rel =>
                have := HKO.out
                first | exact ⟨k + 1, by omega, by go_num, hown7', hbel'⟩ | ((repeat apply Exists.intro); exact ⟨⟨k + 1, by omega, by go_num, hown7', hbel'⟩, rfl⟩)
              case measure =>
                have := HKO.out
                simp [intOf]
                omega
        · have hko : k = order := by omega
          rw [hko, ← HSI.out] at hown7
          go_wp2
          go_roundw
          case rel =>
            have := HIN.out
            first | exact ⟨i + 1, by omega, by go_num, hown7, hbel⟩ | ((repeat apply Exists.intro); exact ⟨⟨i + 1, by omega, by go_num, hown7, hbel⟩, rfl⟩)
          case measure =>
            have := HIN.out
            simp [intOf]
            omega
    · have hin' : i = n := by omega
      subst hin'
      go_wp2
      go_ret
      exact ⟨_, rfl, hown7.mono hb1.size, bthen hb1 hbel⟩
end Go.Proofs.YtplkmkbambbemadGreatDoor
namespace Go.Proofs.YtplkmkbambbemadGreatDoor
open Go.ChangeShapes Go.WideShapes Go.ChangeAt Go.RowKit
theorem take_extP {xs ys : List (Int × Int)} {k : Nat} (hl : ys.length = xs.length) (hk : k < xs.length) (h : xs.take k = ys.take k) (he : xs.getD k (0, 0) = ys.getD k (0, 0)) : xs.take (k + 1) = ys.take (k + 1) := by
  rw [List.take_succ_eq_append_getElem hk, List.take_succ_eq_append_getElem (by omega), h]
  simp only [List.getD, List.getElem?_eq_getElem hk, List.getElem?_eq_getElem (show k < ys.length by omega), Option.getD_some] at he
  rw [he]
theorem ret_boolQ {a b : Bool} (h : a = b) : Ending.returned (.bool a) = .returned (.bool b) := by rw [h]
theorem run_eqP (w : World) (p1 p2 q1 q2 : Int) : (Op.equalIn 10000 29 (.agg #[.int .i64 p1, .int .i64 p2]) (.agg #[.int .i64 q1, .int .i64 q2])).run Tryz.prog w = .ok (p1 == q1 && p2 == q2) w := by
  have hf : Tryz.prog.underlying 29 = some (.struct (Tryz.prog.fieldsOf 29)) := by kernel_rfl
  rw [run_equalIn_struct w 9999 29 _ _ hf (by kernel_rfl)]
  simp only [Program.fieldsOf, Tryz.underlying29]
  simp [Op.eqFields, go_sem]
  by_cases h1 : p1 = q1
  · by_cases h2 : p2 = q2
    · simp [h1, h2]
    · simp [h1, h2]
  · simp [h1]
set_option maxHeartbeats 1000000 in
theorem same_points (xs ys : List (Int × Int)) (a b : Option Addr) (ca cb : Nat) (w : World) (ha : Pts w a xs) (hb : Pts w b ys) (hx : xs.length ≤ maxLen) (hy : ys.length ≤ maxLen) :
    Calls Tryz.prog 35 #[.slice a xs.length ca, .slice b ys.length cb] w fun e w' => e = .returned (.bool (decide (xs = ys))) ∧ Below w.heap.size w w' := by
  unfold maxLen at hx hy
  by_cases hl : ys.length = xs.length
  · have hne : (((xs.length : Nat) : Int) != ((ys.length : Nat) : Int)) = false := by rw [hl]; simp
    rw [hl] at hne ⊢
    clear hy
    have HL : Hid (ys.length = xs.length) := hl
    clear hl
    go_enter Tryz.func35, Tryz.ntmps35
    go_wp2
    go_loopw [5] (fun i wr => ∃ k : Nat, k ≤ xs.length ∧ i = .int .i64 k ∧ Hid (xs.take k = ys.take k) ∧ Below w.heap.size w wr) (fun i _ => xs.length - (intOf i).toNat)
    case atStart => exact ⟨0, Nat.zero_le _, rfl, rfl, Below.refl _ _⟩
    case round =>
      obtain ⟨k, hk, rfl, htk, hbel⟩ := hrel
      by_cases hlt : k < xs.length
      · obtain ⟨b1, o1, rfl, hc1⟩ := (ha.below hbel).at hlt
        obtain ⟨b2, o2, rfl, hc2⟩ := (hb.below hbel).at (i := k) (by rw [HL.out]; exact hlt)
        obtain ⟨g1, g1'⟩ := hc1 k hlt
        obtain ⟨g2, g2'⟩ := hc2 k (by rw [HL.out]; exact hlt)
        have hm : Tryz.prog.eqGuardType Tryz.prog.depth 29 = false := by kernel_rfl
        have HX := hid (show xs.getD k (0, 0) = ys.getD k (0, 0) ↔ (xs.getD k (0, 0)).1 = (ys.getD k (0, 0)).1 ∧ (xs.getD k (0, 0)).2 = (ys.getD k (0, 0)).2 from Prod.ext_iff)
        have hq := fun w => run_eqP w (xs.getD k (0, 0)).1 (xs.getD k (0, 0)).2 (ys.getD k (0, 0)).1 (ys.getD k (0, 0)).2
        obtain ⟨p1, e1⟩ : ∃ p1, p1 = (xs.getD k (0, 0)).1 := ⟨_, rfl⟩
        obtain ⟨p2, e2⟩ : ∃ p2, p2 = (xs.getD k (0, 0)).2 := ⟨_, rfl⟩
        obtain ⟨q1, e3⟩ : ∃ q1, q1 = (ys.getD k (0, 0)).1 := ⟨_, rfl⟩
        obtain ⟨q2, e4⟩ : ∃ q2, q2 = (ys.getD k (0, 0)).2 := ⟨_, rfl⟩
        rw [← e1] at g1 HX; simp only [← e1] at hq
        rw [← e2] at g1' HX; simp only [← e2] at hq
        rw [← e3] at g2 HX; simp only [← e3] at hq
        rw [← e4] at g2' HX; simp only [← e4] at hq
        clear hc1 hc2 e1 e2 e3 e4
        by_cases hpq : p1 = q1 ∧ p2 = q2
        · have hqt : (p1 == q1 && p2 == q2) = true := by simp [hpq.1, hpq.2]
          simp only [hqt] at hq
          have HE := hid (HX.out.2 hpq)
          clear hqt hpq HX
          go_wp2_with fail
          go_quiet (fail)
          go_wp2
          go_roundw
          case rel => first | exact ⟨k + 1, by omega, by go_num, take_extP HL.out hlt htk.out HE.out, below_drewN hbel _⟩ | ((repeat apply Exists.intro); exact ⟨⟨k + 1, by omega, by go_num, take_extP HL.out hlt htk.out HE.out, below_drewN hbel _⟩, rfl⟩)
          case measure => simp [intOf]; omega
        · have hqt : (p1 == q1 && p2 == q2) = false := by simpa using hpq
          simp only [hqt] at hq
          have HD := hid (show decide (xs = ys) = false from decide_eq_false (fun h => hpq (HX.out.1 (by rw [h]))))
          clear hqt hpq HX
          go_wp2_with fail
          go_quiet (fail)
          go_wp2
          go_ret
          exact ⟨ret_boolQ HD.out.symm, below_drewN hbel _⟩
      · have HD := hid (show decide (xs = ys) = true from decide_eq_true (by
          have h1 : k = xs.length := by omega
          have := htk.out
          rw [h1, List.take_length, ← HL.out, List.take_length] at this
          exact this))
        go_wp2
        go_ret
        exact ⟨ret_boolQ HD.out.symm, hbel⟩
  · have hne : (((xs.length : Nat) : Int) != ((ys.length : Nat) : Int)) = true := by simp; omega
    have hd : decide (xs = ys) = false := by simp; intro h; subst h; exact hl rfl
    rw [hd]
    clear hl
    go_enter Tryz.func35, Tryz.ntmps35
    go_wp2
    go_ret
    exact ⟨rfl, Below.refl _ _⟩
end Go.Proofs.YtplkmkbambbemadGreatDoor
namespace Go.Proofs.YtplkmkbambbemadGreatDoor
open Go.ChangeShapes Go.WideShapes Go.ChangeAt Go.RowKit
def ordOk5 (order : Int) : Bool := decide (order = 2 ∨ order = 4 ∨ order = 6)
def inSq (p : Int × Int) : Bool := decide ((-1000 ≤ p.1 ∧ p.1 ≤ 1000) ∧ -1000 ≤ p.2 ∧ p.2 ≤ 1000)
def hearsOk (ps : List (Int × Int)) (order : Int) : Bool := ordOk5 order && decide ((ps.length : Int) * order ≤ 4096) && ps.all inSq
def InTo (ps : List (Int × Int)) (k : Nat) : Prop := ∀ j, j < k → inSq (ps.getD j (0, 0)) = true
theorem all_inTo {ps : List (Int × Int)} {k : Nat} (hk : k = ps.length) (h : InTo ps k) : ps.all inSq = true := by
  rw [List.all_eq_true]
  intro p hp
  obtain ⟨i, hi, rfl⟩ := List.getElem_of_mem hp
  have := h i (by omega)
  simpa [List.getD, hi] using this
theorem not_all {ps : List (Int × Int)} {k : Nat} (hk : k < ps.length) (h : inSq (ps.getD k (0, 0)) = false) : ps.all inSq = false := by
  rw [List.all_eq_false]
  refine ⟨ps.getD k (0, 0), ?_, by rw [h]; simp⟩
  simp [List.getD, hk]
set_option maxHeartbeats 2000000 in
theorem rhears_any (ps : List (Int × Int)) (order : Int) (a : Option Addr) (c : Nat) (w : World) (ha : Pts w a ps) (hz : ps.length ≤ 8796093022208) :
    Calls Tryz.prog 85 #[.slice a ps.length c, .int .i64 order] w fun e w' => e = .returned (.bool (hearsOk ps order)) ∧ w = w' := by
  by_cases hO : order = 2 ∨ order = 4 ∨ order = 6
  · have hO' : ordOk5 order = true := decide_eq_true hO
    by_cases h4 : (ps.length : Int) * order ≤ 4096
    · have HV : Hid (∀ b, ps.all inSq = b → b = hearsOk ps order) := fun b hb => by unfold hearsOk; rw [hO', decide_eq_true h4, hb]; rfl
      obtain ⟨n, en⟩ : ∃ n, n = ps.length := ⟨_, rfl⟩
      rw [← en] at h4
      rw [← en]
      have HN := hid en
      have HH := hid (fun k (hk : k < ps.length) => not_all hk)
      clear en hz hO'
      rcases hO with rfl | rfl | rfl
      all_goals
        have hn4 : n ≤ 2048 := by omega
        go_enter Tryz.func85, Tryz.ntmps85
        go_wp2
        go_loopw [5] (fun i wr => ∃ k : Nat, k ≤ n ∧ i = .int .i64 k ∧ Hid (InTo ps k) ∧ w = wr) (fun i _ => n - (intOf i).toNat)
        case atStart => exact ⟨0, Nat.zero_le _, rfl, fun j hj => by omega, rfl⟩
        case round =>
          obtain ⟨k, hk, rfl, hin, rfl⟩ := hrel
          by_cases hlt : k < n
          · have hlt' : k < ps.length := by have := HN.out; omega
            obtain ⟨b1, o1, rfl, hc1⟩ := ha.at hlt'
            obtain ⟨g1, g1'⟩ := hc1 k hlt'
            have HX := hid (show inSq (ps.getD k (0, 0)) = decide ((-1000 ≤ (ps.getD k (0, 0)).1 ∧ (ps.getD k (0, 0)).1 ≤ 1000) ∧ -1000 ≤ (ps.getD k (0, 0)).2 ∧ (ps.getD k (0, 0)).2 ≤ 1000) from rfl)
            have HF := hid (HH.out k hlt')
            obtain ⟨x, e1⟩ : ∃ x, x = (ps.getD k (0, 0)).1 := ⟨_, rfl⟩
            obtain ⟨y, e2⟩ : ∃ y, y = (ps.getD k (0, 0)).2 := ⟨_, rfl⟩
            rw [← e1] at g1 HX
            rw [← e2] at g1' HX
            clear hc1 e1 e2 hlt'
            by_cases x1 : 1000 < x
            · have HE := hid (HV.out false (HF.out (by rw [HX.out]; exact decide_eq_false (by omega))))
              go_wp2
              go_ret
              exact ⟨ret_boolQ HE.out, rfl⟩
            · have q1 : decide (1000 < x) = false := decide_eq_false x1
              by_cases x2 : x < -1000
              · have HE := hid (HV.out false (HF.out (by rw [HX.out]; exact decide_eq_false (by omega))))
                go_wp2
                go_ret
                exact ⟨ret_boolQ HE.out, rfl⟩
              · have q2 : decide (x < -1000) = false := decide_eq_false x2
                by_cases y1 : 1000 < y
                · have HE := hid (HV.out false (HF.out (by rw [HX.out]; exact decide_eq_false (by omega))))
                  go_wp2
                  go_ret
                  exact ⟨ret_boolQ HE.out, rfl⟩
                · have q3 : decide (1000 < y) = false := decide_eq_false y1
                  by_cases y2 : y < -1000
                  · have HE := hid (HV.out false (HF.out (by rw [HX.out]; exact decide_eq_false (by omega))))
                    go_wp2
                    go_ret
                    exact ⟨ret_boolQ HE.out, rfl⟩
                  · have q4 : decide (y < -1000) = false := decide_eq_false y2
                    have HI : Hid (InTo ps (k + 1)) := fun j hj => by
                      by_cases e : j = k
                      · subst e; rw [HX.out]; exact decide_eq_true (by omega)
                      · exact hin.out j (by omega)
                    have HLT := hid hlt
                    clear HX HF x1 x2 y1 y2
                    go_wp2
                    go_roundw
                    case rel =>
                      have := HLT.out
                      first | exact ⟨k + 1, by omega, by go_num, HI, rfl⟩ | exact ⟨k + 1, by omega, by go_num, HI, by trivial⟩ | ((repeat apply Exists.intro); exact ⟨⟨k + 1, by omega, by go_num, HI, rfl⟩, rfl⟩)
                    case measure =>
                      have := HLT.out
                      simp [intOf]
                      omega
          · have HE := hid (HV.out true (all_inTo (k := k) (by have := HN.out; omega) hin.out))
            go_wp2
            go_ret
            exact ⟨ret_boolQ HE.out, rfl⟩
    · have HV := hid (show false = hearsOk ps order by unfold hearsOk; rw [decide_eq_false h4]; simp)
      obtain ⟨n, en⟩ : ∃ n, n = ps.length := ⟨_, rfl⟩
      rw [← en] at h4 hz
      rw [← en]
      clear en hO'
      rcases hO with rfl | rfl | rfl
      all_goals
        go_enter Tryz.func85, Tryz.ntmps85
        go_wp2
        go_ret
        exact ⟨ret_boolQ HV.out, rfl⟩
  · have HV := hid (show false = hearsOk ps order by unfold hearsOk ordOk5; rw [decide_eq_false hO]; simp)
    have b2 : (order != 2) = true := by simp; omega
    have b4 : (order != 4) = true := by simp; omega
    have b6 : (order != 6) = true := by simp; omega
    clear hO
    go_enter Tryz.func85, Tryz.ntmps85
    go_wp2
    go_ret
    exact ⟨ret_boolQ HV.out, rfl⟩
end Go.Proofs.YtplkmkbambbemadGreatDoor
namespace Go.Proofs.YtplkmkbambbemadGreatDoor
open Go.RowKit
/-- The number that t bits from place i on make, the first one the highest. -/
def num (zs : List Int) (i : Nat) : Nat → Int
  | 0 => 0
  | t + 1 => 2 * num zs i t + zs.getD (i + t) 0
def byteTo (zs : List Int) (k j : Nat) : Int := num zs (8 * j) (min 8 (k - 8 * j)) * 2 ^ (8 - min 8 (k - 8 * j))
def packTo (zs : List Int) (k : Nat) : List Int := (List.range ((zs.length + 7) / 8)).map (byteTo zs k)
def packL (zs : List Int) : List Int := (List.range ((zs.length + 7) / 8)).map fun j => num zs (8 * j) 8
theorem num_bd {zs : List Int} (h : Bits zs) (i : Nat) : ∀ t, 0 ≤ num zs i t ∧ num zs i t < 2 ^ t
  | 0 => by simp [num]
  | t + 1 => by
    have := num_bd h i t
    have := h (i + t)
    rw [num, Int.pow_succ]
    omega
theorem packTo_zero (zs : List Int) : packTo zs 0 = List.replicate ((zs.length + 7) / 8) 0 := by
  unfold packTo
  rw [List.eq_replicate_iff]
  refine ⟨by simp, fun x hx => ?_⟩
  obtain ⟨j, _, rfl⟩ := List.mem_map.1 hx
  simp [byteTo, num]
theorem num_pad (zs : List Int) (i m : Nat) (h : zs.length ≤ i + m) : ∀ d, num zs i (m + d) = num zs i m * 2 ^ d
  | 0 => by simp
  | d + 1 => by
    rw [← Nat.add_assoc, num, num_pad zs i m h d, Int.pow_succ]
    have : zs.getD (i + (m + d)) 0 = 0 := by
      rw [List.getD_eq_getElem?_getD, List.getElem?_eq_none (by omega)]; rfl
    rw [this, Int.add_zero, Int.mul_comm 2, Int.mul_assoc]
theorem packTo_all (zs : List Int) : packTo zs zs.length = packL zs := by
  unfold packTo packL
  refine List.map_congr_left fun j _ => ?_
  unfold byteTo
  by_cases h : 8 ≤ zs.length - 8 * j
  · rw [Nat.min_eq_left h]; simp
  · rw [Nat.min_eq_right (by omega)]
    have := num_pad zs (8 * j) (zs.length - 8 * j) (by omega) (8 - (zs.length - 8 * j))
    rw [← this]
    congr 1
    omega
theorem byteTo_other (zs : List Int) (k j : Nat) (h : j ≠ k / 8) : byteTo zs (k + 1) j = byteTo zs k j := by
  unfold byteTo
  have : min 8 (k + 1 - 8 * j) = min 8 (k - 8 * j) := by omega
  rw [this]
theorem byteTo_this (zs : List Int) (k : Nat) : byteTo zs (k + 1) (k / 8) = byteTo zs k (k / 8) + zs.getD k 0 * 2 ^ (7 - k % 8) := by
  unfold byteTo
  have e1 : min 8 (k + 1 - 8 * (k / 8)) = k % 8 + 1 := by omega
  have e2 : min 8 (k - 8 * (k / 8)) = k % 8 := by omega
  rw [e1, e2, num, show 8 * (k / 8) + k % 8 = k from by omega, show 8 - k % 8 = (7 - k % 8) + 1 from by omega, show 8 - (k % 8 + 1) = 7 - k % 8 from by omega, Int.pow_succ, Int.add_mul, Int.mul_comm 2, Int.mul_assoc, Int.mul_comm 2]
theorem byteTo_at (zs : List Int) (k : Nat) : byteTo zs k (k / 8) = num zs (8 * (k / 8)) (k % 8) * 2 ^ (8 - k % 8) := by
  unfold byteTo
  have e2 : min 8 (k - 8 * (k / 8)) = k % 8 := by omega
  rw [e2]
theorem packTo_getD (zs : List Int) (k j : Nat) (h : j < (zs.length + 7) / 8) : (packTo zs k).getD j 0 = byteTo zs k j := by
  simp [packTo, List.getD, h]
theorem packTo_set (zs : List Int) (k : Nat) (x : Int) (hx : x = byteTo zs (k + 1) (k / 8)) : (packTo zs k).set (k / 8) x = packTo zs (k + 1) := by
  refine List.ext_getElem (by simp [packTo]) fun j h1 h2 => ?_
  rw [List.getElem_set]
  split
  · rename_i e
    subst e
    rw [hx]
    simp [packTo]
  · rename_i e
    simp only [packTo, List.getElem_map, List.getElem_range]
    rw [byteTo_other zs k j (fun h => e h.symm)]
theorem or_add (a z m : Nat) (hz : z ≤ 1) : a * 2 ^ (m + 1) ||| z * 2 ^ m = a * 2 ^ (m + 1) + z * 2 ^ m := by
  have hlt : z * 2 ^ m < 2 ^ (m + 1) := by
    rw [Nat.pow_succ]
    have : 0 < 2 ^ m := Nat.pow_pos (by decide)
    have : z * 2 ^ m ≤ 1 * 2 ^ m := Nat.mul_le_mul_right _ hz
    omega
  rw [Nat.mul_comm a]
  exact (Nat.two_pow_add_eq_or_of_lt hlt a).symm
theorem pow_le_128 (m : Nat) (h : m ≤ 7) : (2 : Nat) ^ m ≤ 128 := by
  have := Nat.pow_le_pow_right (n := 2) (by decide) h
  simpa using this
/-- What the program lays into a byte: it is there already, or its place is free. -/
theorem or_step (zs : List Int) (k : Nat) (h : Bits zs) (p q : Int) (hp : p = byteTo zs k (k / 8)) (hq : q = zs.getD k 0 * 2 ^ (7 - k % 8)) :
    0 ≤ p ∧ p < 256 ∧ 0 ≤ q ∧ q ≤ 128 ∧ bits .or .u8 p q = byteTo zs (k + 1) (k / 8) := by
  have hb := num_bd h (8 * (k / 8)) (k % 8)
  have hz := h k
  have hr : k % 8 < 8 := Nat.mod_lt _ (by decide)
  rw [byteTo_at] at hp
  rw [byteTo_this, byteTo_at]
  obtain ⟨a, ha⟩ := Int.eq_ofNat_of_zero_le hb.1
  obtain ⟨z, hz'⟩ := Int.eq_ofNat_of_zero_le hz.1
  have hz1 : z ≤ 1 := by omega
  rw [ha] at hb hp ⊢
  rw [hz'] at hq ⊢
  obtain ⟨m, hm⟩ : ∃ m, k % 8 = 7 - m ∧ m ≤ 7 := ⟨7 - k % 8, by omega, by omega⟩
  rw [hm.1] at hb hp hq ⊢
  rw [show 8 - (7 - m) = m + 1 from by omega] at hp ⊢
  rw [show 7 - (7 - m) = m from by omega] at hq ⊢
  have hal : a < 2 ^ (7 - m) := by
    have := hb.2
    have h2 : ((2 : Int) ^ (7 - m)) = ((2 ^ (7 - m) : Nat) : Int) := by simp
    rw [h2] at this
    omega
  have hpN : p = ((a * 2 ^ (m + 1) : Nat) : Int) := by rw [hp]; simp
  have hqN : q = ((z * 2 ^ m : Nat) : Int) := by rw [hq]; simp
  have hp256 : a * 2 ^ (m + 1) < 256 := by
    have h1 : a * 2 ^ (m + 1) < 2 ^ (7 - m) * 2 ^ (m + 1) := Nat.mul_lt_mul_of_pos_right hal (Nat.pow_pos (by decide))
    rw [← Nat.pow_add, show 7 - m + (m + 1) = 8 from by omega] at h1
    simpa using h1
  have hq128 : z * 2 ^ m ≤ 128 := by
    have h1 : z * 2 ^ m ≤ 1 * 2 ^ m := Nat.mul_le_mul_right _ hz1
    have := pow_le_128 m hm.2
    omega
  refine ⟨by omega, by omega, by omega, by omega, ?_⟩
  rw [hpN, hqN, u8_or_nat _ _ hp256 (by omega), or_add a z m hz1]
  simp
def packUpto (zs : List Int) (j : Nat) : List Int := (List.range j).map fun j => num zs (8 * j) 8
theorem packUpto_succ (zs : List Int) (j : Nat) : packUpto zs (j + 1) = packUpto zs j ++ [num zs (8 * j) 8] := by simp [packUpto, List.range_succ]
theorem packUpto_length (zs : List Int) (j : Nat) : (packUpto zs j).length = j := by simp [packUpto]
theorem packUpto_all (zs : List Int) (j : Nat) (h1 : zs.length ≤ 8 * j) (h2 : j ≤ (zs.length + 7) / 8) : packUpto zs j = packL zs := by
  have : j = (zs.length + 7) / 8 := by omega
  subst this
  rfl
theorem num_byte {zs : List Int} (h : Bits zs) (i t : Nat) (ht : t ≤ 8) : 0 ≤ num zs i t ∧ num zs i t ≤ 255 := by
  have hb := num_bd h i t
  have h2 : (2 : Int) ^ t ≤ 256 := by
    have h3 : (2 : Nat) ^ t ≤ 256 := by
      have := Nat.pow_le_pow_right (n := 2) (by decide) ht
      simpa using this
    have h4 : ((2 : Int) ^ t) = ((2 ^ t : Nat) : Int) := by simp
    rw [h4]; omega
  omega
end Go.Proofs.YtplkmkbambbemadGreatDoor
namespace Go.Proofs.YtplkmkbambbemadGreatDoor
open Go.ChangeShapes Go.WideShapes Go.ChangeAt Go.RowKit
set_option maxHeartbeats 1000000 in
theorem rpack_ok (zs : List Int) (a : Option Addr) (c : Nat) (w : World) (ha : Rd .u8 w a zs) (hb : Bits zs) (hz : zs.length ≤ 4096) :
    Calls Tryz.prog 90 #[.slice a zs.length c] w fun e w' => e = .returned (.string (strOfNums (packL zs))) ∧ Below w.heap.size w w' := by
  go_enter Tryz.func90, Tryz.ntmps90
  go_wp2
  go_loopw [3, 4] (fun v i wr => ∃ j I : Nat, Hid (I = 8 * j ∧ j ≤ (zs.length + 7) / 8) ∧ I ≤ 5000 ∧ i = .int .i64 I ∧ Own wr w.heap.size v (packUpto zs j) ∧ Below w.heap.size w wr) (fun _ i _ => 5000 - (intOf i).toNat)
  case atStart => exact ⟨0, 0, ⟨rfl, Nat.zero_le _⟩, by omega, rfl, Own.nil _ _, Below.refl _ _⟩
  case round =>
    obtain ⟨j, I, HI, hI, rfl, hown, hbel⟩ := hrel
    have hsz := hbel.size
    by_cases hlt : I < zs.length
    · go_wp2
      go_loop [5, 6] (fun n k => ∃ t : Nat, ∃ q : Int, t ≤ 8 ∧ 0 ≤ q ∧ q ≤ 255 ∧ k = .int .i64 (I + t : Nat) ∧ n = .int .i64 q ∧ Hid (q = num zs I t)) (fun _ k => I + 8 - (intOf k).toNat)
      case atStart => exact ⟨0, 0, by omega, by omega, by omega, rfl, rfl, rfl⟩
      case round =>
        obtain ⟨t, q, ht, hq0, hq1, rfl, rfl, HQ⟩ := hrel
        by_cases ht8 : t < 8
        · have hnext := num_byte hb I (t + 1) (by omega)
          rw [num, ← HQ.out] at hnext
          by_cases hin : I + t < zs.length
          · obtain ⟨b1, o1, rfl, hc1⟩ := (ha.below hbel).at hin
            have g1 := hc1 (I + t) hin
            have hx01 := hb (I + t)
            obtain ⟨x, hx⟩ : ∃ x, x = zs.getD (I + t) 0 := ⟨_, rfl⟩
            rw [← hx] at g1 hx01 hnext
            have HX : Hid (x = zs.getD (I + t) 0) := hx
            clear hc1 hx
            go_wp2
            go_round
            case rel => exact ⟨t + 1, q * 2 + x, by omega, by omega, by omega, by go_num, rfl, by unfold Hid; rw [num, ← HQ.out, ← HX.out]; omega⟩
            case measure => simp [intOf]; omega
          · have HX : Hid (zs.getD (I + t) 0 = 0) := by
              show _ = _
              rw [List.getD_eq_getElem?_getD, List.getElem?_eq_none (by omega)]; rfl
            rw [HX.out] at hnext
            go_wp2
            go_round
            case rel => exact ⟨t + 1, q * 2, by omega, by omega, by omega, by go_num, rfl, by unfold Hid; rw [num, ← HQ.out, HX.out]; omega⟩
            case measure => simp [intOf]; omega
        · obtain rfl : t = 8 := by omega
          have hj : j < (zs.length + 7) / 8 := by have := HI.out; omega
          go_wp2_with (at_builtin; refine wpList_push w.heap.size w q hown rfl _ _ rfl rfl rfl (by rw [packUpto_length]; omega) hbel hbel.size ?_)
          intro v' w1 hown' hbel'
          rw [HQ.out, HI.out.1, ← packUpto_succ] at hown'
          clear hown hbel
          go_wp2
          go_roundw
          case rel => exact ⟨j + 1, I + 8, ⟨by have := HI.out; omega, hj⟩, by omega, by go_num, hown', hbel'⟩
          case measure => simp [intOf]; omega
    · rw [packUpto_all zs j (by have := HI.out; omega) HI.out.2] at hown
      obtain ⟨a', c', rfl, _⟩ := hown.shape
      have hcv := conv_rd hown.rd c'
      go_wp2
      go_ret
      exact ⟨rfl, hbel⟩
end Go.Proofs.YtplkmkbambbemadGreatDoor
