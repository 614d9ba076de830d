import Derived.Test.YtdndeegpbjlibacWaveG
import Derived.Test.YtdndeegpbjlibacInts
namespace Go.Proofs.Ytdndeegpbjlibac
open Go.ChangeShapes Go.WideShapes Go.ChangeAt Go.RowKit Go.Shelf

/-! THE DOCUMENT'S Heard. -/

/-- The least square of a distance to a point whose k-th bit is x, among the first j (-1: to none yet). -/
def bestTo (h order : Nat) (p : Int × Int) (k : Nat) (x : Int) : Nat → Int
  | 0 => -1
  | j + 1 => if ((wordsM order).getD j []).getD k 0 = x ∧ (bestTo h order p k x j < 0 ∨ farM p (ptM h ((wordsM order).getD j [])) < bestTo h order p k x j) then farM p (ptM h ((wordsM order).getD j [])) else bestTo h order p k x j
def heardAt5 (h order : Nat) (p : Int × Int) (k : Nat) : Int := bestTo h order p k 1 (2 ^ order) - bestTo h order p k 0 (2 ^ order)
def heardOf (h order : Nat) (p : Int × Int) (k : Nat) : List Int := (List.range k).map (heardAt5 h order p)
def heardM (h order : Nat) (ps : List (Int × Int)) (n : Nat) : List Int := (ps.take n).flatMap fun p => heardOf h order p order
theorem heardOf_succ (h order : Nat) (p : Int × Int) (k : Nat) : heardOf h order p (k + 1) = heardOf h order p k ++ [heardAt5 h order p k] := by simp [heardOf, List.range_succ]
theorem heardM_succ {h order : Nat} {ps : List (Int × Int)} {n : Nat} (hn : n < ps.length) : heardM h order ps (n + 1) = heardM h order ps n ++ heardOf h order (ps.getD n (0, 0)) order := by
  unfold heardM
  rw [List.take_succ_eq_append_getElem hn, List.flatMap_append]
  simp [List.getD, hn]
theorem heardM_length (h order : Nat) (ps : List (Int × Int)) : ∀ n, n ≤ ps.length → (heardM h order ps n).length = n * order
  | 0, _ => by simp [heardM]
  | n + 1, hn => by rw [heardM_succ (by omega), List.length_append, heardM_length h order ps n (by omega), Nat.add_mul]; simp [heardOf]
theorem ptM_bd (h : Nat) (l : List Int) (hh : h ≤ 3) : (-1000 ≤ (ptM h l).1 ∧ (ptM h l).1 ≤ 1000) ∧ -1000 ≤ (ptM h l).2 ∧ (ptM h l).2 ≤ 1000 := by
  have h1 := sideR_bd l 0 h hh
  have h2 := sideR_bd l 1 h hh
  unfold ptM
  simp only
  omega
theorem farM_bd {p q : Int × Int} (hp : (-1000 ≤ p.1 ∧ p.1 ≤ 1000) ∧ -1000 ≤ p.2 ∧ p.2 ≤ 1000) (hq : (-1000 ≤ q.1 ∧ q.1 ≤ 1000) ∧ -1000 ≤ q.2 ∧ q.2 ≤ 1000) : 0 ≤ farM p q ∧ farM p q ≤ 8000000 := by
  have sq : ∀ z : Int, -2000 ≤ z ∧ z ≤ 2000 → 0 ≤ z * z ∧ z * z ≤ 4000000 := fun z hz => by
    have h1 : z * z = (z.natAbs * z.natAbs : Nat) := by rw [Int.natAbs_mul_self]
    have h2 : z.natAbs * z.natAbs ≤ 2000 * 2000 := Nat.mul_le_mul (by omega) (by omega)
    omega
  have h1 := sq (p.1 - q.1) (by omega)
  have h2 := sq (p.2 - q.2) (by omega)
  unfold farM
  omega
theorem bestTo_bd {h order : Nat} {p : Int × Int} (hh : h ≤ 3) (hp : (-1000 ≤ p.1 ∧ p.1 ≤ 1000) ∧ -1000 ≤ p.2 ∧ p.2 ≤ 1000) (k : Nat) (x : Int) : ∀ j, -1 ≤ bestTo h order p k x j ∧ bestTo h order p k x j ≤ 8000000
  | 0 => by simp [bestTo]
  | j + 1 => by
    have h1 := farM_bd hp (ptM_bd h ((wordsM order).getD j []) hh)
    have h2 := bestTo_bd (order := order) hh hp k x j
    unfold bestTo
    split <;> omega

theorem getD_mem {l : List Int} {k : Nat} (h : k < l.length) : l.getD k 0 ∈ l := by
  have e : l.getD k 0 = l[k] := by simp [List.getD, h]
  rw [e]
  exact List.getElem_mem h
theorem run_idxP {ρ : Operand → Value} (w : World) {o : Oper} {x y : Operand} {g s j n c : Nat} (ho : o.op = .indexAddr 23 x y) (h : ρ x = .slice (some ⟨g, s, none⟩) n c) (h' : ρ y = .int .i64 j) (hj : j < n) : (execOp ρ o).run Try.prog w = .ok (.value (.pointer (some ⟨g, s + j * 2, none⟩))) w := by
  unfold execOp
  simp only [ho, h, h']
  simp [go_sem, Try.underlying23, hj]
theorem run_loadP {ρ : Operand → Value} (w : World) {o : Oper} {x : Operand} {g s : Nat} {p : Int × Int} (ho : o.op = .load 47 x) (h : ρ x = .pointer (some ⟨g, s, none⟩)) (hc : w.cell? ⟨g, s, none⟩ = some (.int .i64 p.1) ∧ w.cell? ⟨g, s + 1, none⟩ = some (.int .i64 p.2)) : (execOp ρ o).run Try.prog w = .ok (.value (.agg #[.int .i64 p.1, .int .i64 p.2])) w := by
  unfold execOp
  have hr := run_loadVar_mid w g s 47 [.int .i64 p.1, .int .i64 p.2] _ (pts_range hc) Try.underlying47 rfl (by kernel_rfl)
  simp only [ho, h, Instr.loadAt, Instr.sureAddr, Sem.run_bind, Sem.run_pure, Result.andThen_ok, hr]

set_option maxRecDepth 100000 in
set_option maxHeartbeats 4000000 in
theorem rheard_any (order h : Nat) (ps : List (Int × Int)) (a : Option Addr) (n c : Nat) (w : World) (ho : order = 2 * h) (h1 : 1 ≤ h) (hh : h ≤ 3) (ha : Pts w a ps) (hn : ps.length = n) (hn4 : n ≤ 4096) (hin : PtsIn 1000 ps) :
    Calls Try.prog 13 #[.slice a n c, .int .i64 order] w fun e w' => ∃ v, e = .returned v ∧ OwnI w' w.heap.size v (heardM h order ps n) ∧ Below w.heap.size w w' := by
  have ho6 : order ≤ 6 := by omega
  have ho1 : 2 ≤ order := by omega
  have HN := hid hn
  have hcon := constellation_any order h w ho h1 hh
  clear hn ho
  go_enter Try.func13, Try.ntmps13
  go_wp2_with fail
  refine hcon.mono ?_
  rintro e w1 ⟨v4, v8, vs4, rfl, hown4, hrow4, hown8, hb1⟩
  have hl4 : vs4.length = 2 ^ order := by rw [hrow4.1, wordsM_length]
  have hl8 : ((wordsM order).map fun l => (sideR l 0 h, sideR l 1 h)).length = 2 ^ order := by rw [List.length_map, wordsM_length]
  have hp1 : 1 ≤ 2 ^ order := Nat.one_le_two_pow
  have hp6 : 2 ^ order ≤ 64 := Nat.le_trans (Nat.pow_le_pow_right (by decide) ho6) (by decide)
  obtain ⟨gL, cL, e4, hc4, hm4, hg4⟩ := hown4.shape1 (by omega)
  obtain ⟨aP, cP, e8, hc8, hm8⟩ := hown8.shape
  subst e4
  subst e8
  have hptsP := hown8.pts
  rw [hl4] at hown4 hc4
  rw [hl8] at hc8
  obtain ⟨nL, enL⟩ : ∃ nL, nL = 2 ^ order := ⟨_, rfl⟩
  rw [← enL] at hl4 hl8 hp1 hp6 hown4 hc4 hc8
  rw [hl4, hl8]
  have HNL := hid enL
  unfold maxLen at hm4 hm8
  clear enL hown8 hcon
  obtain ⟨gP, oP, rfl, hcp⟩ := hptsP.at (i := 0) (by omega)
  clear hcp
  go_wp2
  go_loopw [7, 8] (fun v q wr => ∃ i : Nat, i ≤ n ∧ q = .int .i64 i ∧ OwnI wr w1.heap.size v (heardM h order ps i) ∧ Below w1.heap.size w1 wr) (fun _ q _ => n - (intOf q).toNat)
  case atStart => exact ⟨0, Nat.zero_le _, rfl, OwnI.nil _ _, Below.refl _ _⟩
  case round =>
    obtain ⟨i, hi, rfl, hown7, hbel⟩ := hrel
    by_cases hlt : i < n
    · have hlt' : i < ps.length := by rw [HN.out]; exact hlt
      have HIN := hid hlt
      have HSI := hid (heardM_succ (h := h) (order := order) hlt')
      have HLI := hid (heardM_length h order ps i (by omega))
      have hpb := hin i
      obtain ⟨ga, oa, rfl, hca⟩ := ((ha.below hb1).below hbel).at hlt'
      clear hca
      obtain ⟨p, ep⟩ : ∃ p, p = ps.getD i (0, 0) := ⟨_, rfl⟩
      rw [← ep] at hpb HSI
      have HP := hid ep
      clear ep
      go_wp2
      go_loopw [7, 9] (fun v q ws => ∃ k : Nat, k ≤ order ∧ q = .int .i64 k ∧ OwnI ws w1.heap.size v (heardM h order ps i ++ heardOf h order p k) ∧ Below w1.heap.size w1 ws) (fun _ q _ => order - (intOf q).toNat)
      case atStart => exact ⟨0, Nat.zero_le _, rfl, by simpa [heardOf] using hown7, hbel⟩
      case round =>
        clear hown7 hbel
        obtain ⟨k, hk, rfl, hown7, hbel⟩ := hrel
        by_cases hkl : k < order
        · have HKO := hid hkl
          go_wp2
          go_loopw [10, 11, 12] (fun q1 q2 q3 ws => ∃ j : Nat, j ≤ nL ∧ q1 = .int .i64 (bestTo h order p k 1 j) ∧ q2 = .int .i64 (bestTo h order p k 0 j) ∧ q3 = .int .i64 j ∧ OwnI ws w1.heap.size u7 (heardM h order ps i ++ heardOf h order p k) ∧ Below w1.heap.size w1 ws) (fun _ _ q3 _ => nL - (intOf q3).toNat)
          case atStart => exact ⟨0, Nat.zero_le _, rfl, rfl, rfl, hown7, hbel⟩
          case round =>
            clear hown7 hbel
            obtain ⟨j, hj, rfl, rfl, rfl, hown7, hbel⟩ := hrel
            by_cases hjl : j < nL
            · have hjl' : j < (wordsM order).length := by rw [wordsM_length]; have := HNL.out; omega
              have hjv : j < vs4.length := by omega
              have hcell := (hown4.below hbel).cell hjv
              have hOi := (hrow4.below hbel).2 j hjl'
              obtain ⟨ai, ci, ei, hai, hci, hmi⟩ := hOi.shape
              have hmem := words_at (k := order) (i := j) (by rw [← HNL.out]; exact hjl)
              have hwl : ((wordsM order).getD j []).length = order := words_len hmem
              obtain ⟨gw, rfl⟩ := hai (by intro h0; rw [h0] at hwl; simp at hwl; omega)
              rw [ei] at hcell hOi
              obtain ⟨gw', ow, ew, hbc0⟩ := hOi.rd.at (i := k) (by rw [hwl]; exact hkl)
              simp at ew
              obtain ⟨rfl, rfl⟩ := ew
              have hbit := hbc0 k (by rw [hwl]; exact hkl)
              rw [Nat.zero_add] at hbit
              have hz01 : ((wordsM order).getD j []).getD k 0 = 0 ∨ ((wordsM order).getD j []).getD k 0 = 1 := words_bits hmem _ (getD_mem (by rw [hwl]; exact hkl))
              have hca := ((((ha.below hb1).below hbel).at (by rw [HN.out]; exact HIN.out)))
              obtain ⟨ga', oa', ea, hca⟩ := hca
              simp at ea
              obtain ⟨rfl, rfl⟩ := ea
              have hpi := hca i (by rw [HN.out]; exact HIN.out)
              rw [← HP.out] at hpi
              obtain ⟨gP', oP', eP, hcp⟩ := (hptsP.below hbel).at (i := j) (by rw [hl8]; exact hjl)
              simp at eP
              obtain ⟨rfl, rfl⟩ := eP
              have hpj := hcp j (by rw [hl8]; exact hjl)
              have epk : ((wordsM order).map fun l => (sideR l 0 h, sideR l 1 h)).getD j (0, 0) = ptM h ((wordsM order).getD j []) := by
                simp [List.getD, hjl', ptM]
              rw [epk] at hpj
              have hqb := ptM_bd h ((wordsM order).getD j []) hh
              have HB1 := hid (show bestTo h order p k 1 (j + 1) = if ((wordsM order).getD j []).getD k 0 = 1 ∧ (bestTo h order p k 1 j < 0 ∨ farM p (ptM h ((wordsM order).getD j [])) < bestTo h order p k 1 j) then farM p (ptM h ((wordsM order).getD j [])) else bestTo h order p k 1 j from rfl)
              have HB0 := hid (show bestTo h order p k 0 (j + 1) = if ((wordsM order).getD j []).getD k 0 = 0 ∧ (bestTo h order p k 0 j < 0 ∨ farM p (ptM h ((wordsM order).getD j [])) < bestTo h order p k 0 j) then farM p (ptM h ((wordsM order).getD j [])) else bestTo h order p k 0 j from rfl)
              rw [hwl] at hcell
              generalize ptM h ((wordsM order).getD j []) = pj at *
              obtain ⟨z, ez⟩ : ∃ z, z = ((wordsM order).getD j []).getD k 0 := ⟨_, rfl⟩
              rw [← ez] at hbit hz01 HB1 HB0
              obtain ⟨B1, e1⟩ : ∃ B1, B1 = bestTo h order p k 1 j := ⟨_, rfl⟩
              obtain ⟨B0, e0⟩ : ∃ B0, B0 = bestTo h order p k 0 j := ⟨_, rfl⟩
              rw [← e1] at HB1
              rw [← e0] at HB0
              rw [← e1, ← e0]
              have hfar := fun w => rfar_any p pj w hpb hqb
              obtain ⟨d, ed⟩ : ∃ d, d = farM p pj := ⟨_, rfl⟩
              rw [← ed] at hfar HB1 HB0
              have hmix : Try.prog.follows .mixedOrders = true := by kernel_rfl
              have hE : Enters Try.prog 18 := enters_of Try.func18 (by kernel_rfl) rfl
              clear hcp hca epk ez e1 e0 ed hbc0 hOi hmem
              go_upto_region 13 with fail
              refine wp_mono (region_known3 10 [(36, .slice (some ⟨ga, oa, none⟩) n c), (37, .int .i64 i), (38, .pointer (some ⟨ga, oa + i * 2, none⟩)), (39, .agg #[.int .i64 p.1, .int .i64 p.2]), (40, .slice (some ⟨gP, oP, none⟩) nL cP), (41, .int .i64 j), (42, .pointer (some ⟨gP, oP + j * 2, none⟩)), (43, .agg #[.int .i64 pj.1, .int .i64 pj.2]), (44, .int .i64 d), (13, .int .i64 d)] [[0], [8], [36, 37], [38], [6], [12], [40, 41], [42], [39, 43], [44]] wr hmix rfl rfl (show ([36, 37, 38, 39, 40, 41, 42, 43, 44, 13] : List Nat).Nodup by decide) rfl (by kernel_rfl) (by kernel_rfl) rfl (fun i' hi' ac wc hbc hr Q K hK => by
                  have h10 : i' = 0 ∨ i' = 1 ∨ i' = 2 ∨ i' = 3 ∨ i' = 4 ∨ i' = 5 ∨ i' = 6 ∨ i' = 7 ∨ i' = 8 ∨ i' = 9 := by omega
                  rcases h10 with rfl | rfl | rfl | rfl | rfl | rfl | rfl | rfl | rfl | rfl
                  · exact op_value rfl rfl (run_moveQ wc rfl (hr 0 (by decide))) (hK wc hbc)
                  · exact op_value rfl rfl (run_moveQ wc rfl (hr 8 (by decide))) (hK wc hbc)
                  · exact op_value rfl rfl (run_idxP wc rfl (hr 36 (by decide)) (hr 37 (by decide)) HIN.out) (hK wc hbc)
                  · exact op_value rfl rfl (run_loadP wc rfl (hr 38 (by decide)) ⟨(hbc.cell (World.block_lt_of_cell? wr _ hpi.1)).trans hpi.1, (hbc.cell (World.block_lt_of_cell? wr _ hpi.2)).trans hpi.2⟩) (hK wc hbc)
                  · exact op_value rfl rfl (run_moveQ wc rfl (hr 6 (by decide))) (hK wc hbc)
                  · exact op_value rfl rfl (run_moveQ wc rfl (hr 12 (by decide))) (hK wc hbc)
                  · exact op_value rfl rfl (run_idxP wc rfl (hr 40 (by decide)) (hr 41 (by decide)) hjl) (hK wc hbc)
                  · exact op_value rfl rfl (run_loadP wc rfl (hr 42 (by decide)) ⟨(hbc.cell (World.block_lt_of_cell? wr _ hpj.1)).trans hpj.1, (hbc.cell (World.block_lt_of_cell? wr _ hpj.2)).trans hpj.2⟩) (hK wc hbc)
                  · refine op_call2 rfl rfl rfl hE (hr 39 (by decide)) (hr 43 (by decide)) (hfar wc) fun e w' hr' => ?_
                    obtain ⟨rfl, hb'⟩ := hr'
                    exact ⟨_, rfl, hK w' (bthen hbc hb')⟩
                  · exact op_value rfl rfl (run_assignQ wc rfl (hr 44 (by decide))) (hK wc hbc))) ?_
              rintro e a' w' ⟨rfl, rfl, hbw⟩
              have hown7' := hown7.below hbw
              have hbel' : Below w1.heap.size w1 w' := hbel.trans (hbw.mono hbel.size)
              have c1 := (hbw.cell (World.block_lt_of_cell? wr _ hcell)).trans hcell
              have c2 := (hbw.cell (World.block_lt_of_cell? wr _ hbit)).trans hbit
              have HJL := hid hjl
              dsimp only [setAll, List.set]
              clear hown7 hbel hcell hbit hpi hpj hfar
              rcases hz01 with rfl | rfl
              · by_cases n1 : B0 < 0
                · have q1 : decide (B0 < 0) = true := decide_eq_true n1
                  have HO1 := hid (show B1 = bestTo h order p k 1 (j + 1) by rw [HB1.out]; rw [if_neg (by omega)])
                  have HO0 := hid (show d = bestTo h order p k 0 (j + 1) by rw [HB0.out]; rw [if_pos (by omega)])
                  clear HB1 HB0 n1
                  go_wp2
                  go_roundw
                  case rel =>
                    have := HJL.out
                    first | exact ⟨j + 1, by omega, by rw [← HO1.out], by rw [← HO0.out], by go_num, hown7', hbel'⟩ | ((repeat apply Exists.intro); exact ⟨⟨j + 1, by omega, by rw [← HO1.out], by rw [← HO0.out], by go_num, hown7', hbel'⟩, rfl⟩)
                  case measure =>
                    have := HJL.out
                    simp [intOf]
                    omega
                · have q1 : decide (B0 < 0) = false := decide_eq_false n1
                  by_cases n2 : d < B0
                  · have q2 : decide (d < B0) = true := decide_eq_true n2
                    have HO1 := hid (show B1 = bestTo h order p k 1 (j + 1) by rw [HB1.out]; rw [if_neg (by omega)])
                    have HO0 := hid (show d = bestTo h order p k 0 (j + 1) by rw [HB0.out]; rw [if_pos (by omega)])
                    clear HB1 HB0 n1 n2
                    go_wp2
                    go_roundw
                    case rel =>
                      have := HJL.out
                      first | exact ⟨j + 1, by omega, by rw [← HO1.out], by rw [← HO0.out], by go_num, hown7', hbel'⟩ | ((repeat apply Exists.intro); exact ⟨⟨j + 1, by omega, by rw [← HO1.out], by rw [← HO0.out], by go_num, hown7', hbel'⟩, rfl⟩)
                    case measure =>
                      have := HJL.out
                      simp [intOf]
                      omega
                  · have q2 : decide (d < B0) = false := decide_eq_false n2
                    have HO1 := hid (show B1 = bestTo h order p k 1 (j + 1) by rw [HB1.out]; rw [if_neg (by omega)])
                    have HO0 := hid (show B0 = bestTo h order p k 0 (j + 1) by rw [HB0.out]; rw [if_neg (by omega)])
                    clear HB1 HB0 n1 n2
                    go_wp2
                    go_roundw
                    case rel =>
                      have := HJL.out
                      first | exact ⟨j + 1, by omega, by rw [← HO1.out], by rw [← HO0.out], by go_num, hown7', hbel'⟩ | ((repeat apply Exists.intro); exact ⟨⟨j + 1, by omega, by rw [← HO1.out], by rw [← HO0.out], by go_num, hown7', hbel'⟩, rfl⟩)
                    case measure =>
                      have := HJL.out
                      simp [intOf]
                      omega
              · by_cases n1 : B1 < 0
                · have q1 : decide (B1 < 0) = true := decide_eq_true n1
                  have HO1 := hid (show d = bestTo h order p k 1 (j + 1) by rw [HB1.out]; rw [if_pos (by omega)])
                  have HO0 := hid (show B0 = bestTo h order p k 0 (j + 1) by rw [HB0.out]; rw [if_neg (by omega)])
                  clear HB1 HB0 n1
                  go_wp2
                  go_roundw
                  case rel =>
                    have := HJL.out
                    first | exact ⟨j + 1, by omega, by rw [← HO1.out], by rw [← HO0.out], by go_num, hown7', hbel'⟩ | ((repeat apply Exists.intro); exact ⟨⟨j + 1, by omega, by rw [← HO1.out], by rw [← HO0.out], by go_num, hown7', hbel'⟩, rfl⟩)
                  case measure =>
                    have := HJL.out
                    simp [intOf]
                    omega
                · have q1 : decide (B1 < 0) = false := decide_eq_false n1
                  by_cases n2 : d < B1
                  · have q2 : decide (d < B1) = true := decide_eq_true n2
                    have HO1 := hid (show d = bestTo h order p k 1 (j + 1) by rw [HB1.out]; rw [if_pos (by omega)])
                    have HO0 := hid (show B0 = bestTo h order p k 0 (j + 1) by rw [HB0.out]; rw [if_neg (by omega)])
                    clear HB1 HB0 n1 n2
                    go_wp2
                    go_roundw
                    case rel =>
                      have := HJL.out
                      first | exact ⟨j + 1, by omega, by rw [← HO1.out], by rw [← HO0.out], by go_num, hown7', hbel'⟩ | ((repeat apply Exists.intro); exact ⟨⟨j + 1, by omega, by rw [← HO1.out], by rw [← HO0.out], by go_num, hown7', hbel'⟩, rfl⟩)
                    case measure =>
                      have := HJL.out
                      simp [intOf]
                      omega
                  · have q2 : decide (d < B1) = false := decide_eq_false n2
                    have HO1 := hid (show B1 = bestTo h order p k 1 (j + 1) by rw [HB1.out]; rw [if_neg (by omega)])
                    have HO0 := hid (show B0 = bestTo h order p k 0 (j + 1) by rw [HB0.out]; rw [if_neg (by omega)])
                    clear HB1 HB0 n1 n2
                    go_wp2
                    go_roundw
                    case rel =>
                      have := HJL.out
                      first | exact ⟨j + 1, by omega, by rw [← HO1.out], by rw [← HO0.out], by go_num, hown7', hbel'⟩ | ((repeat apply Exists.intro); exact ⟨⟨j + 1, by omega, by rw [← HO1.out], by rw [← HO0.out], by go_num, hown7', hbel'⟩, rfl⟩)
                    case measure =>
                      have := HJL.out
                      simp [intOf]
                      omega
            · have hjn : j = nL := by omega
              have hk1 := bestTo_bd (order := order) hh hpb k 1 j
              have hk0 := bestTo_bd (order := order) hh hpb k 0 j
              have HA := hid (show bestTo h order p k 1 j - bestTo h order p k 0 j = heardAt5 h order p k by unfold heardAt5; rw [hjn, HNL.out])
              have HLL : Hid ((heardM h order ps i ++ heardOf h order p k).length < 17592186044416) := by
                unfold Hid
                rw [List.length_append, HLI.out]
                have h1 : (heardOf h order p k).length = k := by simp [heardOf]
                have h2 : i * order ≤ 4096 * 6 := Nat.mul_le_mul (by have := HIN.out; omega) ho6
                omega
              obtain ⟨B1, e1⟩ : ∃ B1, B1 = bestTo h order p k 1 j := ⟨_, rfl⟩
              obtain ⟨B0, e0⟩ : ∃ B0, B0 = bestTo h order p k 0 j := ⟨_, rfl⟩
              rw [← e1] at HA hk1
              rw [← e0] at HA hk0
              rw [← e1, ← e0]
              clear e1 e0
              go_wp2_with (first | (at_builtin; refine wpList_pushL w1.heap.size w1 (B1 - B0) hown7 rfl _ _ rfl rfl rfl HLL.out hbel hbel.size ?_))
              intro v7 w2 hown7' hbel'
              rw [HA.out, ← heardOf_succ] at hown7'
              go_wp2
              go_roundw
              case rel =>
                have := HKO.out
                first | exact ⟨k + 1, by omega, by go_num, hown7', hbel'⟩ | ((repeat apply Exists.intro); exact ⟨⟨k + 1, by omega, by go_num, hown7', hbel'⟩, rfl⟩)
              case measure =>
                have := HKO.out
                simp [intOf]
                omega
        · have hko : k = order := by omega
          rw [hko, ← HSI.out] at hown7
          go_wp2
          go_roundw
          case rel =>
            have := HIN.out
            first | exact ⟨i + 1, by omega, by go_num, hown7, hbel⟩ | ((repeat apply Exists.intro); exact ⟨⟨i + 1, by omega, by go_num, hown7, hbel⟩, rfl⟩)
          case measure =>
            have := HIN.out
            simp [intOf]
            omega
    · have hin' : i = n := by omega
      subst hin'
      go_wp2
      go_ret
      exact ⟨_, rfl, hown7.mono hb1.size, bthen hb1 hbel⟩
end Go.Proofs.Ytdndeegpbjlibac
