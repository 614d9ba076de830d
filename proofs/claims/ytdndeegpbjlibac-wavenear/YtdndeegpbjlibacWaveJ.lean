import Derived.Test.YtdndeegpbjlibacWaveI
namespace Go.Proofs.Ytdndeegpbjlibac
open Go.ChangeShapes Go.WideShapes Go.ChangeAt Go.RowKit Go.Shelf

/-! THE DOCUMENT'S Nearest. -/

/-- Which of the first j points is nearest (of several the first). -/
def nearTo (h order : Nat) (p : Int × Int) : Nat → Nat
  | 0 => 0
  | j + 1 => if farM p (ptM h ((wordsM order).getD j [])) < farM p (ptM h ((wordsM order).getD (nearTo h order p j) [])) then j else nearTo h order p j
theorem nearTo_one (h order : Nat) (p : Int × Int) : nearTo h order p 1 = 0 := by simp [nearTo]
theorem nearTo_lt (h order : Nat) (p : Int × Int) : ∀ j, 1 ≤ j → nearTo h order p j < j
  | 1, _ => by rw [nearTo_one]; omega
  | j + 2, _ => by
    have := nearTo_lt h order p (j + 1) (by omega)
    rw [nearTo]
    split <;> omega
def nearAt (h order : Nat) (p : Int × Int) : List Int := (wordsM order).getD (nearTo h order p (2 ^ order)) []
def nearM (h order : Nat) (ps : List (Int × Int)) (n : Nat) : List Int := (ps.take n).flatMap (nearAt h order)
theorem nearM_succ {h order : Nat} {ps : List (Int × Int)} {n : Nat} (hn : n < ps.length) : nearM h order ps (n + 1) = nearM h order ps n ++ nearAt h order (ps.getD n (0, 0)) := by
  unfold nearM
  rw [List.take_succ_eq_append_getElem hn, List.flatMap_append]
  simp [List.getD, hn]
theorem nearAt_length (h order : Nat) (p : Int × Int) : (nearAt h order p).length = order := words_len (words_at (nearTo_lt h order p (2 ^ order) Nat.one_le_two_pow))
theorem nearM_length (h order : Nat) (ps : List (Int × Int)) : ∀ n, n ≤ ps.length → (nearM h order ps n).length = n * order
  | 0, _ => by simp [nearM]
  | n + 1, hn => by rw [nearM_succ (by omega), List.length_append, nearM_length h order ps n (by omega), nearAt_length, Nat.add_mul]; omega

theorem run_lssI {ρ : Operand → Value} (w : World) {o : Oper} {x y : Operand} {p q : Int} (ho : o.op = .binOp .lss 3 x y 3) (h : ρ x = .int .i64 p) (h' : ρ y = .int .i64 q) : (execOp ρ o).run Try.prog w = .ok (.value (.bool (decide (p < q)))) w := by
  unfold execOp
  simp only [ho, h, h']
  simp [go_sem]
/-- 'append(x, y...)' of bytes, y one or more. -/
theorem wpList_appRow {ops : Array Oper} {rest : List Oper} {o : Oper} {a : Act} {Q : Exit → Act → World → Prop} {w : World} {v : Value} {L M : List Int} (B : Nat) (w00 : World) (g n c : Nat) (hown : Own w B v L) (hr : Rd .u8 w (some ⟨g, 0, none⟩) M) (hn : M.length = n) (h1 : 1 ≤ n) (hgd : o.guard = none) (s x : Operand)
    (ho : o.op = .call { callee := .builtin .append, args := #[s, x], argTypes := #[22, 22] }) (hs : a.eval s = v) (hx : a.eval x = .slice (some ⟨g, 0, none⟩) n c) (hlen : L.length + n ≤ 1000000) (hbel : Below B w00 w) (hB : B ≤ w.heap.size)
    (h : ∀ v' w', Own w' B v' (L ++ M) → Below B w00 w' → wpList Try.prog ops Q rest (a.put o.dst v') w') : wpList Try.prog ops Q (o :: rest) a w := by
  obtain ⟨i0, hi, hz0, hz1, hz2⟩ := info_parts Try.info5
  have hne : M ≠ [] := by rintro rfl; simp at hn; omega
  obtain ⟨g', o', e', hc⟩ := hr hne
  simp at e'
  obtain ⟨rfl, rfl⟩ := e'
  refine wpList_append_own _ hgd s x 22 ho B 5 i0 (.int .u8 0) 1 1 Try.underlying22 hi hz0 hz1 hz2 rfl (by decide) v _ _ hs hown ⟨g, 0, none⟩ n c (M.map (Value.int .u8)) hx (by simp [hn]) ?_ ?_ ?_ ?_ hB ?_
  · intro j u hj
    have hjl : j < M.length := by
      rcases Nat.lt_or_ge j M.length with h | h
      · exact h
      · rw [List.getElem?_eq_none (by simpa using h)] at hj; cases hj
    have e1 : (⟨g, 0, none⟩ : Addr).add j = ⟨g, 0 + j, none⟩ := by unfold Addr.add; split <;> simp_all
    rw [e1, hc j hjl, ← hj]
    simp [List.getD, hjl]
  · intro u hu; obtain ⟨z, _, rfl⟩ := List.mem_map.1 hu; rfl
  · unfold maxLen; omega
  · omega
  · intro v' w' h1 h2 _
    refine h v' w' ?_ (hbel.grown h2 hB (fun k e => (World.ownsRow.lt hown k e).1))
    unfold Own
    rw [List.length_append, List.map_append, hn]
    exact h1

set_option maxRecDepth 100000 in
set_option maxHeartbeats 4000000 in
theorem rnearest_any (order h : Nat) (ps : List (Int × Int)) (a : Option Addr) (n c : Nat) (w : World) (ho : order = 2 * h) (h1 : 1 ≤ h) (hh : h ≤ 3) (ha : Pts w a ps) (hn : ps.length = n) (hn4 : n ≤ 4096) (hin : PtsIn 1000 ps) :
    Calls Try.prog 15 #[.slice a n c, .int .i64 order] w fun e w' => ∃ v, e = .returned v ∧ Own w' w.heap.size v (nearM h order ps n) ∧ Below w.heap.size w w' := by
  have ho6 : order ≤ 6 := by omega
  have ho1 : 2 ≤ order := by omega
  have HN := hid hn
  have hcon := constellation_any order h w ho h1 hh
  clear hn ho
  go_enter Try.func15, Try.ntmps15
  go_wp2_with fail
  refine hcon.mono ?_
  rintro e w1 ⟨v4, v8, vs4, rfl, hown4, hrow4, hown8, hb1⟩
  have hl4 : vs4.length = 2 ^ order := by rw [hrow4.1, wordsM_length]
  have hl8 : ((wordsM order).map fun l => (sideR l 0 h, sideR l 1 h)).length = 2 ^ order := by rw [List.length_map, wordsM_length]
  have hp1 : 1 ≤ 2 ^ order := Nat.one_le_two_pow
  have hp6 : 2 ^ order ≤ 64 := Nat.le_trans (Nat.pow_le_pow_right (by decide) ho6) (by decide)
  obtain ⟨gL, cL, e4, hc4, hm4, hg4⟩ := hown4.shape1 (by omega)
  obtain ⟨aP, cP, e8, hc8, hm8⟩ := hown8.shape
  subst e4
  subst e8
  have hptsP := hown8.pts
  rw [hl4] at hown4 hc4
  rw [hl8] at hc8
  obtain ⟨nL, enL⟩ : ∃ nL, nL = 2 ^ order := ⟨_, rfl⟩
  rw [← enL] at hl4 hl8 hp1 hp6 hown4 hc4 hc8
  rw [hl4, hl8]
  have HNL := hid enL
  unfold maxLen at hm4 hm8
  clear enL hown8 hcon
  obtain ⟨gP, oP, rfl, hcp⟩ := hptsP.at (i := 0) (by omega)
  clear hcp
  go_wp2
  go_loopw [7, 8] (fun v q wr => ∃ i : Nat, i ≤ n ∧ q = .int .i64 i ∧ Own wr w1.heap.size v (nearM h order ps i) ∧ Below w1.heap.size w1 wr) (fun _ q _ => n - (intOf q).toNat)
  case atStart => exact ⟨0, Nat.zero_le _, rfl, World.ownsRow_nil _ _ _ _, Below.refl _ _⟩
  case round =>
    obtain ⟨i, hi, rfl, hown7, hbel⟩ := hrel
    by_cases hlt : i < n
    · have hlt' : i < ps.length := by rw [HN.out]; exact hlt
      have HIN := hid hlt
      have HSI := hid (nearM_succ (h := h) (order := order) hlt')
      have HLI := hid (nearM_length h order ps i (by omega))
      have hpb := hin i
      obtain ⟨ga, oa, rfl, hca⟩ := ((ha.below hb1).below hbel).at hlt'
      clear hca
      obtain ⟨p, ep⟩ : ∃ p, p = ps.getD i (0, 0) := ⟨_, rfl⟩
      rw [← ep] at hpb HSI
      have HP := hid ep
      clear ep
      go_wp2
      go_loopw [9, 10] (fun q1 q2 ws => ∃ j : Nat, 1 ≤ j ∧ j ≤ nL ∧ q1 = .int .i64 (nearTo h order p j : Nat) ∧ q2 = .int .i64 j ∧ Own ws w1.heap.size u7 (nearM h order ps i) ∧ Below w1.heap.size w1 ws) (fun _ q2 _ => nL - (intOf q2).toNat)
      case atStart => exact ⟨1, Nat.le_refl _, hp1, by rw [nearTo_one]; rfl, rfl, hown7, hbel⟩
      case round =>
        clear hown7 hbel
        obtain ⟨j, hj1, hj, rfl, rfl, hown7, hbel⟩ := hrel
        by_cases hjl : j < nL
        · have hjl' : j < (wordsM order).length := by rw [wordsM_length]; have := HNL.out; omega
          have htl := nearTo_lt h order p j hj1
          have HNT := hid (show nearTo h order p (j + 1) = if farM p (ptM h ((wordsM order).getD j [])) < farM p (ptM h ((wordsM order).getD (nearTo h order p j) [])) then j else nearTo h order p j from rfl)
          obtain ⟨t, et⟩ : ∃ t, t = nearTo h order p j := ⟨_, rfl⟩
          rw [← et] at htl HNT
          rw [← et]
          have htl' : t < (wordsM order).length := by omega
          obtain ⟨ga', oa', ea, hca⟩ := (((ha.below hb1).below hbel).at (by rw [HN.out]; exact HIN.out))
          simp at ea
          obtain ⟨rfl, rfl⟩ := ea
          have hpi := hca i (by rw [HN.out]; exact HIN.out)
          rw [← HP.out] at hpi
          obtain ⟨gP', oP', eP, hcp⟩ := (hptsP.below hbel).at (i := j) (by rw [hl8]; exact hjl)
          simp at eP
          obtain ⟨rfl, rfl⟩ := eP
          have hpj := hcp j (by rw [hl8]; exact hjl)
          have hpt := hcp t (by rw [hl8]; omega)
          have epj : ((wordsM order).map fun l => (sideR l 0 h, sideR l 1 h)).getD j (0, 0) = ptM h ((wordsM order).getD j []) := by
            simp [List.getD, hjl', ptM]
          have ept : ((wordsM order).map fun l => (sideR l 0 h, sideR l 1 h)).getD t (0, 0) = ptM h ((wordsM order).getD t []) := by
            simp [List.getD, htl', ptM]
          rw [epj] at hpj
          rw [ept] at hpt
          have hqb := ptM_bd h ((wordsM order).getD j []) hh
          have hqt := ptM_bd h ((wordsM order).getD t []) hh
          obtain ⟨pj, epj'⟩ : ∃ pj, pj = ptM h ((wordsM order).getD j []) := ⟨_, rfl⟩
          obtain ⟨pt, ept'⟩ : ∃ pt, pt = ptM h ((wordsM order).getD t []) := ⟨_, rfl⟩
          rw [← epj'] at hpj hqb HNT
          rw [← ept'] at hpt hqt HNT
          have hfj := fun w => rfar_any p pj w hpb hqb
          have hft := fun w => rfar_any p pt w hpb hqt
          obtain ⟨dj, edj⟩ : ∃ dj, dj = farM p pj := ⟨_, rfl⟩
          obtain ⟨dt, edt⟩ : ∃ dt, dt = farM p pt := ⟨_, rfl⟩
          rw [← edj] at hfj HNT
          rw [← edt] at hft HNT
          have hmix : Try.prog.follows .mixedOrders = true := by kernel_rfl
          have hE : Enters Try.prog 18 := enters_of Try.func18 (by kernel_rfl) rfl
          have htn : t < nL := by omega
          clear hcp hca epj ept et epj' ept' edj edt
          go_upto_region 10 with fail
          refine wp_mono (region_known3 19 [(28, .slice (some ⟨ga, oa, none⟩) n c), (29, .int .i64 i), (30, .pointer (some ⟨ga, oa + i * 2, none⟩)), (31, .agg #[.int .i64 p.1, .int .i64 p.2]), (32, .slice (some ⟨gP, oP, none⟩) nL cP), (33, .int .i64 j), (34, .pointer (some ⟨gP, oP + j * 2, none⟩)), (35, .agg #[.int .i64 pj.1, .int .i64 pj.2]), (36, .int .i64 dj),
              (37, .slice (some ⟨ga, oa, none⟩) n c), (38, .int .i64 i), (39, .pointer (some ⟨ga, oa + i * 2, none⟩)), (40, .agg #[.int .i64 p.1, .int .i64 p.2]), (41, .slice (some ⟨gP, oP, none⟩) nL cP), (42, .int .i64 t), (43, .pointer (some ⟨gP, oP + t * 2, none⟩)), (44, .agg #[.int .i64 pt.1, .int .i64 pt.2]), (45, .int .i64 dt), (46, .bool (decide (dj < dt)))]
              [[0], [8], [28, 29], [30], [6], [10], [32, 33], [34], [31, 35], [0], [8], [37, 38], [39], [6], [9], [41, 42], [43], [40, 44], [36, 45]] wr hmix rfl rfl (show ([28, 29, 30, 31, 32, 33, 34, 35, 36, 37, 38, 39, 40, 41, 42, 43, 44, 45, 46] : List Nat).Nodup by decide) rfl (by kernel_rfl) (by kernel_rfl) rfl (fun i' hi' ac wc hbc hr Q K hK => by
              have h19 : i' = 0 ∨ i' = 1 ∨ i' = 2 ∨ i' = 3 ∨ i' = 4 ∨ i' = 5 ∨ i' = 6 ∨ i' = 7 ∨ i' = 8 ∨ i' = 9 ∨ i' = 10 ∨ i' = 11 ∨ i' = 12 ∨ i' = 13 ∨ i' = 14 ∨ i' = 15 ∨ i' = 16 ∨ i' = 17 ∨ i' = 18 := by omega
              have qi : wc.cell? ⟨ga, oa + i * 2, none⟩ = some (.int .i64 p.1) ∧ wc.cell? ⟨ga, oa + i * 2 + 1, none⟩ = some (.int .i64 p.2) := ⟨(hbc.cell (World.block_lt_of_cell? wr _ hpi.1)).trans hpi.1, (hbc.cell (World.block_lt_of_cell? wr _ hpi.2)).trans hpi.2⟩
              rcases h19 with rfl | rfl | rfl | rfl | rfl | rfl | rfl | rfl | rfl | rfl | rfl | rfl | rfl | rfl | rfl | rfl | rfl | rfl | rfl
              · exact op_value rfl rfl (run_moveQ wc rfl (hr 0 (by decide))) (hK wc hbc)
              · exact op_value rfl rfl (run_moveQ wc rfl (hr 8 (by decide))) (hK wc hbc)
              · exact op_value rfl rfl (run_idxP wc rfl (hr 28 (by decide)) (hr 29 (by decide)) HIN.out) (hK wc hbc)
              · exact op_value rfl rfl (run_loadP wc rfl (hr 30 (by decide)) qi) (hK wc hbc)
              · exact op_value rfl rfl (run_moveQ wc rfl (hr 6 (by decide))) (hK wc hbc)
              · exact op_value rfl rfl (run_moveQ wc rfl (hr 10 (by decide))) (hK wc hbc)
              · exact op_value rfl rfl (run_idxP wc rfl (hr 32 (by decide)) (hr 33 (by decide)) hjl) (hK wc hbc)
              · exact op_value rfl rfl (run_loadP wc rfl (hr 34 (by decide)) ⟨(hbc.cell (World.block_lt_of_cell? wr _ hpj.1)).trans hpj.1, (hbc.cell (World.block_lt_of_cell? wr _ hpj.2)).trans hpj.2⟩) (hK wc hbc)
              · refine op_call2 rfl rfl rfl hE (hr 31 (by decide)) (hr 35 (by decide)) (hfj wc) fun e w' hr' => ?_
                obtain ⟨rfl, hb'⟩ := hr'
                exact ⟨_, rfl, hK w' (bthen hbc hb')⟩
              · exact op_value rfl rfl (run_moveQ wc rfl (hr 0 (by decide))) (hK wc hbc)
              · exact op_value rfl rfl (run_moveQ wc rfl (hr 8 (by decide))) (hK wc hbc)
              · exact op_value rfl rfl (run_idxP wc rfl (hr 37 (by decide)) (hr 38 (by decide)) HIN.out) (hK wc hbc)
              · exact op_value rfl rfl (run_loadP wc rfl (hr 39 (by decide)) qi) (hK wc hbc)
              · exact op_value rfl rfl (run_moveQ wc rfl (hr 6 (by decide))) (hK wc hbc)
              · exact op_value rfl rfl (run_moveQ wc rfl (hr 9 (by decide))) (hK wc hbc)
              · exact op_value rfl rfl (run_idxP wc rfl (hr 41 (by decide)) (hr 42 (by decide)) htn) (hK wc hbc)
              · exact op_value rfl rfl (run_loadP wc rfl (hr 43 (by decide)) ⟨(hbc.cell (World.block_lt_of_cell? wr _ hpt.1)).trans hpt.1, (hbc.cell (World.block_lt_of_cell? wr _ hpt.2)).trans hpt.2⟩) (hK wc hbc)
              · refine op_call2 rfl rfl rfl hE (hr 40 (by decide)) (hr 44 (by decide)) (hft wc) fun e w' hr' => ?_
                obtain ⟨rfl, hb'⟩ := hr'
                exact ⟨_, rfl, hK w' (bthen hbc hb')⟩
              · exact op_value rfl rfl (run_lssI wc rfl (hr 36 (by decide)) (hr 45 (by decide))) (hK wc hbc))) ?_
          rintro e a' w' ⟨rfl, rfl, hbw⟩
          have hown7' := hown7.below hbw
          have hbel' : Below w1.heap.size w1 w' := hbel.trans (hbw.mono hbel.size)
          have HJL := hid hjl
          dsimp only [setAll, List.set]
          clear hown7 hbel hpi hpj hpt hfj hft
          by_cases hd : dj < dt
          · have HO := hid (show j = nearTo h order p (j + 1) by rw [HNT.out, if_pos hd])
            rw [decide_eq_true hd]
            clear HNT hd
            go_wp2
            go_roundw
            case rel =>
              have := HJL.out
              first | exact ⟨j + 1, by omega, by omega, by rw [← HO.out], by go_num, hown7', hbel'⟩ | ((repeat apply Exists.intro); exact ⟨⟨j + 1, by omega, by omega, by rw [← HO.out], by go_num, hown7', hbel'⟩, rfl⟩)
            case measure =>
              have := HJL.out
              simp [intOf]
              omega
          · have HO := hid (show t = nearTo h order p (j + 1) by rw [HNT.out, if_neg hd])
            rw [decide_eq_false hd]
            clear HNT hd
            go_wp2
            go_roundw
            case rel =>
              have := HJL.out
              first | exact ⟨j + 1, by omega, by omega, by rw [← HO.out], by go_num, hown7', hbel'⟩ | ((repeat apply Exists.intro); exact ⟨⟨j + 1, by omega, by omega, by rw [← HO.out], by go_num, hown7', hbel'⟩, rfl⟩)
            case measure =>
              have := HJL.out
              simp [intOf]
              omega
        · have hjn : j = nL := by omega
          have htl := nearTo_lt h order p j hj1
          have HAT := hid (show (wordsM order).getD (nearTo h order p j) [] = nearAt h order p by unfold nearAt; rw [hjn, HNL.out])
          obtain ⟨t, et⟩ : ∃ t, t = nearTo h order p j := ⟨_, rfl⟩
          rw [← et] at htl HAT
          rw [← et]
          have htl' : t < (wordsM order).length := by rw [wordsM_length]; have := HNL.out; omega
          have hcell := (hown4.below hbel).cell (i := t) (by omega)
          have hOi := (hrow4.below hbel).2 t htl'
          obtain ⟨ai, ci, ei, hai, hci, hmi⟩ := hOi.shape
          have hwl : ((wordsM order).getD t []).length = order := words_len (words_at (by rw [← HNL.out]; omega))
          obtain ⟨gw, rfl⟩ := hai (by intro h0; rw [h0] at hwl; simp at hwl; omega)
          rw [ei] at hcell hOi
          rw [hwl] at hcell
          have hrw := hOi.rd
          rw [HAT.out] at hrw hwl
          have HLL : Hid ((nearM h order ps i).length + order ≤ 1000000) := by
            unfold Hid
            rw [HLI.out]
            have h2 : i * order ≤ 4096 * 6 := Nat.mul_le_mul (by have := HIN.out; omega) ho6
            omega
          have htn : t < nL := by omega
          clear et hOi ei HAT
          go_wp2_with (first | (at_builtin; refine wpList_appRow w1.heap.size w1 gw order ci hown7 hrw hwl (by omega) rfl _ _ rfl rfl rfl HLL.out hbel hbel.size ?_))
          intro v7 w2 hown7' hbel'
          rw [← HSI.out] at hown7'
          go_wp2
          go_roundw
          case rel =>
            have := HIN.out
            first | exact ⟨i + 1, by omega, by go_num, hown7', hbel'⟩ | ((repeat apply Exists.intro); exact ⟨⟨i + 1, by omega, by go_num, hown7', hbel'⟩, rfl⟩)
          case measure =>
            have := HIN.out
            simp [intOf]
            omega
    · have hin' : i = n := by omega
      subst hin'
      go_wp2
      go_ret
      exact ⟨_, rfl, own_monoN hown7 hb1.size, bthen hb1 hbel⟩
end Go.Proofs.Ytdndeegpbjlibac
