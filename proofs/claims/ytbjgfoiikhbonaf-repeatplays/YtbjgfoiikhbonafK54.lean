import Derived.Test.YtbjgfoiikhbonafK53
set_option linter.unusedVariables false
set_option linter.unusedSimpArgs false
namespace Go.Proofs.Ytbjgfoiikhbonaf
open Go.ChangeShapes Go.WideShapes Go.ChangeAt Go.RowKit
set_option maxRecDepth 100000 in
set_option maxHeartbeats 40000000 in
theorem rplays_good (k0 : Nat) (ts : List MvM) (al : Option Addr) (nl cl : Nat) (w : World) (h1 : 1 ≤ k0) (h2 : k0 ≤ 32) (hT : Mvs w al ts) (hnl : ts.length = nl) (hlm : nl ≤ 1600000000000) :
    Calls Try.prog 5 #[.int .i64 (k0 : Int), .slice al nl cl] w fun e w' => e = .returned (.bool true) ∧ Below w.heap.size w w' := by
  have hs := fun wz => rep_laws.snew (k0 : Int) wz (by omega) (by omega)
  have hr := fun wz => rep_laws.rnew (k0 : Int) wz (by omega) (by omega)
  have HK1 := hid h1
  have HK2 := hid h2
  have HT := hid hT
  have HNL := hid hnl
  clear hT hnl
  go_enter Try.func5, Try.ntmps5
  go_wp2_with (first
    | (go_at_call 12; refine (hs _).mono ?_; rintro e w1 ⟨ps, Fs, rfl, hP1, hF1, hb1⟩)
    | (go_at_call 13; refine (hr _).mono ?_; rintro e w2 ⟨pr, Fr, rfl, hP2, hF2, hb2⟩))
  have hA0 := RpAt2.first HK1.out HK2.out hP1 hF1 hb1 hP2 hF2 hb2
  obtain ⟨w4, ew4⟩ : ∃ w4, w4 = (w2.alloc (.cells #[.int .i64 (k0 : Int), .int .i64 0, .slice none 0 0] 53)).alloc (.cells #[.int .i64 (k0 : Int), .int .i64 0, .slice none 0 0] 57) := ⟨_, rfl⟩
  obtain ⟨ga, ega⟩ : ∃ ga, ga = w2.heap.size := ⟨_, rfl⟩
  obtain ⟨gb, egb⟩ : ∃ gb, gb = w2.heap.size + 1 := ⟨_, rfl⟩
  rw [← egb, ← ega, ← ew4] at hA0
  rw [← egb, ← ega, ← ew4]
  clear hP1 hP2 hb1 hb2 hF1 hF2 ew4 ega egb hs hr
  go_loopw [11, 12] (fun vo i wr => ∃ j : Nat, j ≤ nl ∧ i = .int .i64 j ∧ RpAt2 w ⟨ps, pr, ⟨ga, 0, none⟩, ⟨gb, 0, none⟩⟩ j vo wr) (fun _ i _ => nl - (intOf i).toNat)
  case atStart => exact ⟨0, Nat.zero_le _, rfl, hA0⟩
  case round =>
    obtain ⟨j, hj, rfl, hA⟩ := hrel
    clear hA0
    by_cases hlt : j < nl
    · obtain ⟨m, r, out, K, hG, hKj, hmj, hol, hfj, hpo⟩ := hA
      obtain ⟨ao, co, rfl, -, -, -⟩ := row_shape hG.out
      obtain ⟨O, eO⟩ : ∃ O, O = out.length := ⟨_, rfl⟩
      rw [← eO] at hG hol ⊢
      have HEO := hid eO
      have HPO := hid hpo
      obtain ⟨bl, ol, rfl, hat, hmo⟩ := HT.out j (by rw [HNL.out]; exact hlt)
      have HAT0 := hid hat
      have hat := hat.below hG.bel
      have HMO := hid hmo
      generalize ts.getD j .zero = Z at *
      obtain ⟨kd, nn, sz, tx, np, P, nr, R⟩ := Z
      obtain ⟨t0, t1, t2, t3, ⟨ap, cp, t4, t5⟩, ar, cr, t6, t7⟩ := hat
      dsimp only at t0 t1 t2 t3 t4 t5 t6 t7
      have HWR0 := hid hG.bel
      have hG1 := hG.lay 61 [.int .i64 kd, .int .i64 nn, .int .i64 sz, .string tx, .slice ap np cp, .slice ar nr cr]
      rw [List.nil_append] at hG1
      change Rp w (wr.alloc (.cells #[.int .i64 kd, .int .i64 nn, .int .i64 sz, .string tx, .slice ap np cp, .slice ar nr cr] 61)) _ _ _ _ _ _ _ _ _ at hG1
      obtain ⟨wa, ewa⟩ : ∃ wa, wa = wr.alloc (.cells #[.int .i64 kd, .int .i64 nn, .int .i64 sz, .string tx, .slice ap np cp, .slice ar nr cr] 61) := ⟨_, rfl⟩
      obtain ⟨gt, egt⟩ : ∃ gt, gt = wr.heap.size := ⟨_, rfl⟩
      have HTW : Hid (∀ wz, Below w.heap.size w wz → MvAt wz bl (ol + j * 6) ⟨kd, nn, sz, tx, np, P, nr, R⟩) := fun wz hz => HAT0.out.below hz
      have HCAP : Hid (wr.cell? ⟨bl, ol + j * 6 + 4, none⟩ = some (.slice ap np cp) ∧ wr.cell? ⟨bl, ol + j * 6 + 5, none⟩ = some (.slice ar nr cr)) := ⟨t4, t6⟩
      have HT5 : Hid (∀ wz, Below w.heap.size w wz → 0 < np → ∃ pb po, ap = some ⟨pb, po, none⟩ ∧ wz.cell? ⟨pb, po, none⟩ = some (.int .i64 P.num) ∧ wz.cell? ⟨pb, po + 1, none⟩ = some (.int .i64 P.frm) ∧ wz.cell? ⟨pb, po + 2, none⟩ = some (.bool P.last) ∧ wz.cell? ⟨pb, po + 3, none⟩ = some (.string P.data)) := fun wz hz hp => by
        obtain ⟨-, -, -, -, ⟨ap2, cp2, u4, u5⟩, -⟩ := HAT0.out
        have e4 := cellBl HWR0.out u4
        rw [HCAP.out.1] at e4
        cases e4
        obtain ⟨pb, po, e, a, b, c, d⟩ := u5 hp
        exact ⟨pb, po, e, cellBl hz a, cellBl hz b, cellBl hz c, cellBl hz d⟩
      have HT8 : Hid (0 < nr → ∃ rb ro ag cg, ar = some ⟨rb, ro, none⟩ ∧ (R.miss ≠ [] → ∀ y, ag = some y → y.block < w.heap.size) ∧ ∀ wz, Below w.heap.size w wz → wz.cell? ⟨rb, ro, none⟩ = some (.int .i64 R.next) ∧ wz.cell? ⟨rb, ro + 1, none⟩ = some (.slice ag R.miss.length cg) ∧ Gps wz ag R.miss) := fun hp => by
        obtain ⟨-, -, -, -, -, ar2, cr2, u4, u5⟩ := HAT0.out
        have e4 := cellBl HWR0.out u4
        rw [HCAP.out.2] at e4
        cases e4
        obtain ⟨rb, ro, e, a, ag, cg, b, c, d⟩ := u5 hp
        exact ⟨rb, ro, ag, cg, e, d, fun wz hz => ⟨cellBl hz a, cellBl hz b, c.kept (S := []) (Kept.of_below hz) (fun x _ => by simp)⟩⟩
      rw [← ewa, ← egt] at hG1
      have HG1 := hid hG1
      have HEW := hid ewa
      have HEG := hid egt
      have HWR := hid hG.bel
      clear hG eO hpo hmo hG1 ewa egt t5 t7
      go_upto_block 2 with fail
      rw [← HEW.out, ← HEG.out]
      go_cut [11, 14] (fun vo ok wx => ok = .bool true ∧ RpAt2 w ⟨ps, pr, ⟨ga, 0, none⟩, ⟨gb, 0, none⟩⟩ (j + 1) vo wx)
      case first =>
        have HAT := hid (HG1.out.at (g := gt) (T := 61) (cs := [.int .i64 kd, .int .i64 nn, .int .i64 sz, .string tx, .slice ap np cp, .slice ar nr cr]) (by simp))
        have m0 : wa.cell? ⟨gt, 0, none⟩ = some (.int .i64 kd) := HAT.out.cell 0
        have m1 : wa.cell? ⟨gt, 1, none⟩ = some (.int .i64 nn) := HAT.out.cell 1
        have m2 : wa.cell? ⟨gt, 2, none⟩ = some (.int .i64 sz) := HAT.out.cell 2
        have m3 : wa.cell? ⟨gt, 3, none⟩ = some (.string tx) := HAT.out.cell 3
        have m4 : wa.cell? ⟨gt, 4, none⟩ = some (.slice ap np cp) := HAT.out.cell 4
        have m5 : wa.cell? ⟨gt, 5, none⟩ = some (.slice ar nr cr) := HAT.out.cell 5
        clear t0 t1 t2 t3 t4 t6 HEG
        have htx : tx.size ≤ manyB := HMO.out.tx
        by_cases e0 : kd = 0
        · subst e0
          as_aux_lemma =>
            have HNX := hid (show (m.submit tx).m.n ≤ j + 1 from Nat.le_trans (submit_n m tx) (by omega))
            have hmU : m.n < manyU := by unfold manyU; omega
            have hmO : m.n ≤ manyO := by unfold manyO; omega
            go_upto_region 16 with fail
            go_region_held3 (fun w' => w'.cell? ⟨gt, 3, none⟩ = some (.string tx)) (first | exact m3 | exact y1 | exact y2 | go_keep) (first
              | (go_at_call 14; refine ((HG1.out.below ((Below.refl _ wa).drew)).sub1 tx hmU htx).mono ?_; rintro e w3 ⟨rfl, hG3⟩; have HG3 := hid hG3; have y1 : w3.cell? ⟨gt, 3, none⟩ = some (.string tx) := (hG3.at (g := gt) (T := 61) (cs := [.int .i64 0, .int .i64 nn, .int .i64 sz, .string tx, .slice ap np cp, .slice ar nr cr]) (by simp)).cell 3; clear hG3)
              | (go_at_call 15; refine (HG3.out.sub2 tx hmO htx).mono ?_; rintro e w5 ⟨rfl, hG5⟩; have HG5 := hid hG5; have y2 : w5.cell? ⟨gt, 3, none⟩ = some (.string tx) := (hG5.at (g := gt) (T := 61) (cs := [.int .i64 0, .int .i64 nn, .int .i64 sz, .string tx, .slice ap np cp, .slice ar nr cr]) (by simp)).cell 3; clear hG5))
            go_wp2_with fail
            go_meet
            case rel => exact ⟨by simp, (m.submit tx).m, r, out, K, HG5.out.less, by omega, HNX.out, by rw [← HEO.out]; omega, by omega, HPO.out⟩
        by_cases e1 : kd = 1
        · subst e1
          as_aux_lemma =>
            have hmU : m.n ≤ manyU := by unfold manyU; omega
            have hmO : m.n ≤ manyO := by unfold manyO; omega
            have HNX := hid (show (m.next sz).m.n ≤ j from by rw [next_n]; exact hmj)
            have HSM := hid (next_small HG1.out.small sz)
            have hn1 := HG1.out.nxt1 sz hmU
            obtain ⟨Q, eQ⟩ : ∃ Q, Q = (m.next sz).p := ⟨_, rfl⟩
            obtain ⟨E, eE⟩ : ∃ E, E = (m.next sz).err := ⟨_, rfl⟩
            rw [← eQ, ← eE] at hn1
            rw [← eQ] at HSM
            have HEQ := hid eQ
            have HEE := hid eE
            obtain ⟨num, frm, la, dat⟩ := Q
            dsimp only [PieceM.val] at hn1
            clear eQ eE
            by_cases hE : E = 0
            · subst hE
              go_wp2_with (first
                | (go_at_call 16; refine hn1.mono ?_; rintro e w3 ⟨rfl, hG3⟩; have hG3' := hG3.lay 64 [.int .i64 num, .int .i64 frm, .bool la, .string dat]; change Rp w (w3.alloc (.cells #[.int .i64 num, .int .i64 frm, .bool la, .string dat] 64)) _ _ _ _ _ _ _ _ _ at hG3'; have n2 : (w3.alloc (.cells #[.int .i64 num, .int .i64 frm, .bool la, .string dat] 64)).cell? ⟨gt, 2, none⟩ = some (.int .i64 sz) := (hG3'.at (g := gt) (T := 61) (cs := [.int .i64 1, .int .i64 nn, .int .i64 sz, .string tx, .slice ap np cp, .slice ar nr cr]) (by simp)).cell 2; have hs2 := hG3'.nxt2 sz hmO; rw [← HEQ.out, ← HEE.out] at hs2; dsimp only [PieceM.val] at hs2; clear hG3 hG3')
                | (go_at_call 17; refine hs2.mono ?_; rintro e w5 ⟨rfl, hG5⟩; have hG6 := hG5.lay 64 [.int .i64 num, .int .i64 frm, .bool la, .string dat]; change Rp w (w5.alloc (.cells #[.int .i64 num, .int .i64 frm, .bool la, .string dat] 64)) _ _ _ _ _ _ _ _ _ at hG6; have ha3 := hG6.at (g := w3.heap.size) (T := 64) (cs := [.int .i64 num, .int .i64 frm, .bool la, .string dat]) (by simp); have p0 : (w5.alloc (.cells #[.int .i64 num, .int .i64 frm, .bool la, .string dat] 64)).cell? ⟨w3.heap.size, 0, none⟩ = some (.int .i64 num) := ha3.cell 0; have p1 : (w5.alloc (.cells #[.int .i64 num, .int .i64 frm, .bool la, .string dat] 64)).cell? ⟨w3.heap.size, 1, none⟩ = some (.int .i64 frm) := ha3.cell 1; have p2 : (w5.alloc (.cells #[.int .i64 num, .int .i64 frm, .bool la, .string dat] 64)).cell? ⟨w3.heap.size, 2, none⟩ = some (.bool la) := ha3.cell 2; have p3 : (w5.alloc (.cells #[.int .i64 num, .int .i64 frm, .bool la, .string dat] 64)).cell? ⟨w3.heap.size, 3, none⟩ = some (.string dat) := ha3.cell 3; obtain ⟨ao', co', w7, hAp, hG7⟩ := hG6.push2 ⟨num, frm, la, dat⟩ (by rw [← HEO.out]; omega); rw [← HEO.out] at hAp hG7; have HG7 := hid hG7; clear hG7 hG6 hG5 ha3)
                | (at_builtin; refine wpList_bi2 _ rfl .append _ _ 58 58 rfl (.slice ao O co) (.slice (some ⟨w5.heap.size + 1, 0, none⟩) 1 1) rfl rfl (bi_append hAp) ?_))
              go_meet
              case rel =>
                refine ⟨by simp, (m.next sz).m, r, out ++ [⟨num, frm, la, dat⟩], K, HG7.out.less, by omega, by have := HNX.out; omega, by rw [List.length_append, List.length_singleton, ← HEO.out]; omega, by omega, fun p hp => ?_⟩
                rcases List.mem_append.1 hp with hp | hp
                · exact HPO.out p hp
                · rw [List.mem_singleton] at hp
                  rw [hp]
                  have h3 := HSM.out
                  exact ⟨by show dat.size ≤ manyB; unfold manyB; omega, by show -9223372036854775808 ≤ frm; omega, by show frm ≤ 9223372036854775807; omega⟩
            · have hE2 : (E == 0) = false := by rw [beq_eq_false_iff_ne]; exact hE
              go_wp2_with (first
                | (go_at_call 16; refine hn1.mono ?_; rintro e w3 ⟨rfl, hG3⟩; have hG3' := hG3.lay 64 [.int .i64 num, .int .i64 frm, .bool la, .string dat]; change Rp w (w3.alloc (.cells #[.int .i64 num, .int .i64 frm, .bool la, .string dat] 64)) _ _ _ _ _ _ _ _ _ at hG3'; have n2 : (w3.alloc (.cells #[.int .i64 num, .int .i64 frm, .bool la, .string dat] 64)).cell? ⟨gt, 2, none⟩ = some (.int .i64 sz) := (hG3'.at (g := gt) (T := 61) (cs := [.int .i64 1, .int .i64 nn, .int .i64 sz, .string tx, .slice ap np cp, .slice ar nr cr]) (by simp)).cell 2; have hs2 := hG3'.nxt2 sz hmO; rw [← HEQ.out, ← HEE.out] at hs2; dsimp only [PieceM.val] at hs2; clear hG3 hG3')
                | (go_at_call 17; refine hs2.mono ?_; rintro e w5 ⟨rfl, hG5⟩; have hG6 := hG5.lay 64 [.int .i64 num, .int .i64 frm, .bool la, .string dat]; change Rp w (w5.alloc (.cells #[.int .i64 num, .int .i64 frm, .bool la, .string dat] 64)) _ _ _ _ _ _ _ _ _ at hG6; have ha3 := hG6.at (g := w3.heap.size) (T := 64) (cs := [.int .i64 num, .int .i64 frm, .bool la, .string dat]) (by simp); have p0 : (w5.alloc (.cells #[.int .i64 num, .int .i64 frm, .bool la, .string dat] 64)).cell? ⟨w3.heap.size, 0, none⟩ = some (.int .i64 num) := ha3.cell 0; have p1 : (w5.alloc (.cells #[.int .i64 num, .int .i64 frm, .bool la, .string dat] 64)).cell? ⟨w3.heap.size, 1, none⟩ = some (.int .i64 frm) := ha3.cell 1; have p2 : (w5.alloc (.cells #[.int .i64 num, .int .i64 frm, .bool la, .string dat] 64)).cell? ⟨w3.heap.size, 2, none⟩ = some (.bool la) := ha3.cell 2; have p3 : (w5.alloc (.cells #[.int .i64 num, .int .i64 frm, .bool la, .string dat] 64)).cell? ⟨w3.heap.size, 3, none⟩ = some (.string dat) := ha3.cell 3; have HG6 := hid hG6; clear hG6 hG5 ha3))
              go_meet
              case rel => exact ⟨by simp, (m.next sz).m, r, out, K, HG6.out.less, by omega, by have := HNX.out; omega, by rw [← HEO.out]; omega, by omega, HPO.out⟩
        by_cases e2 : kd = 2
        · subst e2
          as_aux_lemma =>
            have hfU : r.fst ≤ manyU := by unfold manyU; omega
            have hKO : K ≤ manyO := by unfold manyO; omega
            have HGB := HG1.out.lay 64 [.int .i64 0, .int .i64 0, .bool false, .string { data := #[] }]
            change Rp w (wa.alloc (.cells #[.int .i64 0, .int .i64 0, .bool false, .string { data := #[] }] 64)) _ _ _ _ _ _ _ _ _ at HGB
            have HGB := hid HGB
            go_upto_region 25 with fail
            obtain ⟨gx, egx⟩ : ∃ gx, gx = wa.heap.size := ⟨_, rfl⟩
            rw [← egx] at HGB
            rw [← egx]
            generalize (wa.alloc (.cells #[.int .i64 0, .int .i64 0, .bool false, .string { data := #[] }] 64)) = wb at *
            clear egx m0 m1 m2 m3 m4 m5
            have HGB : Hid (Rp w wb ⟨ps, pr, ⟨ga, 0, none⟩, ⟨gb, 0, none⟩⟩ m r m r K (.slice ao O co) out [(atC gt 61 [.int .i64 2, .int .i64 nn, .int .i64 sz, .string tx, .slice ap np cp, .slice ar nr cr], [gt]), (atC gx 64 [.int .i64 0, .int .i64 0, .bool false, .string { data := #[] }], [gx])]) := HGB
            have bm1 : wb.cell? ⟨gt, 1, none⟩ = some (.int .i64 nn) := (HGB.out.at (g := gt) (T := 61) (cs := [.int .i64 2, .int .i64 nn, .int .i64 sz, .string tx, .slice ap np cp, .slice ar nr cr]) (by simp)).cell 1
            have HPP : Hid (P.data.size ≤ manyB ∧ -9223372036854775808 ≤ P.frm ∧ P.frm ≤ 9223372036854775807) := ⟨HMO.out.pd, HMO.out.pf⟩
            go_cut [132] (fun v wx => v = .bool (decide (0 ≤ nn ∧ nn < (O : Int))) ∧ wb = wx)
            case first =>
              by_cases hn0 : 0 ≤ nn
              · by_cases hn1 : nn < (O : Int)
                · go_wp2_with fail
                  go_meet
                  case rel => exact ⟨by rw [decide_eq_true (p := 0 ≤ nn ∧ nn < (O : Int)) (by omega)], rfl⟩
                · go_wp2_with fail
                  go_meet
                  case rel => exact ⟨by rw [decide_eq_false (p := 0 ≤ nn ∧ nn < (O : Int)) (by omega)], rfl⟩
              · go_wp2_with fail
                go_meet
                case rel => exact ⟨by rw [decide_eq_false (p := 0 ≤ nn ∧ nn < (O : Int)) (by omega)], rfl⟩
            case rest =>
              obtain ⟨rfl, rfl⟩ := hcut
              go_upto_if 132 with fail
              go_cut [] (fun wx => ∃ Q : PieceM, Rp w wx ⟨ps, pr, ⟨ga, 0, none⟩, ⟨gb, 0, none⟩⟩ m r m r K (.slice ao O co) out [(atC gt 61 [.int .i64 2, .int .i64 nn, .int .i64 sz, .string tx, .slice ap np cp, .slice ar nr cr], [gt]), (atC gx 64 [.int .i64 Q.num, .int .i64 Q.frm, .bool Q.last, .string Q.data], [gx])] ∧ (Q.data.size ≤ manyB ∧ -9223372036854775808 ≤ Q.frm ∧ Q.frm ≤ 9223372036854775807))
              case first =>
                by_cases hnn : 0 ≤ nn ∧ nn < (O : Int)
                · rw [decide_eq_true hnn]
                  obtain ⟨k, ek⟩ : ∃ k : Nat, (k : Int) = nn := ⟨nn.toNat, by omega⟩
                  have hkO : k < out.length := by rw [← HEO.out]; omega
                  have hro := HGB.out.out
                  obtain ⟨go, eao, x0, x1, x2, x3⟩ := row_pcs hro hkO
                  have HQ1 := hid (HPO.out _ (show out.getD k .zero ∈ out by rw [List.getD_eq_getElem?_getD, List.getElem?_eq_getElem hkO]; exact List.getElem_mem hkO))
                  obtain ⟨Q1, eQ1⟩ : ∃ Q1, Q1 = out.getD k .zero := ⟨_, rfl⟩
                  rw [← eQ1] at x0 x1 x2 x3 HQ1
                  have hb := HGB.out.at (g := gx) (T := 64) (cs := [.int .i64 0, .int .i64 0, .bool false, .string { data := #[] }]) (by simp)
                  have bf0 := hb.free 0
                  have bf1 := hb.free 1
                  have bf2 := hb.free 2
                  have bf3 := hb.free 3
                  have b0 := hb.cell 0
                  have b1 := hb.cell 1
                  have b2 := hb.cell 2
                  have b3 := hb.cell 3
                  have HGC := hid (HGB.out.set4 (.int .i64 Q1.num) (.int .i64 Q1.frm) (.bool Q1.last) (.string Q1.data))
                  subst ek
                  subst eao
                  obtain ⟨hn0, hn1⟩ := hnn
                  clear eQ1 hkO hro hb
                  go_wp2_with fail
                  go_meet
                  case rel => exact ⟨Q1, HGC.out, HQ1.out⟩
                · rw [decide_eq_false hnn]
                  clear hnn
                  go_wp2_with fail
                  go_meet
                  case rel => exact ⟨⟨0, 0, false, { data := #[] }⟩, HGB.out, by decide, by decide, by decide⟩
              case rest =>
                obtain ⟨Q0, hGB, hQ0⟩ := hcut
                have HGB := hid hGB
                have HQ0 := hid hQ0
                clear hGB hQ0
                have bm4 : wc.cell? ⟨gt, 4, none⟩ = some (.slice ap np cp) := (HGB.out.at (g := gt) (T := 61) (cs := [.int .i64 2, .int .i64 nn, .int .i64 sz, .string tx, .slice ap np cp, .slice ar nr cr]) (by simp)).cell 4
                obtain ⟨wb, ewb⟩ : ∃ wb, wb = wc := ⟨_, rfl⟩
                rw [← ewb] at HGB bm4 ⊢
                clear ewb
                go_upto_if 141 with fail
                go_cut [] (fun wx => ∃ Q : PieceM, Rp w wx ⟨ps, pr, ⟨ga, 0, none⟩, ⟨gb, 0, none⟩⟩ m r m r K (.slice ao O co) out [(atC gt 61 [.int .i64 2, .int .i64 nn, .int .i64 sz, .string tx, .slice ap np cp, .slice ar nr cr], [gt]), (atC gx 64 [.int .i64 Q.num, .int .i64 Q.frm, .bool Q.last, .string Q.data], [gx])] ∧ (Q.data.size ≤ manyB ∧ -9223372036854775808 ≤ Q.frm ∧ Q.frm ≤ 9223372036854775807))
                case first =>
                  by_cases hnp : 0 < np
                  · obtain ⟨pb, po, eap, x0, x1, x2, x3⟩ := HT5.out wb HGB.out.bel hnp
                    have hb := HGB.out.at (g := gx) (T := 64) (cs := [.int .i64 Q0.num, .int .i64 Q0.frm, .bool Q0.last, .string Q0.data]) (by simp)
                    have bf0 := hb.free 0
                    have bf1 := hb.free 1
                    have bf2 := hb.free 2
                    have bf3 := hb.free 3
                    have b0 := hb.cell 0
                    have b1 := hb.cell 1
                    have b2 := hb.cell 2
                    have b3 := hb.cell 3
                    have HGC := hid (HGB.out.set4 (.int .i64 P.num) (.int .i64 P.frm) (.bool P.last) (.string P.data))
                    subst eap
                    clear hb
                    go_wp2_with fail
                    go_meet
                    case rel => exact ⟨P, HGC.out, HPP.out⟩
                  · go_wp2_with fail
                    go_meet
                    case rel => exact ⟨Q0, HGB.out, HQ0.out⟩
                case rest =>
                  obtain ⟨Q, hGC, hQ⟩ := hcut
                  have HGC := hid hGC
                  have HQ9 := hid hQ
                  clear hGC hQ
                  have hc := HGC.out.at (g := gx) (T := 64) (cs := [.int .i64 Q.num, .int .i64 Q.frm, .bool Q.last, .string Q.data]) (by simp)
                  obtain ⟨wd, ewd⟩ : ∃ wd, wd = wc := ⟨_, rfl⟩
                  rw [← ewd] at HGC hc ⊢
                  clear ewd
                  have c0 : wd.cell? ⟨gx, 0, none⟩ = some (.int .i64 Q.num) := hc.cell 0
                  have c1 : wd.cell? ⟨gx, 1, none⟩ = some (.int .i64 Q.frm) := hc.cell 1
                  have c2 : wd.cell? ⟨gx, 2, none⟩ = some (.bool Q.last) := hc.cell 2
                  have c3 : wd.cell? ⟨gx, 3, none⟩ = some (.string Q.data) := hc.cell 3
                  clear hc
                  have hrt := HGC.out.rt1 Q hfU HQ9.out.1
                  dsimp only [PieceM.val] at hrt
                  go_wp2_with (first
                    | (go_at_call 18; refine hrt.mono ?_; rintro e w5 ⟨a5, n5, c5, rfl, hl5, hn5, hG5⟩; have ha5 := hG5.at (g := gx) (T := 64) (cs := [.int .i64 Q.num, .int .i64 Q.frm, .bool Q.last, .string Q.data]) (by simp); have z0 : w5.cell? ⟨gx, 0, none⟩ = some (.int .i64 Q.num) := ha5.cell 0; have z1 : w5.cell? ⟨gx, 1, none⟩ = some (.int .i64 Q.frm) := ha5.cell 1; have z2 : w5.cell? ⟨gx, 2, none⟩ = some (.bool Q.last) := ha5.cell 2; have z3 : w5.cell? ⟨gx, 3, none⟩ = some (.string Q.data) := ha5.cell 3; have hr2 := hG5.rt2 Q hfU hKO HQ9.out.2 HQ9.out.1; dsimp only [PieceM.val] at hr2; have HL5 := hid hl5; clear hG5 hl5 ha5)
                    | (go_at_call 19; refine hr2.mono ?_; rintro e w7 ⟨a7, n7, c7, rfl, ht7, hl7, hn7, hG7⟩; obtain rfl : n7 = n5 := hl7.symm.trans HL5.out; have HSM := hid (same_any (ca := c5) (cb := c7) (hG7.beside (c := txC a5 (r.take Q).out) (F := adB a5) (by simp)).2.1 ht7 hl7 (by omega)); have HG7 := hid hG7; clear hG7 ht7 hl7 hr2)
                    | (go_at_call 20; refine HSM.out.mono ?_; rintro e w9 ⟨rfl, hb9⟩; have HB9 := hid hb9; clear hb9))
                  go_meet
                  case rel =>
                    have h8 := take_fst r Q
                    rw [HL5.out] at h8
                    exact ⟨by simp, m, (r.take Q).m, out, K + 1, (HG7.out.below HB9.out).less, by omega, by omega, by rw [← HEO.out]; omega, by omega, HPO.out⟩
        by_cases e3 : kd = 3
        · subst e3
          as_aux_lemma =>
            have hfU : r.fst ≤ manyU := by unfold manyU; omega
            have hKO : K ≤ manyO := by unfold manyO; omega
            have hmU : m.n ≤ manyU := by unfold manyU; omega
            have hmO : m.n ≤ manyO := by unfold manyO; omega
            have HRL := hid HMO.out.rl
            have hrp := HG1.out.rp2O hfU hKO
            obtain ⟨rn, ern⟩ : ∃ rn, rn = r.report.next := ⟨_, rfl⟩
            have HRN := hid ern
            rw [← ern] at hrp
            clear ern
            go_upto_region 34 with (go_at_call 21; refine hrp.mono ?_; rintro e w5 ⟨a5, n5, c5, rfl, hl5, hm5, hg5, hG5⟩; have HL5 := hid hl5; have HM5 := hid hm5; have HG5 := hid hG5; have HP5 := hid hg5; clear hl5 hm5 hG5 hg5 hrp)
            have HG6 := HG5.out.lay 73 [.int .i64 rn, .slice a5 n5 c5]
            change Rp w (w5.alloc (.cells #[.int .i64 rn, .slice a5 n5 c5] 73)) _ _ _ _ _ _ _ _ _ at HG6
            have HG6 := hid HG6
            have HP6 := hid (HP5.out.kept (S := []) (Kept.of_below ((Below.refl _ w5).alloc (Nat.le_refl _) (.cells #[.int .i64 rn, .slice a5 n5 c5] 73))) (fun x _ => by simp))
            obtain ⟨gx, egx⟩ : ∃ gx, gx = w5.heap.size := ⟨_, rfl⟩
            rw [← egx] at HG6
            rw [← egx]
            generalize (w5.alloc (.cells #[.int .i64 rn, .slice a5 n5 c5] 73)) = wb at *
            clear egx m0 m1 m2 m3 m4 m5 HG5 HP5
            have HG6 : Hid (Rp w wb ⟨ps, pr, ⟨ga, 0, none⟩, ⟨gb, 0, none⟩⟩ m r m r K (.slice ao O co) out [(atC gt 61 [.int .i64 3, .int .i64 nn, .int .i64 sz, .string tx, .slice ap np cp, .slice ar nr cr], [gt]), (gpC a5 r.report.miss, adB a5), (atC gx 73 [.int .i64 rn, .slice a5 n5 c5], [gx])]) := HG6
            have bm5 : wb.cell? ⟨gt, 5, none⟩ = some (.slice ar nr cr) := (HG6.out.at (g := gt) (T := 61) (cs := [.int .i64 3, .int .i64 nn, .int .i64 sz, .string tx, .slice ap np cp, .slice ar nr cr]) (by simp)).cell 5
            go_upto_if 173 with fail
            go_cut [] (fun wx => RepAt w wx ⟨ps, pr, ⟨ga, 0, none⟩, ⟨gb, 0, none⟩⟩ m r K (.slice ao O co) out gx)
            case first =>
              by_cases hnr : 0 < nr
              · obtain ⟨rb, ro, ag, cg, ear, hlt, hz⟩ := HT8.out hnr
                obtain ⟨x0, x1, hgp⟩ := hz wb HG6.out.bel
                have hb := HG6.out.at (g := gx) (T := 73) (cs := [.int .i64 rn, .slice a5 n5 c5]) (by simp)
                have bf0 := hb.free 0
                have bf1 := hb.free 1
                have b0 := hb.cell 0
                have b1 := hb.cell 1
                obtain ⟨gn, egn⟩ : ∃ gn, gn = R.miss.length := ⟨_, rfl⟩
                rw [← egn] at x1
                have HGN := hid egn
                have HGC := hid (HG6.out.set2 (.int .i64 R.next) (.slice ag gn cg))
                have HGP := hid (hz _ HGC.out.bel).2.2
                have HLT := hid hlt
                subst ear
                clear hb hgp hz hlt egn
                go_wp2_with fail
                go_meet
                case rel => exact ⟨R, ag, gn, cg, [_, _], HGC.out, HGP.out, fun hne => .inl (HLT.out hne), HGN.out.symm, by rw [HGN.out]; exact HRL.out⟩
              · go_wp2_with fail
                go_meet
                case rel =>
                  have h9 := HG6.out
                  rw [HRN.out] at h9
                  exact ⟨r.report, a5, n5, c5, [_, _], h9, HP6.out, fun _ => .inr ⟨r.report.miss, by simp⟩, HL5.out, Nat.le_trans HM5.out (by unfold maxLen; omega)⟩
            case rest =>
              obtain ⟨R', ag, ng, cg, Y, hG, hgp, hof, hln, hmx⟩ := hcut
              have HG := hid hG
              have HLN := hid hln
              have HOF : Hid (R'.miss ≠ [] → OffR w ag (Y ++ [(atC gx 73 [.int .i64 R'.next, .slice ag ng cg], [gx])])) := fun hne => OffR.more (hof hne)
              have HGP := hid hgp
              have hx := hG.at (g := gx) (T := 73) (cs := [.int .i64 R'.next, .slice ag ng cg]) (by simp)
              clear hG hln hof hgp
              obtain ⟨wd, ewd⟩ : ∃ wd, wd = wc := ⟨_, rfl⟩
              rw [← ewd] at HG HGP hx ⊢
              clear ewd
              have q0 : wd.cell? ⟨gx, 0, none⟩ = some (.int .i64 R'.next) := hx.cell 0
              have q1 : wd.cell? ⟨gx, 1, none⟩ = some (.slice ag ng cg) := hx.cell 1
              clear hx
              go_upto_region 36 with fail
              go_region_held3 (fun w' => w'.cell? ⟨gx, 0, none⟩ = some (.int .i64 R'.next) ∧ w'.cell? ⟨gx, 1, none⟩ = some (.slice ag ng cg)) (first | exact ⟨q0, q1⟩ | exact y1 | exact y2 | go_keep) (first
                | (go_at_call 22; refine ((HG.out.below ((Below.refl _ wd).drew)).tk1 R' ag ng cg hmU (HGP.out.kept (S := []) (Kept.of_below ((Below.refl _ wd).drew)) (fun x _ => by simp)) HOF.out HLN.out hmx).mono ?_; rintro e w3 ⟨rfl, hg3, hG3⟩; have HG3 := hid hG3; have HGP3 := hid hg3; have hx3 := hG3.at (g := gx) (T := 73) (cs := [.int .i64 R'.next, .slice ag ng cg]) (by simp); have y1 : w3.cell? ⟨gx, 0, none⟩ = some (.int .i64 R'.next) ∧ w3.cell? ⟨gx, 1, none⟩ = some (.slice ag ng cg) := ⟨hx3.cell 0, hx3.cell 1⟩; clear hG3 hg3 hx3)
                | (go_at_call 23; refine (HG3.out.tk2 R' ag ng cg hmO HGP3.out HOF.out HLN.out hmx).mono ?_; rintro e w5 ⟨rfl, hG5⟩; have HG5 := hid hG5; have hx5 := hG5.at (g := gx) (T := 73) (cs := [.int .i64 R'.next, .slice ag ng cg]) (by simp); have y2 : w5.cell? ⟨gx, 0, none⟩ = some (.int .i64 R'.next) ∧ w5.cell? ⟨gx, 1, none⟩ = some (.slice ag ng cg) := ⟨hx5.cell 0, hx5.cell 1⟩; clear hG5 hx5))
              go_wp2_with fail
              go_meet
              case rel => exact ⟨by simp, (m.take R').m, r, out, K, HG5.out.less, by omega, by rw [take_n]; omega, by rw [← HEO.out]; omega, by omega, HPO.out⟩
        · as_aux_lemma =>
            go_wp2_with fail
            go_meet
            case rel => exact ⟨by simp, m, r, out, K, HG1.out.less, by omega, by omega, by rw [← HEO.out]; omega, by omega, HPO.out⟩
      case rest =>
        obtain ⟨rfl, m', r', out', K', hG2, g1, g2, g3, g4, g5⟩ := hcut
        have HG2 := hid hG2
        have HG5' := hid g5
        have hmU : m'.n ≤ manyU := by unfold manyU; omega
        have hmO : m'.n ≤ manyO := by unfold manyO; omega
        have hfU : r'.fst ≤ manyU := by unfold manyU; omega
        have hKO : K' ≤ manyO := by unfold manyO; omega
        clear hG2 g5
        go_wp2_with (first
          | (go_at_call 24; refine (HG2.out.wt1 hmU).mono ?_; rintro e w5 ⟨rfl, hG5⟩; have HG5 := hid hG5; clear hG5)
          | (go_at_call 25; refine (HG5.out.wt2 hmO).mono ?_; rintro e w6 ⟨rfl, rfl⟩)
          | (go_at_call 27; refine (HG5.out.rp1 hfU).mono ?_; rintro e w7 ⟨a7, n7, c7, rfl, hg7, hl7, hm7, hG7⟩; have HG7 := hid hG7; have HGP7 := hid hg7; have HL7 := hid hl7; have HM7 := hid hm7; clear hG7 hg7 hl7 hm7)
          | (go_at_call 21; refine (HG7.out.rp2 hfU hKO).mono ?_; rintro e w8 ⟨a8, n8, c8, rfl, hg8, hl8, hm8, hn8, hb8⟩; obtain rfl : n8 = n7 := hl8.symm.trans HL7.out; have HSR := hid (samerep_any (nx := r'.report.next) (ca := c7) (cb := c8) (HGP7.out.kept (S := []) (Kept.of_below hb8) (fun x _ => by simp)) hg8 hl8 HM7.out); have HB8 := hid hb8; clear hg8 hl8 hm8 hn8 hb8)
          | (go_at_call 26; refine HSR.out.mono ?_; rintro e w9 ⟨rfl, hb9⟩; have HB9 := hid hb9; clear hb9))
        exact ⟨⟨j + 1, by omega, by go_num, m', r', out', K', (HG7.out.below HB8.out).below HB9.out, g1, g2, g3, g4, HG5'.out⟩, by simp [intOf]; omega⟩
    · obtain ⟨m, r, out, K, hG, -⟩ := hA
      have HB := hid hG.bel
      clear hG
      go_wp2_with fail
      go_ret
      exact ⟨rfl, HB.out⟩
end Go.Proofs.Ytbjgfoiikhbonaf
