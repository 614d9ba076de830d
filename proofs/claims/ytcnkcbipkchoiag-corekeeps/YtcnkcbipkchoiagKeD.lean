import Derived.Test.YtcnkcbipkchoiagKeC
namespace Go.Proofs.Ytcnkcbipkchoiag
open Go.ChangeShapes Go.WideShapes Go.ChangeAt Go.RowKit Go.Maps

/-! THE LAW CoreKeeps, walked. -/

set_option maxRecDepth 100000 in
theorem keeps_bad (u : Int) (aq al : Option Addr) (nq cq nl cl : Nat) (w : World) (hu : u < 1 ∨ 1000000 < u) : Calls Try.prog 6 #[.int .i64 u, .slice aq nq cq, .slice al nl cl] w fun e w' => e = .returned (.bool true) ∧ Below w.heap.size w w' := by
  have hn := cnew_bad u w hu
  clear hu
  go_enter Try.func6, Try.ntmps6
  go_wp2_with (go_at_call 24; refine hn.mono ?_; rintro e w1 ⟨rfl, rfl⟩)
  go_ret
  exact ⟨rfl, Below.refl _ _⟩
set_option maxRecDepth 100000 in
set_option maxHeartbeats 8000000 in
theorem keeps_good (u : Nat) (qs : List Int) (us : List UsgM) (aq al : Option Addr) (nq cq nl cl : Nat) (w : World) (h1 : 1 ≤ u) (h2 : u ≤ 1000000) (hQ : Rd .i64 w aq qs) (hq : qs.length = nq) (hU : Usg w al us) (hl : us.length = nl) (hok : ∀ i, i < us.length → (us.getD i .zero).ok) (hnl : nl ≤ 4398046510976) :
    Calls Try.prog 6 #[.int .i64 (u : Int), .slice aq nq cq, .slice al nl cl] w fun e w' => e = .returned (.bool true) ∧ Below w.heap.size w w' := by
  have hn := cnew_good u w h1 h2
  have HQ := hid hQ
  have HQL := hid hq
  have HU := hid hU
  have HL := hid hl
  have HOK := hid hok
  clear hQ hq hU hl hok h1 h2
  go_enter Try.func6, Try.ntmps6
  go_wp2_with (go_at_call 24; refine hn.mono ?_; rintro e w1 ⟨c, N, rfl, hC, hlo, hb1⟩; have HC := hid hC; have HLO := hid hlo; have HB1 := hid hb1; clear hC hlo hb1)
  have HK0 : Hid (∃ m q, Kq w ((w1.alloc (.cells #[.int .i64 0, .int .i64 0, .int .i64 0, .int .i64 0, .int .i64 0, .int .i64 0, .int .i64 0, .int .i64 0, .int .i64 0, .int .i64 0, .int .i64 0, .int .i64 0, .int .i64 0, .int .i64 0, .int .i64 0, .int .i64 0, .int .i64 0] 82)).alloc (.cells #[.int .i64 0, .int .i64 0, .int .i64 0, .int .i64 0, .int .i64 0, .int .i64 0, .int .i64 0, .int .i64 0, .int .i64 0, .int .i64 0, .int .i64 0, .int .i64 0, .int .i64 0, .int .i64 0, .int .i64 0, .int .i64 0, .int .i64 0] 82)) c w1.heap.size (w1.heap.size + 1) m 0 q (fun _ => 0) ∧ KqS m q) := hid (by
    have hA := at_alloc w1 82 ((List.range 17).map fun _ => Value.int .i64 0)
    have hB := at_alloc (w1.alloc (.cells ((List.range 17).map fun _ => Value.int .i64 0).toArray 82)) 82 ((List.range 17).map fun _ => Value.int .i64 0)
    have hs : (w1.alloc (.cells ((List.range 17).map fun _ => Value.int .i64 0).toArray 82)).heap.size = w1.heap.size + 1 := World.size_alloc _ _
    rw [hs] at hB
    have hk : Kept [] w1 ((w1.alloc (.cells ((List.range 17).map fun _ => Value.int .i64 0).toArray 82)).alloc (.cells ((List.range 17).map fun _ => Value.int .i64 0).toArray 82)) := ((Kept.refl _ _).alloc _).alloc _
    have hsz := HB1.out.size
    have hcl := HC.out.lt
    refine ⟨.new u, fun _ => 0, ⟨coF c N (.new u), ⟨N, rfl, HC.out.kept hk (by simp)⟩, At.kept hA (S := []) ((Kept.refl _ _).alloc _) (by simp), hB, fun e => Nat.lt_irrefl _ (hcl _ e), fun e => by have := hcl _ e; omega, by omega, HLO.out, ⟨hsz, by omega⟩, keptLow HB1.out hk (by simp)⟩, ?_, rfl⟩
    intro k p hp
    cases hp)
  generalize ((w1.alloc (.cells #[.int .i64 0, .int .i64 0, .int .i64 0, .int .i64 0, .int .i64 0, .int .i64 0, .int .i64 0, .int .i64 0, .int .i64 0, .int .i64 0, .int .i64 0, .int .i64 0, .int .i64 0, .int .i64 0, .int .i64 0, .int .i64 0, .int .i64 0] 82)).alloc (.cells #[.int .i64 0, .int .i64 0, .int .i64 0, .int .i64 0, .int .i64 0, .int .i64 0, .int .i64 0, .int .i64 0, .int .i64 0, .int .i64 0, .int .i64 0, .int .i64 0, .int .i64 0, .int .i64 0, .int .i64 0, .int .i64 0, .int .i64 0] 82)) = w2 at *
  generalize w1.heap.size = qb at *
  generalize qb + 1 = hb at *
  clear HC HLO HB1 hn
  go_loopw [11] (fun vi wr => ∃ i : Nat, i ≤ 16 ∧ vi = .int .i64 (i : Int) ∧ Hid (∃ m q, Kq w wr c qb hb m i q (fun _ => 0) ∧ KqS m q)) (fun vi _ => 16 - (intOf vi).toNat)
  case atStart => exact ⟨0, by omega, rfl, HK0⟩
  case round =>
    obtain ⟨i, hi, rfl, HK⟩ := hrel
    go_upto_region 6 with fail
    go_cut [41] from 34 to 64 (fun t wx => t = .bool (decide (i < nq ∧ i < 16)) ∧ wx = wr)
    case first =>
      by_cases hlt1 : i < nq
      · by_cases hlt2 : i < 16
        · have hd := hid (show decide (i < nq ∧ i < 16) = true from decide_eq_true ⟨hlt1, hlt2⟩)
          generalize decide (i < nq ∧ i < 16) = D at *
          go_wp2
          go_meet
          case rel => exact ⟨by rw [hd.out]; all_goals (first | rfl | (simp; omega)), rfl⟩
        · have hd := hid (show decide (i < nq ∧ i < 16) = false from decide_eq_false (fun h => hlt2 h.2))
          generalize decide (i < nq ∧ i < 16) = D at *
          go_wp2
          go_meet
          case rel => exact ⟨by rw [hd.out]; all_goals (first | rfl | (simp; omega)), rfl⟩
      · have hd := hid (show decide (i < nq ∧ i < 16) = false from decide_eq_false (fun h => hlt1 h.1))
        generalize decide (i < nq ∧ i < 16) = D at *
        go_wp2
        go_meet
        case rel => exact ⟨by rw [hd.out]; all_goals (first | rfl | (simp; omega)), rfl⟩
    case rest =>
    obtain ⟨rfl, rfl⟩ := hcut
    by_cases hlt : i < nq ∧ i < 16
    · rw [show decide (i < nq ∧ i < 16) = true from decide_eq_true hlt]
      obtain ⟨hlt1, hlt2⟩ := hlt
      obtain ⟨m, q, hK, hS⟩ := HK.out
      obtain ⟨F0, hK0⟩ := hK
      have hbl := hK0.bl
      have hmok := hK0.co.ok
      obtain ⟨ab, ao, rfl, hrc⟩ := HQ.out.at (i := i) (by rw [HQL.out]; exact hlt1)
      have hcw := hrc i (by rw [HQL.out]; exact hlt1)
      have c0 := (hbl.cell (World.block_lt_of_cell? w _ hcw)).trans hcw
      generalize qs.getD i 0 = y at *
      have hj := kq_join (k := ⟨F0, hK0⟩) (x := (i : Int) + 1) y (by unfold In64; omega) (by unfold manyN; omega)
      clear hrc hbl
      by_cases hE : (m.join ((i : Int) + 1) y).err = 0
      · obtain ⟨-, g2, g3⟩ := hS.good hmok hE
        have HW : Hid (∀ w3, Kq w w3 c qb hb (m.join ((i : Int) + 1) y).m (i + 1) q (fun _ => 0) → w3.cell? ⟨ab, ao + i, none⟩ = some (.int .i64 y) ∧ w3.cell? ⟨qb, i + 1, none⟩ = some (.int .i64 (q (i + 1))) ∧ w3.frozen? ⟨qb, i + 1, none⟩ = false ∧ Calls Try.prog 32 #[ptrV c, .int .i64 ((i : Int) + 1), .int .i64 1] (w3.setCell ⟨qb, i + 1, none⟩ (.int .i64 y)) fun e w' => e = .returned (.int .i64 0) ∧ Hid (∃ m q, Kq w w' c qb hb m (i + 1) q (fun _ => 0) ∧ KqS m q)) := hid fun w3 k3 => by
          obtain ⟨F3, k3'⟩ := k3
          have k3 : Kq w w3 c qb hb (m.join ((i : Int) + 1) y).m (i + 1) q (fun _ => 0) := ⟨F3, k3'⟩
          have hc3 := k3.cell (j := i + 1) (by omega)
          refine ⟨?_, hc3.1, hc3.2, ?_⟩
          · exact (k3'.bl.cell (World.block_lt_of_cell? w _ hcw)).trans hcw
          · refine (kq_attach (k3.setQ (q' := fun j => if j = i + 1 then y else q j) (fun j _ => rfl)) 1 (by unfold In64; omega)).mono ?_
            rintro e w' ⟨rfl, k4⟩
            refine ⟨by rw [g2], hid ⟨_, _, k4, ?_⟩⟩
            have e1 : ((i : Int) + 1).toNat = i + 1 := by omega
            rw [e1] at g3
            exact g3
        rw [hE] at hj
        clear hE g2 g3 hS hmok hK0 HK HK0 hcw
        go_wp2_with (first
          | (go_at_call 31; refine hj.mono ?_; rintro e w3 ⟨rfl, k3⟩; obtain ⟨d0, d1, d2, hat⟩ := HW.out w3 k3)
          | (go_at_call 32; refine hat.mono ?_; rintro e w4 ⟨rfl, k4⟩))
        go_roundw
        case rel => exact ⟨i + 1, by omega, by go_num, k4⟩
        case measure => simp [intOf]; omega
      · have hb2 := hS.bad hE
        generalize (m.join ((i : Int) + 1) y).err = E at *
        generalize (m.join ((i : Int) + 1) y).m = m' at *
        have HB2 := hid hb2
        clear hb2 hS hmok hK0 HK HK0 hcw
        go_wp2_with (go_at_call 31; refine hj.mono ?_; rintro e w3 ⟨rfl, k3⟩; have HK3 := hid k3; clear k3)
        go_roundw
        case rel => exact ⟨i + 1, by omega, by go_num, hid ⟨_, _, HK3.out, HB2.out⟩⟩
        case measure => simp [intOf]; omega
    · rw [show decide (i < nq ∧ i < 16) = false from decide_eq_false hlt]
      obtain ⟨m0, q, hK, hS⟩ := HK.out
      have HM := hid hK.map
      have HS := hid (show KeS m0 q (fun _ => 0) ∧ whV m0.loans = (fun _ => none) from ⟨⟨hS.qq, fun k _ _ => by show (0 : Int) = ((usedL k m0.loans : Nat) : Int); rw [hS.ls]; rfl⟩, by rw [hS.ls]; funext g; unfold whV; rw [if_neg (by simp; omega)]⟩)
      have hmm := run_make_mapC 84
      clear hK hS HK HK0 hlt HQ HQL
      go_wp2_with fail
      generalize wc.alloc (.map #[] 0) = w5 at *
      generalize wc.heap.size = wm at *
      go_loopw [13] (fun vi wr => ∃ j : Nat, j ≤ nl ∧ vi = .int .i64 (j : Int) ∧ Hid (KeR w wr c qb hb wm q (16 + 2 * j) j)) (fun vi _ => nl - (intOf vi).toNat)
      case atStart =>
        refine ⟨0, by omega, rfl, hid ⟨m0, i, 0, fun _ => 0, ?_, HS.out.1, by omega, Nat.le_refl _⟩⟩
        rw [HS.out.2]
        exact HM.out
      case round =>
        clear HM HS
        obtain ⟨j, hj, rfl, HR⟩ := hrel
        by_cases hlt : j < nl
        · obtain ⟨m, n, nw, h, hK, hS, hn, hnw⟩ := HR.out
          obtain ⟨ab, ao, rfl, e0, e1, e2, e3⟩ := HU.out.at hK.bl (i := j) (by rw [HL.out]; exact hlt)
          obtain ⟨z0, z1, z2⟩ := HOK.out j (by rw [HL.out]; exact hlt)
          obtain ⟨U, eU⟩ : ∃ U, U = us.getD j .zero := ⟨_, rfl⟩
          rw [← eU] at e0 e1 e2 e3 z0 z1 z2
          have HCU : Hid (∀ w', Below w.heap.size w w' → w'.cell? ⟨ab, ao + j * 4, none⟩ = some (.int .i64 U.g) ∧ w'.cell? ⟨ab, ao + j * 4 + 1, none⟩ = some (.int .i64 U.t) ∧ w'.cell? ⟨ab, ao + j * 4 + 2, none⟩ = some (.int .i64 U.b) ∧ w'.cell? ⟨ab, ao + j * 4 + 3, none⟩ = some (.bool U.f)) := hid fun w' hb' => by
            obtain ⟨ab', ao', e', x0, x1, x2, x3⟩ := HU.out.at hb' (i := j) (by rw [HL.out]; exact hlt)
            injection e' with e'
            injection e' with e1' e2' _
            subst e1' e2'
            rw [← eU] at x0 x1 x2 x3
            exact ⟨x0, x1, x2, x3⟩
          obtain ⟨g, t, b, f⟩ := U
          have g15 := and15C t
          have g1 := and1C g
          have g31 := and31C b
          have HZ0 := hid z0
          have HZ1 := hid z1
          have HZ2 := hid z2
          have HK := hid hK
          have HSS := hid hS
          have hx : In64 (t % 16) := by unfold In64; omega
          have HX := hid hx
          generalize hX : t % 16 = X at *
          clear eU z0 z1 z2 hx hX hK hS HR HU HL HOK hmm
          go_upto_if 84 with fail
          go_cut [14] (fun vx wx => vx = .int .i64 X ∧ Hid (KeR w wx c qb hb wm q (16 + 2 * j + 1) (j + 1)))
          case first =>
            have hl := ke_lend HK.out HX.out (show n < manyN by unfold manyN; omega)
            by_cases hev : g % 2 = 0
            · by_cases hE : m.lendErr X = 0
              · have HW : Hid (∀ w6, Ke w w6 c qb hb wm (m.lent' X) (n + 1) nw q h (whV m.loans) → ∃ w7, (Instr.mapUpdate 84 (.map (some wm)) (.int .i64 (m.lendG X : Nat)) (.int .i64 X)).run Try.prog w6 = .ok () w7 ∧ Hid (KeR w w7 c qb hb wm q (16 + 2 * j + 1) (j + 1))) := hid fun w6 k6 => by
                  have hlen := HK.out.ok.len
                  have hgg : m.lendG X = m.loans.length + 1 := by unfold CoM.lendG; rw [if_pos hE]
                  have hll : (m.lent' X).loans = m.loans ++ [⟨X, m.lendN X, 0, 0, false⟩] := by unfold CoM.lent'; rw [if_pos hE]; rfl
                  obtain ⟨w7, r1, r2⟩ := k6.putW (by unfold maxLen; omega) (g := (m.lendG X : Nat)) (by unfold In64; rw [hgg]; omega) (.int .i64 X)
                  refine ⟨w7, r1, hid ⟨m.lent' X, n + 1, nw + 1, h, ?_, HSS.out.lend X, by omega, by omega⟩⟩
                  rw [hll, whV_app]
                  rw [hgg] at r2
                  rw [show ((m.loans.length + 1 : Nat) : Int) = (m.loans.length : Int) + 1 by omega] at r2
                  exact r2
                rw [hE] at hl
                generalize m.lendG X = G at *
                generalize m.lendX X = G2 at *
                clear HK HSS hE
                go_wp2_with (go_at_call 33; refine hl.mono ?_; rintro e w6 ⟨rfl, k6⟩; obtain ⟨w7, hrun, hP⟩ := HW.out w6 k6; clear k6)
                go_meet
                case rel => exact ⟨rfl, hP⟩
              · have HW : Hid (∀ w6, Ke w w6 c qb hb wm (m.lent' X) (n + 1) nw q h (whV m.loans) → Hid (KeR w w6 c qb hb wm q (16 + 2 * j + 1) (j + 1))) := hid fun w6 k6 => by
                  have e : m.lent' X = m := by unfold CoM.lent'; rw [if_neg hE]
                  rw [e] at k6
                  exact hid ⟨m, n + 1, nw, h, k6, HSS.out, by omega, by omega⟩
                generalize m.lendErr X = E at *
                generalize m.lendG X = G at *
                generalize m.lendX X = G2 at *
                clear HK HSS
                go_wp2_with (go_at_call 33; refine hl.mono ?_; rintro e w6 ⟨rfl, k6⟩; have hP := HW.out w6 k6; clear k6)
                go_meet
                case rel => exact ⟨rfl, hP⟩
            · have hP : Hid (KeR w wr c qb hb wm q (16 + 2 * j + 1) (j + 1)) := hid ⟨m, n, nw, h, HK.out, HSS.out, by omega, by omega⟩
              clear HK HSS hl
              go_wp2_with fail
              go_meet
              case rel => exact ⟨rfl, hP⟩
          case rest =>
          obtain ⟨rfl, HR2⟩ := hcut
          clear HK HSS hnw hn
          clear m n nw h
          obtain ⟨m, n, nw, h, hK, hS, hn, hnw⟩ := HR2.out
          have hnm : n < manyN := by unfold manyN; omega
          obtain ⟨x0, x1, x2, x3⟩ := HCU.out _ hK.bl
          have hr := ke_report (f := f) hK HZ0.out HZ1.out HZ2.out hnm (n + 1) (by omega) (fun _ => Nat.le_refl _)
          have HS2 := hid hS
          have HOK2 := hid hK.ok
          clear hS hK HR2
          unfold usageV at hr
          obtain ⟨E, hEE⟩ : ∃ E, E = (m.report g t b f).err := ⟨_, rfl⟩
          obtain ⟨m2, hm2⟩ : ∃ m2, m2 = (m.report g t b f).m := ⟨_, rfl⟩
          rw [← hEE, ← hm2] at hr
          have HEE := hid hEE
          have HM2 := hid hm2
          clear hEE hm2
          go_upto_if 103 with (go_at_call 34; refine hr.mono ?_; rintro e w6 ⟨rfl, k6⟩; have HK6 := hid k6; clear k6)
          go_cut [14] (fun vx wx => vx = .int .i64 X ∧ Hid (KeR w wx c qb hb wm q (16 + 2 * j + 2) (j + 1)))
          case first =>
            clear hr x0 x1 x2 x3
            by_cases hE : m.repErr g t b = 0
            · have hE0 : E = 0 := by rw [HEE.out, report_good hE]
              have hm2 : m2 = m.rep g b f := by rw [HM2.out, report_good hE]
              obtain ⟨p, hp, k1, k2, k3, b0, b1⟩ := rep_some HOK2.out hE
              obtain ⟨kn, ekn⟩ : ∃ kn : Nat, (m.at g).who = (kn : Int) := ⟨(m.at g).who.toNat, by omega⟩
              have HSR := hid (HS2.out.rep f HOK2.out hE)
              have HW := hid (rep_whV f hE)
              have HAG := hid (rep_again f hE)
              rw [← hm2] at HSR HW HAG
              have hk17 : kn < 17 := by omega
              have hhk := HS2.out.hh (m.at g).who (by omega) k2
              rw [ekn] at HSR HW hhk k3
              rw [show ((kn : Int)).toNat = kn by omega] at hhk
              rw [show ((kn : Int)).toNat = kn by omega] at HSR
              have hhb : 0 ≤ h kn ∧ h kn ≤ 1000000000 := by omega
              have hV := HW.out
              rw [← hV.1] at HK6
              have hVg := hV.2
              rw [← hV.1] at hVg
              have HVG := hid hVg
              have hlk := (Ke.idle HK6.out (Kept.refl _ _).drew).look HZ0.out hVg
              obtain ⟨v0, v1, -⟩ := HK6.out.hcell hk17
              obtain ⟨y0, y1, y2, y3⟩ := HCU.out _ HK6.out.bl
              have HSX := hid (HK6.out.setH (j := kn) (x := h kn + b) (h' := fun i => if i = kn then h kn + b else h i) (fun i _ => rfl))
              generalize h kn = H0 at *
              generalize hV2 : whV m2.loans = V at *
              have HV2 := hid hV2
              clear hV2
              subst hE0
              clear hp k1 k2 k3 hE HOK2 HS2 ekn hhk hV hVg hm2 HEE HM2 HW HK6
              clear m
              go_upto_region 22 with fail
              go_region
              have HK7 := hid (Ke.idle HSX.out (Kept.refl _ _).drew)
              clear HSX hlk v0 v1 y0 y1 y2 y3
              generalize (w6.setCell ⟨hb, kn, none⟩ (.int .i64 (H0 + b))).drew = w7 at *
              have hlk := HK7.out.look HZ0.out HVG.out
              obtain ⟨y0, y1, y2, y3⟩ := HCU.out _ HK7.out.bl
              have hrec := ke_record HK7.out (x := (kn : Int)) (by unfold In64; omega)
              have HW8 : Hid (∀ w8, Ke w w8 c qb hb wm m2 (n + 1) nw q (fun i => if i = kn then H0 + b else h i) V → (w8.alloc (.cells #[.int .i64 ((m2.rec3 (kn : Int)).1 : Nat), .int .i64 ((m2.rec3 (kn : Int)).2.1 : Nat), .int .i64 ((m2.rec3 (kn : Int)).2.2 : Nat)] 74)).cell? ⟨ab, ao + j * 4, none⟩ = some (.int .i64 g) ∧ (w8.alloc (.cells #[.int .i64 ((m2.rec3 (kn : Int)).1 : Nat), .int .i64 ((m2.rec3 (kn : Int)).2.1 : Nat), .int .i64 ((m2.rec3 (kn : Int)).2.2 : Nat)] 74)).cell? ⟨ab, ao + j * 4 + 1, none⟩ = some (.int .i64 t) ∧ (w8.alloc (.cells #[.int .i64 ((m2.rec3 (kn : Int)).1 : Nat), .int .i64 ((m2.rec3 (kn : Int)).2.1 : Nat), .int .i64 ((m2.rec3 (kn : Int)).2.2 : Nat)] 74)).cell? ⟨ab, ao + j * 4 + 2, none⟩ = some (.int .i64 b) ∧ (w8.alloc (.cells #[.int .i64 ((m2.rec3 (kn : Int)).1 : Nat), .int .i64 ((m2.rec3 (kn : Int)).2.1 : Nat), .int .i64 ((m2.rec3 (kn : Int)).2.2 : Nat)] 74)).cell? ⟨ab, ao + j * 4 + 3, none⟩ = some (.bool f) ∧
                  Calls Try.prog 34 #[ptrV c, usageV g t b f] (w8.alloc (.cells #[.int .i64 ((m2.rec3 (kn : Int)).1 : Nat), .int .i64 ((m2.rec3 (kn : Int)).2.1 : Nat), .int .i64 ((m2.rec3 (kn : Int)).2.2 : Nat)] 74)) fun e w9 => e = .returned (.int .i64 10) ∧ w9.cell? ⟨ab, ao + j * 4, none⟩ = some (.int .i64 g) ∧ (Instr.lookup 84 (.map (some wm)) (.int .i64 g) false).run Try.prog w9 = .ok (.int .i64 (kn : Int)) w9 ∧
                    Calls Try.prog 26 #[ptrV c, .int .i64 (kn : Int)] w9 fun e w10 => e = .returned (.tuple #[recV m2 (kn : Int), .int .i64 (m2.recErr (kn : Int))]) ∧ (w10.alloc (.cells #[.int .i64 ((m2.rec3 (kn : Int)).1 : Nat), .int .i64 ((m2.rec3 (kn : Int)).2.1 : Nat), .int .i64 ((m2.rec3 (kn : Int)).2.2 : Nat)] 74)).cell? ⟨w8.heap.size, 0, none⟩ = some (.int .i64 ((m2.rec3 (kn : Int)).1 : Nat)) ∧ (w10.alloc (.cells #[.int .i64 ((m2.rec3 (kn : Int)).1 : Nat), .int .i64 ((m2.rec3 (kn : Int)).2.1 : Nat), .int .i64 ((m2.rec3 (kn : Int)).2.2 : Nat)] 74)).cell? ⟨w8.heap.size, 1, none⟩ = some (.int .i64 ((m2.rec3 (kn : Int)).2.1 : Nat)) ∧ (w10.alloc (.cells #[.int .i64 ((m2.rec3 (kn : Int)).1 : Nat), .int .i64 ((m2.rec3 (kn : Int)).2.1 : Nat), .int .i64 ((m2.rec3 (kn : Int)).2.2 : Nat)] 74)).cell? ⟨w8.heap.size, 2, none⟩ = some (.int .i64 ((m2.rec3 (kn : Int)).2.2 : Nat)) ∧ Hid (KeR w (w10.alloc (.cells #[.int .i64 ((m2.rec3 (kn : Int)).1 : Nat), .int .i64 ((m2.rec3 (kn : Int)).2.1 : Nat), .int .i64 ((m2.rec3 (kn : Int)).2.2 : Nat)] 74)) c qb hb wm q (16 + 2 * j + 2) (j + 1))) := hid fun w8 k8 => by
                have k8' := k8.idle ((Kept.refl _ w8).alloc (.cells #[.int .i64 ((m2.rec3 (kn : Int)).1 : Nat), .int .i64 ((m2.rec3 (kn : Int)).2.1 : Nat), .int .i64 ((m2.rec3 (kn : Int)).2.2 : Nat)] 74))
                obtain ⟨a0, a1, a2, a3⟩ := HCU.out _ k8'.bl
                refine ⟨a0, a1, a2, a3, ?_⟩
                refine (ke_again (f := f) k8 HZ0.out HZ1.out HZ2.out (by unfold manyN at hnm ⊢; omega) HAG.out 74 [.int .i64 ((m2.rec3 (kn : Int)).1 : Nat), .int .i64 ((m2.rec3 (kn : Int)).2.1 : Nat), .int .i64 ((m2.rec3 (kn : Int)).2.2 : Nat)]).mono ?_
                rintro e w9 ⟨rfl, k9, hA9⟩
                refine ⟨rfl, (HCU.out _ k9.bl).1, k9.look HZ0.out HVG.out, ?_⟩
                refine (ke_record k9 (x := (kn : Int)) (by unfold In64; omega)).mono ?_
                rintro e w10 ⟨rfl, k10, hb10⟩
                have hA10 := hA9.kept (S := []) ((Kept.of_below hb10).alloc (.cells #[.int .i64 ((m2.rec3 (kn : Int)).1 : Nat), .int .i64 ((m2.rec3 (kn : Int)).2.1 : Nat), .int .i64 ((m2.rec3 (kn : Int)).2.2 : Nat)] 74)) (by simp)
                exact ⟨rfl, hA10.cell 0, hA10.cell 1, hA10.cell 2, hid ⟨m2, n + 1, nw, _, by rw [HV2.out]; exact k10.idle ((Kept.refl _ _).alloc _), HSR.out, by omega, by omega⟩⟩
              unfold recV at HW8 hrec
              generalize (m2.rec3 (kn : Int)).1 = A0 at *
              generalize (m2.rec3 (kn : Int)).2.1 = A1 at *
              generalize (m2.rec3 (kn : Int)).2.2 = A2 at *
              generalize m2.recErr (kn : Int) = ER at *
              unfold usageV at HW8
              clear HSR HAG HK7 HVG
              go_wp2_with (first
                | (go_at_call 26; refine hrec.mono ?_; rintro e w8 ⟨rfl, k8, -⟩; obtain ⟨y4, y5, y6, y7, hag⟩ := HW8.out w8 k8; clear k8 hrec HW8)
                | (go_at_call 34; refine hag.mono ?_; rintro e w9 ⟨rfl, y8, hlk9, hrec9⟩; clear hag)
                | (go_at_call 26; refine hrec9.mono ?_; rintro e w10 ⟨rfl, q0, q1, q2, hP⟩; clear hrec9))
              go_meet
              case rel => exact ⟨rfl, hP⟩
            · have hE0 : ¬ E = 0 := by rw [HEE.out, report_bad hE]; exact hE
              have hm2 : m2 = m := by rw [HM2.out, report_bad hE]
              have hEb : (E == 0) = false := by simp [hE0]
              subst hm2
              clear HEE HM2 hE
              go_wp2_with fail
              go_meet
              case rel => exact ⟨rfl, hid ⟨m2, n + 1, nw, h, HK6.out, HS2.out, by omega, by omega⟩⟩
          case rest =>
          obtain ⟨rfl, HR3⟩ := hcut
          clear HEE HM2 HS2 HOK2 hr x0 x1 x2 x3 hnm hnw hn HK6
          clear m n nw h m2 E
          obtain ⟨m, n, nw, h, hK, hS, hn, hnw⟩ := HR3.out
          obtain ⟨x0, x1, x2, x3⟩ := HCU.out _ hK.bl
          have HS3 := hid hS
          have HK3 := hid hK
          clear hS hK HR3
          go_upto_if 160 with fail
          go_cut [14] (fun vx wx => vx = .int .i64 X ∧ Hid (KeR w wx c qb hb wm q (16 + 2 * j + 2) (j + 1)))
          case first =>
            by_cases h5 : b % 32 = 5
            · have hlv := ke_leave HK3.out HX.out
              have HAT : Hid (∀ w8, Ke w w8 c qb hb wm (m.leave X).m n nw q h (whV m.loans) → Calls Try.prog 32 #[ptrV c, .int .i64 X, .int .i64 2] w8 fun e w9 => e = .returned (.int .i64 ((m.leave X).m.attach X 2).err) ∧ Hid (KeR w w9 c qb hb wm q (16 + 2 * j + 2) (j + 1))) := hid fun w8 k8 => by
                refine (ke_attach k8 2 HX.out).mono ?_
                rintro e w9 ⟨rfl, k9⟩
                refine ⟨rfl, hid ⟨_, n, nw, h, ?_, (HS3.out.leave X).attach X 2, by omega, by omega⟩⟩
                rw [CoM.attach_loans, (CoM.leave_loans m X).1]
                exact k9
              generalize ((m.leave X).m.attach X 2).err = E2 at *
              generalize (m.leave X).err = E1 at *
              clear HK3 HS3
              go_wp2_with (first
                | (go_at_call 35; refine hlv.mono ?_; rintro e w8 ⟨rfl, k8⟩; have hat := HAT.out w8 k8; clear k8 HAT hlv)
                | (go_at_call 32; refine hat.mono ?_; rintro e w9 ⟨rfl, hP⟩; clear hat))
              go_meet
              case rel => exact ⟨rfl, hP⟩
            · have hP : Hid (KeR w wc c qb hb wm q (16 + 2 * j + 2) (j + 1)) := hid ⟨m, n, nw, h, HK3.out, HS3.out, by omega, by omega⟩
              have h5b : (b % 32 == 5) = false := by simp [h5]
              clear HK3 HS3
              go_wp2_with fail
              go_meet
              case rel => exact ⟨rfl, hP⟩
          case rest =>
          obtain ⟨rfl, HR4⟩ := hcut
          clear HK3 HS3 x0 x1 x2 x3 hnw hn
          clear m n nw h
          obtain ⟨m, n, nw, h, hK, hS, hn, hnw⟩ := HR4.out
          have HK4 := hid hK
          have HS4 := hid hS
          clear hK hS HR4 HCU
          go_wp2_with fail
          go_loopw [22] (fun vk ws => ∃ k : Nat, 1 ≤ k ∧ k ≤ 17 ∧ vk = .int .i64 (k : Int) ∧ Hid (Ke w ws c qb hb wm m n nw q h (whV m.loans))) (fun vk _ => 17 - (intOf vk).toNat)
          case atStart => exact ⟨1, by omega, by omega, rfl, HK4⟩
          case round =>
            obtain ⟨k, hk1, hk2, rfl, HK5⟩ := hrel
            clear HK4
            by_cases hk16 : k ≤ 16
            · have hrec := ke_record HK5.out (x := (k : Int)) (by unfold In64; omega)
              unfold recV at hrec
              cases hp : m.per (k : Int) with
              | none =>
                have hre := (rec_none hp)
                rw [hre.2, hre.1] at hrec
                clear hre hp
                go_upto_region 36 with (go_at_call 26; refine hrec.mono ?_; rintro e w8 ⟨rfl, k8, -⟩; have HK8 := hid k8; clear k8 hrec)
                have HK9 := hid (Ke.idle HK8.out ((Kept.refl _ _).alloc (.cells #[.int .i64 0, .int .i64 0, .int .i64 0] 74)))
                clear HK8
                generalize w8.alloc (.cells #[.int .i64 0, .int .i64 0, .int .i64 0] 74) = w9 at *
                go_quiet (fail)
                go_wp2_with fail
                go_roundw
                case rel => exact ⟨k + 1, by omega, by omega, by go_num, hid (Ke.idle HK9.out ((Kept.refl _ _).drewN _))⟩
                case measure => simp [intOf]; omega
              | some p =>
                have hre := (rec_some hp)
                rw [hre.2, hre.1] at hrec
                have hq := HS4.out.qq _ p hp
                have hh := HS4.out.hh (k : Int) (by omega) (by omega)
                rw [show ((k : Int)).toNat = k by omega] at hq hh
                obtain ⟨-, -, o3, -, -, -, o7⟩ := HK5.out.ok.pr _ p hp
                have hlf : m.left (k : Int) p = p.quota - m.lent (k : Int) - m.chgd (k : Int) := rfl
                have HHC : Hid (∀ w8 (x y z : Int), Ke w w8 c qb hb wm m n nw q h (whV m.loans) → (w8.alloc (.cells #[.int .i64 x, .int .i64 y, .int .i64 z] 74)).cell? ⟨hb, k, none⟩ = some (.int .i64 (m.chgd (k : Int) : Nat)) ∧ (w8.alloc (.cells #[.int .i64 x, .int .i64 y, .int .i64 z] 74)).cell? ⟨qb, k, none⟩ = some (.int .i64 (p.quota : Nat)) ∧ (w8.alloc (.cells #[.int .i64 x, .int .i64 y, .int .i64 z] 74)).cell? ⟨w8.heap.size, 0, none⟩ = some (.int .i64 x) ∧ (w8.alloc (.cells #[.int .i64 x, .int .i64 y, .int .i64 z] 74)).cell? ⟨w8.heap.size, 1, none⟩ = some (.int .i64 y) ∧ (w8.alloc (.cells #[.int .i64 x, .int .i64 y, .int .i64 z] 74)).cell? ⟨w8.heap.size, 2, none⟩ = some (.int .i64 z)) := hid fun w8 x y z k8 => by
                  obtain ⟨t0, -, t1⟩ := (k8.idle ((Kept.refl _ w8).alloc (.cells #[.int .i64 x, .int .i64 y, .int .i64 z] 74))).hcell (j := k) (by omega)
                  rw [hh] at t0
                  rw [hq] at t1
                  have hA := at_alloc w8 74 [.int .i64 x, .int .i64 y, .int .i64 z]
                  exact ⟨t0, t1, hA.cell 0, hA.cell 1, hA.cell 2⟩
                dsimp only at hrec
                generalize m.left (k : Int) p = A0 at *
                generalize m.lent (k : Int) = A1 at *
                generalize m.chgd (k : Int) = A2 at *
                have hsum : ((A0 : Int) + (A1 : Int) + (A2 : Int)) = (p.quota : Int) := by omega
                generalize p.quota = Q at *
                have r0 : ¬ (A0 : Int) < 0 := by omega
                have r1 : ¬ (A1 : Int) < 0 := by omega
                clear hre hp hq hh hlf o7
                have hk17 : k < 17 := by omega
                have ik17 : (k : Int) < 17 := by omega
                have ik0 : (0 : Int) ≤ (k : Int) := by omega
                have hsb : (IntKind.i64.wrap (IntKind.i64.wrap ((A0 : Int) + (A1 : Int)) + (A2 : Int)) != (Q : Int)) = false := by
                  have w1 : IntKind.i64.wrap ((A0 : Int) + (A1 : Int)) = (A0 : Int) + (A1 : Int) := by rw [IntKind.wrap_i64]; omega
                  have w2 : IntKind.i64.wrap ((A0 : Int) + (A1 : Int) + (A2 : Int)) = (Q : Int) := by rw [IntKind.wrap_i64]; omega
                  rw [w1, w2]
                  simp
                have hs2 : ((A2 : Int) != (A2 : Int)) = false := by simp
                have hs3 : decide ((A0 : Int) < 0) = false := decide_eq_false r0
                have hs4 : decide ((A1 : Int) < 0) = false := decide_eq_false r1
                have hs5 : ((0 : Int) == 0) = true := rfl
                go_upto_region 36 with (go_at_call 26; refine hrec.mono ?_; rintro e w8 ⟨rfl, k8, -⟩; obtain ⟨t0, t1, t2, t3, t4⟩ := HHC.out w8 (A0 : Int) (A1 : Int) (A2 : Int) k8; have HK8 := hid k8; clear k8 hrec)
                have HK9 := hid (Ke.idle HK8.out ((Kept.refl _ _).alloc (.cells #[.int .i64 (A0 : Int), .int .i64 (A1 : Int), .int .i64 (A2 : Int)] 74)))
                clear HK8 HHC
                generalize w8.heap.size = rb at *
                generalize w8.alloc (.cells #[.int .i64 (A0 : Int), .int .i64 (A1 : Int), .int .i64 (A2 : Int)] 74) = w9 at *
                go_quiet (fail)
                go_wp2_with fail
                go_roundw
                case rel => exact ⟨k + 1, by omega, by omega, by go_num, hid (Ke.idle HK9.out ((Kept.refl _ _).drewN _))⟩
                case measure => simp [intOf]; omega
            · go_wp2_with fail
              go_roundw
              case rel => exact ⟨j + 1, by omega, by go_num, hid ⟨m, n, nw, h, HK5.out, HS4.out, by omega, by omega⟩⟩
              case measure => simp [intOf]; omega
        · clear HU HL HOK hmm
          obtain ⟨m, n, nw, h, hK, hS, hn, hnw⟩ := HR.out
          have hb9 := hK.bl
          clear hK hS HR
          go_wp2_with fail
          go_ret
          exact ⟨rfl, hb9⟩
end Go.Proofs.Ytcnkcbipkchoiag
