import Derived.Test.YtbjgfoiikhbonafK41
set_option linter.unusedVariables false
set_option linter.unusedSimpArgs false
namespace Go.Proofs.Ytbjgfoiikhbonaf
open Go.ChangeShapes Go.WideShapes Go.ChangeAt Go.RowKit
theorem onext_bad {w : World} {b : Nat} {size : Int} (h : size < 1 ∨ 1500 < size) :
    Calls Try.prog 17 #[.pointer (some ⟨b, 0, none⟩), .int .i64 size] w fun e w' => e = .returned (.tuple #[PieceM.zero.val, .int .i64 1]) ∧ Below w.heap.size w w' := by
  have hBe : Below w.heap.size w (w.alloc (.cells #[.int .i64 0, .int .i64 0, .bool false, .string { data := #[] }] 64)) := (Below.refl _ w).alloc (Nat.le_refl _) _
  have hA := at_alloc w 64 [.int .i64 0, .int .i64 0, .bool false, .string { data := #[] }]
  have y0 := hA.cell 0
  have y1 := hA.cell 1
  have y2 := hA.cell 2
  have y3 := hA.cell 3
  have z0 := hA.free 0
  have z1 := hA.free 1
  have z2 := hA.free 2
  have z3 := hA.free 3
  have HB := hid hBe
  clear hBe hA
  have hc : size < 1 ∨ (¬ (size < 1) ∧ 1500 < size) := by omega
  clear h
  rcases hc with h | ⟨h, h'⟩
  all_goals
    go_enter Try.func17, Try.ntmps17
    go_wp2_with fail
    (try simp only [Exit.inBlock, Exit.then])
    refine bodyPost_ret (v := .tuple #[PieceM.zero.val, .int .i64 1]) ?_ rfl ⟨rfl, ?_⟩
    · rw [results_cell_tmp rfl]
      unfold PieceM.zero PieceM.val
      go_simp
      rfl
    · first | exact HB.out | exact (((HB.out.setCell (Nat.le_refl _) _).setCell (Nat.le_refl _) _).setCell (Nat.le_refl _) _).setCell (Nat.le_refl _) _
def zPc : List Value := [.int .i64 0, .int .i64 0, .bool false, .string { data := #[] }]
def KindsAt (w : World) (g : Nat) : Prop := ∀ k, k ≤ 1 → w.cell? ⟨g, k, none⟩ = some (.int .u8 (mkc (kM k)))
theorem Kept.setNewO {S : List Nat} {a w : World} (h : Kept S a w) {p : Addr} (hp : a.heap.size ≤ p.block) (u : Value) : Kept S a (w.setCell p u) := ⟨h.os, h.tape, h.output, by simpa using h.size, fun k hk hn => (Below.heap_setCell w p u k (by omega)).trans (h.block k hk hn)⟩
structure NxW (w wr : World) : Prop where
  kp : Kept [] w wr
  pc : At wr w.heap.size 64 zPc
  kd : KindsAt wr (w.heap.size + 1)
  sz : w.heap.size + 1 < wr.heap.size
theorem NxW.alloc {w wr : World} (h : NxW w wr) (o : Obj) : NxW w (wr.alloc o) := by
  have hk : Kept [] wr (wr.alloc o) := (Kept.refl _ _).alloc _
  exact ⟨h.kp.trans hk, h.pc.kept hk (by simp), fun k hk1 => keptCellQ hk (h.kd k hk1) (by simp), by rw [World.size_alloc]; have := h.sz; omega⟩
theorem NxW.drewN {w wr : World} (h : NxW w wr) (n : Nat) : NxW w (wr.drewN n) := ⟨h.kp.drewN n, h.pc, h.kd, h.sz⟩
set_option maxRecDepth 100000 in
set_option maxHeartbeats 8000000 in
theorem onext_good {w : World} {b : Nat} {ua : Option Addr} {c : Nat} {us : List UoP} {m : OutM} {size : Nat} (h : POut w b m.win m.beg ua c us) (hm : OutR m us) (hn : m.n ≤ manyO) (h1 : 1 ≤ size) (h2 : size ≤ 1500) :
    Calls Try.prog 17 #[.pointer (some ⟨b, 0, none⟩), .int .i64 (size : Int)] w fun e w' => e = .returned (.tuple #[(m.next size).p.val, .int .i64 (m.next size).err]) ∧ Kept (outF b ua us) w w' ∧ ∃ us', POut w' b m.win m.beg ua c us' ∧ OutR (m.next size).m us' ∧ outF b ua us' = outF b ua us := by
  have hbl := h.hd.lt
  have H := hid h
  have HM := hid hm
  have hlen := hm.len
  have hbn := hm.bn
  have hw2 := hm.w2
  have HNX : Hid (∃ NX, NX = m.next (size : Int)) := ⟨_, rfl⟩
  obtain ⟨NX, hNX⟩ := HNX.out
  rw [← hNX]
  obtain ⟨N, hN⟩ : ∃ N, N = m.n := ⟨_, rfl⟩
  obtain ⟨G, hG⟩ : ∃ G, G = m.beg := ⟨_, rfl⟩
  obtain ⟨W, hW⟩ : ∃ W, W = m.win := ⟨_, rfl⟩
  rw [← hN] at hn hlen hbn
  rw [← hG] at hbn
  rw [← hW] at hw2
  have hn : N ≤ 2000000000000 := hn
  obtain ⟨c0, c1, c2⟩ := h.head
  rw [hlen] at c2
  rw [← hG] at c1
  rw [← hW] at c0
  have HN := hid hN
  have HG := hid hG
  have HW := hid hW
  have HX := hid hNX
  have HL := hid hlen
  clear h hm hN hG hW hNX hlen HNX
  have d1 : ¬ ((size : Int) < 1) := by omega
  have d2 : ¬ (1500 < (size : Int)) := by omega
  have hw0 : NxW w ((w.alloc (.cells #[.int .i64 0, .int .i64 0, .bool false, .string { data := #[] }] 64)).alloc (.cells #[.int .u8 97, .int .u8 110] 5)) := by
    refine ⟨((Kept.refl _ w).alloc _).alloc _, (at_alloc w 64 zPc).kept (S := []) ((Kept.refl _ _).alloc _) (by simp), ?_, by rw [World.size_alloc, World.size_alloc]; omega⟩
    have h3 := at_alloc (w.alloc (.cells #[.int .i64 0, .int .i64 0, .bool false, .string { data := #[] }] 64)) 5 [.int .u8 97, .int .u8 110]
    rw [World.size_alloc] at h3
    intro k hk
    have h4 : k = 0 ∨ k = 1 := by omega
    rcases h4 with rfl | rfl
    · exact h3.cell 0
    · exact h3.cell 1
  have HW0 := hid hw0
  clear hw0
  go_enter Try.func17, Try.ntmps17
  go_wp2_with fail
  go_loopw [7] (fun vk wr => ∃ k : Nat, k ≤ 2 ∧ vk = .int .i64 k ∧ Hid (1 ≤ k → ¬ (m.who 2 < m.edge 2)) ∧ Hid (2 ≤ k → ¬ (m.who 0 < m.edge 0)) ∧ Hid (NxW w wr)) (fun vk _ => 2 - (intOf vk).toNat)
  case atStart => exact ⟨0, by omega, rfl, hid (fun h => absurd h (by omega)), hid (fun h => absurd h (by omega)), HW0⟩
  case round =>
    obtain ⟨k, hk, rfl, HP2, HP0, HWO⟩ := hrel
    clear HW0
    obtain ⟨wo, ewo⟩ : ∃ wo, wo = wr := ⟨_, rfl⟩
    subst ewo
    by_cases hk2 : k < 2
    · have c1o := keptCellQ HWO.out.kp c1 (by simp)
      obtain ⟨KV, hKV⟩ : ∃ KV, KV = mkc (kM k) := ⟨_, rfl⟩
      have HKV := hid hKV
      clear hKV
      go_wp2_with fail
      go_loopw [8] (fun vi wr => ∃ i : Nat, G ≤ i ∧ i ≤ N ∧ vi = .int .i64 i ∧ Hid (∀ j, m.beg ≤ j → j < i → j < m.edge (kM k) → m.can (kM k) j = false) ∧ Hid (NxW w wr)) (fun vi _ => N - (intOf vi).toNat)
      case atStart => exact ⟨G, Nat.le_refl _, hbn, rfl, hid (fun j h1 h2 => by rw [← HG.out] at h1; omega), HWO⟩
      case round =>
        obtain ⟨i, hGi, hiN, rfl, HI, HWI⟩ := hrel
        clear c1o HWO
        obtain ⟨wi, ewi⟩ : ∃ wi, wi = wr := ⟨_, rfl⟩
        subst ewi
        have c2i := keptCellQ HWI.out.kp c2 (by simp)
        by_cases hiN2 : i < N
        · have hPr := H.out.kept HWI.out.kp (by simp)
          obtain ⟨ug, eua, hub, hun⟩ := hPr.un (i := i) (by rw [HL.out]; exact hiN2)
          subst eua
          have hu := HM.out.un i (by rw [HL.out]; exact hiN2)
          have p0 := hun.c0
          have p1 := hun.c1
          have p2 := hun.c2
          obtain ⟨ad, cm, emv, hx, hlc, hcm⟩ := hun.ag.shape
          have hml := hu.ml
          have hlo := hu.lo
          have hhi := hu.hi
          obtain ⟨gm, rfl⟩ := hx (by intro e; have h3 := congrArg List.length e; rw [hml] at h3; have h3 : (us.getD i .zero).text.size = 0 := h3; omega)
          rw [emv, hml] at p1
          have hOw := hun.ag
          rw [emv, hml] at hOw
          rw [hml] at hlc
          have hgm : (us.getD i .zero).mv.ownBlock = some gm := by rw [emv]; rfl
          have hgl := hOw.block.2
          have hgw := (World.ownsRow.lt (H.out.ag i (by rw [HL.out]; exact hiN2)) gm hgm).2
          have HPR := hid hPr
          have HU := hid hu
          have HGM := hid hgm
          have HML := hid hml
          have HEM := hid emv
          obtain ⟨T, hT⟩ : ∃ T, T = (us.getD i .zero).text := ⟨_, rfl⟩
          obtain ⟨MS, hMS⟩ : ∃ MS, MS = (us.getD i .zero).ms := ⟨_, rfl⟩
          obtain ⟨DN, hDN⟩ : ∃ DN, DN = (us.getD i .zero).dn := ⟨_, rfl⟩
          rw [← hT] at p0 p1 hlo hhi hOw hlc
          rw [← hMS] at hOw
          rw [← hDN] at p2
          have HT := hid hT
          have HMS := hid hMS
          have HDN := hid hDN
          clear hx hun hu emv hml hgm hPr hT hMS hDN hub
          have hk0 : Kept [] wi (wi.alloc (.cells #[.string T, .slice (some ⟨gm, 0, none⟩) T.size cm, .bool DN] 110)) := (Kept.refl _ _).alloc _
          have hAu := at_alloc wi 110 [.string T, .slice (some ⟨gm, 0, none⟩) T.size cm, .bool DN]
          have q0 := hAu.cell 0
          have q1 := hAu.cell 1
          have q2 := hAu.cell 2
          have HWA := hid (HWI.out.alloc (.cells #[.string T, .slice (some ⟨gm, 0, none⟩) T.size cm, .bool DN] 110))
          have HOA := hid (keptOwn hOw hk0 (by simp))
          have HKA := hid hk0
          have k0 := keptCellQ HWA.out.kp c0 (by simp)
          have k1 := keptCellQ HWA.out.kp c1 (by simp)
          clear hk0 hAu hOw
          go_upto_region 11 with fail
          generalize (wi.alloc (.cells #[.string T, .slice (some ⟨gm, 0, none⟩) T.size cm, .bool DN] 110)) = wA at *
          obtain ⟨bu, ebu⟩ : ∃ bu, bu = wi.heap.size := ⟨_, rfl⟩
          rw [← ebu] at q0 q1 q2 hgl
          rw [← ebu]
          have hbuw : w.heap.size + 1 < bu := by rw [ebu]; exact HWI.out.sz
          clear ebu c2i p0 p1 p2
          have kk := HWA.out.kd k (by omega)
          rw [← HKV.out] at kk
          obtain ⟨SK, hSK⟩ : ∃ SK, SK = skB k i G W DN := ⟨_, rfl⟩
          go_cut [62] from 28 to 131 (fun t wx => t = .bool SK ∧ ∃ n, wx = wA.drewN n)
          case first =>
            by_cases e0 : k = 1
            · have x1 : ((k : Int) == 1) = true := by rw [e0]; rfl
              by_cases e1 : G + W ≤ i
              · have x2 : decide ((G : Int) + (W : Int) ≤ (i : Int)) = true := decide_eq_true (by omega)
                have e2 : SK = true := by rw [hSK]; unfold skB; simp [e0, e1]
                subst e2
                clear hSK e0 e1
                go_quiet (fail)
                go_wp2
                go_meet
                exact ⟨rfl, _, rfl⟩
              · have x2 : decide ((G : Int) + (W : Int) ≤ (i : Int)) = false := decide_eq_false (by omega)
                have e2 : SK = DN := by rw [hSK]; unfold skB; simp [e0, e1]
                subst e2
                clear hSK e0 e1
                go_quiet (fail)
                go_wp2
                go_meet
                exact ⟨rfl, _, rfl⟩
            · have x1 : ((k : Int) == 1) = false := by rw [beq_eq_false_iff_ne]; omega
              have e2 : SK = false := by rw [hSK]; unfold skB; simp [e0]
              subst e2
              clear hSK e0
              go_quiet (fail)
              go_wp2
              go_meet
              exact ⟨rfl, _, rfl⟩
          case rest =>
            obtain ⟨rfl, n0, rfl⟩ := hcut
            have HSK := hid hSK
            clear hSK k0 k1
            cases SK with
            | true =>
              go_wp2_with fail
              refine ⟨⟨i + 1, by omega, by omega, by go_num, hid (fun j h3 h4 h5 => ?_), hid (HWA.out.drewN n0)⟩, by simp [intOf]; omega⟩
              by_cases ej : j = i
              · subst ej
                refine sk_no HM.out (by omega) (by rw [← HN.out]; exact hiN2) ?_ h5
                rw [← HDN.out, ← HG.out, ← HW.out]
                exact HSK.out.symm
              · exact HI.out j h3 (by omega) h5
            | false =>
              go_wp2_with fail
              go_loopw [10] (fun vf w5 => ∃ f : Nat, f ≤ T.size ∧ vf = .int .i64 f ∧ Hid (∀ t, t < f → MS.getD t 0 ≠ KV) ∧ ∃ n, w5 = wA.drewN n) (fun vf _ => T.size - (intOf vf).toNat)
              case atStart => exact ⟨0, by omega, rfl, hid (fun t ht => absurd ht (by omega)), n0, rfl⟩
              case round =>
                obtain ⟨f, hf, rfl, HF, n1, rfl⟩ := hrel
                by_cases hfL : f < T.size
                · have mf : wA.cell? ⟨gm, f, none⟩ = some (.int .u8 (MS.getD f 0)) := HOA.out.cell (by rw [HMS.out, HML.out, ← HT.out]; exact hfL)
                  obtain ⟨Y, hY⟩ : ∃ Y, Y = MS.getD f 0 := ⟨_, rfl⟩
                  rw [← hY] at mf
                  have HY := hid hY
                  clear hY
                  by_cases hy : Y = KV
                  · have x3 : (Y != KV) = false := by rw [hy]; simp
                    have x4 : ((f : Int) == (T.size : Int)) = false := by rw [beq_eq_false_iff_ne]; omega
                    have HYK := hid hy
                    clear hy
                    go_upto_region 13 with fail
                    go_quiet (fail)
                    clear mf
                    go_wp2_with fail
                    go_loopw [11] (fun vt w6 => ∃ t : Nat, f ≤ t ∧ t ≤ T.size ∧ t ≤ f + size ∧ vt = .int .i64 t ∧ Hid (∀ j, f ≤ j → j < t → MS.getD j 0 = KV) ∧ Hid (Own w6 0 (.slice (some ⟨gm, 0, none⟩) T.size cm) (sentL MS f t) ∧ Kept [gm] wA w6)) (fun vt _ => T.size - (intOf vt).toNat)
                    case atStart => exact ⟨f, Nat.le_refl _, hf, by omega, rfl, hid (fun j h3 h4 => absurd h4 (by omega)), hid ⟨by rw [sentL_self]; exact HOA.out, (Kept.refl _ _).drewN _⟩⟩
                    case round =>
                      obtain ⟨t, hft, htL, hts, rfl, HTJ, HO6⟩ := hrel
                      obtain ⟨w6, ew6⟩ : ∃ w6, w6 = wr := ⟨_, rfl⟩
                      subst ew6
                      have u0 := keptCellQ HO6.out.2 q0 (by simp; omega)
                      have u1 := keptCellQ HO6.out.2 q1 (by simp; omega)
                      have ku := keptCellQ HO6.out.2 kk (by simp; omega)
                      obtain ⟨Y2, hY2⟩ : ∃ Y2, Y2 = MS.getD t 0 := ⟨_, rfl⟩
                      have hmt : t < T.size → w6.cell? ⟨gm, t, none⟩ = some (.int .u8 Y2) := fun h3 => by
                        have h5 : t < MS.length := by rw [HMS.out, HML.out, ← HT.out]; exact h3
                        have h4 := HO6.out.1.cell (i := t) (by rw [sentL_len]; exact h5)
                        rw [sentL_at h5, if_neg (by omega), ← hY2] at h4
                        exact h4
                      have fz := HO6.out.1.free t
                      obtain ⟨CT, hCT⟩ : ∃ CT, CT = (decide (t < T.size) && decide (t < f + size) && decide (Y2 = KV)) := ⟨_, rfl⟩
                      have HY2 := hid hY2
                      clear hY2 q0 q1 q2 kk
                      go_upto_region 17 with fail
                      go_cut [111] from 88 to 117 (fun v wx => v = .bool CT ∧ ∃ n, wx = w6.drewN n)
                      case first =>
                        by_cases t1 : t < T.size
                        · have mt := hmt t1
                          have v1 : decide ((t : Int) < (T.size : Int)) = true := decide_eq_true (by omega)
                          by_cases t2 : t < f + size
                          · have v2 : decide ((t : Int) < (f : Int) + (size : Int)) = true := decide_eq_true (by omega)
                            by_cases t3 : Y2 = KV
                            · have v3 : (Y2 == KV) = true := by rw [t3]; simp
                              have e2 : CT = true := by rw [hCT]; simp [t1, t2, t3]
                              subst e2
                              clear hCT t3 hmt
                              go_quiet (fail)
                              go_wp2
                              go_meet
                              exact ⟨rfl, _, rfl⟩
                            · have v3 : (Y2 == KV) = false := by rw [beq_eq_false_iff_ne]; exact t3
                              have e2 : CT = false := by rw [hCT]; simp [t1, t2, t3]
                              subst e2
                              clear hCT t3 hmt
                              go_quiet (fail)
                              go_wp2
                              go_meet
                              exact ⟨rfl, _, rfl⟩
                          · have v2 : decide ((t : Int) < (f : Int) + (size : Int)) = false := decide_eq_false (by omega)
                            have e2 : CT = false := by rw [hCT]; simp [t1, t2]
                            subst e2
                            clear hCT hmt
                            go_quiet (fail)
                            go_wp2
                            go_meet
                            exact ⟨rfl, _, rfl⟩
                        · have v1 : decide ((t : Int) < (T.size : Int)) = false := decide_eq_false (by omega)
                          have e2 : CT = false := by rw [hCT]; simp [t1]
                          subst e2
                          clear hCT hmt
                          go_quiet (fail)
                          go_wp2
                          go_meet
                          exact ⟨rfl, _, rfl⟩
                      case rest =>
                        obtain ⟨rfl, n6, rfl⟩ := hcut
                        cases CT with
                        | true =>
                          have h3 := hCT.symm
                          simp only [Bool.and_eq_true, decide_eq_true_eq] at h3
                          obtain ⟨⟨t1, t2⟩, t3⟩ := h3
                          have mt := hmt t1
                          have HT3 := hid t3
                          clear hCT t3 hmt
                          go_wp2_with fail
                          refine ⟨⟨t + 1, by omega, by omega, by omega, by go_num, hid (fun j h3 h4 => ?_), hid ⟨?_, (HO6.out.2.drewN n6).setCell (by simp) _⟩⟩, by simp [intOf]; omega⟩
                          · by_cases ej : j = t
                            · subst ej
                              rw [← HY2.out]
                              exact HT3.out
                            · exact HTJ.out j h3 (by omega)
                          · rw [← sentL_set hft (by rw [HMS.out, HML.out, ← HT.out]; exact t1)]
                            exact HO6.out.1.set t 115
                        | false =>
                          have HCT := hid hCT
                          clear hCT hmt fz
                          go_upto_region 20 with fail
                          have HO7 : Hid (Own (w6.drewN n6) 0 (.slice (some ⟨gm, 0, none⟩) T.size cm) (sentL MS f t) ∧ Kept [gm] wA (w6.drewN n6)) := ⟨HO6.out.1, HO6.out.2.drewN n6⟩
                          have hAP : At (w6.drewN n6) w.heap.size 64 zPc := HWA.out.pc.kept HO7.out.2 (by simp; omega)
                          have x0 : (w6.drewN n6).cell? ⟨bu, 0, none⟩ = some (.string T) := u0
                          generalize w6.drewN n6 = W7 at *
                          have y0 : W7.cell? ⟨w.heap.size, 0, none⟩ = some (.int .i64 0) := hAP.cell 0
                          have y1 : W7.cell? ⟨w.heap.size, 1, none⟩ = some (.int .i64 0) := hAP.cell 1
                          have y2 : W7.cell? ⟨w.heap.size, 2, none⟩ = some (.bool false) := hAP.cell 2
                          have y3 : W7.cell? ⟨w.heap.size, 3, none⟩ = some (.string { data := #[] }) := hAP.cell 3
                          have g0 := hAP.free 0
                          have g1 := hAP.free 1
                          have g2 := hAP.free 2
                          have g3 := hAP.free 3
                          have HAP := hid hAP
                          clear hAP u0 u1 ku
                          have hbq : ((t : Int) == (T.size : Int)) = decide (t = T.size) := by
                            by_cases e : t = T.size
                            · simp [e]
                            · rw [decide_eq_false e, beq_eq_false_iff_ne]
                              omega
                          obtain ⟨D, hD⟩ : ∃ D, D = decide (t = T.size) := ⟨_, rfl⟩
                          rw [← hD] at hbq
                          have HD := hid hD
                          clear hD
                          have hin1 : f ≤ T.size := hf
                          have HKp : Hid (∀ n, (W7.drewN n).cell? ⟨bu, 0, none⟩ = some (.string T)) := fun n => x0
                          have HK0 : Hid (W7.cell? ⟨bu, 0, none⟩ = some (.string T)) := x0
                          have HKd : Hid (W7.drew.cell? ⟨bu, 0, none⟩ = some (.string T)) := x0
                          have hbN1 : ¬ (bu = w.heap.size) := by omega
                          have HKs : Hid (∀ n (v0 v1 v2 v3 : Value), (((((W7.drewN n).setCell ⟨w.heap.size, 0, none⟩ v0).setCell ⟨w.heap.size, 1, none⟩ v1).setCell ⟨w.heap.size, 2, none⟩ v2).setCell ⟨w.heap.size, 3, none⟩ v3).cell? ⟨bu, 0, none⟩ = some (.string T)) := fun n v0 v1 v2 v3 => by
                            have hkk : Kept [w.heap.size] W7 (((((W7.drewN n).setCell ⟨w.heap.size, 0, none⟩ v0).setCell ⟨w.heap.size, 1, none⟩ v1).setCell ⟨w.heap.size, 2, none⟩ v2).setCell ⟨w.heap.size, 3, none⟩ v3) := (((((Kept.refl _ W7).drewN n).setCell (by simp) _).setCell (by simp) _).setCell (by simp) _).setCell (by simp) _
                            exact keptCellQ hkk x0 (by simp; omega)
                          have HKt : Hid (∀ (v0 v1 v2 v3 : Value), ((((W7.drew.setCell ⟨w.heap.size, 0, none⟩ v0).setCell ⟨w.heap.size, 1, none⟩ v1).setCell ⟨w.heap.size, 2, none⟩ v2).setCell ⟨w.heap.size, 3, none⟩ v3).cell? ⟨bu, 0, none⟩ = some (.string T)) := fun v0 v1 v2 v3 => by
                            have hkk : Kept [w.heap.size] W7 ((((W7.drew.setCell ⟨w.heap.size, 0, none⟩ v0).setCell ⟨w.heap.size, 1, none⟩ v1).setCell ⟨w.heap.size, 2, none⟩ v2).setCell ⟨w.heap.size, 3, none⟩ v3) := ((((Kept.refl _ W7).drew.setCell (by simp) _).setCell (by simp) _).setCell (by simp) _).setCell (by simp) _
                            exact keptCellQ hkk x0 (by simp; omega)
                          have HKu : Hid (∀ (v0 v1 v2 v3 : Value), ((((W7.setCell ⟨w.heap.size, 0, none⟩ v0).setCell ⟨w.heap.size, 1, none⟩ v1).setCell ⟨w.heap.size, 2, none⟩ v2).setCell ⟨w.heap.size, 3, none⟩ v3).drew.cell? ⟨bu, 0, none⟩ = some (.string T)) := fun v0 v1 v2 v3 => by
                            have hkk : Kept [w.heap.size] W7 ((((W7.setCell ⟨w.heap.size, 0, none⟩ v0).setCell ⟨w.heap.size, 1, none⟩ v1).setCell ⟨w.heap.size, 2, none⟩ v2).setCell ⟨w.heap.size, 3, none⟩ v3).drew := (((((Kept.refl _ W7).setCell (by simp) _).setCell (by simp) _).setCell (by simp) _).setCell (by simp) _).drew
                            exact keptCellQ hkk x0 (by simp; omega)
                          go_region_held3 (fun w' => w'.cell? ⟨bu, 0, none⟩ = some (.string T)) (first | with_reducible exact HK0.out | with_reducible exact HKd.out | with_reducible exact HKp.out _ | with_reducible exact HKs.out _ _ _ _ _ | with_reducible exact HKt.out _ _ _ _ | with_reducible exact HKu.out _ _ _ _ | go_keep) (fail)
                          go_wp2_with fail
                          have hi3 : i < us.length := by rw [HL.out]; exact hiN2
                          have hn3 : i < m.n := by rw [← HN.out]; exact hiN2
                          have hT := HT.out
                          have hMS := HMS.out
                          have hKV := HKV.out
                          have hsk : skB k i m.beg m.win (us.getD i .zero).dn = false := by
                            rw [← HDN.out, ← HG.out, ← HW.out]
                            exact HSK.out.symm
                          have hfT : f < (us.getD i .zero).text.size := by rw [← hT]; exact hfL
                          obtain ⟨hhit, hcan⟩ := can_hit (k := k) HM.out (by omega) hn3 hsk hfT (fun j hj => by rw [← hMS, ← hKV]; exact HF.out j hj) (by rw [← hMS, ← hKV, ← HY.out]; exact HYK.out)
                          have hcut := HU.out.cut_eq (k := kM k) (size := size) (kM_le k) hhit hft (by rw [← hT]; exact htL) hts (fun j h3 h4 => by rw [← hMS, ← hKV]; exact HTJ.out j h3 h4) (fun h3 h4 h5 => by
                            have h6 := HCT.out
                            rw [← hT] at h3
                            rw [← hMS, ← hKV, ← HY2.out] at h5
                            simp [h3, h4, h5] at h6)
                          have hnx := next_kind h1 h2 (by omega) HP2.out (by rw [← HG.out]; exact hGi) (sk_go hn3 (by omega) hsk).1 HI.out hcan
                          rw [← HX.out] at hnx
                          unfold OutM.send at hnx
                          rw [hhit, hcut] at hnx
                          have hmt : m.t i = T := by rw [hT]; exact HU.out.tx.symm
                          have hms : m.sz i = T.size := by unfold OutM.sz; rw [hmt]
                          have hmod : (i : Int).tmod 64 = ((i % 64 : Nat) : Int) := by rw [Int.tmod_eq_emod_of_nonneg (by omega)]; omega
                          have hPA := H.out.kept HWA.out.kp (by simp)
                          have hO8 : Own W7 0 (us.getD i .zero).mv (sentL (us.getD i .zero).ms f t) := by
                            rw [HEM.out, HML.out, ← hT, ← hMS]
                            exact HO7.out.1
                          obtain ⟨hP7, hF7⟩ := hPA.marks hi3 HGM.out HO7.out.2 hO8
                          have hkF : Kept [w.heap.size] W7 (((((W7.setCell ⟨w.heap.size, 0, none⟩ (.int .i64 ((i : Int).tmod 64))).setCell ⟨w.heap.size, 1, none⟩ (.int .i64 (f : Int))).setCell ⟨w.heap.size, 2, none⟩ (.bool D)).setCell ⟨w.heap.size, 3, none⟩ (.string (T.extract f t))).drew) := (((((Kept.refl _ W7).setCell (by simp) _).setCell (by simp) _).setCell (by simp) _).setCell (by simp) _).drew
                          have hP9 := hP7.kept hkF (fun x hx => by
                            rw [hF7] at hx
                            have := H.out.lt x hx
                            simp
                            omega)
                          have hkW : Kept (outF b (some ⟨ug, 0, none⟩) us) w (((((W7.setCell ⟨w.heap.size, 0, none⟩ (.int .i64 ((i : Int).tmod 64))).setCell ⟨w.heap.size, 1, none⟩ (.int .i64 (f : Int))).setCell ⟨w.heap.size, 2, none⟩ (.bool D)).setCell ⟨w.heap.size, 3, none⟩ (.string (T.extract f t))).drew) := ((((((HWA.out.kp.wider (by simp)).trans (HO7.out.2.wider (fun x hx => by
                            rw [List.mem_singleton] at hx
                            subst hx
                            exact outF_a hi3 HGM.out))).setNewO (Nat.le_refl _) _).setNewO (Nat.le_refl _) _).setNewO (Nat.le_refl _) _).setNewO (Nat.le_refl _) _).drew
                          refine bodyPost_ret (v := .tuple #[.agg #[.int .i64 ((i : Int).tmod 64), .int .i64 (f : Int), .bool D, .string (T.extract f t)], .int .i64 0]) ?_ rfl ⟨?_, hkW, _, hP9, ?_, hF7⟩
                          · rw [results_cell_tmp rfl]
                            go_simp
                          · rw [hnx, hmod, HD.out]
                            unfold OutM.piece
                            rw [hms, hmt]
                            rfl
                          · rw [hnx]
                            exact HM.out.sent hi3
                  · have x3 : (Y != KV) = true := by rw [bne_iff_ne]; exact hy
                    have HYK := hid hy
                    clear hy
                    go_upto_region 13 with fail
                    go_quiet (fail)
                    go_wp2_with fail
                    refine ⟨⟨f + 1, by omega, by go_num, hid (fun t ht => ?_), _, rfl⟩, by simp [intOf]; omega⟩
                    by_cases et : t = f
                    · subst et
                      rw [← HY.out]
                      exact HYK.out
                    · exact HF.out t (by omega)
                · have x4 : ((f : Int) == (T.size : Int)) = true := by rw [beq_iff_eq]; omega
                  have HFT : Hid (f = T.size) := by exact (show f = T.size by omega)
                  go_upto_region 13 with fail
                  go_quiet (fail)
                  go_wp2_with fail
                  refine ⟨⟨i + 1, by omega, by omega, by go_num, hid (fun j h3 h4 h5 => ?_), hid (HWA.out.drewN _)⟩, by simp [intOf]; omega⟩
                  by_cases ej : j = i
                  · subst ej
                    refine can_full HM.out (by rw [← HN.out]; exact hiN2) (fun t ht => ?_)
                    rw [← HT.out, ← HFT.out] at ht
                    rw [← HMS.out, ← HKV.out]
                    exact HF.out t ht
                  · exact HI.out j h3 (by omega) h5
        · have HE : Hid (i = N) := by exact (show i = N by omega)
          go_wp2_with fail
          have HE2 : Hid (∀ j, m.beg ≤ j → j < m.n → j < m.edge (kM k) → m.can (kM k) j = false) := fun j h3 h4 h5 => HI.out j h3 (by rw [HE.out, HN.out]; exact h4) h5
          refine ⟨⟨k + 1, by omega, by go_num, hid (fun _ => ?_), hid (fun h3 => ?_), HWI⟩, by simp [intOf]; omega⟩
          · by_cases e : k = 0
            · have h4 := who_none HM.out.bn HE2.out
              rw [e] at h4
              exact h4
            · exact HP2.out (by omega)
          · have h4 := who_none HM.out.bn HE2.out
            have e : k = 1 := by omega
            rw [e] at h4
            exact h4
    · have hk3 : k = 2 := by omega
      subst hk3
      have y0 : wo.cell? ⟨w.heap.size, 0, none⟩ = some (.int .i64 0) := HWO.out.pc.cell 0
      have y1 : wo.cell? ⟨w.heap.size, 1, none⟩ = some (.int .i64 0) := HWO.out.pc.cell 1
      have y2 : wo.cell? ⟨w.heap.size, 2, none⟩ = some (.bool false) := HWO.out.pc.cell 2
      have y3 : wo.cell? ⟨w.heap.size, 3, none⟩ = some (.string { data := #[] }) := HWO.out.pc.cell 3
      have z0 := HWO.out.pc.free 0
      have z1 := HWO.out.pc.free 1
      have z2 := HWO.out.pc.free 2
      have z3 := HWO.out.pc.free 3
      have e6 := next_none h1 h2 (HP2.out (by omega)) (HP0.out (by omega))
      rw [← HX.out] at e6
      subst e6
      go_wp2_with fail
      (try simp only [Exit.inBlock, Exit.then])
      refine bodyPost_ret (v := .tuple #[PieceM.zero.val, .int .i64 6]) ?_ rfl ⟨rfl, ?_, us, ?_, HM.out, rfl⟩
      · rw [results_cell_tmp rfl]
        unfold PieceM.zero PieceM.val
        go_simp
        rfl
      · exact ((((HWO.out.kp.wider (by simp)).setNewO (Nat.le_refl _) _).setNewO (Nat.le_refl _) _).setNewO (Nat.le_refl _) _).setNewO (Nat.le_refl _) _
      · exact H.out.kept ((((HWO.out.kp.setNewO (Nat.le_refl _) _).setNewO (Nat.le_refl _) _).setNewO (Nat.le_refl _) _).setNewO (Nat.le_refl _) _) (by simp)
end Go.Proofs.Ytbjgfoiikhbonaf
