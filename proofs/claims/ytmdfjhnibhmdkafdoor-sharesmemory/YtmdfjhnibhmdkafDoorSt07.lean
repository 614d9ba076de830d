import Derived.Test.YtmdfjhnibhmdkafDoorSt06
namespace Go.Proofs.YtmdfjhnibhmdkafDoor
open Go.ChangeShapes Go.WideShapes Go.ChangeAt Go.RowKit
structure VP (w : World) (r sb ob : Nat) (q : Int) (wf ft : Nat → Int) (n : Nat) (o : Bool) (s : SlM) : Prop where
  t : PTurn w r q s.last o s.cr
  sl : PSlot w sb wf s.bw ft (cntW s.bw : Nat) ob n s.out.length
  ow : ArrAt .i64 3 w ob (fillO s.out n)
theorem VP.below {w w' : World} {r sb ob : Nat} {q : Int} {wf ft : Nat → Int} {n : Nat} {o : Bool} {s : SlM} (h : VP w r sb ob q wf ft n o s) (hb : Below w.heap.size w w') : VP w' r sb ob q wf ft n o s := ⟨FunAt.below h.t hb, FunAt.below h.sl hb, h.ow.below hb h.ow.lt⟩
structure Dis (r sb ob : Nat) : Prop where
  a : r ≠ sb
  b : r ≠ ob
  c : sb ≠ ob
/-- What a visit comes to, whether somebody waits or not. -/
theorem visit_eq {q : Int} {fits : Nat → Int} {blocks : Nat} {s : SlM} (h : ∀ a, 0 ≤ s.bw a) : visitM q fits blocks s = (serveM fits blocks (blocks + 1) (s.come.gain q (!s.opn))).leave := by
  by_cases hb : 0 < s.come.bw s.come.last
  · exact if_pos hb
  · have hz : s.bw s.come.last = 0 := by
      have := h s.come.last
      have e : s.come.bw s.come.last = s.bw s.come.last := rfl
      omega
    have hv : visitM q fits blocks s = s.come.lose := if_neg hb
    have e1 : (s.come.gain q (!s.opn)).bw = s.bw := by unfold SlM.gain; split <;> rfl
    have e2 : (s.come.gain q (!s.opn)).last = s.come.last := by unfold SlM.gain; split <;> rfl
    have e3 : (s.come.gain q (!s.opn)).out = s.come.out := by unfold SlM.gain; split <;> rfl
    have e4 : (s.come.gain q (!s.opn)).opn = s.come.opn := by unfold SlM.gain; split <;> rfl
    rw [hv, serve_stop (by rw [e1, e2, hz]; omega)]
    unfold SlM.leave
    rw [if_pos (by rw [e1, e2]; exact hz)]
    unfold SlM.lose
    rw [e2]
    have e5 : upd (s.come.gain q (!s.opn)).cr s.come.last 0 = upd s.come.cr s.come.last 0 := by
      unfold SlM.gain
      split
      · exact upd_upd _ _ _ _
      · rfl
    rw [e5]
    have e6 : s.come.bw = s.bw := rfl
    generalize s.come.gain q (!s.opn) = x at *
    generalize s.come = y at *
    obtain ⟨x1, x2, x3, x4, x5⟩ := x
    obtain ⟨y1, y2, y3, y4, y5⟩ := y
    simp only at e1 e2 e3 e4 e6
    subst e2 e3 e4
    simp only [SlM.mk.injEq, true_and, and_true]
    exact e6.trans e1.symm
theorem gain_in (q : Int) (s : SlM) : (s.come.gain q (!s.opn)).last = s.come.last ∧ (s.come.gain q (!s.opn)).opn = false ∧ (s.come.gain q (!s.opn)).out = s.out ∧ (s.come.gain q (!s.opn)).bw = s.bw ∧ (s.come.gain q (!s.opn)).cr = if s.opn = true then s.cr else upd s.cr (nextWho s.last) (s.cr (nextWho s.last) + q) := by
  refine ⟨?_, ?_, ?_, ?_, ?_⟩
  · unfold SlM.gain; split <;> rfl
  · unfold SlM.gain; split <;> rfl
  · unfold SlM.gain; split <;> rfl
  · unfold SlM.gain; split <;> rfl
  · by_cases e : s.opn = true
    · rw [if_pos e]
      unfold SlM.gain
      rw [e]
      rfl
    · have ef : s.opn = false := by simpa using e
      rw [if_neg e]
      unfold SlM.gain
      rw [ef]
      show upd s.cr s.come.last (s.cr s.come.last + q) = _
      have : s.come.last = nextWho s.last := if_neg e
      rw [this]
theorem begin_any (q : Int) (r : Nat) (s : SlM) (w : World) (hP : PTurn w r q s.last s.opn s.cr) (hl : s.last ≤ 16) (hq : 0 ≤ q ∧ q ≤ 10000) (hc : ∀ a, 0 ≤ s.cr a ∧ s.cr a ≤ 1000000) : Calls Tryd.prog 57 #[.pointer (some ⟨r, 0, none⟩)] w fun e w' => e = .returned (.tuple #[]) ∧ PTurn w' r q (s.come.gain q (!s.opn)).last s.opn (s.come.gain q (!s.opn)).cr ∧ Kept [r] w w' := by
  obtain ⟨g1, -, -, -, g5⟩ := gain_in q s
  rw [g1, g5]
  by_cases e : s.opn = true
  · rw [if_pos e]
    have el : s.come.last = s.last := if_pos e
    rw [el, e]
    rw [e] at hP
    refine (begin_open q r s.last s.cr w hP).mono ?_
    rintro e w' ⟨rfl, rfl⟩
    exact ⟨rfl, hP, Kept.refl _ w⟩
  · have ef : s.opn = false := by simpa using e
    rw [if_neg e]
    have el : s.come.last = nextWho s.last := if_neg e
    rw [el, ef]
    rw [ef] at hP
    refine (begin_next q r s.last s.cr w hP hl hq (hc _)).mono ?_
    rintro e w' ⟨rfl, h1, h2⟩
    exact ⟨rfl, h1, h2⟩
theorem cnt_give {bw : Nat → Int} {c : Nat} (h1 : 1 ≤ c) (h2 : c ≤ 16) {x : Int} (hx : 0 ≤ x) (hb : 0 < bw c) : (if x = 0 then ((cntW bw : Nat) : Int) - 1 else ((cntW bw : Nat) : Int)) = ((cntW (upd bw c x) : Nat) : Int) := by
  have := cnt_upd (bw := bw) h1 h2 x
  rw [if_pos hb] at this
  by_cases e : x = 0
  · rw [if_pos e]
    rw [if_neg (by omega)] at this
    omega
  · rw [if_neg e]
    rw [if_pos (by omega)] at this
    omega
theorem Kept.sub {S S' : List Nat} {a b : World} (h : Kept S a b) (hs : ∀ x ∈ S, x ∈ S') : Kept S' a b := h.wider hs
set_option maxRecDepth 100000 in
set_option maxHeartbeats 8000000 in
theorem visit_any (q : Int) (r sb ob n : Nat) (wf ft : Nat → Int) (s : SlM) (w : World) (hV : VP w r sb ob q wf ft n s.opn s) (hD : Dis r sb ob) (hok : s.Ok n) (hF : FitOk ft s.bw) (hCr : CrU s) (hq1 : 1 ≤ q) (hq2 : q ≤ 10000) (hn : n ≤ 100) (hwf : ∀ a, 1 ≤ a → a ≤ 16 → 0 < s.bw a → wf a = (a : Int)) (hft : ∀ a, 0 ≤ ft a ∧ ft a ≤ 10000) :
    Calls Tryd.prog 39 #[.pointer (some ⟨r, 0, none⟩), .pointer (some ⟨sb, 0, none⟩)] w fun e w' => e = .returned (.tuple #[]) ∧ VP w' r sb ob q wf ft n (visitM q ft n s).opn (visitM q ft n s) ∧ Kept [r, sb, ob] w w' := by
  have HVE := hid (visit_eq (q := q) (fits := ft) (blocks := n) hok.bw)
  have hbg := begin_any q r s w hV.t hok.last ⟨by omega, hq2⟩ (fun a => ⟨hok.cr a, by have := hCr.1.le a; omega⟩)
  obtain ⟨g1, g2, g3, g4, g5⟩ := gain_in q s
  obtain ⟨c1, c2⟩ := come_last hok
  have hgok := (gain_ok (blocks := n) (q := q) (by omega) (!s.opn) (come_ok hok)).1
  have hcb : (s.come.gain q (!s.opn)).cr s.come.last < 40000 := by
    rw [g5]
    have h1 := hCr.1.le s.come.last
    have h2 := hCr.1.le (nextWho s.last)
    split
    · omega
    · unfold upd
      split <;> omega
  obtain ⟨sg, eg⟩ : ∃ sg, sg = s.come.gain q (!s.opn) := ⟨_, rfl⟩
  rw [← eg] at hbg g1 g2 g3 g4 hgok hcb HVE
  obtain ⟨A, eA⟩ : ∃ A, A = s.come.last := ⟨_, rfl⟩
  rw [← eA] at g1 c1 c2 hcb
  have HG1 := hid g1
  have HG2 := hid g2
  have HG3 := hid g3
  have HG4 := hid g4
  have HV0 := hid hV
  have HD := hid hD
  have HF := hid hF
  have HGO := hid hgok
  have HCB := hid hcb
  have HBW : Hid (∀ a, s.bw a ≤ 1000000) := hCr.2
  have HWF := hid hwf
  have HFT := hid hft
  have hd1 := hD.a
  have hd2 := hD.b
  have hd3 := hD.c
  obtain ⟨o, eo⟩ : ∃ o, o = s.opn := ⟨_, rfl⟩
  rw [← eo] at hbg HV0
  have a0 : (0 : Int) ≤ (A : Int) := by omega
  have a1 : (A : Int) < 17 := by omega
  clear hV hok hF hCr g1 g2 g3 g4 g5 hgok hcb hwf hft eg eA eo hD
  go_enter Tryd.func39, Tryd.ntmps39
  go_upto_region 1 with (go_at_call 57; refine hbg.mono ?_; rintro e wb ⟨rfl, hPb, hKb⟩)
  have hVb : VP wb r sb ob q wf ft n o sg := ⟨hPb, by rw [HG4.out, HG3.out]; exact FunAt.kept HV0.out.sl hKb (by simp only [List.mem_singleton]; exact fun e => HD.out.a e.symm), by rw [HG3.out]; exact HV0.out.ow.kept hKb (by simp only [List.mem_singleton]; exact fun e => HD.out.b e.symm)⟩
  have hKb3 : Kept [r, sb, ob] w wb := hKb.wider (by simp)
  have t1 := hVb.t.head.2.1
  rw [HG1.out] at t1
  clear hPb hKb hbg
  go_wp2_with fail
  go_loopg [] (n + 1) (fun gg wr => ∃ (f : Nat) (s2 : SlM), VP wr r sb ob q wf ft n o s2 ∧ Hid (s2.last = A ∧ s2.opn = false ∧ serveM ft n (n + 1) sg = serveM ft n f s2 ∧ (∀ a, s2.bw a ≤ s.bw a) ∧ FitOk ft s2.bw) ∧ Hid (s2.Ok n) ∧ n < f + s2.out.length ∧ f ≤ gg ∧ s2.cr A < 40000 ∧ Kept [r, sb, ob] w wr)
  case atStart => exact ⟨n + 1, sg, hVb, ⟨HG1.out, HG2.out, rfl, by rw [HG4.out]; exact fun a => Int.le_refl _, by rw [HG4.out]; exact HF.out⟩, HGO, by omega, Nat.le_refl _, HCB.out, hKb3⟩
  case round =>
    clear hVb hKb3 t1
    obtain ⟨f, s2, hV, HI, HOK, hf, hfg, hc2, hK⟩ := hrel
    obtain ⟨f', rfl⟩ : ∃ f', f = f' + 1 := ⟨f - 1, by have := HOK.out.out; omega⟩
    have hlen := HOK.out.out
    have hc0 := HOK.out.cr A
    have hb0 := HOK.out.bw A
    have hb1 := Int.le_trans (HI.out.2.2.2.1 A) (HBW.out A)
    have hfA := HFT.out A
    obtain ⟨hf0, hf1⟩ := hfA
    have hcn := cnt_le s2.bw
    have HL := hid HI.out.1
    have HW : Hid (0 < s2.bw A → wf A = (A : Int)) := fun h => HWF.out A c1 c2 (by have := HI.out.2.2.2.1 A; omega)
    have hlf := fun (wz : World) (hz : VP wz r sb ob q wf ft n o s2) => left_any sb ob n s2.out.length wf s2.bw ft (cntW s2.bw : Nat) wz hz.sl
    have hea := fun (wz : World) (hz : VP wz r sb ob q wf ft n o s2) => earned_any (wf A) (s2.bw A) (ft A) q r s2.last o s2.cr wz hz.t (fun h => by rw [HW.out h]; omega)
    have HSTOP : Hid (¬ (0 < s2.bw A ∧ ft A ≤ s2.cr A) → visitM q ft n s = s2.leave) := fun h => by rw [HVE.out, HI.out.2.2.1, serve_stop (by rw [HI.out.1]; exact h)]
    have HFULL : Hid (0 < s2.bw A ∧ ft A ≤ s2.cr A → s2.out.length = n → visitM q ft n s = { s2 with opn := true }) := fun h hl => by
      rw [HVE.out, HI.out.2.2.1, serve_full (by rw [HI.out.1]; exact h) hl]
      unfold SlM.leave
      rw [if_neg (show ¬ ({ s2 with opn := true } : SlM).bw ({ s2 with opn := true } : SlM).last = 0 by show ¬ s2.bw s2.last = 0; rw [HI.out.1]; omega)]
    by_cases hlt : s2.out.length < n
    · have xl : decide (s2.out.length < n) = true := decide_eq_true hlt
      by_cases hz : 0 < s2.bw A
      · by_cases hy : ft A ≤ s2.cr A
        · have xe : decide (0 < s2.bw A ∧ ft A ≤ s2.cr (wf A).toNat) = true := by rw [HW.out hz, Int.toNat_natCast]; exact decide_eq_true ⟨hz, hy⟩
          rw [xe] at hea
          have hgi := fun (wz : World) (hz2 : VP wz r sb ob q wf ft n o s2) => tgive_any sb ob n s2.out.length A wf s2.bw ft (cntW s2.bw : Nat) _ wz hz2.sl hz2.ow (fillO_length hlen) hd3 c2 hlt hn ⟨hb0, hb1⟩ ⟨hf0, hf1⟩ ⟨by omega, by omega⟩
          have eC := cnt_give (bw := s2.bw) c1 c2 (x := max (s2.bw A - ft A) 0) (by omega) hz
          rw [eC, fillO_set hlt] at hgi
          have egv : s2.give ft = ⟨s2.last, s2.opn, upd s2.cr A (s2.cr A - ft A), upd s2.bw A (max (s2.bw A - ft A) 0), s2.out ++ [(A : Int)]⟩ := by unfold SlM.give; rw [HL.out]
          have HNEXT : Hid ((s2.give ft).last = A ∧ (s2.give ft).opn = false ∧ serveM ft n (n + 1) sg = serveM ft n f' (s2.give ft) ∧ (∀ a, (s2.give ft).bw a ≤ s.bw a) ∧ FitOk ft (s2.give ft).bw) := by
            refine ⟨HL.out, HI.out.2.1, ?_, fun a => ?_, HI.out.2.2.2.2.less (give_less s2 (by rw [HL.out]; exact hz))⟩
            · rw [HI.out.2.2.1, serve_give (by rw [HL.out]; exact ⟨hz, hy⟩) (by omega)]
            · refine Int.le_trans ?_ (HI.out.2.2.2.1 a)
              rw [egv]
              show upd s2.bw A (max (s2.bw A - ft A) 0) a ≤ s2.bw a
              by_cases e : a = A
              · rw [e, upd_at]; omega
              · rw [upd_ne _ _ e]; exact Int.le_refl _
          have HOK2 : Hid ((s2.give ft).Ok n) := give_ok HOK.out (by rw [HL.out]; exact hy) hlt
          have HLN : Hid (n < f' + (s2.give ft).out.length) := by
            show _ < _
            rw [egv]
            show n < f' + (s2.out ++ [(A : Int)]).length
            rw [List.length_append]
            simp
            omega
          have HCN : Hid ((s2.give ft).cr A < 40000) := by
            show _ < _
            rw [egv]
            show upd s2.cr A (s2.cr A - ft A) A < 40000
            rw [upd_at]
            omega
          have HEG := hid egv
          clear xe hlt hz hy eC egv
          go_upto_region 4 with (first
            | (go_at_call 38; refine (hlf _ hV).mono ?_; rintro e wl ⟨rfl, hbl⟩; have hVl := hV.below hbl; have hKl := hK.trans (Kept.of_below hbl); obtain ⟨u0, u1, u2⟩ := hVl.sl.user c2)
            | (go_at_call 58; refine (hea _ hVl).mono ?_; rintro e we ⟨rfl, hbe⟩; have hVe := hVl.below hbe; have hKe := hKl.trans (Kept.of_below hbe); obtain ⟨v0, v1, v2⟩ := hVe.sl.user c2)
            | (go_at_call 59; refine (hgi _ hVe).mono ?_; rintro e wg ⟨rfl, hSg, hAg, hKg⟩; have hTg := FunAt.kept hVe.t hKg (by simp only [List.mem_cons, List.not_mem_nil, or_false]; exact fun e => e.elim hd1 hd2); have hKh := hKe.trans (hKg.wider (by simp))))
          have hTg : PTurn wg r q A o s2.cr := by rw [← HL.out]; exact hTg
          have hSg' : PSlot wg sb wf (upd s2.bw A (max (s2.bw A - ft A) 0)) ft (cntW (upd s2.bw A (max (s2.bw A - ft A) 0)) : Nat) ob n (s2.out.length + 1) := hSg
          have k0 := hTg.credit c2
          have k1 := FunAt.free hTg (1 + A)
          obtain ⟨-, -, k2⟩ := hSg'.user c2
          have hVn : VP (wg.setCell ⟨r, 1 + A, none⟩ (.int .i64 (s2.cr A - ft A))) r sb ob q wf ft n o (s2.give ft) := by
            rw [HEG.out]
            refine ⟨by show PTurn _ r q s2.last o _; rw [HL.out]; exact hTg.setCr c2 _, ?_, hAg.other _ _ hd2.symm⟩
            show PSlot _ sb wf _ ft _ ob n (s2.out ++ [(A : Int)]).length
            rw [List.length_append]
            exact FunAt.other hSg' _ _ hd1.symm
          have hKn : Kept [r, sb, ob] w (wg.setCell ⟨r, 1 + A, none⟩ (.int .i64 (s2.cr A - ft A))) := hKh.setCell (by simp) _
          have HVN := hid hVn
          have HKN := hid hKn
          clear hVn hKn hTg hSg hSg' hAg hKh hVe hVl hV hKe hKl hK hgi hea hlf
          go_upto_region 4 with fail
          go_big_region
          go_wp2_with fail
          go_roundg f'
          case measure => omega
          case rel => exact ⟨f', s2.give ft, ⟨HVN.out.t, HVN.out.sl, HVN.out.ow⟩, HNEXT, HOK2, HLN.out, Nat.le_refl _, HCN.out, HKN.out.drew⟩
        · have xe : decide (0 < s2.bw A ∧ ft A ≤ s2.cr (wf A).toNat) = false := by rw [HW.out hz, Int.toNat_natCast]; exact decide_eq_false fun h => hy h.2
          rw [xe] at hea
          have HFIN : Hid (visitM q ft n s = s2) := by
            show _ = _
            rw [HSTOP.out (fun h => hy h.2)]
            unfold SlM.leave
            rw [if_neg (by rw [HL.out]; omega)]
          have HOP : Hid ((visitM q ft n s).opn = false) := by rw [HFIN.out]; exact HI.out.2.1
          have xz : (s2.bw A == 0) = false := beq_false_of_ne (by omega)
          clear xe hlt hz hy
          go_upto_region 5 with (first
            | (go_at_call 38; refine (hlf _ hV).mono ?_; rintro e wl ⟨rfl, hbl⟩; have hVl := hV.below hbl; have hKl := hK.trans (Kept.of_below hbl); obtain ⟨u0, u1, u2⟩ := hVl.sl.user c2)
            | (go_at_call 58; refine (hea _ hVl).mono ?_; rintro e we ⟨rfl, hbe⟩; have hVe := hVl.below hbe; have hKe := hKl.trans (Kept.of_below hbe); obtain ⟨v0, v1, v2⟩ := hVe.sl.user c2))
          have hVx := hVe
          have hKx := hKe
          clear hVl hVe hKl hKe hV hK
          obtain ⟨m0, m1, m2⟩ := hVx.sl.user c2
          have hea2 := hea _ hVx
          have HVZ := hid hVx
          have HKZ := hid hKx
          clear hVx hKx
          go_wp2_with (go_at_call 58; refine hea2.mono ?_; rintro e wf1 ⟨rfl, hbf⟩; have hVf := HVZ.out.below hbf; have hKf := HKZ.out.trans (Kept.of_below hbf); have w0 := hVf.t.head.2.2; have w1 := FunAt.free hVf.t 19)
          go_end0
          refine ⟨rfl, ?_, hKf.setCell (by simp) _⟩
          rw [HOP.out, HFIN.out]
          exact ⟨PTurn.setOpn hVf.t false, FunAt.other hVf.sl _ _ hd1.symm, hVf.ow.other _ _ hd2.symm⟩
      · have xe : decide (0 < s2.bw A ∧ ft A ≤ s2.cr (wf A).toNat) = false := decide_eq_false fun h => hz h.1
        rw [xe] at hea
        have hz0 : s2.bw A = 0 := by omega
        have HFIN : Hid (visitM q ft n s = s2.lose) := by
          show _ = _
          rw [HSTOP.out (fun h => hz h.1)]
          unfold SlM.leave
          rw [if_pos (by rw [HL.out]; exact hz0)]
        have HOP : Hid ((visitM q ft n s).opn = false) := by rw [HFIN.out]; exact HI.out.2.1
        have xz : (s2.bw A == 0) = true := by rw [hz0]; rfl
        clear xe hlt hz hz0
        go_upto_region 5 with (first
          | (go_at_call 38; refine (hlf _ hV).mono ?_; rintro e wl ⟨rfl, hbl⟩; have hVl := hV.below hbl; have hKl := hK.trans (Kept.of_below hbl); obtain ⟨u0, u1, u2⟩ := hVl.sl.user c2)
          | (go_at_call 58; refine (hea _ hVl).mono ?_; rintro e we ⟨rfl, hbe⟩; have hVe := hVl.below hbe; have hKe := hKl.trans (Kept.of_below hbe); obtain ⟨v0, v1, v2⟩ := hVe.sl.user c2))
        have hVx := hVe
        have hKx := hKe
        clear hVl hVe hKl hKe hV hK
        have k0 := hVx.t.credit c2
        have k1 := FunAt.free hVx.t (1 + A)
        obtain ⟨m0, m1, m2⟩ := hVx.sl.user c2
        have hVz : VP (we.setCell ⟨r, 1 + A, none⟩ (.int .i64 0)) r sb ob q wf ft n o s2.lose := ⟨by show PTurn _ r q s2.last o (upd s2.cr s2.last 0); rw [HL.out]; have := hVx.t.setCr c2 0; rw [HL.out] at this; exact this, FunAt.other hVx.sl _ _ hd1.symm, hVx.ow.other _ _ hd2.symm⟩
        have hKz : Kept [r, sb, ob] w (we.setCell ⟨r, 1 + A, none⟩ (.int .i64 0)) := hKx.setCell (by simp) _
        obtain ⟨n0, n1, n2⟩ := hVz.sl.user c2
        have n0 : (we.setCell ⟨r, 1 + A, none⟩ (.int .i64 0)).cell? ⟨sb, A * 3, none⟩ = some (.int .i64 (wf A)) := n0
        have n1 : (we.setCell ⟨r, 1 + A, none⟩ (.int .i64 0)).cell? ⟨sb, A * 3 + 1, none⟩ = some (.int .i64 (s2.bw A)) := n1
        have hea2 := earned_any (wf A) (s2.bw A) (ft A) q r s2.lose.last o s2.lose.cr _ hVz.t (fun h => by rw [HW.out h]; omega)
        have xe2 : decide (0 < s2.bw A ∧ ft A ≤ s2.lose.cr (wf A).toNat) = false := decide_eq_false fun h => by have := eq_of_beq xz; omega
        rw [xe2] at hea2
        clear xe2
        have HVZ := hid hVz
        have HKZ := hid hKz
        clear hVx hKx hVz hKz
        go_wp2_with (go_at_call 58; refine hea2.mono ?_; rintro e wf1 ⟨rfl, hbf⟩; have hVf := HVZ.out.below hbf; have hKf := HKZ.out.trans (Kept.of_below hbf); have w0 := hVf.t.head.2.2; have w1 := FunAt.free hVf.t 19)
        go_end0
        refine ⟨rfl, ?_, hKf.setCell (by simp) _⟩
        rw [HOP.out, HFIN.out]
        exact ⟨PTurn.setOpn hVf.t false, FunAt.other hVf.sl _ _ hd1.symm, hVf.ow.other _ _ hd2.symm⟩
    · have xl : decide (s2.out.length < n) = false := decide_eq_false hlt
      by_cases hz : 0 < s2.bw A
      · by_cases hy : ft A ≤ s2.cr A
        · have xe : decide (0 < s2.bw A ∧ ft A ≤ s2.cr (wf A).toNat) = true := by rw [HW.out hz, Int.toNat_natCast]; exact decide_eq_true ⟨hz, hy⟩
          rw [xe] at hea
          have HFIN : Hid (visitM q ft n s = { s2 with opn := true }) := HFULL.out ⟨hz, hy⟩ (by omega)
          have HOP : Hid ((visitM q ft n s).opn = true) := by show (visitM q ft n s).opn = true; rw [HFIN.out]
          have xz : (s2.bw A == 0) = false := beq_false_of_ne (by omega)
          clear xe hlt hz hy
          go_upto_region 5 with (go_at_call 38; refine (hlf _ hV).mono ?_; rintro e wl ⟨rfl, hbl⟩; have hVl := hV.below hbl; have hKl := hK.trans (Kept.of_below hbl); obtain ⟨u0, u1, u2⟩ := hVl.sl.user c2)
          have hVx := hVl
          have hKx := hKl
          clear hVl hKl hV hK
          obtain ⟨m0, m1, m2⟩ := hVx.sl.user c2
          have hea2 := hea _ hVx
          have HVZ := hid hVx
          have HKZ := hid hKx
          clear hVx hKx
          go_wp2_with (go_at_call 58; refine hea2.mono ?_; rintro e wf1 ⟨rfl, hbf⟩; have hVf := HVZ.out.below hbf; have hKf := HKZ.out.trans (Kept.of_below hbf); have w0 := hVf.t.head.2.2; have w1 := FunAt.free hVf.t 19)
          go_end0
          refine ⟨rfl, ?_, hKf.setCell (by simp) _⟩
          rw [HOP.out, HFIN.out]
          exact ⟨PTurn.setOpn hVf.t true, FunAt.other hVf.sl _ _ hd1.symm, hVf.ow.other _ _ hd2.symm⟩
        · have xe : decide (0 < s2.bw A ∧ ft A ≤ s2.cr (wf A).toNat) = false := by rw [HW.out hz, Int.toNat_natCast]; exact decide_eq_false fun h => hy h.2
          rw [xe] at hea
          have HFIN : Hid (visitM q ft n s = s2) := by
            show _ = _
            rw [HSTOP.out (fun h => hy h.2)]
            unfold SlM.leave
            rw [if_neg (by rw [HL.out]; omega)]
          have HOP : Hid ((visitM q ft n s).opn = false) := by rw [HFIN.out]; exact HI.out.2.1
          have xz : (s2.bw A == 0) = false := beq_false_of_ne (by omega)
          clear xe hlt hz hy
          go_upto_region 5 with (go_at_call 38; refine (hlf _ hV).mono ?_; rintro e wl ⟨rfl, hbl⟩; have hVl := hV.below hbl; have hKl := hK.trans (Kept.of_below hbl); obtain ⟨u0, u1, u2⟩ := hVl.sl.user c2)
          have hVx := hVl
          have hKx := hKl
          clear hVl hKl hV hK
          obtain ⟨m0, m1, m2⟩ := hVx.sl.user c2
          have hea2 := hea _ hVx
          have HVZ := hid hVx
          have HKZ := hid hKx
          clear hVx hKx
          go_wp2_with (go_at_call 58; refine hea2.mono ?_; rintro e wf1 ⟨rfl, hbf⟩; have hVf := HVZ.out.below hbf; have hKf := HKZ.out.trans (Kept.of_below hbf); have w0 := hVf.t.head.2.2; have w1 := FunAt.free hVf.t 19)
          go_end0
          refine ⟨rfl, ?_, hKf.setCell (by simp) _⟩
          rw [HOP.out, HFIN.out]
          exact ⟨PTurn.setOpn hVf.t false, FunAt.other hVf.sl _ _ hd1.symm, hVf.ow.other _ _ hd2.symm⟩
      · have xe : decide (0 < s2.bw A ∧ ft A ≤ s2.cr (wf A).toNat) = false := decide_eq_false fun h => hz h.1
        rw [xe] at hea
        have hz0 : s2.bw A = 0 := by omega
        have HFIN : Hid (visitM q ft n s = s2.lose) := by
          show _ = _
          rw [HSTOP.out (fun h => hz h.1)]
          unfold SlM.leave
          rw [if_pos (by rw [HL.out]; exact hz0)]
        have HOP : Hid ((visitM q ft n s).opn = false) := by rw [HFIN.out]; exact HI.out.2.1
        have xz : (s2.bw A == 0) = true := by rw [hz0]; rfl
        clear xe hlt hz hz0
        go_upto_region 5 with (go_at_call 38; refine (hlf _ hV).mono ?_; rintro e wl ⟨rfl, hbl⟩; have hVl := hV.below hbl; have hKl := hK.trans (Kept.of_below hbl); obtain ⟨u0, u1, u2⟩ := hVl.sl.user c2)
        have hVx := hVl
        have hKx := hKl
        clear hVl hKl hV hK
        have k0 := hVx.t.credit c2
        have k1 := FunAt.free hVx.t (1 + A)
        obtain ⟨m0, m1, m2⟩ := hVx.sl.user c2
        have hVz : VP (wl.setCell ⟨r, 1 + A, none⟩ (.int .i64 0)) r sb ob q wf ft n o s2.lose := ⟨by show PTurn _ r q s2.last o (upd s2.cr s2.last 0); rw [HL.out]; have := hVx.t.setCr c2 0; rw [HL.out] at this; exact this, FunAt.other hVx.sl _ _ hd1.symm, hVx.ow.other _ _ hd2.symm⟩
        have hKz : Kept [r, sb, ob] w (wl.setCell ⟨r, 1 + A, none⟩ (.int .i64 0)) := hKx.setCell (by simp) _
        obtain ⟨n0, n1, n2⟩ := hVz.sl.user c2
        have n0 : (wl.setCell ⟨r, 1 + A, none⟩ (.int .i64 0)).cell? ⟨sb, A * 3, none⟩ = some (.int .i64 (wf A)) := n0
        have n1 : (wl.setCell ⟨r, 1 + A, none⟩ (.int .i64 0)).cell? ⟨sb, A * 3 + 1, none⟩ = some (.int .i64 (s2.bw A)) := n1
        have hea2 := earned_any (wf A) (s2.bw A) (ft A) q r s2.lose.last o s2.lose.cr _ hVz.t (fun h => by rw [HW.out h]; omega)
        have xe2 : decide (0 < s2.bw A ∧ ft A ≤ s2.lose.cr (wf A).toNat) = false := decide_eq_false fun h => by have := eq_of_beq xz; omega
        rw [xe2] at hea2
        clear xe2
        have HVZ := hid hVz
        have HKZ := hid hKz
        clear hVx hKx hVz hKz
        go_wp2_with (go_at_call 58; refine hea2.mono ?_; rintro e wf1 ⟨rfl, hbf⟩; have hVf := HVZ.out.below hbf; have hKf := HKZ.out.trans (Kept.of_below hbf); have w0 := hVf.t.head.2.2; have w1 := FunAt.free hVf.t 19)
        go_end0
        refine ⟨rfl, ?_, hKf.setCell (by simp) _⟩
        rw [HOP.out, HFIN.out]
        exact ⟨PTurn.setOpn hVf.t false, FunAt.other hVf.sl _ _ hd1.symm, hVf.ow.other _ _ hd2.symm⟩
end Go.Proofs.YtmdfjhnibhmdkafDoor
