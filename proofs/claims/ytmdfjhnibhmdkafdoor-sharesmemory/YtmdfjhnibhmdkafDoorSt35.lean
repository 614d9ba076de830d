import Derived.Test.YtmdfjhnibhmdkafDoorSt34
namespace Go.Proofs.YtmdfjhnibhmdkafDoor
open Go.ChangeShapes Go.WideShapes Go.ChangeAt Go.RowKit
theorem arr_own {w : World} {B g n : Nat} {l : List ChM} {m : ChM} (h : ArrDCh w g (l ++ [m, m, m])) (hl : l.length = n) (hB : B ≤ g) (hz : n ≤ 4398046510976) : ∃ ys, w.ownsRow B 38 4 (.slice (some ⟨g, 0, none⟩) n (n + 3)) n ys :=
  ⟨_, own_of_blockD hB h (by omega) (by unfold maxLen; omega) (by simp [cellsDCh_length]; omega)⟩
theorem ownT_ge {w : World} {B : Nat} {e : TypeId} {d : Nat} {v : Value} {n : Nat} {xs : List Value} (h : w.ownsRow B e d v n xs) : ∀ x ∈ ownT v, B ≤ x := fun x hx => (h.lt x (ownT_in.1 hx)).1
set_option maxRecDepth 100000 in
set_option maxHeartbeats 8000000 in
theorem shmem_any (l : List ChM) (bl : List Int) (bytes : Int) (us : List UsM) (blocks : Int) (its : List ItemM) (al ab au ai : Option Addr) (nl cl nb cb nu cu ni ci : Nat) (w : World)
    (hC : Chs w al l) (hnl : l.length = nl) (hcn : al = none → nl = 0 ∧ cl = 0) (hzl : nl ≤ 4398046510976) (hR : Rd .i64 w ab bl) (hnb : bl.length = nb) (hbn : ab = none → nb = 0 ∧ cb = 0) (hzb : nb ≤ 17592186043904)
    (hU : Usr w au us) (hnu : us.length = nu) (hun : au = none → nu = 0 ∧ cu = 0) (hzu : nu ≤ 5864062014634) (hI : Itms w ai its) (hni : its.length = ni) (hin : ai = none → ni = 0 ∧ ci = 0) (hzi : ni ≤ 5864062014634) :
    Calls Tryd.prog 4 #[.slice al nl cl, .slice ab nb cb, .int .i64 bytes, .slice au nu cu, .int .i64 blocks, .slice ai ni ci] w fun e w' => e = .returned (.bool true) ∧ Below w.heap.size w w' := by
  have HC := hid hC
  have HNL := hid hnl
  have HCN := hid hcn
  have HR := hid hR
  have HNB := hid hnb
  have HBN := hid hbn
  have HU := hid hU
  have HNU := hid hnu
  have HUN := hid hun
  have HI := hid hI
  have HNI := hid hni
  have HIN := hid hin
  obtain ⟨E, hE⟩ : ∃ E : Int, (OkAll l ∧ E = 0) ∨ (¬ OkAll l ∧ E = 1) := by
    by_cases h : OkAll l
    · exact ⟨0, .inl ⟨h, rfl⟩⟩
    · exact ⟨1, .inr ⟨h, rfl⟩⟩
  have HE := hid hE
  have xE : (E != E) = false := by simp
  clear hC hnl hcn hR hnb hbn hU hnu hun hI hni hin hE
  go_enter Tryd.func4, Tryd.ntmps4
  go_upto_region 2 with (first
    | (go_at_call 11; refine (roomyDCh l mkC al cl nl w HC.out HCN.out HNL.out hzl).mono ?_; rintro e w1 ⟨gc, rfl, hA1, hg1, hb1⟩)
    | (go_at_call 12; refine (roomyI bl (-7) ab cb nb w1 (HR.out.below hb1) HBN.out HNB.out (by omega)).mono ?_; rintro e w2 ⟨gb, rfl, hB2, hg2, hb2⟩; have hbb2 := hb1.trans (hb2.mono hb1.size))
    | (go_at_call 13; refine (roomyDUs us mkU au cu nu w2 (rdDUs_below HU.out hbb2) HUN.out HNU.out hzu).mono ?_; rintro e w3 ⟨gu, rfl, hU3, hg3, hb3⟩; have hbb3 := hbb2.trans (hb3.mono hbb2.size))
    | (go_at_call 14; refine (roomyDIt its mkI ai ci ni w3 (rdDIt_below HI.out hbb3) HIN.out HNI.out hzi).mono ?_; rintro e w4 ⟨gm, rfl, hM4, hg4, hb4⟩; have hbb4 := hbb3.trans (hb4.mono hbb3.size)))
  have hA1l := hA1.lt
  have hB2l := hB2.lt
  have hU3l := hU3.lt
  have hM4l := hM4.lt
  have hs2 := hb2.size
  have hs3 := hb3.size
  have hs4 := hb4.size
  have hA4 : ArrDCh w4 gc (l ++ [mkC, mkC, mkC]) := ((hA1.below hb2 hA1l).below hb3 (by omega)).below hb4 (by omega)
  have hbag4 : Bag w w4 gb gu gm bl us its := ⟨hbb4, (hB2.below hb3 hB2l).below hb4 (by omega), hU3.below hb4 hU3l, hM4⟩
  have hs0 := hbb4.size
  have hor : w.heap.size ≤ gc ∧ gc < gb ∧ gb < gu ∧ gu < gm ∧ gm < w4.heap.size := ⟨hg1, by omega, by omega, by omega, hM4l⟩
  obtain ⟨o1, o2, o3, o4, o5⟩ := hor
  clear hA1 hB2 hU3 hM4 hA1l hB2l hU3l hM4l hs2 hs3 hs4 hg1 hg2 hg3 hg4 hb1 hb2 hb3 hb4 hbb2 hbb3 hbb4
  have hml : nl ≤ maxLen := by unfold maxLen; omega
  have hmb : nb ≤ maxLen := by unfold maxLen; omega
  go_upto_region 3 with (go_at_call 7; refine (new_uni l HE.out (some ⟨gc, 0, none⟩) nl (nl + 3) w4 hA4.rd HNL.out hml).mono ?_; rintro e w5 ⟨ps, rfl, hS5, hb5⟩)
  have hbag5 := hbag4.below hb5
  have hA5 := hA4.below hb5 (by omega)
  have z5 := hb5.size
  go_upto_region 4 with (go_at_call 7; refine (new_uni l HE.out al nl cl w5 (rdDCh_belowB HC.out hbag5.bel rfl) HNL.out hml).mono ?_; rintro e w6 ⟨pt, rfl, hT6, hb6⟩)
  have hbag6 := hbag5.below hb6
  have hA6 := hA5.below hb6 (by omega)
  have z6 := hb6.size
  go_upto_region 6 with (go_at_call 15; refine (keptDCh l mkC gc nl al cl w6 HNL.out hzl hA6 (rdDCh_belowB HC.out hbag6.bel rfl)).mono ?_; rintro e w7 ⟨rfl, hb7⟩)
  have hbag7 := hbag6.below hb7
  have hA7 := hA6.below hb7 (by omega)
  have z7 := hb7.size
  obtain ⟨ysC, hOC⟩ := arr_own hA7 HNL.out o1 hzl
  go_upto_if 76 with (go_at_call 16; refine (spoiltDCh ⟨9, 0, 0, 0⟩ _ nl ysC w.heap.size [gc] w7 hOC hbag7.bel.size (fun k hk => by simpa using (show some gc = some k from hk).symm) hzl).mono ?_; rintro e w8 ⟨rfl, hk8⟩)
  have hbag8 := hbag7.kept hk8 (fun x hx => by obtain rfl : x = gc := (by simpa using hx); omega)
  have z8 := hk8.size
  have HS8 : Hid (OkAll l → ∃ v, ps = .pointer (some ⟨w4.heap.size, 0, none⟩) ∧ PSh w8 w4.heap.size w4.heap.size v (l.map shOf) ∧ w4.heap.size < w5.heap.size ∧ ∀ x ∈ ownT v, w4.heap.size ≤ x ∧ x < w5.heap.size) := fun h => by
    obtain ⟨v, h1, h2⟩ := hS5 h
    have h3 := (h2.below hb6).below hb7
    refine ⟨v, h1, h3.keptT hk8 (by simp; omega) (fun k hk => by have := (h2.own.lt k hk).1; simp; omega), h2.lt, fun x hx => h2.own.lt x (ownT_in.1 hx)⟩
  have HT8 : Hid (OkAll l → ∃ v, pt = .pointer (some ⟨w5.heap.size, 0, none⟩) ∧ PSh w8 w5.heap.size w5.heap.size v (l.map shOf) ∧ ∀ x ∈ ownT v, w5.heap.size ≤ x) := fun h => by
    obtain ⟨v, h1, h2⟩ := hT6 h
    have h3 := h2.below hb7
    refine ⟨v, h1, h3.keptT hk8 (by simp; omega) (fun k hk => by have := (h2.own.lt k hk).1; simp; omega), fun x hx => (h2.own.lt x (ownT_in.1 hx)).1⟩
  have HB8 := hid hbag8
  clear hbag4 hbag5 hbag6 hbag7 hbag8 hA4 hA5 hA6 hA7 hOC hb5 hb6 hb7 hk8 hS5 hT6
  go_cut [] from 41 (fun wx => Bag w wx gb gu gm bl us its)
  case first =>
    rcases HE.out with ⟨hO, rfl⟩ | ⟨hO, rfl⟩
    · obtain ⟨vs, rfl, hPs, z4, hds⟩ := HS8.out hO
      obtain ⟨vt, rfl, hPt, hdt⟩ := HT8.out hO
      obtain ⟨gO, gN, gE, hsp⟩ := grant_uni l bl bytes hO
      have hL0 : Sames l (l.map shOf) := Sames.new l
      have hV0 : Lvl (l.map shOf) := Lvl.new l
      have h32 := ok_few (k := l.length) hO (Nat.le_refl _)
      obtain ⟨⟨gl1, gs1, gw1⟩, gA⟩ := hsp _ 0 hL0.tick (Lw.of (hV0.tick hL0 hO)) (by omega)
      obtain ⟨⟨gl2, gs2, gw2⟩, gB⟩ := hsp _ _ gs1 gw1 (by omega)
      have hlen : (l.map shOf).length ≤ 1000 := by rw [List.length_map]; omega
      have hfit := (Lw.of hV0).fits (by omega) hL0 hO
      have htkS := fun (wz : World) (hz : PSh wz w4.heap.size w4.heap.size vs (l.map shOf)) => tick_anyK (l.map shOf) w4.heap.size w4.heap.size vs wz hz hlen hfit
      have htkT := fun (wz : World) (hz : PSh wz w5.heap.size w5.heap.size vt (l.map shOf)) => tick_anyK (l.map shOf) w5.heap.size w5.heap.size vt wz hz hlen hfit
      have hSs : ∀ x ∈ ownT vs, w.heap.size ≤ x ∧ x ≠ gb ∧ x ≠ gu ∧ x ≠ gm := fun x hx => by have := hds x hx; omega
      have hSt : ∀ x ∈ ownT vt, w.heap.size ≤ x ∧ x ≠ gb ∧ x ≠ gu ∧ x ≠ gm := fun x hx => by have := hdt x hx; omega
      have d1 : w5.heap.size ∉ ownT vs := fun h => by have := hds _ h; omega
      have d2 : ∀ k, vt.ownBlock = some k → k ∉ ownT vs := fun k hk h => by have := hds _ h; have := hdt k (ownT_in.2 hk); omega
      have d3 : w4.heap.size ∉ ownT vt := fun h => by have := hdt _ h; omega
      have d4 : ∀ k, vs.ownBlock = some k → k ∉ ownT vt := fun k hk h => by have := hdt _ h; have := hds k (ownT_in.2 hk); omega
      have xg : (gE != gE) = false := by simp
      have hba := HB8.out
      generalize (l.map shOf).map tickS = L1 at *
      generalize l.map shOf = L0 at *
      generalize gN L1 = L2 at *
      have HD1 := hid d1
      have HD2 := hid d2
      have HD3 := hid d3
      have HD4 := hid d4
      have HSs := hid hSs
      have HSt := hid hSt
      clear hsp hL0 hV0 h32 hlen hfit gs1 gw1 gs2 gw2 HS8 HT8 HE d1 d2 d3 d4 hSs hSt hds hdt
      go_upto_region 9 with (go_at_call 8; refine (htkS w8 hPs).mono ?_; rintro e w9 ⟨rfl, hPs9, hb9, hk9⟩)
      have hPt9 := hPt.keptT hk9 HD1.out HD2.out
      have hba9 := hba.kept hk9 HSs.out
      clear hPs hPt hba hb9 hk9
      go_upto_region 10 with (go_at_call 8; refine (htkT w9 hPt9).mono ?_; rintro e wA ⟨rfl, hPtA, hbA, hkA⟩)
      have hPsA := hPs9.keptT hkA HD3.out HD4.out
      have hbaA := hba9.kept hkA HSt.out
      have zA := hkA.size
      have yT := hPtA.lt
      have HUT : Hid (∀ k, vt.ownBlock = some k → k < wA.heap.size) := fun k hk => (hPtA.own.lt k hk).2
      have HUS : Hid (∀ k, vs.ownBlock = some k → k < wA.heap.size) := fun k hk => (hPsA.own.lt k hk).2
      clear hPs9 hPt9 hba9 hbA hkA
      go_upto_region 11 with (go_at_call 10; refine (gA wA w4.heap.size w4.heap.size vs (some ⟨gb, 0, none⟩) nb (nb + 3) hPsA (rd_front hbaA.b) (fun _ b o e => by simp only [Option.some.injEq, Addr.mk.injEq, and_true] at e; omega) HNB.out hmb).mono ?_; rintro e wB ⟨xv, rfl, hxB, hPsB, hkB⟩)
      have hPtB := hPtA.keptT hkB HD1.out HD2.out
      have hbaB := hbaA.kept hkB HSs.out
      have zB := hkB.size
      have gxB := ownT_ge hxB
      clear hPsA hPtA hbaA hkB
      go_upto_region 12 with (go_at_call 17; refine (spoiltKI (-7) xv (gO L1) wA.heap.size (ownT xv) wB hxB zB (fun k hk => ownT_in.2 hk) (by omega)).mono ?_; rintro e wC ⟨rfl, hkC⟩)
      have hPsC := hPsB.keptT hkC (fun h => by have := gxB _ h; omega) (fun k hk h => by have := gxB _ h; have := HUS.out k hk; omega)
      have hPtC := hPtB.keptT hkC (fun h => by have := gxB _ h; omega) (fun k hk h => by have := gxB _ h; have := HUT.out k hk; omega)
      have hbaC := hbaB.kept hkC (fun x hx => by have := gxB x hx; omega)
      have zC := hkC.size
      clear hPsB hPtB hbaB hkC hxB gxB
      go_upto_region 13 with (go_at_call 10; refine (gA wC w5.heap.size w5.heap.size vt ab nb cb hPtC (HR.out.below hbaC.bel) (fun hne b o e => by have := rd_lt HR.out hne b o e; omega) HNB.out hmb).mono ?_; rintro e wD ⟨xw, rfl, hxD, hPtD, hkD⟩)
      have hPsD := hPsC.keptT hkD HD3.out HD4.out
      have hbaD := hbaC.kept hkD HSt.out
      have zD := hkD.size
      clear hPsC hPtC hbaC hkD hxD
      go_upto_region 14 with (go_at_call 10; refine (gB wD w4.heap.size w4.heap.size vs (some ⟨gb, 0, none⟩) nb (nb + 3) hPsD (rd_front hbaD.b) (fun _ b o e => by simp only [Option.some.injEq, Addr.mk.injEq, and_true] at e; omega) HNB.out hmb).mono ?_; rintro e wF ⟨xx, rfl, hxF, hPsF, hkF⟩)
      have hPtF := hPtD.keptT hkF HD1.out HD2.out
      have hbaF := hbaD.kept hkF HSs.out
      have zF := hkF.size
      have gxF := ownT_ge hxF
      clear hPsD hPtD hbaD hkF
      go_upto_region 15 with (go_at_call 10; refine (gB wF w5.heap.size w5.heap.size vt ab nb cb hPtF (HR.out.below hbaF.bel) (fun hne b o e => by have := rd_lt HR.out hne b o e; omega) HNB.out hmb).mono ?_; rintro e wG ⟨xy, rfl, hxG, hPtG, hkG⟩)
      have hxF' : OwnI wG wD.heap.size xx (gO L2) := hxF.keptM hkG (fun g hg h => by have := gxF g (ownT_in.2 hg); have := HUT.out g (ownT_in.1 h); omega)
      have hbaG := hbaF.kept hkG HSt.out
      have zG := hkG.size
      obtain ⟨a6, c6, rfl, -, -⟩ := hxF'.shape
      obtain ⟨a7, c7, rfl, -, -⟩ := hxG.shape
      have hsm := same_ints (gO L2) (gO L2) a6 a7 c6 c7 wG hxF'.rd hxG.rd (by unfold maxLen; omega) (by unfold maxLen; omega)
      have hsm2 : Calls Tryd.prog 18 #[.slice a6 (gO L2).length c6, .slice a7 (gO L2).length c7] wG fun e w' => e = .returned (.bool true) ∧ Below wG.heap.size wG w' := hsm.mono fun e w' h => ⟨by rw [h.1, decide_eq_true rfl], h.2⟩
      clear hsm hPsF hPtF hbaF hxF hxG hkG gxF hPtG hxF'
      go_wp2_with (first
        | (go_at_call 18; refine hsm2.mono ?_; rintro e wH ⟨rfl, hbH⟩; have hbaH := hbaG.below hbH)
        | (go_at_call 19; refine (keptI bl (-7) gb nb ab cb wH HNB.out (by omega) hbaH.b (HR.out.below hbaH.bel)).mono ?_; rintro e wI ⟨rfl, hbI⟩))
      go_meet
      case rel => exact hbaH.below hbI
    · have x1 : ((1 : Int) == 0) = false := rfl
      clear HS8 HT8 HE
      go_wp2_with fail
      go_meet
      case rel => exact HB8.out
  case rest =>
    have hba := hcut
    clear HB8 HS8 HT8 HE hcut
    have hmu : nu ≤ maxLen := by unfold maxLen; omega
    have hq3 : (1 : Int) ≤ 3 ∧ (3 : Int) ≤ 10000 := by omega
    have HQ3 := hid hq3
    have hjn := fun (wz : World) (hz : Itms wz (some ⟨gm, 0, none⟩) its) => join_any its 99 (some ⟨gm, 0, none⟩) ni (ni + 3) wz hz HNI.out (by unfold maxLen; omega) (by omega)
    generalize joinM its 99 = J at hjn
    obtain ⟨jt, je⟩ := J
    dsimp only at hjn
    clear hq3
    go_upto_region 18 with (go_at_call 5; refine (hjn wc hba.m.rd).mono ?_; rintro e w1 ⟨rfl, hb1⟩)
    have hba1 := hba.below hb1
    have y1 := hba1.b.lt
    have y2 := hba1.u.lt
    have y3 := hba1.m.lt
    clear hba hb1 hjn
    go_upto_region 19 with (go_at_call 6; refine (split_uni jt w1).mono ?_; rintro e w2 ⟨iv, n2, ys2, er2, rfl, hO2, hn2, hb2⟩)
    have hba2 := hba1.below hb2
    have z2 := hb2.size
    have g2 := ownT_ge hO2
    have s1 := hba1.bel.size
    clear hba1 hb2
    go_upto_region 20 with (go_at_call 20; refine (spoiltDIt mkI iv n2 ys2 w1.heap.size (ownT iv) w2 hO2 z2 (fun k hk => ownT_in.2 hk) (by omega)).mono ?_; rintro e w3 ⟨rfl, hk3⟩)
    have hba3 := hba2.kept hk3 (fun x hx => by have := g2 x hx; omega)
    have z3 := hk3.size
    clear hba2 hk3 hO2 g2
    go_upto_region 21 with (go_at_call 21; refine (tnew_good 3 w3 (by omega) (by omega)).mono ?_; rintro e w4' ⟨rfl, hP4, hb4⟩)
    have hba4 := hba3.below hb4
    have z4' := hb4.size
    have l4 := FunAt.lt hP4
    clear hba3 hb4
    go_upto_region 22 with (go_at_call 21; refine (tnew_good 3 w4' (by omega) (by omega)).mono ?_; rintro e w5' ⟨rfl, hQ5, hb5⟩)
    have hba5 := hba4.below hb5
    have hP5 : PTurn w5' w3.heap.size 3 TSt.new.last TSt.new.opn TSt.new.cr := FunAt.below hP4 hb5
    have hQ5 : PTurn w5' w4'.heap.size 3 TSt.new.last TSt.new.opn TSt.new.cr := hQ5
    have z5' := hb5.size
    have l5 := FunAt.lt hQ5
    have hrq : w3.heap.size ≠ w4'.heap.size := by omega
    have q1 : ∀ x ∈ [w3.heap.size], w.heap.size ≤ x ∧ x ≠ gb ∧ x ≠ gu ∧ x ≠ gm := fun x hx => by obtain rfl : x = w3.heap.size := (by simpa using hx); omega
    have q2 : ∀ x ∈ [w4'.heap.size], w.heap.size ≤ x ∧ x ≠ gb ∧ x ≠ gu ∧ x ≠ gm := fun x hx => by obtain rfl : x = w4'.heap.size := (by simpa using hx); omega
    have HQ1 := hid q1
    have HQ2 := hid q2
    have hsq := fun (t : TSt) (ht : t.Ok) (wz : World) (hz : Bag w wz gb gu gm bl us its) (hp : PTurn wz w3.heap.size 3 t.last t.opn t.cr) => pslot_any t us blocks 3 nu (nu + 3) w3.heap.size (some ⟨gu, 0, none⟩) wz ht HQ3.out hz.u.rd HNU.out hmu hp
    have hsw := fun (t : TSt) (ht : t.Ok) (wz : World) (hz : Bag w wz gb gu gm bl us its) (hp : PTurn wz w4'.heap.size 3 t.last t.opn t.cr) => pslot_any t us blocks 3 nu cu w4'.heap.size au wz ht HQ3.out (rdDUs_belowB HU.out hz.bel rfl) HNU.out hmu hp
    have t0 := TSt.new_ok
    have t1 := t0.next HQ3.out us blocks
    have n0 := says_len (l := us) (blocks := blocks) t0 HQ3.out
    have n1 := says_len (l := us) (blocks := blocks) t1 HQ3.out
    have hsq0 := hsq _ t0
    have hsw0 := hsw _ t0
    have hsq1 := hsq _ t1
    have hsw1 := hsw _ t1
    generalize (TSt.new.next 3 us blocks).next 3 us blocks = T2 at *
    generalize (TSt.new.next 3 us blocks).says 3 us blocks = L1 at *
    generalize TSt.new.next 3 us blocks = T1 at *
    generalize TSt.new.says 3 us blocks = L0 at *
    generalize slotErr us blocks = ER at *
    generalize TSt.new = T0 at *
    have xR : (ER == ER) = true := by simp
    generalize hrq1 : w3.heap.size = rq at *
    generalize hrw1 : w4'.heap.size = rw at *
    clear hsq hsw t0 t1 hba4 hb5 hP4 q1 q2 hrq1 hrw1
    go_upto_region 23 with (go_at_call 22; refine (hsq0 w5' hba5 hP5).mono ?_; rintro e w6' ⟨xv, rfl, hx6, hP6, hk6⟩)
    have hba6 := hba5.kept hk6 HQ1.out
    have hQ6 : PTurn w6' rw 3 T0.last T0.opn T0.cr := FunAt.kept hQ5 hk6 (by simp; omega)
    have z6' := hk6.size
    have g6 := ownT_ge hx6
    clear hba5 hP5 hQ5 hk6
    go_upto_region 24 with (go_at_call 17; refine (spoiltKI (-7) xv L0 w5'.heap.size (ownT xv) w6' hx6 z6' (fun k hk => ownT_in.2 hk) (by omega)).mono ?_; rintro e w7' ⟨rfl, hk7⟩)
    have hba7 := hba6.kept hk7 (fun x hx => by have := g6 x hx; omega)
    have hP7 : PTurn w7' rq 3 T1.last T1.opn T1.cr := FunAt.kept hP6 hk7 (fun h => by have := g6 _ h; omega)
    have hQ7 : PTurn w7' rw 3 T0.last T0.opn T0.cr := FunAt.kept hQ6 hk7 (fun h => by have := g6 _ h; omega)
    have z7' := hk7.size
    clear hba6 hP6 hQ6 hk7 hx6 g6
    go_upto_region 25 with (go_at_call 22; refine (hsw0 w7' hba7 hQ7).mono ?_; rintro e w8' ⟨xw, rfl, hx8, hQ8, hk8'⟩)
    have hba8 := hba7.kept hk8' HQ2.out
    have hP8 : PTurn w8' rq 3 T1.last T1.opn T1.cr := FunAt.kept hP7 hk8' (by simp; omega)
    have z8' := hk8'.size
    clear hba7 hP7 hQ7 hk8' hx8
    go_upto_region 26 with (go_at_call 22; refine (hsq1 w8' hba8 hP8).mono ?_; rintro e w9' ⟨xx, rfl, hx9, hP9, hk9'⟩)
    have hba9 := hba8.kept hk9' HQ1.out
    have hQ9 : PTurn w9' rw 3 T1.last T1.opn T1.cr := FunAt.kept hQ8 hk9' (by simp; omega)
    have z9' := hk9'.size
    have g9 := ownT_ge hx9
    clear hba8 hP8 hQ8 hk9' hP9
    go_upto_region 27 with (go_at_call 22; refine (hsw1 w9' hba9 hQ9).mono ?_; rintro e wA' ⟨xy, rfl, hyA, hQA, hkA'⟩)
    have hbaA' := hba9.kept hkA' HQ2.out
    have hxA : OwnI wA' w8'.heap.size xx L1 := hx9.keptM hkA' (fun g hg h => by have := g9 g (ownT_in.2 hg); obtain rfl : g = rw := (by simpa using h); omega)
    have zA' := hkA'.size
    have HUX : Hid (∀ k, xx.ownBlock = some k → k < wA'.heap.size) := fun k hk => (hxA.lt k hk).2
    have HUY : Hid (∀ k, xy.ownBlock = some k → k < wA'.heap.size) := fun k hk => (hyA.lt k hk).2
    clear hba9 hQ9 hkA' hx9 g9 hQA
    go_upto_region 28 with (go_at_call 23; refine (pnew_good 3 wA' (by omega) (by omega)).mono ?_; rintro e wB' ⟨gS, gM, rfl, hgS, hgM, hSd, hbB'⟩)
    have hbaB' := hbaA'.below hbB'
    have hxB' := hxA.below hbB'
    have hyB' := hyA.below hbB'
    have zB' := hbB'.size
    clear hbaA' hxA hyA hbB'
    go_upto_region 29 with (go_at_call 24; refine (psubmit_good hSd { data := #[120] } (by decide) 0 rfl (by omega)).mono ?_; rintro e wC' ⟨rfl, hSc, hkC'⟩)
    have hSl := hSd.lt
    have hSm := hSd.2.1.lt
    have hbaC' := hbaB'.kept hkC' (fun x hx => by simp only [List.mem_cons, List.not_mem_nil, or_false] at hx; rcases hx with rfl | rfl <;> omega)
    have hxC := hxB'.keptM hkC' (fun g hg h => by have := HUX.out g hg; simp only [List.mem_cons, List.not_mem_nil, or_false] at h; rcases h with rfl | rfl <;> omega)
    have hyC := hyB'.keptM hkC' (fun g hg h => by have := HUY.out g hg; simp only [List.mem_cons, List.not_mem_nil, or_false] at h; rcases h with rfl | rfl <;> omega)
    have zC' := hkC'.size
    obtain ⟨M2, eM2⟩ : ∃ M2, M2 = (SendM.new 3).set 0 (((SendM.new 3).tat 0).given { data := #[120] }) := ⟨_, rfl⟩
    have hw2 : M2.waitTo 8 = [0] := by rw [eM2]; rfl
    rw [← eM2] at hSc
    have hwt := fun (wz : World) (hz : PSend wz gS gM M2) => pwaiting_anyK hz
    rw [hw2] at hwt
    clear hbaB' hxB' hyB' hkC' hSd eM2 hw2
    go_upto_region 30 with (first
      | (go_at_call 25; refine (hwt wC' hSc).mono ?_; rintro e wD' ⟨a8, c8, rfl, hOD, hbD'⟩; have hbaD' := hbaC'.below hbD'; have hxD := hxC.below hbD'; have hyD := hyC.below hbD'; have hSD := hSc.old hbD'; have zD' := hbD'.size; have gD := ownT_ge hOD)
      | (go_at_call 17; refine (spoiltKI (-7) _ [0] wC'.heap.size (ownT (.slice a8 1 c8)) wD' hOD zD' (fun k hk => ownT_in.2 hk) (by simp)).mono ?_; rintro e wE' ⟨rfl, hkE'⟩))
    have hbaE' := hbaD'.kept hkE' (fun x hx => by have := gD x hx; omega)
    have hxE := hxD.keptM hkE' (fun g hg h => by have := HUX.out g hg; have := gD g h; omega)
    have hyE := hyD.keptM hkE' (fun g hg h => by have := HUY.out g hg; have := gD g h; omega)
    have hSE := hSD.kept hkE' (fun h => by have := gD _ h; omega) (fun h => by have := gD _ h; omega)
    have zE' := hkE'.size
    obtain ⟨a6, c6, rfl, -, -⟩ := hxE.shape
    obtain ⟨a7, c7, rfl, -, -⟩ := hyE.shape
    have hsm := same_ints L1 L1 a6 a7 c6 c7 wE' hxE.rd hyE.rd (by unfold maxLen; omega) (by unfold maxLen; omega)
    have hsm2 : Calls Tryd.prog 18 #[.slice a6 L1.length c6, .slice a7 L1.length c7] wE' fun e w' => e = .returned (.bool true) ∧ Below wE'.heap.size wE' w' := hsm.mono fun e w' h => ⟨by rw [h.1, decide_eq_true rfl], h.2⟩
    clear hsm hbaC' hbaD' hxC hyC hxD hyD hSc hSD hkE' gD hOD hbD' hxE hyE
    go_wp2_with (first
      | (go_at_call 18; refine hsm2.mono ?_; rintro e wF' ⟨rfl, hbF'⟩; clear hsm2; have hbaF' := hbaE'.below hbF'; have hSF := hSE.old hbF')
      | (go_at_call 26; refine (keptDUs us mkU gu nu au cu wF' HNU.out hzu hbaF'.u (rdDUs_belowB HU.out hbaF'.bel rfl)).mono ?_; rintro e wG' ⟨rfl, hbG'⟩; have hbaG' := hbaF'.below hbG'; have hSG := hSF.old hbG')
      | (go_at_call 27; refine (keptDIt its mkI gm ni ai ci wG' HNI.out hzi hbaG'.m (rdDIt_belowB HI.out hbaG'.bel rfl)).mono ?_; rintro e wH' ⟨rfl, hbH'⟩; have hbaH' := hbaG'.below hbH'; have hSH := hSG.old hbH')
      | (go_at_call 25; refine (hwt wH' hSH).mono ?_; rintro e wI' ⟨a9, c9, rfl, hOI, hbI'⟩; have hbaI' := hbaH'.below hbI'; have hbJ : Below wI'.heap.size wI' (wI'.alloc (.cells #[.int .i64 0] 3)) := (Below.refl _ wI').alloc (Nat.le_refl _) _; have hsl := same_ints [0] [0] a9 (some ⟨wI'.heap.size, 0, none⟩) c9 1 (wI'.alloc (.cells #[.int .i64 0] 3)) (hOI.rd.below hbJ) (rd_front (L := [0]) (X := []) (arr_new .i64 3 wI' [0])) (by unfold maxLen; simp) (by unfold maxLen; simp))
      | (go_at_call 18; refine hsl.mono ?_; rintro e wK' ⟨rfl, hbK'⟩))
    go_ret
    exact ⟨rfl, (hbaI'.bel.trans (hbJ.mono hbaI'.bel.size)).trans (hbK'.mono (by have := hbaI'.bel.size; simp; omega))⟩
end Go.Proofs.YtmdfjhnibhmdkafDoor
