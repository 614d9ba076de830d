import Derived.Test.YtaggbkhpoaacjacDoorMatchS
import Derived.Test.YtaggbkhpoaacjacDoorMatchA
import Derived.Test.YtaggbkhpoaacjacDoorGood
import Derived.Deep.CutRange
import Derived.Deep.RegionHeld3
namespace Go.Proofs.YtaggbkhpoaacjacDoor
open Go.ChangeShapes Go.WideShapes Go.ChangeAt Go.RowKit Go.Maps

set_option maxRecDepth 100000 in
set_option maxHeartbeats 2000000 in
theorem all_any {Buf : World → Addr → List Nat → List Int → Prop} (hB : BufLaws Buf) (hO : PickLaws) (zs ls ct : List Int) (a b d : Option Addr) (ca cb cd : Nat) (w : World) (hC : Col w) (ha : Rd .u8 w a zs) (hb : Rd .i64 w b ls) (hd : Rd .i64 w d ct)
    (hz : zs.length ≤ maxLen) (hy : Bytes zs) (hl : ls.length ≤ 17592186044416) (hct : ct.length ≤ maxLen) :
    Calls Tryd.prog 6 #[.slice a zs.length ca, .slice b ls.length cb, .slice d ct.length cd] w fun e w' => e = .returned (.bool true) ∧ Below w.heap.size w w' := by
  have hct' : ct.length ≤ 9223372036854775807 := by unfold maxLen at hct; omega
  go_enter Tryd.func6, Tryd.ntmps6
  go_wp2_with fail
  refine (good_any zs 600 a ca _ ha hz hy (by omega)).mono ?_
  rintro e w1 ⟨v1, rfl, hown1, hb1⟩
  obtain ⟨a1, c1, rfl, -, hl1, hm1⟩ := hown1.shape
  have hL1 : (goodTo zs 600).length ≤ 600 := by rw [goodTo_length]; omega
  have bG := goodTo_bits zs 600
  have rG := hown1.rd
  clear hown1 ha hz hy
  generalize goodTo zs 600 = G at *
  obtain ⟨m, em⟩ : ∃ m, m = G.length := ⟨_, rfl⟩
  rw [← em] at hL1 hl1
  rw [← em]
  have HGm := hid em
  clear em
  go_wp2_with fail
  refine (hO.orderG m _ (hC.later hb1) (by omega)).mono ?_
  rintro e w2 ⟨a2, c2, rfl, hb2, hr2⟩
  have hbw2 := bthen hb1 hb2
  have HOL := hid (ordM_length m)
  have HIL := hid ((intsM_length (ordM m)).trans (ordM_length m))
  have HND := hid (ordM_nodup m)
  have HMO := hid (fun (j : Nat) (hj : j < m) => mem_ordM.1 (ord_mem (n := m) hj))
  have hr2' := hr2
  have hmm := run_make_mapS
  have hM0 := World.ownsMap_made (H := Unit) w2 Tryd.prog 3 (plainElem Tryd.prog 3)
  have hka : Kept [w2.heap.size] w2 (w2.alloc (.map #[] 0)) := (Kept.refl _ _).alloc _
  obtain ⟨wm, ewm⟩ : ∃ wm, wm = w2.alloc (.map #[] 0) := ⟨_, rfl⟩
  go_wp2
  rw [← ewm] at hM0 hka
  rw [← ewm]
  clear ewm hmm
  go_loopw [10] (fun q wr => ∃ i : Nat, i ≤ m ∧ q = .int .i64 i ∧ wr.ownsMap Tryd.prog 3 (plainElem (H := Unit) Tryd.prog 3) w2.heap.size i (sM (ordM m) i) ∧ Kept [w2.heap.size] w2 wr) (fun q _ => m - (intOf q).toNat)
  case atStart => exact ⟨0, Nat.zero_le _, rfl, hM0, hka⟩
  case round =>
    obtain ⟨i, hi, rfl, hM, hkept⟩ := hrel
    by_cases hlt : i < m
    · obtain ⟨b1, o1, rfl, hc1⟩ := hr2.at (i := i) (by rw [HIL.out]; exact hlt)
      have g1 := hc1 i (by rw [HIL.out]; exact hlt)
      rw [intsM_at] at g1
      have hb1l : b1 < w2.heap.size := World.block_lt_of_cell? w2 _ g1
      have g2 := hkept.cellO g1 (by simp; omega)
      have hpl := HMO.out i hlt
      have HNH := hid (sM_has (ordM m) ((ordM m).getD i 0) i (fun j hj => nodup_ne HND.out hj (by rw [HOL.out]; exact hlt)))
      have HSM := hid (show sM (ordM m) (i + 1) = (sM (ordM m) i).put (.int .i64 ((ordM m).getD i 0 : Nat)) (.lit (.int .i64 1)) from rfl)
      generalize (ordM m).getD i 0 = p at *
      have hkey : keyOf Tryd.prog 3 (.int .i64 (p : Int)) = some (.int .i64 (p : Int)) := keyOf_int_mk Tryd.underlying3 (WalkArith.wf_i64 (by omega))
      have hAT := hid (atKey_of_not_has HNH.out (.lit (.int .i64 0) : DataW Unit))
      clear hc1 g1 hM0 hka
      go_wp2_with (first
        | (at_lookup; refine wpList_lookup_own_int _ rfl _ _ 54 rfl 3 3 .i64 Tryd.law3s Tryd.underlying54 Tryd.underlying3 (Tryd.zero3s _) w2.heap.size i _ rfl hM _ _ rfl hkey ?_; intro z hat hwz; obtain rfl : z = 0 := by (rw [hAT.out] at hat; simpa using hat.symm))
        | (at_mapUpdate; refine wpList_mapUpdate_own _ rfl _ _ _ 54 rfl 3 3 Tryd.law3s Tryd.underlying54 _ w2.heap.size i _ rfl hM (by unfold maxLen; omega) _ _ _ rfl rfl hkey _ [] (plainElem_int Tryd.underlying3 (WalkArith.wf_i64 (by omega))) ?_; intro w3 hM3 hg3))
      go_roundw
      case rel => exact ⟨i + 1, by omega, by go_num, HSM.out.symm ▸ hM3, hkept.trans (Kept.of_grownS hg3)⟩
      case measure => simp [intOf]; omega
    · obtain rfl : m = i := by omega
      have HSZ := hid (sM_size HND.out m (by rw [HOL.out]; exact Nat.le_refl _))
      have hln := World.ownsMap.len hM Tryd.underlying54 3
      rw [HSZ.out] at hln
      have hbr : Below w.heap.size w wr := hbw2.trans (hkept.below hbw2.size (by simpa using hbw2.size))
      have rGr : Rd .u8 wr a1 G := (rG.below hb2).keptB hkept
      have nm : ((m : Int) != (m : Int)) = false := by simp
      clear hM hM0 hka hkept hr2 hr2' HND HMO HSZ HOL HIL rG hb1 hb2 hbw2
      have hCo := hC.later hbr
      have rLr := hb.below hbr
      have rCr := hd.below hbr
      obtain ⟨wo, ewo⟩ : ∃ wo, wo = wr := ⟨_, rfl⟩
      rw [← ewo] at hbr rGr rLr rCr hln hCo
      rw [← ewo]
      clear ewo hb hd
      by_cases h0 : m = 0
      · subst h0
        have hnew := hB.newBad ((0 : Nat) : Int) wo (.inl (by omega))
        go_wp2_with (first | (go_at_call 21; refine hnew.mono ?_; rintro e w4 ⟨rfl, rfl⟩))
        go_ret
        exact ⟨rfl, hbr⟩
      · have h1 : 1 ≤ m := by omega
        clear h0
        go_wp2_with fail
        refine (hB.new m _ h1 (by omega)).mono ?_
        rintro e w4 ⟨pa, Ta, rfl, hfa, hTa, hb4⟩
        go_wp2_with fail
        refine (hB.new m _ h1 (by omega)).mono ?_
        rintro e w5 ⟨pb, Tb, rfl, hfb, hTb, hb5⟩
        have hbel5 := bthen hb4 hb5
        have hfa5 := hB.kept hfa (Kept.of_below (S := []) hb5) (fun x _ => by simp)
        have hdis : ∀ x ∈ Ta, x ∉ Tb := fun x hx hy => by have := hB.lt hfa x hx; have := hTb x hy; omega
        have hs4 := hb4.size
        have hTb' : ∀ x ∈ Tb, wo.heap.size ≤ x := fun x hx => Nat.le_trans hs4 (hTb x hx)
        have e0 : ∀ f, List.replicate m (0 : Int) = stA G ls ct f 0 := fun f => by rw [HGm.out]; rfl
        rw [e0 (fun i => i)] at hfa5
        rw [e0 (fun i => (min ct.length 8) - 1 - i)] at hfb
        obtain ⟨K, eK⟩ : ∃ K, K = min ct.length 8 := ⟨_, rfl⟩
        rw [← eK] at hfb
        have HK := hid eK
        clear eK hTb hfa hb4 hb5 hln e0
        go_upto_region 14 with fail
        go_cut [15] from 26 (fun t wx => t = .int .i64 (K : Int) ∧ w5 = wx)
        case first =>
          by_cases h8 : ct.length ≤ 8
          · have HV := hid (show (ct.length : Int) = (K : Int) by rw [HK.out]; omega)
            have d8 : decide ((8 : Int) < (ct.length : Int)) = false := decide_eq_false (by omega)
            go_wp2
            go_meet
            exact ⟨by first | rw [HV.out] | (rw [← HV.out]; congr 1; omega), rfl⟩
          · have HV := hid (show (8 : Int) = (K : Int) by rw [HK.out]; omega)
            have d8 : decide ((8 : Int) < (ct.length : Int)) = true := decide_eq_true (by omega)
            go_wp2
            go_meet
            exact ⟨by first | rw [HV.out] | (rw [← HV.out]; congr 1; omega), rfl⟩
        case rest =>
        obtain ⟨rfl, rfl⟩ := hcut
        go_wp2
        have HSL := hid ((smallTo_length ls ls.length).trans (Nat.min_self _))
        go_loopw [16] (fun q wr => ∃ (t : Nat) (Ta Tb : List Nat), t ≤ K ∧ q = .int .i64 t ∧ Buf wr pa Ta (stA G ls ct (fun i : Nat => i) t) ∧ Buf wr pb Tb (stA G ls ct (fun i : Nat => K - 1 - i) t) ∧ (∀ x ∈ Ta, x ∉ Tb) ∧ (∀ x ∈ Ta, wo.heap.size ≤ x) ∧ (∀ x ∈ Tb, wo.heap.size ≤ x) ∧ Below wo.heap.size wo wr) (fun q _ => K - (intOf q).toNat)
        case atStart => exact ⟨0, Ta, Tb, Nat.zero_le _, rfl, hfa5, hfb, hdis, hTa, hTb', hbel5⟩
        case round =>
          obtain ⟨t, Ta, Tb, ht, rfl, hfa0, hfb0, hdi0, hTa0, hTb0, hbz0⟩ := hrel
          by_cases hlt : t < K
          · have HTK := hid hlt
            have hK8 : K ≤ 8 := by have := HK.out; omega
            go_wp2
            go_loopw [17] (fun q wr => ∃ (d : Nat) (Ta Tb : List Nat), d ≤ 2 ∧ q = .int .i64 d ∧ Buf wr pa Ta (stA G ls ct (fun i : Nat => i) (if 1 ≤ d then t + 1 else t)) ∧ Buf wr pb Tb (stA G ls ct (fun i : Nat => K - 1 - i) (if 2 ≤ d then t + 1 else t)) ∧ (∀ x ∈ Ta, x ∉ Tb) ∧ (∀ x ∈ Ta, wo.heap.size ≤ x) ∧ (∀ x ∈ Tb, wo.heap.size ≤ x) ∧ Below wo.heap.size wo wr) (fun q _ => 2 - (intOf q).toNat)
            case atStart => exact ⟨0, Ta, Tb, by omega, rfl, by simpa using hfa0, by simpa using hfb0, hdi0, hTa0, hTb0, hbz0⟩
            case round =>
              clear hfa0 hfb0 hdi0 hTa0 hTb0 hbz0
              obtain ⟨q, Ta, Tb, hq, rfl, hfa, hfb, hdi, hTa, hTb, hbz⟩ := hrel
              by_cases hq2 : q < 2
              · obtain ⟨J, pX, TX, f, hfX, hJf, hJK, hTX, hwh⟩ : ∃ (J : Nat) (pX : Addr) (TX : List Nat) (f : Nat → Nat), Buf wr pX TX (stA G ls ct f t) ∧ J = f t ∧ J < K ∧ (∀ x ∈ TX, wo.heap.size ≤ x) ∧ ((q = 0 ∧ pX = pa ∧ TX = Ta ∧ f = fun i : Nat => i) ∨ (q = 1 ∧ pX = pb ∧ TX = Tb ∧ f = fun i : Nat => K - 1 - i)) := by
                  have h01 : q = 0 ∨ q = 1 := by omega
                  rcases h01 with rfl | rfl
                  · exact ⟨t, pa, Ta, fun i => i, by simpa using hfa, rfl, HTK.out, hTa, .inl ⟨rfl, rfl, rfl, rfl⟩⟩
                  · exact ⟨K - 1 - t, pb, Tb, fun i => K - 1 - i, by simpa using hfb, rfl, by have := HTK.out; omega, hTb, .inr ⟨rfl, rfl, rfl, rfl⟩⟩
                have HWH := hid hwh
                have HJF := hid hJf
                have HBX := hid (And.intro hfa hfb)
                have hJc : J < ct.length := by have := HK.out; omega
                obtain ⟨bc, oc, rfl, hcc⟩ := (rCr.below hbz).at hJc
                have g1 := hcc J hJc
                have e3 : bits BinOp.and IntKind.i64 (ct.getD J 0) 1023 = ((cntA ct J : Nat) : Int) := by
                  have h := and_low (ct.getD J 0) 10 (by decide)
                  have h2 : ct.getD J 0 % 1024 = ((cntA ct J : Nat) : Int) := by unfold cntA; omega
                  rw [← h2]
                  exact h
                obtain ⟨zc, ezc⟩ : ∃ zc, zc = ct.getD J 0 := ⟨_, rfl⟩
                rw [← ezc] at g1 e3
                have hcl := cntA_le ct J
                have hpk := hO.pickG G a1 m c1 (J % 4) (cntA ct J) wr (hCo.later hbz) (rGr.below hbz) HGm.out.symm h1 (by omega) bG (by omega) (by omega)
                have HPM := hid (pickedM_length G (J % 4) (cntA ct J))
                have HPU := hid (putA_length G ls ct J)
                have HPD := hid (show heardTo (pickedM G (J % 4) (cntA ct J)) (smallTo ls ls.length) (cntA ct J) = putA G ls ct J from rfl)
                have HAD := hid (show addErr (stA G ls ct f t) (putA G ls ct J) ((J % 4 : Nat) : Int) = 0 ∧ addM (stA G ls ct f t) (putA G ls ct J) ((J % 4 : Nat) : Int) = stA G ls ct f (t + 1) by rw [hJf]; exact addA G ls ct f (t := t) (by have := HTK.out; omega))
                have HSO := hid (soft_stA G ls ct f (t := t) (by have := HTK.out; omega))
                have HLE := hid ((stA_length G ls ct f t).trans HGm.out.symm)
                obtain ⟨cn, ecn⟩ : ∃ cn, cn = cntA ct J := ⟨_, rfl⟩
                rw [← ecn] at e3 hcl hpk HPM HPU HPD
                have hrm : (J : Int).tmod 4 = ((J % 4 : Nat) : Int) := by rw [Int.tmod_eq_emod_of_nonneg (by omega)]; simp
                have hrn : (J : Int) % 4 = ((J % 4 : Nat) : Int) := by omega
                obtain ⟨r, er⟩ : ∃ r, r = J % 4 := ⟨_, rfl⟩
                rw [← er] at hpk HPM HPD HAD hrm hrn
                clear hcc ecn ezc er hfa hfb hwh hJf
                go_upto_if 96 with fail
                go_cut [18, 19] from 89 to 128 (fun u p wx => u = .int .i64 (J : Int) ∧ p = .pointer (some pX) ∧ wr = wx)
                case first =>
                  rcases HWH.out with ⟨rfl, rfl, rfl, rfl⟩ | ⟨rfl, rfl, rfl, rfl⟩
                  · have ej : t = J := HJF.out.symm
                    subst ej
                    go_wp2
                    go_meet
                    exact ⟨rfl, rfl, rfl⟩
                  · have ej : (K : Int) - 1 - (t : Int) = (J : Int) := by have h : J = K - 1 - t := HJF.out; have := HTK.out; omega
                    go_wp2
                    go_meet
                    exact ⟨by first | rw [ej] | go_num, rfl, rfl⟩
                case rest =>
                obtain ⟨rfl, rfl, rfl⟩ := hcut
                go_wp2_with fail
                refine hpk.mono ?_
                rintro e w6 ⟨a6, c6, rfl, hb6, hr6⟩
                go_wp2_with fail
                refine (small_any ls b cb _ (rLr.below (bthen hbz hb6)) hl).mono ?_
                rintro e w7 ⟨v7, rfl, ho7, hb7⟩
                obtain ⟨a7, c7, rfl, hr7⟩ := ho7.shapeR HSL.out
                have hhe := heard_any _ _ a6 a7 c6 c7 w7 (hr6.below hb7) hr7 (by rw [HPM.out]; omega) (by rw [HSL.out]; unfold maxLen; omega)
                rw [HPM.out, HSL.out, HPD.out] at hhe
                go_wp2_with fail
                refine hhe.mono ?_
                rintro e w8 ⟨v8, rfl, ho8, hb8⟩
                obtain ⟨a8, c8, rfl, hr8⟩ := ho8.shapeR HPU.out
                have hb68 := bthen hb6 (bthen hb7 hb8)
                have hfX8 := hB.kept hfX (Kept.of_below (S := []) hb68) (fun x _ => by simp)
                have hTl := hB.lt hfX
                have hs67 := (bthen hb6 hb7).size
                have hadd := hB.add a8 c8 (putA G ls ct J) (r : Int) (hCo.later (bthen hbz hb68)) hfX8 (by rw [HLE.out]; exact h1) (by rw [HLE.out]; omega) HSO.out hr8 (by rw [HPU.out]; unfold maxLen; omega) (fun g o e _ h => by subst e; have := ownI_blocks ho8 g rfl; have := hTl g h; omega)
                rw [HPU.out, HAD.out.1, HAD.out.2] at hadd
                go_wp2_with fail
                refine hadd.mono ?_
                rintro e w9 ⟨T9, rfl, hf9, hT9, hk9⟩
                have hbz8 := bthen hbz hb68
                have hbz9 : Below wo.heap.size wo w9 := hbz8.trans (hk9.below hbz8.size hTX)
                have hT9' : ∀ x ∈ T9, wo.heap.size ≤ x := fun x hx => (hT9 x hx).elim (hTX x) (fun h => Nat.le_trans hbz8.size h)
                have HEND : Hid (∃ (d : Nat) (Ta Tb : List Nat), d = q + 1 ∧ Buf w9 pa Ta (stA G ls ct (fun i : Nat => i) (if 1 ≤ d then t + 1 else t)) ∧ Buf w9 pb Tb (stA G ls ct (fun i : Nat => K - 1 - i) (if 2 ≤ d then t + 1 else t)) ∧ (∀ x ∈ Ta, x ∉ Tb) ∧ (∀ x ∈ Ta, wo.heap.size ≤ x) ∧ (∀ x ∈ Tb, wo.heap.size ≤ x)) := by
                  unfold Hid
                  obtain ⟨hfa, hfb⟩ := HBX.out
                  have hfa8 := hB.kept hfa (Kept.of_below (S := []) hb68) (fun x _ => by simp)
                  have hfb8 := hB.kept hfb (Kept.of_below (S := []) hb68) (fun x _ => by simp)
                  rcases HWH.out with ⟨rfl, rfl, rfl, rfl⟩ | ⟨rfl, rfl, rfl, rfl⟩
                  · refine ⟨1, T9, Tb, rfl, by simpa using hf9, ?_, ?_, hT9', hTb⟩
                    · have := hB.kept hfb8 hk9 (fun x hx h => hdi x h hx)
                      simpa using this
                    · exact fun x hx hy => (hT9 x hx).elim (fun h => hdi x h hy) (fun h => by have := hB.lt hfb8 x hy; omega)
                  · refine ⟨2, Ta, T9, rfl, ?_, by simpa using hf9, ?_, hTa, hT9'⟩
                    · have := hB.kept hfa8 hk9 (fun x hx h => hdi x hx h)
                      simpa using this
                    · exact fun x hx hy => (hT9 x hy).elim (fun h => hdi x hx h) (fun h => by have := hB.lt hfa8 x hx; omega)
                clear hpk hhe hadd HAD HSO HLE HPM HPU HPD HWH HBX hf9 hfX hfX8
                have HQ2 := hid hq2
                go_wp2
                go_roundw
                case rel =>
                  obtain ⟨d, Ua, Ub, rfl, k1, k2, k3, k4, k5⟩ := HEND.out
                  have := HQ2.out
                  first | exact ⟨q + 1, Ua, Ub, by omega, by go_num, k1, k2, k3, k4, k5, hbz9⟩ | ((repeat apply Exists.intro); exact ⟨⟨q + 1, Ua, Ub, by omega, by go_num, k1, k2, k3, k4, k5, hbz9⟩, rfl⟩)
                case measure =>
                  have := HQ2.out
                  simp [intOf]
                  omega
              · obtain rfl : q = 2 := by omega
                have hfa' : Buf wr pa Ta (stA G ls ct (fun i : Nat => i) (t + 1)) := by simpa using hfa
                have hfb' : Buf wr pb Tb (stA G ls ct (fun i : Nat => K - 1 - i) (t + 1)) := by simpa using hfb
                clear hfa hfb
                go_wp2
                go_roundw
                case rel =>
                  have := HTK.out
                  first | exact ⟨t + 1, Ta, Tb, by omega, by go_num, hfa', hfb', hdi, hTa, hTb, hbz⟩ | ((repeat apply Exists.intro); exact ⟨⟨t + 1, Ta, Tb, by omega, by go_num, hfa', hfb', hdi, hTa, hTb, hbz⟩, rfl⟩)
                case measure =>
                  have := HTK.out
                  simp [intOf]
                  omega
          · have etK : t = K := by omega
            rw [etK] at hfa0 hfb0
            rw [stA_turned] at hfb0
            have HLn := hid ((stA_length G ls ct (fun i : Nat => i) K).trans HGm.out.symm)
            have HSG := hid (fun (x : Nat) (hx : x < m) => stA_sign G ls ct (fun i : Nat => i) K (x := x) (by rw [← HGm.out]; exact hx))
            obtain ⟨SK, eSK⟩ : ∃ SK, SK = stA G ls ct (fun i : Nat => i) K := ⟨_, rfl⟩
            rw [← eSK] at hfa0 hfb0 HLn HSG
            have rGz := rGr.below hbz0
            clear eSK hfa5 hfb
            go_wp2_with fail
            refine (hB.soft hfa0 (by rw [HLn.out]; exact h1) (by rw [HLn.out]; omega)).mono ?_
            rintro e w6 ⟨v6, rfl, ho6, hb6⟩
            obtain ⟨a6, c6, rfl, hr6⟩ := ho6.shapeR HLn.out
            have hfb6 := hB.kept hfb0 (Kept.of_below (S := []) hb6) (fun x _ => by simp)
            go_wp2_with fail
            refine (hB.soft hfb6 (by rw [HLn.out]; exact h1) (by rw [HLn.out]; omega)).mono ?_
            rintro e w7 ⟨v7, rfl, ho7, hb7⟩
            obtain ⟨a7, c7, rfl, hr7⟩ := ho7.shapeR HLn.out
            go_wp2_with fail
            refine (sameL SK m a6 a7 c6 c7 _ (hr6.below hb7) hr7 HLn.out (by omega)).mono ?_
            rintro e w8 ⟨rfl, hb8⟩
            have hr8 := (hr6.below hb7).below hb8
            have rG8 := rGz.below (bthen hb6 (bthen hb7 hb8))
            have hbz8 := bthen hbr (bthen hbz0 (bthen hb6 (bthen hb7 hb8)))
            have nmn : ((m : Int) != (m : Int)) = false := by simp
            clear hfa0 hfb0 hfb6 ho6 ho7 hr6 hr7 rGz hb6 hb7 hb8 hbz0
            go_wp2
            go_loopw [25] (fun q wr => ∃ i : Nat, i ≤ m ∧ q = .int .i64 i ∧ w8 = wr) (fun q _ => m - (intOf q).toNat)
            case atStart => exact ⟨0, Nat.zero_le _, rfl, rfl⟩
            case round =>
              obtain ⟨i, hi, rfl, rfl⟩ := hrel
              by_cases hil : i < m
              · have HIL2 := hid hil
                obtain ⟨b1, o1, rfl, hc1⟩ := hr8.at (i := i) (by rw [HLn.out]; exact hil)
                obtain ⟨b2, o2, rfl, hc2⟩ := rG8.at (i := i) (by rw [← HGm.out]; exact hil)
                have g1 := hc1 i (by rw [HLn.out]; exact hil)
                have g2 := hc2 i (by rw [← HGm.out]; exact hil)
                have hsg := HSG.out i hil
                have hbi := bG i
                obtain ⟨z, ez⟩ : ∃ z, z = SK.getD i 0 := ⟨_, rfl⟩
                obtain ⟨y, ey⟩ : ∃ y, y = G.getD i 0 := ⟨_, rfl⟩
                rw [← ez] at g1 hsg
                rw [← ey] at g2 hsg hbi
                clear ez ey hc1 hc2
                have hy : y = 0 ∨ y = 1 := by omega
                rcases hy with rfl | rfl
                · have d2 : decide (z < 0) = false := decide_eq_false (by have := hsg.1 (by omega); omega)
                  by_cases hp : 0 < z
                  · have d1 : decide (0 < z) = true := decide_eq_true hp
                    clear hp hsg
                    go_wp2
                    go_roundw
                    case rel =>
                      have := HIL2.out
                      exact ⟨i + 1, by omega, by go_num, by trivial⟩
                    case measure =>
                      have := HIL2.out
                      simp [intOf]
                      omega
                  · have d1 : decide (0 < z) = false := decide_eq_false hp
                    clear hp hsg
                    go_wp2
                    go_roundw
                    case rel =>
                      have := HIL2.out
                      exact ⟨i + 1, by omega, by go_num, by trivial⟩
                    case measure =>
                      have := HIL2.out
                      simp [intOf]
                      omega
                · have d1 : decide (0 < z) = false := decide_eq_false (by have := hsg.2 rfl; omega)
                  by_cases hp : z < 0
                  · have d2 : decide (z < 0) = true := decide_eq_true hp
                    clear hp hsg
                    go_wp2
                    go_roundw
                    case rel =>
                      have := HIL2.out
                      exact ⟨i + 1, by omega, by go_num, by trivial⟩
                    case measure =>
                      have := HIL2.out
                      simp [intOf]
                      omega
                  · have d2 : decide (z < 0) = false := decide_eq_false hp
                    clear hp hsg
                    go_wp2
                    go_roundw
                    case rel =>
                      have := HIL2.out
                      exact ⟨i + 1, by omega, by go_num, by trivial⟩
                    case measure =>
                      have := HIL2.out
                      simp [intOf]
                      omega
              · obtain rfl : i = m := by omega
                go_wp2
                go_ret
                exact ⟨rfl, hbz8⟩
end Go.Proofs.YtaggbkhpoaacjacDoor
