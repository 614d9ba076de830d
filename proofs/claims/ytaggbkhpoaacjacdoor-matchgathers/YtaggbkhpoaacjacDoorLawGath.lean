import Derived.Test.YtaggbkhpoaacjacDoorMatchB
import Derived.Deep.CutRange
import Derived.Deep.RegionHeld3
namespace Go.Proofs.YtaggbkhpoaacjacDoor
open Go.ChangeShapes Go.WideShapes Go.ChangeAt Go.RowKit

theorem soft_zeros (m : Nat) : softOk (List.replicate m 0) = true := by
  unfold softOk
  simp

set_option maxRecDepth 100000 in
set_option maxHeartbeats 2000000 in
theorem gathers_any {Buf : World → Addr → List Nat → List Int → Prop} (hB : BufLaws Buf) (n : Int) (N : Nat) (a : Option Addr) (c : Nat) (A : Nat → Option Addr) (C : Nat → Nat) (X : Nat → List Int) (V : Nat → Int) (w : World)
    (hC : Col w) (hP : PairsAt .i64 w a N A C X V) (hN : N ≤ c) (hc : c ≤ maxLen) :
    Calls Tryd.prog 5 #[.int .i64 n, .slice a N c] w fun e w' => e = .returned (.bool true) ∧ Below w.heap.size w w' := by
  by_cases hn : n < 1 ∨ 4096 < n
  · have hnew := hB.newBad n w hn
    rcases hn with h1 | h1
    · have d1 : decide (n < 1) = true := decide_eq_true h1
      clear h1
      go_enter Tryd.func5, Tryd.ntmps5
      go_wp2_with (first | (go_at_call 21; refine hnew.mono ?_; rintro e w2 ⟨rfl, rfl⟩))
      go_ret
      exact ⟨rfl, Below.refl _ _⟩
    · have d1 : decide (n < 1) = false := decide_eq_false (by omega)
      have d2 : decide (4096 < n) = true := decide_eq_true h1
      clear h1
      go_enter Tryd.func5, Tryd.ntmps5
      go_wp2_with (first | (go_at_call 21; refine hnew.mono ?_; rintro e w2 ⟨rfl, rfl⟩))
      go_ret
      exact ⟨rfl, Below.refl _ _⟩
  · obtain ⟨m, rfl⟩ : ∃ m : Nat, n = (m : Int) := ⟨n.toNat, by omega⟩
    have hm1 : 1 ≤ m := by omega
    have hm2 : m ≤ 4096 := by omega
    unfold maxLen at hc
    clear hn
    go_enter Tryd.func5, Tryd.ntmps5
    go_wp2_with fail
    refine (hB.new m _ hm1 hm2).mono ?_
    rintro e w1 ⟨p, S, rfl, hbuf, hS, hb1⟩
    go_wp2_with (first | (refine wpList_makeInts w.heap.size w m rfl _ _ rfl _ _ rfl rfl rfl rfl (by omega) hb1 hb1.size ?_))
    intro w2 hown2 hb2 hsz2 hb12
    have hbuf2 := hB.kept hbuf (Kept.of_below (S := []) hb12) (fun x _ => by simp)
    have hgS : w1.heap.size ∉ S := fun h => absurd (hB.lt hbuf _ h) (by omega)
    clear hbuf hb12 hsz2
    go_wp2
    go_loopw [7, 8] (fun q7 q8 wr => ∃ (i : Nat) (s : List Int) (g cS : Nat) (T : List Nat), i ≤ N ∧ q7 = .slice (some ⟨g, 0, none⟩) m cS ∧ q8 = .int .i64 i ∧ Hid (s.length = m) ∧ softOk s = true ∧ OwnI wr w.heap.size (.slice (some ⟨g, 0, none⟩) m cS) s ∧ Buf wr p T s ∧ g ∉ T ∧ (∀ x ∈ T, w.heap.size ≤ x) ∧ Below w.heap.size w wr) (fun _ q8 _ => N - (intOf q8).toNat)
    case atStart => exact ⟨0, _, _, _, S, Nat.zero_le _, rfl, rfl, by unfold Hid; simp, soft_zeros m, hown2, hbuf2, hgS, hS, hb2⟩
    case round =>
      obtain ⟨i, s, g, cS, T, hi, rfl, rfl, HL, hso, hown, hbf, hgT, hT, hbel⟩ := hrel
      by_cases hlt : i < N
      · obtain ⟨b, off, rfl, cl, cv, hrx, hxc, hcx⟩ := (hP.below hbel).cells hlt
        have hxm : (X i).length ≤ maxLen := Nat.le_trans hxc hcx
        have hxm' : (X i).length ≤ 9223372036854775807 := by unfold maxLen at hxm; omega
        have hAi : ∀ g o, A i = some ⟨g, o, none⟩ → (X i) ≠ [] → g < w.heap.size := hP.inner hlt
        obtain ⟨xs, exs⟩ : ∃ xs, xs = X i := ⟨_, rfl⟩
        obtain ⟨ax, eax⟩ : ∃ ax, ax = A i := ⟨_, rfl⟩
        obtain ⟨v, ev⟩ : ∃ v, v = V i := ⟨_, rfl⟩
        obtain ⟨cx, ecx⟩ : ∃ cx, cx = C i := ⟨_, rfl⟩
        rw [← exs, ← eax, ← ecx] at cl
        rw [← exs, ← eax] at hrx
        rw [← ev] at cv
        rw [← exs] at hxm hxm' hAi
        rw [← eax] at hAi
        clear exs eax ev ecx hxc hcx
        go_upto_region 12 with (first | (at_builtin; refine wpList_copyL g m cS s HL.out hm1 hown.rd rfl _ _ rfl rfl rfl hm2 ?_; intro v' w3 hnx hb3; obtain ⟨gn, cn, rfl, hmn, hmc⟩ := hnx.shape1 HL.out hm1))
        have hbel3 := bthen hbel hb3
        have cl3 := (hb3.cell (World.block_lt_of_cell? wr _ cl)).trans cl
        have cv3 := (hb3.cell (World.block_lt_of_cell? wr _ cv)).trans cv
        have hrx3 := hrx.below hb3
        have hown3 := hown.below hb3
        have hbf3 := hB.kept hbf (Kept.of_below (S := []) hb3) (fun x _ => by simp)
        have hlt3 := hown.block
        have hTl := hB.lt hbf
        have hgn : wr.heap.size ≤ gn := ownI_blocks hnx gn rfl
        have hszr := hbel.size
        clear hown hbf
        have hsf := rsoft_any xs ax cx w3 hrx3 hxm
        have hvr := rversion_any v w3
        go_cut [66] from 34 to 127 (fun t wx => t = .bool (!tellOk xs v) ∧ w3 = wx)
        case first =>
          cases h1 : softOk xs with
          | false =>
            rw [h1] at hsf
            have HV := hid (show true = !tellOk xs v by unfold tellOk; rw [h1]; rfl)
            clear h1
            go_wp2_with (first | (go_at_call 22; refine hsf.mono ?_; rintro e w4 ⟨rfl, rfl⟩))
            go_meet
            exact ⟨by rw [← HV.out], rfl⟩
          | true =>
            rw [h1] at hsf
            by_cases h2 : xs.length ≤ 4096
            · have d2 : decide ((4096 : Int) < (xs.length : Int)) = false := decide_eq_false (by omega)
              cases h3 : verOk v with
              | false =>
                rw [h3] at hvr
                have HV := hid (show true = !tellOk xs v by unfold tellOk; rw [h3]; simp)
                clear h1 h2 h3
                go_wp2_with (first | (go_at_call 22; refine hsf.mono ?_; rintro e w4 ⟨rfl, rfl⟩) | (go_at_call 17; refine hvr.mono ?_; rintro e w4 ⟨rfl, rfl⟩))
                go_meet
                exact ⟨by rw [← HV.out], rfl⟩
              | true =>
                rw [h3] at hvr
                have HV := hid (show false = !tellOk xs v by unfold tellOk; rw [h1, h3]; simp [h2])
                clear h1 h2 h3
                go_wp2_with (first | (go_at_call 22; refine hsf.mono ?_; rintro e w4 ⟨rfl, rfl⟩) | (go_at_call 17; refine hvr.mono ?_; rintro e w4 ⟨rfl, rfl⟩))
                go_meet
                exact ⟨by rw [← HV.out], rfl⟩
            · have d2 : decide ((4096 : Int) < (xs.length : Int)) = true := decide_eq_true (by omega)
              have HV := hid (show true = !tellOk xs v by unfold tellOk; simp; omega)
              clear h1 h2
              go_wp2_with (first | (go_at_call 22; refine hsf.mono ?_; rintro e w4 ⟨rfl, rfl⟩))
              go_meet
              exact ⟨by rw [← HV.out], rfl⟩
        case rest =>
        obtain ⟨rfl, rfl⟩ := hcut
        go_upto_if 66 with fail
        go_cut [7, 9, 10, 11, 12] from 34 to 127 (fun q7 q9 _ _ _ wx => ∃ g2 c2, q7 = .slice (some ⟨g2, 0, none⟩) m c2 ∧ q9 = .int .i64 (addErr s xs v) ∧ OwnI wx w.heap.size (.slice (some ⟨g2, 0, none⟩) m c2) (addM s xs v) ∧ Buf wx p T s ∧ g2 ∉ T ∧ g2 < wx.heap.size ∧ Below wr.heap.size wr wx)
        case first =>
          cases htk : tellOk xs v with
          | false =>
            have HE := hid (show (1 : Int) = addErr s xs v by unfold addErr; rw [htk]; rfl)
            have HM := hid (show s = addM s xs v by unfold addM; rw [htk]; rfl)
            clear htk hsf hvr
            go_wp2
            go_meet
            exact ⟨g, cS, rfl, by rw [HE.out], by rw [← HM.out]; exact hown3, hbf3, hgT, by have := hb3.size; omega, hb3⟩
          | true =>
            obtain ⟨hxs, hx4, hvo⟩ : softOk xs = true ∧ xs.length ≤ 4096 ∧ verOk v = true := by
              unfold tellOk at htk
              simp at htk
              exact ⟨htk.1.1, htk.1.2, htk.2⟩
            obtain ⟨vn, rfl, hvn⟩ : ∃ vn : Nat, v = (vn : Int) ∧ vn ≤ 3 := by
              unfold verOk at hvo
              simp at hvo
              exact ⟨v.toNat, by omega, by omega⟩
            have hpk := rpicked_any m vn xs.length w3.drew hm1 hm2 hvn hx4
            have d1 : w3.drew.cell? ⟨b, off + i * 2, none⟩ = some (.slice ax xs.length cx) := cl3
            have d2 : w3.drew.cell? ⟨b, off + i * 2 + 1, none⟩ = some (.int .i64 (vn : Int)) := cv3
            have HN := hid (show nextM s xs (vn : Int) = gathTo s (pickTo m vn xs.length) xs xs.length by unfold nextM; rw [HL.out]; rfl)
            have HE := hid (show addErr s xs (vn : Int) = if softOk (nextM s xs (vn : Int)) then 0 else 2 by unfold addErr; rw [htk]; rfl)
            have HM := hid (show addM s xs (vn : Int) = if softOk (nextM s xs (vn : Int)) then nextM s xs (vn : Int) else s by unfold addM; rw [htk]; simp)
            have HPL := hid (pickTo_length m vn xs.length)
            rw [HN.out] at HE HM
            have HPA := hid (fun (k : Nat) (hk : k < xs.length) => (pickTo_at (n := m) (v := vn) hk).trans rfl)
            have HPB := hid (fun k => pickM_lt (n := m) (v := vn) (i := k) hm1)
            have HIA := hid (fun (k : Nat) => intsM_at (pickTo m vn xs.length) k)
            obtain ⟨ps, eps⟩ : ∃ ps, ps = pickTo m vn xs.length := ⟨_, rfl⟩
            rw [← eps] at HE HM hpk HPL HPA HIA
            have HGB := hid (fun (k : Nat) (hk : k ≤ 4096) (j : Nat) => gath_bd hso hxs ps hk j)
            have hgn3 : gn < w3.heap.size := hnx.block.2
            have hbgn : b ≠ gn := by have := hP.first hlt; omega
            clear htk hvo eps HN hsf hvr
            go_upto_region 14 with fail
            go_region_held3 (fun w' => w'.cell? ⟨b, off + i * 2, none⟩ = some (.slice ax xs.length cx) ∧ w'.cell? ⟨b, off + i * 2 + 1, none⟩ = some (.int .i64 (vn : Int))) (first | exact ⟨d1, d2⟩ | exact ⟨k1, k2⟩) (first | (go_at_call 20; refine hpk.mono ?_; rintro e w5 ⟨u5', rfl, ho5, hb5⟩; obtain ⟨aP, cP, rfl, hrP⟩ := ho5.shapeR HPL.out; have k1 := (hb5.cell (World.block_lt_of_cell? w3 _ cl3)).trans d1; have k2 := (hb5.cell (World.block_lt_of_cell? w3 _ cv3)).trans d2))
            all_goals
              have hnx5 := (hnx.mono hszr).drewI.below hb5
              have hrx0 : Rd .i64 w3.drew ax xs := hrx3
              have hrx5 := hrx0.below hb5
              have haP : ∀ g o, aP = some ⟨g, o, none⟩ → w3.heap.size ≤ g := by
                rintro g o rfl
                exact ownI_blocks ho5 g rfl
              have hgnT : gn ∉ T := fun h => absurd (hTl gn h) (by omega)
              have hcont : ∀ wz, Kept [gn] w5 wz → Below wr.heap.size wr wz ∧ Buf wz p T s ∧ OwnI wz w.heap.size (.slice (some ⟨g, 0, none⟩) m cS) s ∧ gn < wz.heap.size := fun wz hz => by
                have hk3 : Kept [gn] w3 wz := ((Kept.refl [gn] w3).drew.trans (Kept.of_below hb5)).trans hz
                refine ⟨(hb3.drew.trans (hb5.mono hb3.size)).trans (hz.below (Nat.le_trans hb3.size hb5.size) (by simpa using hgn)), hB.kept hbf3 hk3 (fun x hx => by have := hTl x hx; simp; omega), hown3.kept hk3 (fun x e => by cases e; simp; omega), Nat.lt_of_lt_of_le hgn3 hk3.size⟩
              have hggn : g < gn := by omega
              clear hpk ho5 hnx hrx0 hbf3 hown3
              go_wp2
              go_loopw [12] (fun q ws => ∃ k : Nat, k ≤ xs.length ∧ q = .int .i64 k ∧ OwnI ws w.heap.size (.slice (some ⟨gn, 0, none⟩) m cn) (gathTo s ps xs k) ∧ Kept [gn] w5 ws) (fun q _ => xs.length - (intOf q).toNat)
              case atStart => exact ⟨0, Nat.zero_le _, rfl, hnx5, Kept.refl _ _⟩
              case round =>
                obtain ⟨k, hk, rfl, hog, hkp⟩ := hrel
                by_cases hkl : k < xs.length
                · have q1 := hkp.cellO k1 (by simp; exact hbgn)
                  have hne : xs ≠ [] := by rintro rfl; simp at hkl
                  obtain ⟨bx, ox, rfl, hcx⟩ := (hkp.rd hrx5 (fun g o e => by have := hAi g o e hne; simp; omega)).at hkl
                  have q2 := hcx k hkl
                  obtain ⟨bp, op, rfl, hcp⟩ := (hkp.rd hrP (fun g o e => by have := haP g o e; simp; omega)).at (i := k) (by rw [HPL.out]; exact hkl)
                  have q3 := hcp k (by rw [HPL.out]; exact hkl)
                  rw [HIA.out] at q3
                  have hpm : ps.getD k 0 < m := by rw [HPA.out k hkl]; exact HPB.out k
                  have HGL := hid ((gathTo_length s ps xs k).trans HL.out)
                  have hgb := HGB.out k (by omega) (ps.getD k 0)
                  have hzb := soft_at hxs k
                  have HS := hid (show gathTo s ps xs (k + 1) = (gathTo s ps xs k).set (ps.getD k 0) ((gathTo s ps xs k).getD (ps.getD k 0) 0 + xs.getD k 0) from rfl)
                  obtain ⟨pk, epk⟩ : ∃ pk, pk = ps.getD k 0 := ⟨_, rfl⟩
                  rw [← epk] at q3 hpm hgb HS
                  have q4 := hog.cellI (i := pk) (by rw [HGL.out]; exact hpm)
                  have hfr := hog.free pk
                  obtain ⟨y, ey⟩ : ∃ y, y = (gathTo s ps xs k).getD pk 0 := ⟨_, rfl⟩
                  obtain ⟨z, ez⟩ : ∃ z, z = xs.getD k 0 := ⟨_, rfl⟩
                  rw [← ey] at q4 hgb HS
                  rw [← ez] at q2 hzb HS
                  have hset := hog.set pk (y + z)
                  rw [← HS.out] at hset
                  have hkp' := hkp.setCell (p := ⟨gn, pk, none⟩) (by simp) (.int .i64 (y + z))
                  clear hcx hcp epk ey ez hog hkp HS HGL HE HM
                  go_upto_region 18 with fail
                  go_region
                  all_goals
                    go_wp2
                    go_roundw
                    case rel => first | exact ⟨k + 1, by omega, by go_num, hset, hkp'.drew⟩ | ((repeat apply Exists.intro); exact ⟨⟨k + 1, by omega, by go_num, hset, hkp'.drew⟩, rfl⟩)
                    case measure => simp [intOf]; omega
                · obtain rfl : k = xs.length := by omega
                  have hGL := hid ((gathTo_length s ps xs xs.length).trans HL.out)
                  have hW := hcont wr hkp
                  have hso5 := rsoft_any (gathTo s ps xs xs.length) (some ⟨gn, 0, none⟩) cn wr hog.rd (by rw [hGL.out]; unfold maxLen; omega)
                  rw [hGL.out] at hso5
                  obtain ⟨G, eG⟩ : ∃ G, G = gathTo s ps xs xs.length := ⟨_, rfl⟩
                  rw [← eG] at hso5 hog HE HM
                  clear eG hkp
                  cases hsg : softOk G with
                  | true =>
                    rw [hsg] at hso5
                    have HE' := hid (show addErr s xs (vn : Int) = 0 by rw [HE.out, hsg]; rfl)
                    have HM' := hid (show addM s xs (vn : Int) = G by rw [HM.out, hsg]; rfl)
                    clear hsg HE HM
                    go_wp2_with (first | (go_at_call 22; refine hso5.mono ?_; rintro e w6 ⟨rfl, rfl⟩))
                    go_meet
                    exact ⟨gn, cn, rfl, by rw [HE'.out], by rw [HM'.out]; exact hog, hW.2.1, hgnT, hW.2.2.2, hW.1⟩
                  | false =>
                    rw [hsg] at hso5
                    have HE' := hid (show addErr s xs (vn : Int) = 2 by rw [HE.out, hsg]; rfl)
                    have HM' := hid (show addM s xs (vn : Int) = s by rw [HM.out, hsg]; rfl)
                    clear hsg HE HM
                    go_wp2_with (first | (go_at_call 22; refine hso5.mono ?_; rintro e w6 ⟨rfl, rfl⟩))
                    go_meet
                    exact ⟨g, cS, rfl, by rw [HE'.out], by rw [HM'.out]; exact hW.2.2.1, hW.2.1, hgT, by have := hW.2.2.2; omega, hW.1⟩
        case rest =>
        obtain ⟨g2, c2, rfl, rfl, hown4, hbf4, hg2, hg2l, hb4⟩ := hcut
        have hbel4 := bthen hbel hb4
        have hlenM := hid ((addM_length s xs v).trans HL.out)
        have hsoM := addM_soft xs v hso
        have hbw : b < w.heap.size := hP.first hlt
        have hbT : b ∉ T := fun h => absurd (hT b h) (by omega)
        have c1 : wc.drew.cell? ⟨b, off + i * 2, none⟩ = some (.slice ax xs.length cx) := (hb4.cell (World.block_lt_of_cell? wr _ cl)).trans cl
        have c2' : wc.drew.cell? ⟨b, off + i * 2 + 1, none⟩ = some (.int .i64 v) := (hb4.cell (World.block_lt_of_cell? wr _ cv)).trans cv
        have hrc : Rd .i64 wc ax xs := hrx.below hb4
        have hrd : Rd .i64 wc.drew ax xs := hrc
        have hadd := hB.add (w := wc.drew) ax cx xs v (show Col wc from hC.later hbel4) (hB.kept hbf4 ((Kept.refl [] _).drew) (fun x _ => by simp)) (by rw [HL.out]; exact hm1) (by rw [HL.out]; exact hm2) hso hrd hxm (fun g o e1 e2 h => absurd (hT g h) (by have := hAi g o e1 e2; omega))
        obtain ⟨E, eE⟩ : ∃ E, E = addErr s xs v := ⟨_, rfl⟩
        obtain ⟨L, eL⟩ : ∃ L, L = addM s xs v := ⟨_, rfl⟩
        rw [← eE, ← eL] at hadd
        rw [← eL] at hown4 hlenM hsoM
        rw [← eE]
        have hEE : (E != E) = false := by simp
        clear hrc hrd eE eL cl cv hrx hsf hvr cl3 cv3 hrx3 hown3 hbf3
        go_upto_region 22 with fail
        go_region_held3 (fun w' => w'.cell? ⟨b, off + i * 2, none⟩ = some (.slice ax xs.length cx) ∧ w'.cell? ⟨b, off + i * 2 + 1, none⟩ = some (.int .i64 v)) (first | exact ⟨c1, c2'⟩ | exact ⟨k1, k2⟩ | exact ⟨l1, l2⟩ | exact ⟨m1, m2⟩) (first | (go_at_call 23; refine hadd.mono ?_; rintro e w5 ⟨T5, rfl, hbf5, hT5, hk5⟩; have k1 := hk5.cellO c1 hbT; have k2 := hk5.cellO c2' hbT) | (go_at_call 24; refine (hB.soft hbf5 (by rw [hlenM.out]; exact hm1) (by rw [hlenM.out]; exact hm2)).mono ?_; rintro e w6 ⟨u6', rfl, ho6, hb6⟩; obtain ⟨a6, c6, rfl, hr6⟩ := ho6.shapeR hlenM.out; have l1 := (hb6.cell (World.block_lt_of_cell? w5 _ k1)).trans k1; have l2 := (hb6.cell (World.block_lt_of_cell? w5 _ k2)).trans k2) | (go_at_call 14; refine (sameL L m _ _ _ _ w6 hr6 (((hown4.drewI).kept hk5 (by intro g e; cases e; exact hg2)).rd.below hb6) hlenM.out hm2).mono ?_; rintro e w7 ⟨rfl, hb7⟩; have m1 := (hb7.cell (World.block_lt_of_cell? w6 _ l1)).trans l1; have m2 := (hb7.cell (World.block_lt_of_cell? w6 _ l2)).trans l2))
        all_goals
          go_wp2
          go_roundw
          case rel =>
            have hkB := hk5.below (B := w.heap.size) (by have := hbel4.size; exact this) (fun x hx => hT x hx)
            have hb57 : Below w5.heap.size w5 w7 := bthen hb6 hb7
            have ho7 := ((hown4.drewI).kept hk5 (by intro g e; cases e; exact hg2)).below hb57
            have hf7 := hB.kept hbf5 (Kept.of_below (S := []) hb57) (fun x _ => by simp)
            have hnot : g2 ∉ T5 := fun h => (hT5 g2 h).elim (fun h => hg2 h) (fun h => absurd h (by show ¬ wc.heap.size ≤ g2; omega))
            have hold : ∀ x ∈ T5, w.heap.size ≤ x := fun x hx => (hT5 x hx).elim (hT x) (fun h => Nat.le_trans hbel4.size h)
            have hbz : Below w.heap.size w w7 := ((hbel4.drew.trans hkB).trans (hb57.mono (Nat.le_trans hbel4.size hkB.size)))
            first | exact ⟨i + 1, L, g2, c2, T5, by omega, rfl, by go_num, hlenM, hsoM, ho7, hf7, hnot, hold, hbz⟩ | ((repeat apply Exists.intro); exact ⟨⟨i + 1, L, g2, c2, T5, by omega, rfl, by go_num, hlenM, hsoM, ho7, hf7, hnot, hold, hbz⟩, rfl⟩)
          case measure => simp [intOf]; omega
      · obtain rfl : i = N := by omega
        go_wp2
        go_ret
        exact ⟨rfl, hbel⟩
end Go.Proofs.YtaggbkhpoaacjacDoor
