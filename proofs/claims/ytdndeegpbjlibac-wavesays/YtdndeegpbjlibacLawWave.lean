import Derived.Test.YtdndeegpbjlibacWaveJ
import Derived.Test.YtdndeegpbjlibacWaveH
import Derived.Test.YtdndeegpbjlibacCheck
import Derived.Test.YtdndeegpbjlibacSameI
import Derived.Deep.CutRange
namespace Go.Proofs.Ytdndeegpbjlibac
open Go.ChangeShapes Go.WideShapes Go.ChangeAt Go.RowKit Go.Shelf

/-! WaveSays, over what it asks of Send, Hear and Near. -/

def sendErr (b : List Int) (order : Int) : Int := if errOf b = 0 then (if ordOk5 order && decide (b.length % order.toNat = 0) then 0 else 1) else errOf b
def hearErr (ps : List (Int × Int)) (order : Int) : Int := if hearsOk ps order then 0 else 1
def I64w (n : Int) : Prop := -9223372036854775808 ≤ n ∧ n ≤ 9223372036854775807

structure WaveLaws : Prop where
  send : ∀ (b : List Int) (a : Option Addr) (c : Nat) (order : Int) (w : World), Rd .u8 w a b → b.length ≤ c → c ≤ maxLen → Bytes b → I64w order → Calls Try.prog 5 #[.slice a b.length c, .int .i64 order] w fun e w' => ∃ a' k' c', e = .returned (.tuple #[.slice a' k' c', .int .i64 (sendErr b order)]) ∧ Below w.heap.size w w' ∧ (sendErr b order = 0 → k' = b.length / order.toNat ∧ Pts w' a' (sentM (order.toNat / 2) b order.toNat (b.length / order.toNat))) ∧ (sendErr b order ≠ 0 → k' = 0)
  hear : ∀ (ps : List (Int × Int)) (a : Option Addr) (c : Nat) (order : Int) (w : World), Pts w a ps → ps.length ≤ 8796093022208 → I64w order → Calls Try.prog 9 #[.slice a ps.length c, .int .i64 order] w fun e w' => ∃ a' k' c', e = .returned (.tuple #[.slice a' k' c', .int .i64 (hearErr ps order)]) ∧ Below w.heap.size w w' ∧ (hearErr ps order = 0 → k' = ps.length * order.toNat ∧ Rd .i64 w' a' (heardM (order.toNat / 2) order.toNat ps ps.length)) ∧ (hearErr ps order ≠ 0 → k' = 0)
  near : ∀ (ps : List (Int × Int)) (a : Option Addr) (c : Nat) (order : Int) (w : World), Pts w a ps → ps.length ≤ 8796093022208 → I64w order → Calls Try.prog 10 #[.slice a ps.length c, .int .i64 order] w fun e w' => ∃ a' k' c', e = .returned (.tuple #[.slice a' k' c', .int .i64 (hearErr ps order)]) ∧ Below w.heap.size w w' ∧ (hearErr ps order = 0 → k' = ps.length * order.toNat ∧ Rd .u8 w' a' (nearM (order.toNat / 2) order.toNat ps ps.length) ∧ k' ≤ c' ∧ c' ≤ maxLen) ∧ (hearErr ps order ≠ 0 → k' = 0)

theorem sentM_length (h : Nat) (b : List Int) (order n : Nat) : (sentM h b order n).length = n := by simp [sentM]
theorem pts_in {ps : List (Int × Int)} (h : ps.all inSq = true) : PtsIn 1000 ps := by
  intro i
  by_cases hi : i < ps.length
  · have e : ps.getD i (0, 0) = ps[i] := by simp [List.getD, hi]
    have := List.all_eq_true.1 h ps[i] (List.getElem_mem hi)
    rw [e]
    exact of_decide_eq_true this
  · have e : ps.getD i (0, 0) = (0, 0) := by simp [List.getD, List.getElem?_eq_none (show ps.length ≤ i by omega)]
    rw [e]
    simp

set_option maxRecDepth 100000 in
set_option maxHeartbeats 4000000 in
theorem wsays_any (hW : WaveLaws) (b : List Int) (ps : List (Int × Int)) (order : Int) (a a2 : Option Addr) (c c2 : Nat) (w : World) (hb : Rd .u8 w a b) (hbc : b.length ≤ c) (hcm : c ≤ maxLen) (hy : Bytes b) (hp : Pts w a2 ps) (hpz : ps.length ≤ 8796093022208) (ho : I64w order) :
    Calls Try.prog 3 #[.slice a b.length c, .slice a2 ps.length c2, .int .i64 order] w fun e w' => e = .returned (.bool true) ∧ Below w.heap.size w w' := by
  have hz : b.length ≤ maxLen := Nat.le_trans hbc hcm
  have hz' : b.length ≤ 9223372036854775807 := by unfold maxLen at hz; omega
  go_enter Try.func3, Try.ntmps3
  go_wp2_with fail
  refine (hW.send b a c order _ hb hbc hcm hy ho).mono ?_
  rintro e w1 ⟨a3, k3, c3, rfl, hb1, hS0, hS1⟩
  obtain ⟨E, eE⟩ : ∃ E, E = sendErr b order := ⟨_, rfl⟩
  rw [← eE] at hS0 hS1
  rw [← eE]
  have HE := hid eE
  clear eE
  go_upto_region 2 with fail
  go_cut [9] from 21 (fun t wx => t = .bool (ordOk5 order) ∧ w1 = wx)
  case first =>
    by_cases o2 : order = 2
    · subst o2
      go_wp2
      go_meet
      exact ⟨rfl, rfl⟩
    · have q2 : (order == 2) = false := by simpa using o2
      by_cases o4 : order = 4
      · subst o4
        go_wp2
        go_meet
        exact ⟨rfl, rfl⟩
      · have q4 : (order == 4) = false := by simpa using o4
        by_cases o6 : order = 6
        · subst o6
          go_wp2
          go_meet
          exact ⟨rfl, rfl⟩
        · have q6 : (order == 6) = false := by simpa using o6
          have HV := hid (show false = ordOk5 order from (decide_eq_false (by omega)).symm)
          clear o2 o4 o6
          go_wp2
          go_meet
          exact ⟨by rw [← HV.out], rfl⟩
  case rest =>
  obtain ⟨rfl, rfl⟩ := hcut
  have hbits := rbits_any b a c w1 (hb.below hb1) hz hy
  obtain ⟨x, ex⟩ : ∃ x, x = errOf b := ⟨_, rfl⟩
  rw [← ex] at hbits
  have HX := hid ex
  obtain ⟨G, eG⟩ : ∃ G, G = ordOk5 order := ⟨_, rfl⟩
  rw [← eG]
  have HG := hid eG
  clear ex eG
  go_wp2_with fail
  refine hbits.mono ?_
  rintro e w2 ⟨rfl, rfl⟩
  clear hbits
  obtain ⟨bad, ebad⟩ : ∃ bad : Bool, bad = ((x == 0) && (!G || decide (b.length % order.toNat ≠ 0))) := ⟨_, rfl⟩
  have HBAD := hid ebad
  have HGO : Hid (G = true → order = 2 ∨ order = 4 ∨ order = 6) := fun h => by rw [HG.out] at h; exact of_decide_eq_true h
  clear ebad
  go_upto_region 4 with fail
  go_cut [45] from 21 (fun t wx => t = .bool bad ∧ w1 = wx)
  case first =>
    cases HX0 : (x == 0) with
    | false =>
      have HV := hid (show false = bad by rw [HBAD.out, HX0]; rfl)
      go_wp2
      go_meet
      exact ⟨by rw [← HV.out], rfl⟩
    | true =>
      rcases Bool.eq_false_or_eq_true G with hG | hG
      case inr =>
        have HV := hid (show true = bad by rw [HBAD.out, HX0, hG]; rfl)
        go_wp2
        go_meet
        exact ⟨by rw [← HV.out], rfl⟩
      case inl =>
        have h3 := HGO.out hG
        obtain ⟨m, om⟩ : ∃ m : Nat, order = (m : Int) := ⟨order.toNat, by omega⟩
        have hm2 : 2 ≤ m := by omega
        have hrm : ((b.length : Int)).tmod order = ((b.length % m : Nat) : Int) := by rw [om, Int.tmod_eq_emod_of_nonneg (by omega)]; simp
        have hrn : ((b.length : Int)) % order = ((b.length % m : Nat) : Int) := by rw [om]; simp
        have hnz : (order == 0) = false := beq_eq_false_iff_ne.2 (by omega)
        have hnz' : order ≠ 0 := by omega
        have HV := hid (show decide (b.length % m ≠ 0) = bad by rw [HBAD.out, HX0, hG, om]; simp)
        obtain ⟨r, er⟩ : ∃ r, r = b.length % m := ⟨_, rfl⟩
        rw [← er] at hrm hrn HV
        clear er h3 hm2 om
        by_cases hr : r = 0
        · have qr : ((r : Int) != 0) = false := by simp [hr]
          have HV2 := hid (show false = bad by rw [← HV.out]; simp [hr])
          clear hr HV
          go_wp2
          go_meet
          exact ⟨by rw [← HV2.out], rfl⟩
        · have qr : ((r : Int) != 0) = true := by simp; omega
          have HV2 := hid (show true = bad by rw [← HV.out]; simp [hr])
          clear hr HV
          go_wp2
          go_meet
          exact ⟨by rw [← HV2.out], rfl⟩
  case rest =>
  obtain ⟨rfl, rfl⟩ := hcut
  go_upto_if 45 with fail
  go_cut [10] from 21 (fun t wx => t = .int .i64 E ∧ w1 = wx)
  case first =>
    cases hbd : bad with
    | true =>
      have HV := hid (show 1 = E by
        have h2 := HBAD.out
        rw [hbd] at h2
        have h3 : x = 0 ∧ (G = false ∨ b.length % order.toNat ≠ 0) := by simpa using h2.symm
        rw [HE.out]
        unfold sendErr
        rw [← HX.out, if_pos h3.1, ← HG.out, if_neg]
        intro hc
        rw [Bool.and_eq_true, decide_eq_true_eq] at hc
        rcases h3.2 with h | h
        · rw [h] at hc; exact absurd hc.1 (by simp)
        · exact h hc.2)
      clear hbd
      go_wp2
      go_meet
      exact ⟨by rw [HV.out], rfl⟩
    | false =>
      have HV := hid (show x = E by
        have h2 := HBAD.out
        rw [hbd] at h2
        rw [HE.out]
        unfold sendErr
        by_cases h0 : x = 0
        · rw [← HX.out, if_pos h0, ← HG.out]
          have h3 : G = true ∧ b.length % order.toNat = 0 := by
            rw [h0] at h2
            simpa using h2.symm
          rw [h3.1, decide_eq_true h3.2, h0]
          rfl
        · rw [← HX.out, if_neg h0])
      clear hbd
      go_wp2
      go_meet
      exact ⟨by rw [HV.out], rfl⟩
  case rest =>
  obtain ⟨rfl, rfl⟩ := hcut
  have hEE : (E != E) = false := by simp
  go_upto_region 6 with fail
  go_cut [69] from 21 (fun t wx => t = .bool false ∧ Below w1.heap.size w1 wx)
  case first =>
    by_cases hE0 : E = 0
    · obtain ⟨ekm, hpts⟩ := hS0 hE0
      have hx0 : errOf b = 0 ∧ ordOk5 order = true ∧ b.length % order.toNat = 0 := by
        have h2 := HE.out
        rw [hE0] at h2
        unfold sendErr at h2
        by_cases h0 : errOf b = 0
        · rw [if_pos h0] at h2
          by_cases h4 : (ordOk5 order && decide (b.length % order.toNat = 0)) = true
          · rw [Bool.and_eq_true, decide_eq_true_eq] at h4
            exact ⟨h0, h4.1, h4.2⟩
          · rw [if_neg h4] at h2; cases h2
        · rw [if_neg h0] at h2; exact absurd h2.symm h0
      obtain ⟨g1, g2, g3⟩ := hx0
      have g4 := err_zero g1
      have g5 : order = 2 ∨ order = 4 ∨ order = 6 := of_decide_eq_true g2
      obtain ⟨m, rfl⟩ : ∃ m : Nat, order = (m : Int) := ⟨order.toNat, by omega⟩
      rw [Int.toNat_natCast] at hpts g3 ekm
      have hm2 : m = 2 * (m / 2) := by omega
      have hbl : b.length = b.length / m * m := by have := Nat.div_add_mod b.length m; rw [g3, Nat.mul_comm] at this; omega
      have hbt : ∀ v ∈ b, v = 0 ∨ v = 1 := fun v hv => by
        obtain ⟨i, hi, rfl⟩ := List.getElem_of_mem hv
        have h1 := g4.1 i
        have h2 := hy b[i] hv
        simp only [List.getD, List.getElem?_eq_getElem hi, Option.getD_some] at h1
        omega
      have hsent := sent_any m (m / 2) (b.length / m) b a b.length c w1 hm2 (by omega) (by omega) (hb.below hb1) rfl hbl hbc g4.2 hbt
      have hsl := sentM_length (m / 2) b m (b.length / m)
      have hkm : b.length / m ≤ 4096 := Nat.le_trans (Nat.div_le_self _ _) g4.2
      rw [← ekm] at hpts hsent hsl hkm
      obtain ⟨PS, ePS⟩ : ∃ PS, PS = sentM (m / 2) b m k3 := ⟨_, rfl⟩
      rw [← ePS] at hpts hsent hsl
      have HSL := hid hsl
      subst hE0
      clear ekm ePS hbl hsl g5 hm2 hS0 hS1 g1 g2 g3
      go_wp2_with fail
      refine hsent.mono ?_
      rintro e w3 ⟨v3, rfl, ho3, hb3⟩
      obtain ⟨a4, c4, rfl, -, -⟩ := ho3.shape
      have hsm := same_points PS PS a3 a4 c3 c4 w3 (hpts.below hb3) ho3.pts (by rw [HSL.out]; unfold maxLen; omega) (by rw [HSL.out]; unfold maxLen; omega)
      rw [HSL.out, decide_eq_true rfl] at hsm
      rw [HSL.out]
      go_wp2_with fail
      refine hsm.mono ?_
      rintro e w4 ⟨rfl, hb4⟩
      go_wp2
      go_meet
      exact ⟨rfl, bthen hb3 hb4⟩
    · obtain rfl := hS1 hE0
      have q0 : (E == 0) = false := by simpa using hE0
      have q1 : (E != 0) = true := by simpa using hE0
      clear hE0
      go_wp2
      go_meet
      exact ⟨rfl, Below.refl _ _⟩
  case rest =>
  obtain ⟨rfl, hb2⟩ := hcut
  have hbw := bthen hb1 hb2
  clear hS0 hS1 HE HX HG HGO HBAD hEE hb1 hb2
  go_wp2_with fail
  refine (hW.hear ps a2 c2 order _ (hp.below hbw) hpz ho).mono ?_
  rintro e w3 ⟨a5, k5, c5, rfl, hb3, hH0, hH1⟩
  have hbw3 := bthen hbw hb3
  go_wp2_with fail
  refine (hW.near ps a2 c2 order _ (hp.below hbw3) hpz ho).mono ?_
  rintro e w4 ⟨a6, k6, c6, rfl, hb4, hN0, hN1⟩
  have hbw4 := bthen hbw3 hb4
  have hhs := rhears_any ps order a2 c2 w4 (hp.below hbw4) hpz
  cases hok : hearsOk ps order with
  | false =>
    have he : hearErr ps order = 1 := by unfold hearErr; rw [hok]; rfl
    obtain rfl := hH1 (by rw [he]; decide)
    obtain rfl := hN1 (by rw [he]; decide)
    rw [hok] at hhs
    rw [he]
    clear hok hH0 hN0 hH1 hN1
    go_wp2_with (first | (go_at_call 11; refine hhs.mono ?_; rintro e w5 ⟨rfl, rfl⟩))
    go_ret
    exact ⟨rfl, hbw4⟩
  | true =>
    have he : hearErr ps order = 0 := by unfold hearErr; rw [hok]; rfl
    obtain ⟨rfl, hr5⟩ := hH0 he
    obtain ⟨rfl, hr6, -, -⟩ := hN0 he
    rw [hok] at hhs
    rw [he]
    have hall : (ordOk5 order = true ∧ (ps.length : Int) * order ≤ 4096) ∧ ps.all inSq = true := by
      unfold hearsOk at hok
      rw [Bool.and_eq_true, Bool.and_eq_true, decide_eq_true_eq] at hok
      exact hok
    have g5 : order = 2 ∨ order = 4 ∨ order = 6 := of_decide_eq_true hall.1.1
    have hin := pts_in hall.2
    have h4 := hall.1.2
    obtain ⟨m, rfl⟩ : ∃ m : Nat, order = (m : Int) := ⟨order.toNat, by omega⟩
    rw [Int.toNat_natCast] at hr5 hr6
    rw [Int.toNat_natCast]
    have hm2 : m = 2 * (m / 2) := by omega
    have hmul : ps.length * m ≤ 4096 := by exact_mod_cast h4
    have hpl : ps.length ≤ 4096 := Nat.le_trans (Nat.le_mul_of_pos_right _ (by omega)) hmul
    have hhd := fun w hpw => rheard_any m (m / 2) ps a2 ps.length c2 w hm2 (by omega) (by omega) hpw rfl hpl hin
    have hnr := fun w hpw => rnearest_any m (m / 2) ps a2 ps.length c2 w hm2 (by omega) (by omega) hpw rfl hpl hin
    have HL5 := hid (heardM_length (m / 2) m ps ps.length (Nat.le_refl _))
    have HL6 := hid (nearM_length (m / 2) m ps ps.length (Nat.le_refl _))
    obtain ⟨H, eH⟩ : ∃ H, H = heardM (m / 2) m ps ps.length := ⟨_, rfl⟩
    obtain ⟨N, eN⟩ : ∃ N, N = nearM (m / 2) m ps ps.length := ⟨_, rfl⟩
    rw [← eH] at hr5 HL5
    rw [← eN] at hr6 HL6
    simp only [← eH] at hhd
    simp only [← eN] at hnr
    obtain ⟨q, eq⟩ : ∃ q, q = ps.length * m := ⟨_, rfl⟩
    rw [← eq] at HL5 HL6 hmul
    rw [← eq]
    clear hok hH0 hN0 hH1 hN1 hall g5 h4 eH eN eq hm2
    go_wp2_with (first | (go_at_call 11; refine hhs.mono ?_; rintro e w5 ⟨rfl, rfl⟩) | fail)
    refine (hhd w4 (hp.below hbw4)).mono ?_
    rintro e w6 ⟨v6, rfl, ho6, hb6⟩
    obtain ⟨a7, c7, rfl, hr7⟩ : ∃ a c, v6 = .slice a q c ∧ Rd .i64 w6 a H := by
      obtain ⟨a, c, rfl, _, _⟩ := ho6.shape
      exact ⟨a, c, by rw [HL5.out], ho6.rd⟩
    have hsi := same_ints H H a5 a7 c5 c7 w6 ((hr5.below hb4).below hb6) hr7 (by rw [HL5.out]; unfold maxLen; omega) (by rw [HL5.out]; unfold maxLen; omega)
    rw [HL5.out, decide_eq_true rfl] at hsi
    go_wp2_with fail
    refine hsi.mono ?_
    rintro e w7 ⟨rfl, hb7⟩
    have hb47 := bthen hb6 hb7
    go_wp2_with fail
    refine (hnr w7 (hp.below (bthen hbw4 hb47))).mono ?_
    rintro e w8 ⟨v8, rfl, ho8, hb8⟩
    obtain ⟨a9, c9, rfl, -, -, -⟩ := ho8.shape
    have hsb := same_bits N N a6 a9 c6 c9 w8 ((hr6.below hb47).below hb8) ho8.rd (by rw [HL6.out]; unfold maxLen; omega) (by rw [HL6.out]; unfold maxLen; omega)
    rw [HL6.out, decide_eq_true rfl] at hsb
    rw [HL6.out]
    go_wp2_with fail
    refine hsb.mono ?_
    rintro e w9 ⟨rfl, hb9⟩
    go_wp2
    go_ret
    exact ⟨rfl, bthen hbw4 (bthen hb47 (bthen hb8 hb9))⟩
end Go.Proofs.Ytdndeegpbjlibac
