import Derived.Test.YtjpohfghibhkiadGridO
namespace Go.Proofs.Ytjpohfghibhkiad
open Go.ChangeShapes Go.WideShapes Go.ChangeAt Go.RowKit

/-! THE DOCUMENT'S GridError. -/

theorem sh_getD {ss : List Sh} {k : Nat} (hk : k < ss.length) : shAt ss k = ss[k] := by simp [shAt, List.getD, hk]
theorem not_all_sh {B : Int} {ss : List Sh} {k : Nat} (hk : k < ss.length) (h : shOk B (shAt ss k) = false) : ss.all (shOk B) = false := by
  cases hc : ss.all (shOk B) with
  | false => rfl
  | true =>
    rw [sh_getD hk, List.all_eq_true.1 hc _ (List.getElem_mem hk)] at h
    cases h
theorem all_sh {B : Int} {ss : List Sh} {k : Nat} (hk : k = ss.length) (h : ∀ i, i < k → shOk B (shAt ss i) = true) : ss.all (shOk B) = true := List.all_eq_true.2 fun s hs => by
  obtain ⟨i, hi, rfl⟩ := List.getElem_of_mem hs
  have := h i (by omega)
  rwa [sh_getD hi] at this
theorem clash_at {B b t : Nat} {ss : List Sh} (hb : b < B) (ht : t < 14) (h : 1 < (ownM ss (12 * b : Nat) t).2) : clashFree B ss = false := by
  cases hc : clashFree B ss with
  | false => rfl
  | true =>
    have := of_decide_eq_true (List.all_eq_true.1 (List.all_eq_true.1 hc b (List.mem_range.2 hb)) t (List.mem_range.2 ht))
    omega
def NoClash (ss : List Sh) (b : Nat) : Prop := ∀ b', b' < b → ∀ t, t < 14 → (ownM ss (12 * b' : Nat) (t : Nat)).2 ≤ 1
def NoClashT (ss : List Sh) (b t : Nat) : Prop := ∀ t', t' < t → (ownM ss (12 * b : Nat) (t' : Nat)).2 ≤ 1
theorem clash_none {B : Nat} {ss : List Sh} (h : NoClash ss B) : clashFree B ss = true := List.all_eq_true.2 fun b hb => List.all_eq_true.2 fun t ht => decide_eq_true (h b (List.mem_range.1 hb) t (List.mem_range.1 ht))
theorem gerr_arg {B : Int} {ss : List Sh} (h : (decide (1 ≤ B ∧ B ≤ 12) && decide (ss.length ≤ 100) && ss.all (shOk B)) = false) : gridErrM B ss = 1 := by unfold gridErrM; rw [h]; rfl

set_option maxRecDepth 100000 in
set_option maxHeartbeats 4000000 in
theorem griderr_any (B : Int) (ss : List Sh) (n c : Nat) (a : Option Addr) (w : World) (hS : Shs w a ss) (hn : ss.length = n) (hz : n ≤ 9223372036854775807) :
    Calls Try.prog 6 #[.agg #[.int .i64 B, .slice a n c]] w fun e w' => e = .returned (.int .i64 (gridErrM B ss)) ∧ Below w.heap.size w w' := by
  have HN := hid hn
  have hb1 : Below w.heap.size w (w.alloc (.cells #[.int .i64 B, .slice a n c] 24)) := (Below.refl _ w).alloc (Nat.le_refl _) _
  have q0 : (w.alloc (.cells #[.int .i64 B, .slice a n c] 24)).cell? ⟨w.heap.size, 0, none⟩ = some (.int .i64 B) := by rw [cell_of_row _ _ _ _ _ _ (heap_alloc_new w _)]; rfl
  have q1 : (w.alloc (.cells #[.int .i64 B, .slice a n c] 24)).cell? ⟨w.heap.size, 1, none⟩ = some (.slice a n c) := by rw [cell_of_row _ _ _ _ _ _ (heap_alloc_new w _)]; rfl
  by_cases hB1 : B < 1
  · have HV := hid (show 1 = gridErrM B ss from (gerr_arg (by rw [decide_eq_false (by omega)]; rfl)).symm)
    go_enter Try.func6, Try.ntmps6
    go_wp2
    go_ret
    exact ⟨ret_int HV.out, hb1⟩
  by_cases hB2 : 12 < B
  · have HV := hid (show 1 = gridErrM B ss from (gerr_arg (by rw [decide_eq_false (by omega)]; rfl)).symm)
    go_enter Try.func6, Try.ntmps6
    go_wp2
    go_ret
    exact ⟨ret_int HV.out, hb1⟩
  by_cases h100 : 100 < n
  · have HV := hid (show 1 = gridErrM B ss from (gerr_arg (by rw [decide_eq_false (show ¬ ss.length ≤ 100 by omega)]; simp)).symm)
    have d1 : decide ((100 : Int) < (n : Int)) = true := decide_eq_true (by omega)
    clear hn
    go_enter Try.func6, Try.ntmps6
    go_wp2
    go_ret
    exact ⟨ret_int HV.out, hb1⟩
  have HB := hid (show (decide (1 ≤ B ∧ B ≤ 12) && decide (ss.length ≤ 100)) = true by rw [decide_eq_true (by omega), decide_eq_true (by omega)]; rfl)
  have hB12 : 1 ≤ B ∧ B ≤ 12 := by omega
  have hn100 : n ≤ 100 := by omega
  clear hn hB1 hB2 h100 hz
  go_enter Try.func6, Try.ntmps6
  go_wp2
  generalize w.alloc (.cells #[.int .i64 B, .slice a n c] 24) = wb at *
  obtain ⟨gB, eB⟩ : ∃ gB, gB = w.heap.size := ⟨_, rfl⟩
  rw [← eB] at q0 q1
  rw [← eB]
  clear eB
  go_loopw [3] (fun q wr => ∃ k : Nat, k ≤ n ∧ q = .int .i64 k ∧ Hid (∀ i, i < k → shOk B (shAt ss i) = true) ∧ Below wb.heap.size wb wr) (fun q _ => n - (intOf q).toNat)
  case atStart => exact ⟨0, Nat.zero_le _, rfl, fun i hi => by omega, Below.refl _ _⟩
  case round =>
    obtain ⟨k, hk, rfl, HK, hbel⟩ := hrel
    have r0 := (hbel.cell (World.block_lt_of_cell? wb _ q0)).trans q0
    have r1 := (hbel.cell (World.block_lt_of_cell? wb _ q1)).trans q1
    have hfin : Below w.heap.size w wr := hb1.trans (hbel.mono hb1.size)
    by_cases hlt : k < n
    · have hlt' : k < ss.length := by rw [HN.out]; exact hlt
      obtain ⟨b1, o1, rfl, hc1⟩ := (hS.below hfin).at (i := k) hlt'
      obtain ⟨c0, c1, c2, c3, c4⟩ := hc1 k hlt'
      have HSH := hid (show shOk B (shAt ss k) = decide (1 ≤ (shAt ss k).who ∧ (shAt ss k).who ≤ 16 ∧ 0 ≤ (shAt ss k).fr ∧ 1 ≤ (shAt ss k).cnt ∧ (shAt ss k).fr < B ∧ (shAt ss k).cnt ≤ B - (shAt ss k).fr ∧ 0 ≤ (shAt ss k).bg ∧ (shAt ss k).en ≤ 14 ∧ (shAt ss k).bg < (shAt ss k).en) from rfl)
      have HBAD := hid (fun (h : shOk B (shAt ss k) = false) => (gerr_arg (B := B) (ss := ss) (by rw [HB.out, not_all_sh hlt' h]; rfl)).symm)
      have HNX := hid (fun (h : shOk B (shAt ss k) = true) => (fun i (hi : i < k + 1) => by
        by_cases e : i = k
        · subst e; exact h
        · exact HK.out i (by omega) : ∀ i, i < k + 1 → shOk B (shAt ss i) = true))
      obtain ⟨s, es⟩ : ∃ s, s = shAt ss k := ⟨_, rfl⟩
      rw [← es] at c0 c1 c2 c3 c4 HSH HBAD HNX
      clear es
      obtain ⟨wh, fr, cn, bg, en⟩ := s
      simp only at c0 c1 c2 c3 c4 HSH
      have hal := (Below.refl wr.heap.size wr).alloc (Nat.le_refl _) (.cells #[.int .i64 wh, .int .i64 fr, .int .i64 cn, .int .i64 bg, .int .i64 en] 52)
      have p0 := (hal.cell (World.block_lt_of_cell? wr _ r0)).trans r0
      have hbel' := hbel.alloc hbel.size (.cells #[.int .i64 wh, .int .i64 fr, .int .i64 cn, .int .i64 bg, .int .i64 en] 52)
      have hfin' := hb1.trans (hbel'.mono hb1.size)
      clear hc1 hal hlt'
      by_cases e0 : wh < 1
      · have HV := hid (HBAD.out (by rw [HSH.out]; exact decide_eq_false (by omega)))
        clear HBAD HNX HSH HK
        go_wp2
        go_ret
        exact ⟨ret_int HV.out, hfin'⟩
      by_cases e1 : 16 < wh
      · have HV := hid (HBAD.out (by rw [HSH.out]; exact decide_eq_false (by omega)))
        clear HBAD HNX HSH HK
        go_wp2
        go_ret
        exact ⟨ret_int HV.out, hfin'⟩
      by_cases e2 : fr < 0
      · have HV := hid (HBAD.out (by rw [HSH.out]; exact decide_eq_false (by omega)))
        clear HBAD HNX HSH HK
        go_wp2
        go_ret
        exact ⟨ret_int HV.out, hfin'⟩
      by_cases e3 : cn < 1
      · have HV := hid (HBAD.out (by rw [HSH.out]; exact decide_eq_false (by omega)))
        clear HBAD HNX HSH HK
        go_wp2
        go_ret
        exact ⟨ret_int HV.out, hfin'⟩
      by_cases e4 : B ≤ fr
      · have HV := hid (HBAD.out (by rw [HSH.out]; exact decide_eq_false (by omega)))
        clear HBAD HNX HSH HK
        go_wp2
        go_ret
        exact ⟨ret_int HV.out, hfin'⟩
      by_cases e5 : B - fr < cn
      · have HV := hid (HBAD.out (by rw [HSH.out]; exact decide_eq_false (by omega)))
        clear HBAD HNX HSH HK
        go_wp2
        go_ret
        exact ⟨ret_int HV.out, hfin'⟩
      by_cases e6 : bg < 0
      · have HV := hid (HBAD.out (by rw [HSH.out]; exact decide_eq_false (by omega)))
        clear HBAD HNX HSH HK
        go_wp2
        go_ret
        exact ⟨ret_int HV.out, hfin'⟩
      by_cases e7 : 14 < en
      · have HV := hid (HBAD.out (by rw [HSH.out]; exact decide_eq_false (by omega)))
        clear HBAD HNX HSH HK
        go_wp2
        go_ret
        exact ⟨ret_int HV.out, hfin'⟩
      by_cases e8 : en ≤ bg
      · have HV := hid (HBAD.out (by rw [HSH.out]; exact decide_eq_false (by omega)))
        clear HBAD HNX HSH HK
        go_wp2
        go_ret
        exact ⟨ret_int HV.out, hfin'⟩
      have HV := hid (HNX.out (by rw [HSH.out]; exact decide_eq_true (by omega)))
      clear HBAD HNX HSH HK
      go_wp2
      go_roundw
      case rel => exact ⟨k + 1, by omega, by go_num, HV, hbel'⟩
      case measure => simp [intOf]; omega
    · obtain rfl : k = n := by omega
      have HALL := hid (all_sh HN.out.symm HK.out)
      have HOKS := HK
      obtain ⟨m, hm⟩ : ∃ m : Nat, B = (m : Int) := ⟨B.toNat, by omega⟩
      have HMB := hid hm
      have hm12 : 1 ≤ m ∧ m ≤ 12 := by omega
      obtain ⟨N12, eN12⟩ : ∃ N12, N12 = 12 * m := ⟨_, rfl⟩
      have hBm : (12 : Int) * B = (N12 : Int) := by rw [hm, eN12]; omega
      have HN12 := hid eN12
      have h144 : N12 ≤ 144 := by omega
      have HRES0 := hid (fun (h : NoClash ss m) => (show gridErrM B ss = 0 by unfold gridErrM; rw [HB.out, HALL.out, HMB.out, Int.toNat_natCast, clash_none h]; rfl))
      have HRES5 := hid (fun b t (hb : b < m) (ht : t < 14) (h : 1 < (ownM ss (12 * b : Nat) (t : Nat)).2) => (show gridErrM B ss = 5 by unfold gridErrM; rw [HB.out, HALL.out, HMB.out, Int.toNat_natCast, clash_at hb ht h]; rfl))
      have hown := fun (tone t : Int) (wz : World) (hbz : Below w.heap.size w wz) => owner_any B ss k c a tone t wz (hS.below hbz) HN.out hB12.2 hn100 HOKS.out
      clear hm HK eN12
      go_wp2
      go_loopw [5] (fun q ws => ∃ b z : Nat, b ≤ m ∧ Hid (z = 12 * b) ∧ z ≤ N12 ∧ q = .int .i64 z ∧ Hid (NoClash ss b) ∧ Below wb.heap.size wb ws) (fun q _ => N12 - (intOf q).toNat)
      case atStart => exact ⟨0, 0, Nat.zero_le _, rfl, Nat.zero_le _, rfl, fun i hi => by omega, hbel⟩
      case round =>
        clear hbel hfin r0 r1 hk hlt
        obtain ⟨b, z, hb, HZ, hz12, rfl, HNC, hbel⟩ := hrel
        have r0 := (hbel.cell (World.block_lt_of_cell? wb _ q0)).trans q0
        by_cases hlt : z < N12
        · have hbm : b < m := by have := HZ.out; have := HN12.out; omega
          have HBM := hid hbm
          have HLT := hid hlt
          clear hbm
          go_wp2
          go_loopw [6] (fun q ws => ∃ t : Nat, t ≤ 14 ∧ q = .int .i64 t ∧ Hid (NoClashT ss b t) ∧ Below wb.heap.size wb ws) (fun q _ => 14 - (intOf q).toNat)
          case atStart => exact ⟨0, Nat.zero_le _, rfl, fun i hi => by omega, hbel⟩
          case round =>
            clear hbel r0
            obtain ⟨t, ht, rfl, HT, hbel⟩ := hrel
            have r0 := (hbel.cell (World.block_lt_of_cell? wb _ q0)).trans q0
            have r1 := (hbel.cell (World.block_lt_of_cell? wb _ q1)).trans q1
            have hfin : Below w.heap.size w wr := hb1.trans (hbel.mono hb1.size)
            by_cases htl : t < 14
            · have ho := hown (z : Int) (t : Int) wr hfin
              have HR5 := hid (HRES5.out b t HBM.out htl)
              rw [← HZ.out] at HR5
              have HTN : Hid ((ownM ss (z : Int) (t : Int)).2 ≤ 1 → NoClashT ss b (t + 1)) := fun h t' ht' => by
                by_cases e : t' = t
                · subst e; rw [← HZ.out]; exact h
                · exact HT.out t' (by omega)
              have HTL := hid htl
              obtain ⟨⟨wo, no⟩, eo⟩ : ∃ q, ownM ss (z : Int) (t : Int) = q := ⟨_, rfl⟩
              rw [eo] at ho HR5 HTN
              simp only at ho HR5 HTN
              have hno : no ≤ 100 := by
                have h1 : (ownM ss (z : Int) (t : Int)).2 ≤ ss.length := ownTo_le ss _ _ _
                rw [eo, HN.out] at h1
                simp only at h1
                omega
              clear eo hown
              by_cases hcl : 1 < no
              · have HV := hid (HR5.out hcl).symm
                have d1 : decide ((1 : Int) < (no : Int)) = true := decide_eq_true (by omega)
                clear HR5 HTN hcl
                go_wp2_with (go_at_call 20; refine ho.mono ?_; rintro e w5 ⟨rfl, hb5⟩)
                go_ret
                exact ⟨ret_int HV.out, bthen hfin hb5⟩
              · have HV := hid (HTN.out (by omega))
                have d1 : decide ((1 : Int) < (no : Int)) = false := decide_eq_false (by omega)
                clear HR5 HTN hcl
                go_wp2_with (go_at_call 20; refine ho.mono ?_; rintro e w5 ⟨rfl, hb5⟩)
                go_roundw
                case rel =>
                  have := HTL.out
                  first | exact ⟨t + 1, by omega, by go_num, HV, hbel.trans (hb5.mono hbel.size)⟩ | ((repeat apply Exists.intro); exact ⟨⟨t + 1, by omega, by go_num, HV, hbel.trans (hb5.mono hbel.size)⟩, rfl⟩)
                case measure =>
                  have := HTL.out
                  simp [intOf]
                  omega
            · have HV : Hid (NoClash ss (b + 1)) := fun b' hb' t' ht' => by
                by_cases e : b' = b
                · subst e; exact HT.out t' (by omega)
                · exact HNC.out b' (by omega) t' ht'
              clear HT hown
              go_wp2
              go_roundw
              case rel =>
                have e1 := HBM.out
                have e2 := HLT.out
                have e3 := HZ.out
                have e4 := HN12.out
                first | exact ⟨b + 1, z + 12, by omega, by unfold Hid; omega, by omega, by go_num, HV, hbel⟩ | ((repeat apply Exists.intro); exact ⟨⟨b + 1, z + 12, by omega, by unfold Hid; omega, by omega, by go_num, HV, hbel⟩, rfl⟩)
              case measure =>
                have := HLT.out
                simp [intOf]
                omega
        · have hbm : b = m := by have := HZ.out; have := HN12.out; omega
          have HV := hid (HRES0.out (by rw [← hbm]; exact HNC.out)).symm
          have hfin : Below w.heap.size w wr := hb1.trans (hbel.mono hb1.size)
          clear hbm hown
          go_wp2
          go_ret
          exact ⟨ret_int HV.out, hfin⟩
end Go.Proofs.Ytjpohfghibhkiad
