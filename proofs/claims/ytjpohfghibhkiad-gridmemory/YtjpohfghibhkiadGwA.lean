import Derived.Test.YtjpohfghibhkiadGridE
import Derived.Laws.Rows
import Derived.IntWalk
namespace Go.Proofs.Ytjpohfghibhkiad
open Go.ChangeShapes Go.WideShapes Go.ChangeAt Go.RowKit

/-! THE PROGRAM'S isUser, checkShare, isPilot, pilotAt, checkForm. -/

def userM (who : Int) : Bool := decide (1 ≤ who ∧ who ≤ 16)
theorem isUser_any (who : Int) (w : World) : Calls Try.prog 29 #[.int .i64 who] w fun e w' => e = .returned (.bool (userM who)) ∧ Below w.heap.size w w' := by
  by_cases h1 : 1 ≤ who
  · by_cases h2 : who ≤ 16
    · have HV := hid (show true = userM who from (decide_eq_true ⟨h1, h2⟩).symm)
      go_enter Try.func29, Try.ntmps29
      go_wp2
      go_ret
      exact ⟨ret_boolG HV.out, Below.refl _ _⟩
    · have HV := hid (show false = userM who from (decide_eq_false (by omega)).symm)
      go_enter Try.func29, Try.ntmps29
      go_wp2
      go_ret
      exact ⟨ret_boolG HV.out, Below.refl _ _⟩
  · have HV := hid (show false = userM who from (decide_eq_false (by omega)).symm)
    go_enter Try.func29, Try.ntmps29
    go_wp2
    go_ret
    exact ⟨ret_boolG HV.out, Below.refl _ _⟩

theorem isPilot_any (tone t : Int) (w : World) (h0 : 0 ≤ tone ∧ tone ≤ 144) : Calls Try.prog 30 #[.agg #[.int .i64 tone, .int .i64 t]] w fun e w' => e = .returned (.bool (pilotM tone t)) ∧ Below w.heap.size w w' := by
  have hb1 : Below w.heap.size w (w.alloc (.cells #[.int .i64 tone, .int .i64 t] 39)) := (Below.refl _ w).alloc (Nat.le_refl _) _
  have hr : tone.tmod 3 = tone % 3 := Int.tmod_eq_emod_of_nonneg h0.1
  have HP := hid (show pilotM tone t = decide (tone % 3 = 0 ∧ (t = 3 ∨ t = 10)) from rfl)
  obtain ⟨r, er⟩ : ∃ r, r = tone % 3 := ⟨_, rfl⟩
  rw [← er] at hr HP
  have hr' := er.symm
  clear er
  by_cases e1 : t = 3
  · have q1 : (t == 3) = true := by simpa using e1
    by_cases e0 : r = 0
    · have q0 : (r == 0) = true := by simpa using e0
      have HV := hid (show true = pilotM tone t by rw [HP.out, decide_eq_true ⟨e0, Or.inl e1⟩])
      clear HP e0 e1
      go_enter Try.func30, Try.ntmps30
      go_wp2
      go_ret
      exact ⟨ret_boolG HV.out, hb1⟩
    · have q0 : (r == 0) = false := by simpa using e0
      have HV := hid (show false = pilotM tone t by rw [HP.out, decide_eq_false (by omega)])
      clear HP e0 e1
      go_enter Try.func30, Try.ntmps30
      go_wp2
      go_ret
      exact ⟨ret_boolG HV.out, hb1⟩
  · have q1 : (t == 3) = false := by simpa using e1
    by_cases e2 : t = 10
    · have q2 : (t == 10) = true := by simpa using e2
      by_cases e0 : r = 0
      · have q0 : (r == 0) = true := by simpa using e0
        have HV := hid (show true = pilotM tone t by rw [HP.out, decide_eq_true ⟨e0, Or.inr e2⟩])
        clear HP e0 e1 e2
        go_enter Try.func30, Try.ntmps30
        go_wp2
        go_ret
        exact ⟨ret_boolG HV.out, hb1⟩
      · have q0 : (r == 0) = false := by simpa using e0
        have HV := hid (show false = pilotM tone t by rw [HP.out, decide_eq_false (by omega)])
        clear HP e0 e1 e2
        go_enter Try.func30, Try.ntmps30
        go_wp2
        go_ret
        exact ⟨ret_boolG HV.out, hb1⟩
    · have q2 : (t == 10) = false := by simpa using e2
      have HV := hid (show false = pilotM tone t by rw [HP.out, decide_eq_false (by omega)])
      clear HP e1 e2
      go_enter Try.func30, Try.ntmps30
      go_wp2
      go_ret
      exact ⟨ret_boolG HV.out, hb1⟩

/-- A pilot at an even time, at an odd one. -/
def pilQ (t : Nat) : Int := if t % 2 = 1 then -1 else 1
theorem pilotAt_any (t : Nat) (w : World) (ht : t < 14) : Calls Try.prog 31 #[.int .i64 (t : Int)] w fun e w' => e = .returned (.agg #[.int .i64 1, .int .i64 (pilQ t)]) ∧ Below w.heap.size w w' := by
  have hr : (t : Int).tmod 2 = ((t % 2 : Nat) : Int) := by rw [Int.tmod_eq_emod_of_nonneg (by omega)]; omega
  by_cases e1 : t % 2 = 1
  · have HV := hid (show (-1 : Int) = pilQ t by unfold pilQ; rw [if_pos e1])
    rw [e1] at hr
    clear e1
    go_enter Try.func31, Try.ntmps31
    go_wp2
    refine bodyPost_ret (results_cell_row (p := 2) (ty := 47) (by kernel_rfl) _ _ w.heap.size 47 _ (0, 0) _ rfl (heap_alloc_new w _) Try.underlying47 rfl (by kernel_rfl)) rfl ?_
    exact ⟨by rw [← HV.out], (Below.refl _ w).alloc (Nat.le_refl _) _⟩
  · have e0 : t % 2 = 0 := by omega
    have HV := hid (show (1 : Int) = pilQ t by unfold pilQ; rw [if_neg e1])
    rw [e0] at hr
    clear e1 e0
    go_enter Try.func31, Try.ntmps31
    go_wp2
    refine bodyPost_ret (results_cell_row (p := 2) (ty := 47) (by kernel_rfl) _ _ w.heap.size 47 _ (0, 0) _ rfl (heap_alloc_new w _) Try.underlying47 rfl (by kernel_rfl)) rfl ?_
    exact ⟨by rw [← HV.out], (Below.refl _ w).alloc (Nat.le_refl _) _⟩

set_option maxRecDepth 100000 in
set_option maxHeartbeats 4000000 in
theorem checkShare_any (s : Sh) (B : Int) (w : World) (hB : 1 ≤ B ∧ B ≤ 12) (hF : s.fr ≤ 9223372036854775807) : Calls Try.prog 32 #[.agg #[.int .i64 s.who, .int .i64 s.fr, .int .i64 s.cnt, .int .i64 s.bg, .int .i64 s.en], .int .i64 B] w fun e w' => e = .returned (.int .i64 (if shOk B s then 0 else 1)) ∧ Below w.heap.size w w' := by
  have HSH := hid (show shOk B s = decide (1 ≤ s.who ∧ s.who ≤ 16 ∧ 0 ≤ s.fr ∧ 1 ≤ s.cnt ∧ s.fr < B ∧ s.cnt ≤ B - s.fr ∧ 0 ≤ s.bg ∧ s.en ≤ 14 ∧ s.bg < s.en) from rfl)
  have HBAD := hid (fun (h : shOk B s = false) => (show (1 : Int) = if shOk B s then 0 else 1 by rw [h]; rfl))
  have HOK := hid (fun (h : shOk B s = true) => (show (0 : Int) = if shOk B s then 0 else 1 by rw [h]; rfl))
  obtain ⟨R, eR⟩ : ∃ R : Int, R = if shOk B s then 0 else 1 := ⟨_, rfl⟩
  rw [← eR] at HBAD HOK
  rw [← eR]
  clear eR
  obtain ⟨wh, fr, cn, bg, en⟩ := s
  dsimp only at HSH hF ⊢
  have hb1 : Below w.heap.size w (w.alloc (.cells #[.int .i64 wh, .int .i64 fr, .int .i64 cn, .int .i64 bg, .int .i64 en] 52)) := (Below.refl _ w).alloc (Nat.le_refl _) _
  have hU := fun wz => isUser_any wh wz
  have hu : userM wh = decide (1 ≤ wh ∧ wh ≤ 16) := rfl
  have HU := hid hu
  obtain ⟨u, eu⟩ : ∃ u, u = userM wh := ⟨_, rfl⟩
  simp only [← eu] at hU
  rw [← eu] at HU
  clear hu eu
  go_enter Try.func32, Try.ntmps32
  go_wp2_with fail
  refine (hU _).mono ?_
  rintro e w1 ⟨rfl, hw1⟩
  have hf : Below w.heap.size w w1 := hb1.trans (hw1.mono hb1.size)
  have p1 : w1.cell? ⟨w.heap.size, 1, none⟩ = some (.int .i64 fr) := by rw [hw1.cell (p := ⟨w.heap.size, 1, none⟩) (by simp), cell_of_row _ _ _ _ _ _ (heap_alloc_new w _)]; rfl
  have p2 : w1.cell? ⟨w.heap.size, 2, none⟩ = some (.int .i64 cn) := by rw [hw1.cell (p := ⟨w.heap.size, 2, none⟩) (by simp), cell_of_row _ _ _ _ _ _ (heap_alloc_new w _)]; rfl
  have p3 : w1.cell? ⟨w.heap.size, 3, none⟩ = some (.int .i64 bg) := by rw [hw1.cell (p := ⟨w.heap.size, 3, none⟩) (by simp), cell_of_row _ _ _ _ _ _ (heap_alloc_new w _)]; rfl
  have p4 : w1.cell? ⟨w.heap.size, 4, none⟩ = some (.int .i64 en) := by rw [hw1.cell (p := ⟨w.heap.size, 4, none⟩) (by simp), cell_of_row _ _ _ _ _ _ (heap_alloc_new w _)]; rfl
  clear hU hw1 hb1
  cases u with
  | false =>
    have HV := hid (HBAD.out (by rw [HSH.out]; have := of_decide_eq_false HU.out.symm; exact decide_eq_false (by omega)))
    clear HBAD HOK HSH HU
    go_wp2
    go_ret
    exact ⟨ret_int HV.out, hf⟩
  | true =>
    have HW := hid (of_decide_eq_true HU.out.symm)
    clear HU
    by_cases e2 : fr < 0
    · have HV := hid (HBAD.out (by rw [HSH.out]; exact decide_eq_false (by omega)))
      clear HBAD HOK HSH
      go_wp2
      go_ret
      exact ⟨ret_int HV.out, hf⟩
    by_cases e3 : cn < 1
    · have HV := hid (HBAD.out (by rw [HSH.out]; exact decide_eq_false (by omega)))
      clear HBAD HOK HSH
      go_wp2
      go_ret
      exact ⟨ret_int HV.out, hf⟩
    have hwr : wrap64 (B - fr) = B - fr := by unfold wrap64; omega
    by_cases e5 : B - fr < cn
    · have HV := hid (HBAD.out (by rw [HSH.out]; exact decide_eq_false (by omega)))
      clear HBAD HOK HSH
      go_wp2
      go_ret
      exact ⟨ret_int HV.out, hf⟩
    by_cases e6 : bg < 0
    · have HV := hid (HBAD.out (by rw [HSH.out]; exact decide_eq_false (by omega)))
      clear HBAD HOK HSH
      go_wp2
      go_ret
      exact ⟨ret_int HV.out, hf⟩
    by_cases e7 : 14 < en
    · have HV := hid (HBAD.out (by rw [HSH.out]; exact decide_eq_false (by omega)))
      clear HBAD HOK HSH
      go_wp2
      go_ret
      exact ⟨ret_int HV.out, hf⟩
    by_cases e8 : en ≤ bg
    · have HV := hid (HBAD.out (by rw [HSH.out]; exact decide_eq_false (by omega)))
      clear HBAD HOK HSH
      go_wp2
      go_ret
      exact ⟨ret_int HV.out, hf⟩
    have HV := hid (HOK.out (by rw [HSH.out]; have := HW.out; exact decide_eq_true (by omega)))
    clear HBAD HOK HSH HW
    go_wp2
    go_ret
    exact ⟨ret_int HV.out, hf⟩

set_option maxRecDepth 100000 in
set_option maxHeartbeats 4000000 in
theorem checkForm_any (B : Int) (ss : List Sh) (n c : Nat) (a : Option Addr) (w : World) (hS : Shs w a ss) (hn : ss.length = n) (hz : n ≤ 9223372036854775807) (hF : ∀ i, i < n → (shAt ss i).fr ≤ 9223372036854775807) :
    Calls Try.prog 27 #[.agg #[.int .i64 B, .slice a n c]] w fun e w' => e = .returned (.int .i64 (if decide (1 ≤ B ∧ B ≤ 12) && decide (ss.length ≤ 100) && ss.all (shOk B) then 0 else 1)) ∧ Below w.heap.size w w' := by
  have HN := hid hn
  have hb1 : Below w.heap.size w (w.alloc (.cells #[.int .i64 B, .slice a n c] 24)) := (Below.refl _ w).alloc (Nat.le_refl _) _
  have q0 : (w.alloc (.cells #[.int .i64 B, .slice a n c] 24)).cell? ⟨w.heap.size, 0, none⟩ = some (.int .i64 B) := by rw [cell_of_row _ _ _ _ _ _ (heap_alloc_new w _)]; rfl
  have q1 : (w.alloc (.cells #[.int .i64 B, .slice a n c] 24)).cell? ⟨w.heap.size, 1, none⟩ = some (.slice a n c) := by rw [cell_of_row _ _ _ _ _ _ (heap_alloc_new w _)]; rfl
  have HBAD := hid (fun (h : (decide (1 ≤ B ∧ B ≤ 12) && decide (ss.length ≤ 100) && ss.all (shOk B)) = false) => (show (1 : Int) = if decide (1 ≤ B ∧ B ≤ 12) && decide (ss.length ≤ 100) && ss.all (shOk B) then 0 else 1 by rw [h]; rfl))
  have HOK := hid (fun (h : (decide (1 ≤ B ∧ B ≤ 12) && decide (ss.length ≤ 100) && ss.all (shOk B)) = true) => (show (0 : Int) = if decide (1 ≤ B ∧ B ≤ 12) && decide (ss.length ≤ 100) && ss.all (shOk B) then 0 else 1 by rw [h]; rfl))
  obtain ⟨R, eR⟩ : ∃ R : Int, R = if decide (1 ≤ B ∧ B ≤ 12) && decide (ss.length ≤ 100) && ss.all (shOk B) then 0 else 1 := ⟨_, rfl⟩
  rw [← eR] at HBAD HOK
  rw [← eR]
  clear eR
  by_cases hB1 : B < 1
  · have HV := hid (HBAD.out (by rw [decide_eq_false (by omega)]; rfl))
    clear HBAD HOK hn
    go_enter Try.func27, Try.ntmps27
    go_wp2_with fail
    go_ret
    exact ⟨ret_int HV.out, hb1⟩
  by_cases hB2 : 12 < B
  · have HV := hid (HBAD.out (by rw [decide_eq_false (by omega)]; rfl))
    clear HBAD HOK hn
    go_enter Try.func27, Try.ntmps27
    go_wp2_with fail
    go_ret
    exact ⟨ret_int HV.out, hb1⟩
  by_cases h100 : 100 < n
  · have HV := hid (HBAD.out (by rw [decide_eq_false (show ¬ ss.length ≤ 100 by omega)]; simp))
    have d1 : decide ((100 : Int) < (n : Int)) = true := decide_eq_true (by omega)
    clear HBAD HOK hn
    go_enter Try.func27, Try.ntmps27
    go_wp2_with fail
    go_ret
    exact ⟨ret_int HV.out, hb1⟩
  have HB := hid (show (decide (1 ≤ B ∧ B ≤ 12) && decide (ss.length ≤ 100)) = true by rw [decide_eq_true (by omega), decide_eq_true (by omega)]; rfl)
  have hB12 : 1 ≤ B ∧ B ≤ 12 := by omega
  have hn100 : n ≤ 100 := by omega
  have d1 : decide ((100 : Int) < (n : Int)) = false := decide_eq_false (by omega)
  clear hn hB1 hB2 h100 hz
  go_enter Try.func27, Try.ntmps27
  go_wp2_with fail
  generalize w.alloc (.cells #[.int .i64 B, .slice a n c] 24) = wb at *
  obtain ⟨gB, eB⟩ : ∃ gB, gB = w.heap.size := ⟨_, rfl⟩
  rw [← eB] at q0 q1
  rw [← eB]
  clear eB q1
  go_loopw [23] (fun q wr => ∃ k : Nat, k ≤ n ∧ q = .int .i64 k ∧ Hid (∀ i, i < k → shOk B (shAt ss i) = true) ∧ Below wb.heap.size wb wr) (fun q _ => n - (intOf q).toNat)
  case atStart => exact ⟨0, Nat.zero_le _, rfl, fun i hi => by omega, Below.refl _ _⟩
  case round =>
    obtain ⟨k, hk, rfl, HK, hbel⟩ := hrel
    have r0 := (hbel.cell (World.block_lt_of_cell? wb _ q0)).trans q0
    have hfin : Below w.heap.size w wr := hb1.trans (hbel.mono hb1.size)
    by_cases hlt : k < n
    · have hlt' : k < ss.length := by rw [HN.out]; exact hlt
      obtain ⟨b1, o1, rfl, hc1⟩ := (hS.below hfin).at (i := k) hlt'
      obtain ⟨c0, c1, c2, c3, c4⟩ := hc1 k hlt'
      have HBD := hid (fun (h : shOk B (shAt ss k) = false) => HBAD.out (by rw [HB.out, not_all_sh hlt' h]; rfl))
      have HNX := hid (fun (h : shOk B (shAt ss k) = true) => (fun i (hi : i < k + 1) => by
        by_cases e : i = k
        · subst e; exact h
        · exact HK.out i (by omega) : ∀ i, i < k + 1 → shOk B (shAt ss i) = true))
      have hfr := hF k hlt
      obtain ⟨s, es⟩ : ∃ s, s = shAt ss k := ⟨_, rfl⟩
      rw [← es] at c0 c1 c2 c3 c4 HBD HNX hfr
      clear es
      have hcs := fun wz => checkShare_any s B wz hB12 hfr
      obtain ⟨d, ed⟩ : ∃ d, d = shOk B s := ⟨_, rfl⟩
      simp only [← ed] at hcs HBD HNX
      clear ed
      have hal := (Below.refl wr.heap.size wr).alloc (Nat.le_refl _) (.cells #[.int .i64 s.who, .int .i64 s.fr, .int .i64 s.cnt, .int .i64 s.bg, .int .i64 s.en] 52)
      have p0 := (hal.cell (World.block_lt_of_cell? wr _ r0)).trans r0
      have hbel' := hbel.alloc hbel.size (.cells #[.int .i64 s.who, .int .i64 s.fr, .int .i64 s.cnt, .int .i64 s.bg, .int .i64 s.en] 52)
      have hfin' := hb1.trans (hbel'.mono hb1.size)
      clear hc1 hal hlt' hF
      go_wp2_with fail
      refine (hcs _).mono ?_
      rintro e w2 ⟨rfl, hw2⟩
      have hbel2 : Below wb.heap.size wb w2 := hbel'.trans (hw2.mono hbel'.size)
      have hfin2 := hb1.trans (hbel2.mono hb1.size)
      clear hcs hw2 hbel' hfin' p0 c0 c1 c2 c3 c4 r0 hbel hfin
      cases d with
      | false =>
        have HV := hid (HBD.out rfl)
        clear HBD HNX
        go_wp2_with fail
        go_ret
        exact ⟨ret_int HV.out, hfin2⟩
      | true =>
        clear HBD
        go_wp2_with fail
        go_roundw
        case rel => exact ⟨k + 1, by omega, by go_num, (by first | exact HNX.out rfl | exact HNX.out trivial), hbel2⟩
        case measure => simp [intOf]; omega
    · obtain rfl : k = n := by omega
      have HV := hid (HOK.out (by rw [HB.out, all_sh HN.out.symm HK.out]; rfl))
      go_wp2_with fail
      go_ret
      exact ⟨ret_int HV.out, hfin⟩
end Go.Proofs.Ytjpohfghibhkiad
