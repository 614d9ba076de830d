import Derived.Test.YtjpohfghibhkiadGridM
import Derived.Deep.CutRange
namespace Go.Proofs.Ytjpohfghibhkiad
open Go.ChangeShapes Go.WideShapes Go.ChangeAt Go.RowKit

/-! THE DOCUMENT'S Owner AND Pilot. -/

theorem ret_boolG {a b : Bool} (h : a = b) : Ending.returned (.bool a) = .returned (.bool b) := by rw [h]
theorem ret_pair {a b c d : Int} (h : a = b) (h' : c = d) : Ending.returned (.tuple #[.int .i64 a, .int .i64 c]) = .returned (.tuple #[.int .i64 b, .int .i64 d]) := by rw [h, h']

set_option maxRecDepth 100000 in
set_option maxHeartbeats 2000000 in
theorem owner_any (B : Int) (ss : List Sh) (n c : Nat) (a : Option Addr) (tone t : Int) (w : World) (hS : Shs w a ss) (hn : ss.length = n) (hB : B ≤ 12) (h100 : n ≤ 100) (hok : ∀ i, i < n → shOk B (shAt ss i) = true) :
    Calls Try.prog 20 #[.agg #[.int .i64 B, .slice a n c], .agg #[.int .i64 tone, .int .i64 t]] w fun e w' => e = .returned (.tuple #[.int .i64 (ownM ss tone t).1, .int .i64 (ownM ss tone t).2]) ∧ Below w.heap.size w w' := by
  have HN := hid hn
  have HO := hid (show ownM ss tone t = ownTo ss tone t n by unfold ownM; rw [hn])
  have HOK := hid hok
  have hb1 : Below w.heap.size w (w.alloc (.cells #[.int .i64 B, .slice a n c] 24)) := (Below.refl _ w).alloc (Nat.le_refl _) _
  have hb2 := hb1.alloc (by simp) (.cells #[.int .i64 tone, .int .i64 t] 39)
  have q0 : ((w.alloc (.cells #[.int .i64 B, .slice a n c] 24)).alloc (.cells #[.int .i64 tone, .int .i64 t] 39)).cell? ⟨w.heap.size, 1, none⟩ = some (.slice a n c) := by
    rw [((Below.refl _ (w.alloc (.cells #[.int .i64 B, .slice a n c] 24))).alloc (Nat.le_refl _) (.cells #[.int .i64 tone, .int .i64 t] 39)).cell (p := ⟨w.heap.size, 1, none⟩) (by simp), cell_of_row _ _ _ _ _ _ (heap_alloc_new w _)]
    rfl
  have q1 : ((w.alloc (.cells #[.int .i64 B, .slice a n c] 24)).alloc (.cells #[.int .i64 tone, .int .i64 t] 39)).cell? ⟨w.heap.size + 1, 0, none⟩ = some (.int .i64 tone) := by
    have := cell_of_row _ _ 0 _ _ _ (heap_alloc_new (w.alloc (.cells #[.int .i64 B, .slice a n c] 24)) (.cells #[.int .i64 tone, .int .i64 t] 39))
    rw [World.size_alloc] at this
    exact this
  have q2 : ((w.alloc (.cells #[.int .i64 B, .slice a n c] 24)).alloc (.cells #[.int .i64 tone, .int .i64 t] 39)).cell? ⟨w.heap.size + 1, 1, none⟩ = some (.int .i64 t) := by
    have := cell_of_row _ _ 1 _ _ _ (heap_alloc_new (w.alloc (.cells #[.int .i64 B, .slice a n c] 24)) (.cells #[.int .i64 tone, .int .i64 t] 39))
    rw [World.size_alloc] at this
    exact this
  clear hn hok hb1
  go_enter Try.func20, Try.ntmps20
  go_wp2
  generalize (w.alloc (.cells #[.int .i64 B, .slice a n c] 24)).alloc (.cells #[.int .i64 tone, .int .i64 t] 39) = wb at *
  obtain ⟨gB, eB⟩ : ∃ gB, gB = w.heap.size := ⟨_, rfl⟩
  obtain ⟨gP, eP⟩ : ∃ gP, gP = w.heap.size + 1 := ⟨_, rfl⟩
  rw [← eP] at q1 q2
  rw [← eP]
  rw [← eB] at q0
  rw [← eB]
  clear eB eP
  go_loopw [4, 5, 6] (fun v u q wr => ∃ k : Nat, k ≤ n ∧ q = .int .i64 k ∧ v = .int .i64 (ownTo ss tone t k).1 ∧ u = .int .i64 (ownTo ss tone t k).2 ∧ Below wb.heap.size wb wr) (fun _ _ q _ => n - (intOf q).toNat)
  case atStart => exact ⟨0, Nat.zero_le _, rfl, rfl, rfl, Below.refl _ _⟩
  case round =>
    obtain ⟨k, hk, rfl, rfl, rfl, hbel⟩ := hrel
    have r0 := (hbel.cell (World.block_lt_of_cell? wb _ q0)).trans q0
    have r1 := (hbel.cell (World.block_lt_of_cell? wb _ q1)).trans q1
    have r2 := (hbel.cell (World.block_lt_of_cell? wb _ q2)).trans q2
    by_cases hlt : k < n
    · obtain ⟨b1, o1, rfl, hc1⟩ := ((hS.below hb2).below hbel).at (i := k) (by rw [HN.out]; exact hlt)
      obtain ⟨c0, c1, c2, c3, c4⟩ := hc1 k (by rw [HN.out]; exact hlt)
      have hsh := of_decide_eq_true (HOK.out k hlt)
      have hle := ownTo_le ss tone t k
      have HST := hid (show ownTo ss tone t (k + 1) = if hasM (shAt ss k) tone t then ((shAt ss k).who, (ownTo ss tone t k).2 + 1) else ownTo ss tone t k from rfl)
      have HH := hid (show hasM (shAt ss k) tone t = decide ((shAt ss k).bg ≤ t ∧ t < (shAt ss k).en ∧ 12 * (shAt ss k).fr ≤ tone ∧ tone < 12 * ((shAt ss k).fr + (shAt ss k).cnt)) from rfl)
      obtain ⟨s, es⟩ : ∃ s, s = shAt ss k := ⟨_, rfl⟩
      rw [← es] at c0 c1 c2 c3 c4 hsh HST HH
      clear es
      obtain ⟨wh, fr, cn, bg, en⟩ := s
      simp only at c0 c1 c2 c3 c4 hsh HH
      obtain ⟨⟨pw, pn⟩, hp⟩ : ∃ q, ownTo ss tone t k = q := ⟨_, rfl⟩
      rw [hp] at hle HST
      rw [hp]
      simp only at hle HST
      dsimp only
      have hbel' := hbel.alloc hbel.size (.cells #[.int .i64 wh, .int .i64 fr, .int .i64 cn, .int .i64 bg, .int .i64 en] 52)
      have hal := (Below.refl wr.heap.size wr).alloc (Nat.le_refl _) (.cells #[.int .i64 wh, .int .i64 fr, .int .i64 cn, .int .i64 bg, .int .i64 en] 52)
      have p1 := (hal.cell (World.block_lt_of_cell? wr _ r1)).trans r1
      have p2 := (hal.cell (World.block_lt_of_cell? wr _ r2)).trans r2
      obtain ⟨-, -, d1, d2, d3, d4, d5, d6, d7⟩ := hsh
      have hf12 : 0 ≤ fr ∧ fr ≤ 12 := by omega
      have hc12 : 1 ≤ cn ∧ cn ≤ 12 := by omega
      clear hc1 hp d1 d2 d3 d4 d5 d6 d7
      by_cases e1 : bg ≤ t
      · by_cases e2 : t < en
        · by_cases e3 : 12 * fr ≤ tone
          · by_cases e4 : tone < 12 * (fr + cn)
            · have HV := hid (show ownTo ss tone t (k + 1) = (wh, pn + 1) by rw [HST.out, HH.out, decide_eq_true ⟨e1, e2, e3, e4⟩]; rfl)
              clear HST HH
              go_wp2
              go_roundw
              case rel => exact ⟨k + 1, by omega, by go_num, by rw [HV.out], by rw [HV.out]; go_num, hbel'⟩
              case measure => simp [intOf]; omega
            · have HV := hid (show ownTo ss tone t (k + 1) = (pw, pn) by rw [HST.out, HH.out, decide_eq_false (fun h => e4 h.2.2.2)]; rfl)
              clear HST HH
              go_wp2
              go_roundw
              case rel => exact ⟨k + 1, by omega, by go_num, by rw [HV.out], by rw [HV.out], hbel'⟩
              case measure => simp [intOf]; omega
          · have HV := hid (show ownTo ss tone t (k + 1) = (pw, pn) by rw [HST.out, HH.out, decide_eq_false (fun h => e3 h.2.2.1)]; rfl)
            clear HST HH
            go_wp2
            go_roundw
            case rel => exact ⟨k + 1, by omega, by go_num, by rw [HV.out], by rw [HV.out], hbel'⟩
            case measure => simp [intOf]; omega
        · have HV := hid (show ownTo ss tone t (k + 1) = (pw, pn) by rw [HST.out, HH.out, decide_eq_false (fun h => e2 h.2.1)]; rfl)
          clear HST HH
          go_wp2
          go_roundw
          case rel => exact ⟨k + 1, by omega, by go_num, by rw [HV.out], by rw [HV.out], hbel'⟩
          case measure => simp [intOf]; omega
      · have HV := hid (show ownTo ss tone t (k + 1) = (pw, pn) by rw [HST.out, HH.out, decide_eq_false (fun h => e1 h.1)]; rfl)
        clear HST HH
        go_wp2
        go_roundw
        case rel => exact ⟨k + 1, by omega, by go_num, by rw [HV.out], by rw [HV.out], hbel'⟩
        case measure => simp [intOf]; omega
    · obtain rfl : k = n := by omega
      go_wp2
      go_ret2
      exact ⟨ret_pair (by rw [HO.out]) (by rw [HO.out]), hb2.trans (hbel.mono hb2.size)⟩

theorem pilot_any (tone t : Int) (w : World) (h0 : 0 ≤ tone ∧ tone ≤ 144) :
    Calls Try.prog 26 #[.agg #[.int .i64 tone, .int .i64 t]] w fun e w' => e = .returned (.bool (pilotM tone t)) ∧ Below w.heap.size w w' := by
  have hb1 : Below w.heap.size w (w.alloc (.cells #[.int .i64 tone, .int .i64 t] 39)) := (Below.refl _ w).alloc (Nat.le_refl _) _
  have hr : tone.tmod 3 = tone % 3 := Int.tmod_eq_emod_of_nonneg h0.1
  have HP := hid (show pilotM tone t = decide (tone % 3 = 0 ∧ (t = 3 ∨ t = 10)) from rfl)
  obtain ⟨r, er⟩ : ∃ r, r = tone % 3 := ⟨_, rfl⟩
  rw [← er] at hr HP
  have hr' := er.symm
  clear er
  by_cases e0 : r = 0
  · have q0 : (r == 0) = true := by simpa using e0
    by_cases e1 : t = 3
    · have HV := hid (show true = pilotM tone t by rw [HP.out, decide_eq_true ⟨e0, Or.inl e1⟩])
      have q1 : (t == 3) = true := by simpa using e1
      clear HP e0 e1
      go_enter Try.func26, Try.ntmps26
      go_wp2
      go_ret
      exact ⟨ret_boolG HV.out, hb1⟩
    · have q1 : (t == 3) = false := by simpa using e1
      by_cases e2 : t = 10
      · have HV := hid (show true = pilotM tone t by rw [HP.out, decide_eq_true ⟨e0, Or.inr e2⟩])
        have q2 : (t == 10) = true := by simpa using e2
        clear HP e0 e1 e2
        go_enter Try.func26, Try.ntmps26
        go_wp2
        go_ret
        exact ⟨ret_boolG HV.out, hb1⟩
      · have HV := hid (show false = pilotM tone t by rw [HP.out, decide_eq_false (by omega)])
        have q2 : (t == 10) = false := by simpa using e2
        clear HP e0 e1 e2
        go_enter Try.func26, Try.ntmps26
        go_wp2
        go_ret
        exact ⟨ret_boolG HV.out, hb1⟩
  · have q0 : (r == 0) = false := by simpa using e0
    have HV := hid (show false = pilotM tone t by rw [HP.out, decide_eq_false (by omega)])
    clear HP e0
    go_enter Try.func26, Try.ntmps26
    go_wp2
    go_ret
    exact ⟨ret_boolG HV.out, hb1⟩
end Go.Proofs.Ytjpohfghibhkiad
