import Derived.Test.YtjpohfghibhkiadGridR
namespace Go.Proofs.Ytjpohfghibhkiad
open Go.ChangeShapes Go.WideShapes Go.ChangeAt Go.RowKit

/-! WHAT THE LAW ASKS OF WHAT IS TAKEN. -/

def rowAt (rs : List (List (Int × Int))) (i : Nat) : List (Int × Int) := rs.getD i []
def RowsP (w : World) (a : Option Addr) (rs : List (List (Int × Int))) : Prop := rs ≠ [] → ∃ b off, a = some ⟨b, off, none⟩ ∧ ∀ i, i < rs.length → ∃ ra rc, w.cell? ⟨b, off + i, none⟩ = some (.slice ra (rowAt rs i).length rc) ∧ Pts w ra (rowAt rs i)
theorem RowsP.at {w : World} {a : Option Addr} {rs : List (List (Int × Int))} (h : RowsP w a rs) {i : Nat} (hi : i < rs.length) : ∃ b off, a = some ⟨b, off, none⟩ ∧ ∀ i, i < rs.length → ∃ ra rc, w.cell? ⟨b, off + i, none⟩ = some (.slice ra (rowAt rs i).length rc) ∧ Pts w ra (rowAt rs i) :=
  h (by rintro rfl; simp at hi)
theorem RowsP.below {w w' : World} {a : Option Addr} {rs : List (List (Int × Int))} (h : RowsP w a rs) (hb : Below w.heap.size w w') : RowsP w' a rs := by
  intro hne
  obtain ⟨b, off, rfl, hc⟩ := h hne
  refine ⟨b, off, rfl, fun i hi => ?_⟩
  obtain ⟨ra, rc, h1, h2⟩ := hc i hi
  exact ⟨ra, rc, (hb.cell (World.block_lt_of_cell? w _ h1)).trans h1, h2.below hb⟩
def rowsTo (N : Nat) (rs : List (List (Int × Int))) : Nat → Bool
  | 0 => decide (rs.length = 14)
  | k + 1 => rowsTo N rs k && decide ((rowAt rs k).length = N)
def rowsOk (N : Nat) (rs : List (List (Int × Int))) : Bool := rowsTo N rs rs.length
theorem rowsTo_row {N : Nat} {rs : List (List (Int × Int))} : ∀ {k : Nat}, rowsTo N rs k = true → rs.length = 14 ∧ ∀ i, i < k → (rowAt rs i).length = N
  | 0, h => ⟨of_decide_eq_true h, fun i hi => by omega⟩
  | k + 1, h => by
    rw [rowsTo, Bool.and_eq_true] at h
    obtain ⟨h1, h2⟩ := rowsTo_row h.1
    refine ⟨h1, fun i hi => ?_⟩
    by_cases e : i = k
    · subst e; exact of_decide_eq_true h.2
    · exact h2 i (by omega)
def takeM (N : Nat) (ss : List Sh) (rs : List (List (Int × Int))) (who : Int) : List (Int × Int) := (placesOfM N ss who).map fun p => (rowAt rs p.2.toNat).getD p.1.toNat (0, 0)
theorem places_in {N : Nat} {ss : List Sh} {who : Int} {p : Int × Int} (h : p ∈ placesOfM N ss who) : ∃ tone t : Nat, p = ((tone : Int), (t : Int)) ∧ tone < N ∧ t < 14 := by
  unfold placesOfM placesTo at h
  rw [List.mem_flatMap] at h
  obtain ⟨t, ht, hp⟩ := h
  unfold rowOf at hp
  rw [List.mem_map] at hp
  obtain ⟨tone, h1, rfl⟩ := hp
  exact ⟨tone, t, rfl, List.mem_range.1 (List.mem_filter.1 h1).1, List.mem_range.1 ht⟩
theorem getD_memG {α : Type} {l : List α} {i : Nat} (d : α) (h : i < l.length) : l.getD i d ∈ l := by
  have e : l.getD i d = l[i] := by simp [List.getD, h]
  rw [e]
  exact List.getElem_mem h

set_option maxRecDepth 100000 in
set_option maxHeartbeats 4000000 in
theorem taken_any (B who E : Int) (m N : Nat) (ss : List Sh) (n c : Nat) (a : Option Addr) (rs : List (List (Int × Int))) (ar : Option Addr) (nr cr : Nat) (al : Option Addr) (nl cl : Nat) (w : World) (hS : Shs w a ss) (hn : ss.length = n) (hBm : B = (m : Int)) (hm : m ≤ 12) (hN : N = 12 * m) (h100 : n ≤ 100) (hok : ∀ i, i < n → shOk B (shAt ss i) = true)
    (hR : RowsP w ar rs) (hnr : rs.length = nr) (hzr : nr ≤ 9223372036854775807) (hrz : ∀ i, i < nr → (rowAt rs i).length ≤ 9223372036854775807) (hnl : nl ≤ 9223372036854775807) (hBad : rowsOk N rs = false → E = 3 ∧ nl = 0) (hGood : rowsOk N rs = true → E = 0 ∧ nl = (placesOfM N ss who).length ∧ Pts w al (takeM N ss rs who)) :
    Calls Try.prog 13 #[.agg #[.int .i64 B, .slice a n c], .slice ar nr cr, .int .i64 who, .slice al nl cl, .int .i64 E] w fun e w' => e = .returned (.bool true) ∧ Below w.heap.size w w' := by
  have hpo := fun (wz : World) (hbz : Below w.heap.size w wz) => placesof_any B who m N ss n c a wz (hS.below hbz) hn hBm hm hN h100 hok
  have h144 : N ≤ 144 := by omega
  have hB12 : (12 : Int) * B = (N : Int) := by rw [hBm, hN]; omega
  have hBb : -12 ≤ B ∧ B ≤ 12 := by omega
  have hwB : IntKind.i64.wrap (12 * B) = 12 * B := by rw [IntKind.wrap_i64]; omega
  have HNR := hid hnr
  have HRZ := hid hrz
  have HBAD := hid hBad
  have HGOOD := hid hGood
  have hmix : Try.prog.follows .mixedOrders = true := by kernel_rfl
  have hb1 : Below w.heap.size w (w.alloc (.cells #[.int .i64 B, .slice a n c] 24)) := (Below.refl _ w).alloc (Nat.le_refl _) _
  have q0 : (w.alloc (.cells #[.int .i64 B, .slice a n c] 24)).cell? ⟨w.heap.size, 0, none⟩ = some (.int .i64 B) := by rw [cell_of_row _ _ _ _ _ _ (heap_alloc_new w _)]; rfl
  have q1 : (w.alloc (.cells #[.int .i64 B, .slice a n c] 24)).cell? ⟨w.heap.size, 1, none⟩ = some (.slice a n c) := by rw [cell_of_row _ _ _ _ _ _ (heap_alloc_new w _)]; rfl
  have HF0 := hid (show ((nr : Int) == 14) = rowsTo N rs 0 by
    unfold rowsTo
    rw [hnr]
    by_cases e : nr = 14
    · subst e; rfl
    · rw [decide_eq_false e]; exact beq_eq_false_iff_ne.2 (by omega))
  clear hn hBm hN hok hnr hrz hBad hGood
  go_enter Try.func13, Try.ntmps13
  go_wp2
  generalize w.alloc (.cells #[.int .i64 B, .slice a n c] 24) = wb at *
  obtain ⟨gB, eB⟩ : ∃ gB, gB = w.heap.size := ⟨_, rfl⟩
  rw [← eB] at q0 q1
  rw [← eB]
  clear eB
  go_loopw [11, 12] (fun f q wr => ∃ k : Nat, k ≤ nr ∧ q = .int .i64 k ∧ f = .bool (rowsTo N rs k) ∧ Below wb.heap.size wb wr) (fun _ q _ => nr - (intOf q).toNat)
  case atStart => exact ⟨0, Nat.zero_le _, rfl, by rw [HF0.out], Below.refl _ _⟩
  case round =>
    obtain ⟨k, hk, rfl, rfl, hbel⟩ := hrel
    have hfin : Below w.heap.size w wr := hb1.trans (hbel.mono hb1.size)
    have r0 := (hbel.cell (World.block_lt_of_cell? wb _ q0)).trans q0
    by_cases hlt : k < nr
    · obtain ⟨b1, o1, rfl, hc1⟩ := (hR.below hfin).at (i := k) (by rw [HNR.out]; exact hlt)
      obtain ⟨ra, rc, g1, -⟩ := hc1 k (by rw [HNR.out]; exact hlt)
      have hLb := HRZ.out k hlt
      have HST := hid (show rowsTo N rs (k + 1) = (rowsTo N rs k && decide ((rowAt rs k).length = N)) from rfl)
      obtain ⟨L, eL⟩ : ∃ L, L = (rowAt rs k).length := ⟨_, rfl⟩
      rw [← eL] at g1 hLb HST
      obtain ⟨f, ef⟩ : ∃ f, rowsTo N rs k = f := ⟨_, rfl⟩
      rw [ef] at HST
      rw [ef]
      have HD := hid (show ((L : Int) == 12 * B) = decide (L = N) by
        rw [hB12]
        by_cases e : L = N
        · subst e; simp
        · rw [decide_eq_false e]; exact beq_eq_false_iff_ne.2 (by omega))
      clear hc1 eL ef hpo
      go_upto_region 5 with fail
      have hc : ∀ (wc : World), Below wr.heap.size wr wc → ∀ q v, wr.cell? q = some v → wc.cell? q = some v := fun wc hbc q v h => (hbc.cell (World.block_lt_of_cell? wr _ h)).trans h
      cases f with
      | true =>
        refine wp_mono (region_grow (Q := fun e a' w' => e = .normal ∧ a' = { tmps := (_ : List Value).toArray, defers := [] } ∧ Below wr.heap.size wr w') 13 12 11 [(24, .bool true), (25, .bool true), (26, .slice (some ⟨b1, o1, none⟩) nr cr), (27, .int .i64 k), (28, .pointer (some ⟨b1, o1 + k, none⟩)), (29, .slice ra L rc), (30, .int .i64 L), (31, .pointer (some ⟨gB, 0, none⟩)), (32, .int .i64 B), (33, .int .i64 (12 * B)), (34, .bool ((L : Int) == 12 * B))] 35 []
            [[11], [24], [1, 25], [12, 25], [26, 27, 25], [28, 25], [29, 25], [5, 25], [31, 25], [32, 25], [30, 33, 25], [25, 34]] [1, 11, 4, 4, 5, 6, 10, 8, 9, 10, 11, 12] (fun x _ => x = .bool ((L : Int) == 12 * B)) wr hmix rfl (by decide) rfl rfl (show ([24, 25, 26, 27, 28, 29, 30, 31, 32, 33, 34, 35] : List Nat).Nodup by decide) (by kernel_rfl) (by kernel_rfl) (by kernel_rfl) (by kernel_rfl) (by kernel_rfl) (by kernel_rfl) (fun _ _ _ h _ => h) (fun i' hi' u0 ac wc hbc hr Q K hK1 hK => by
            have h13 : i' = 0 ∨ i' = 1 ∨ i' = 2 ∨ i' = 3 ∨ i' = 4 ∨ i' = 5 ∨ i' = 6 ∨ i' = 7 ∨ i' = 8 ∨ i' = 9 ∨ i' = 10 ∨ i' = 11 := by omega
            rcases h13 with rfl | rfl | rfl | rfl | rfl | rfl | rfl | rfl | rfl | rfl | rfl | rfl
            · exact op_value rfl rfl (run_moveQ wc rfl (hr 11 (by decide))) (hK (by decide) wc (grownG wc))
            · exact op_value rfl rfl (run_moveQ wc rfl (hr 24 (by decide))) (hK (by decide) wc (grownG wc))
            · exact op_valueG rfl rfl rfl rfl (hr 25 (by decide)) (run_moveQ wc rfl (hr 1 (by decide))) (hK (by decide) wc (grownG wc))
            · exact op_valueG rfl rfl rfl rfl (hr 25 (by decide)) (run_moveQ wc rfl (hr 12 (by decide))) (hK (by decide) wc (grownG wc))
            · exact op_valueG rfl rfl rfl rfl (hr 25 (by decide)) (run_idxRw wc rfl (hr 26 (by decide)) (hr 27 (by decide)) hlt) (hK (by decide) wc (grownG wc))
            · exact op_valueG rfl rfl rfl rfl (hr 25 (by decide)) (run_loadRw wc rfl (hr 28 (by decide)) (hc wc hbc _ _ g1)) (hK (by decide) wc (grownG wc))
            · exact op_valueG rfl rfl rfl rfl (hr 25 (by decide)) (run_lenPt wc rfl (hr 29 (by decide))) (hK (by decide) wc (grownG wc))
            · exact op_valueG rfl rfl rfl rfl (hr 25 (by decide)) (run_fldG0 wc rfl (hr 5 (by decide))) (hK (by decide) wc (grownG wc))
            · exact op_valueG rfl rfl rfl rfl (hr 25 (by decide)) (run_loadI wc rfl (hr 31 (by decide)) (hc wc hbc _ _ r0)) (hK (by decide) wc (grownG wc))
            · exact op_valueG rfl rfl rfl rfl (hr 25 (by decide)) (run_mulG wc rfl rfl (hr 32 (by decide)) hwB) (hK (by decide) wc (grownG wc))
            · exact op_valueG rfl rfl rfl rfl (hr 25 (by decide)) (run_eqlI wc rfl (hr 30 (by decide)) (hr 33 (by decide))) (hK (by decide) wc (grownG wc))
            · exact op_value rfl rfl (run_pickQ wc rfl (hr 25 (by decide)) (hr 34 (by decide))) (hK1 rfl _ wc (grownG wc) rfl))
            (fun u0 wc hbc hu0 => by
              subst hu0
              exact op_value rfl rfl (run_assignG (v := .bool ((L : Int) == 12 * B)) wc rfl (eval_setAll 35 (show ([24, 25, 26, 27, 28, 29, 30, 31, 32, 33, 34, 35] : List Nat).Nodup by decide) (by kernel_rfl))) ⟨rfl, put_list _ 11 _, hbc⟩)) ?_
        rintro e a' w' ⟨rfl, rfl, hbw'⟩
        have hbel' : Below wb.heap.size wb w' := hbel.trans (hbw'.mono hbel.size)
        have HV := hid (show ((L : Int) == 12 * B) = rowsTo N rs (k + 1) by rw [HST.out, HD.out]; rfl)
        obtain ⟨d, ed⟩ : ∃ d, d = ((L : Int) == 12 * B) := ⟨_, rfl⟩
        rw [← ed] at HV
        rw [← ed]
        clear hbw' hbel g1 r0 HD HST hc ed
        dsimp only [setAll, List.set, List.append_nil, List.cons_append, List.nil_append]
        go_wp2
        go_roundw
        case rel => exact ⟨k + 1, by omega, by go_num, by rw [HV.out], hbel'⟩
        case measure => simp [intOf]; omega
      | false =>
        refine wp_mono (region_grow (Q := fun e a' w' => e = .normal ∧ a' = { tmps := (_ : List Value).toArray, defers := [] } ∧ Below wr.heap.size wr w') 13 12 11 [(24, .bool false), (25, .bool false), (26, undef), (27, undef), (28, undef), (29, undef), (30, undef), (31, undef), (32, undef), (33, undef), (34, undef)] 35 []
            [[11], [24], [25], [25], [25], [25], [25], [25], [25], [25], [25], [25]] [1, 11, 4, 4, 5, 6, 10, 8, 9, 10, 11, 12] (fun x _ => x = .bool false) wr hmix rfl (by decide) rfl rfl (show ([24, 25, 26, 27, 28, 29, 30, 31, 32, 33, 34, 35] : List Nat).Nodup by decide) (by kernel_rfl) (by kernel_rfl) (by kernel_rfl) (by kernel_rfl) (by kernel_rfl) (by kernel_rfl) (fun _ _ _ h _ => h) (fun i' hi' u0 ac wc hbc hr Q K hK1 hK => by
            have h13 : i' = 0 ∨ i' = 1 ∨ i' = 2 ∨ i' = 3 ∨ i' = 4 ∨ i' = 5 ∨ i' = 6 ∨ i' = 7 ∨ i' = 8 ∨ i' = 9 ∨ i' = 10 ∨ i' = 11 := by omega
            rcases h13 with rfl | rfl | rfl | rfl | rfl | rfl | rfl | rfl | rfl | rfl | rfl | rfl
            · exact op_value rfl rfl (run_moveQ wc rfl (hr 11 (by decide))) (hK (by decide) wc (grownG wc))
            · exact op_value rfl rfl (run_moveQ wc rfl (hr 24 (by decide))) (hK (by decide) wc (grownG wc))
            · exact op_skipG rfl rfl rfl rfl (hr 25 (by decide)) (hK (by decide) wc (grownG wc))
            · exact op_skipG rfl rfl rfl rfl (hr 25 (by decide)) (hK (by decide) wc (grownG wc))
            · exact op_skipG rfl rfl rfl rfl (hr 25 (by decide)) (hK (by decide) wc (grownG wc))
            · exact op_skipG rfl rfl rfl rfl (hr 25 (by decide)) (hK (by decide) wc (grownG wc))
            · exact op_skipG rfl rfl rfl rfl (hr 25 (by decide)) (hK (by decide) wc (grownG wc))
            · exact op_skipG rfl rfl rfl rfl (hr 25 (by decide)) (hK (by decide) wc (grownG wc))
            · exact op_skipG rfl rfl rfl rfl (hr 25 (by decide)) (hK (by decide) wc (grownG wc))
            · exact op_skipG rfl rfl rfl rfl (hr 25 (by decide)) (hK (by decide) wc (grownG wc))
            · exact op_skipG rfl rfl rfl rfl (hr 25 (by decide)) (hK (by decide) wc (grownG wc))
            · exact op_value rfl rfl (run_pickQ wc rfl (hr 25 (by decide)) rfl) (hK1 rfl _ wc (grownG wc) rfl))
            (fun u0 wc hbc hu0 => by
              subst hu0
              exact op_value rfl rfl (run_assignG (v := .bool false) wc rfl (eval_setAll 35 (show ([24, 25, 26, 27, 28, 29, 30, 31, 32, 33, 34, 35] : List Nat).Nodup by decide) (by kernel_rfl))) ⟨rfl, put_list _ 11 _, hbc⟩)) ?_
        rintro e a' w' ⟨rfl, rfl, hbw'⟩
        have hbel' : Below wb.heap.size wb w' := hbel.trans (hbw'.mono hbel.size)
        have HV := hid (show false = rowsTo N rs (k + 1) by rw [HST.out]; rfl)
        clear hbw' hbel g1 r0 HD HST hc
        dsimp only [setAll, List.set, List.append_nil, List.cons_append, List.nil_append]
        go_wp2
        go_roundw
        case rel => exact ⟨k + 1, by omega, by go_num, by rw [← HV.out], hbel'⟩
        case measure => simp [intOf]; omega
    · obtain rfl : k = nr := by omega
      have HRO := hid (show rowsTo N rs k = rowsOk N rs by unfold rowsOk; rw [HNR.out])
      cases hro : rowsTo N rs k with
      | false =>
        obtain ⟨rfl, rfl⟩ := HBAD.out (by rw [← HRO.out]; exact hro)
        clear hro hpo
        go_wp2
        go_ret
        exact ⟨rfl, hfin⟩
      | true =>
        obtain ⟨rfl, hnl', hpl⟩ := HGOOD.out (by rw [← HRO.out]; exact hro)
        obtain ⟨h14, hrow⟩ := rowsTo_row hro
        have r1 := (hbel.cell (World.block_lt_of_cell? wb _ q1)).trans q1
        have hpoW := hpo wr hfin
        have hplW := hpl.below hfin
        have hRW := hR.below hfin
        have HIN := hid (fun i (hi : i < (placesOfM N ss who).length) => places_in (getD_memG (0, 0) hi))
        have HTK := hid (fun i (hi : i < (placesOfM N ss who).length) => (show (takeM N ss rs who).getD i (0, 0) = (rowAt rs ((placesOfM N ss who).getD i (0, 0)).2.toNat).getD ((placesOfM N ss who).getD i (0, 0)).1.toNat (0, 0) by simp [takeM, List.getD, hi]))
        have HTL := hid (show (takeM N ss rs who).length = (placesOfM N ss who).length by simp [takeM])
        have hPB := placesTo_length N ss who 14
        have HP4 := hid (show (placesOfM N ss who).length ≤ 2016 by unfold placesOfM; have : 14 * N ≤ 14 * 144 := Nat.mul_le_mul_left _ h144; omega)
        obtain ⟨PL, ePL⟩ : ∃ PL, PL = placesOfM N ss who := ⟨_, rfl⟩
        rw [← ePL] at hpoW hnl' HIN HTK HTL HP4
        clear ePL hpo HBAD HGOOD HRO hPB hpl hR
        have HNL := hid hnl'
        have H14 := hid (show k = 14 by rw [← HNR.out]; exact h14)
        have HROW := hid hrow
        have hnl20 : nl ≤ 2016 := by rw [hnl']; exact HP4.out
        clear hnl' h14 hrow hro
        go_wp2_with fail
        refine hpoW.mono ?_
        rintro e w5 ⟨vq, rfl, hOq, hb5⟩
        obtain ⟨aq, cq, rfl, -, -⟩ := hOq.shape
        rw [← HNL.out]
        have hplW5 := hplW.below hb5
        have hRW5 := hRW.below hb5
        have hfin5 := bthen hfin hb5
        clear hpoW hplW hRW hb5
        go_wp2
        go_loopw [14] (fun q wz => ∃ i : Nat, i ≤ nl ∧ q = .int .i64 i ∧ Below w5.heap.size w5 wz) (fun q _ => nl - (intOf q).toNat)
        case atStart => exact ⟨0, Nat.zero_le _, rfl, Below.refl _ _⟩
        case round =>
          clear hbel hfin r0 r1 hlt hk
          obtain ⟨i, hi, rfl, hbz⟩ := hrel
          by_cases hlt2 : i < nl
          · have hiP : i < PL.length := by rw [← HNL.out]; exact hlt2
            obtain ⟨tone, t, ep, htone, ht14⟩ := HIN.out i hiP
            have htk : t < k := by rw [H14.out]; exact ht14
            have htr : t < rs.length := by rw [HNR.out]; exact htk
            obtain ⟨gq, rfl, hq1, hq2⟩ := (hOq.below hbz).cells hiP
            rw [ep] at hq1 hq2
            have gq1 : wr.cell? ⟨gq, i * 2, none⟩ = some (.int .i64 tone) := hq1
            have gq2 : wr.cell? ⟨gq, i * 2 + 1, none⟩ = some (.int .i64 t) := hq2
            have hTi : i < (takeM N ss rs who).length := by rw [HTL.out]; exact hiP
            obtain ⟨gl, ol, rfl, hcl⟩ := (hplW5.below hbz).at hTi
            have gl1 := hcl i hTi
            rw [HTK.out i hiP, ep] at gl1
            simp only [Int.toNat_natCast] at gl1
            obtain ⟨gr, or, rfl, hcr⟩ := (hRW5.below hbz).at htr
            obtain ⟨ra, rc, gr1, hpr⟩ := hcr t htr
            have hrl : (rowAt rs t).length = N := HROW.out t htk
            obtain ⟨gw, ow, rfl, hcw⟩ := hpr.at (i := tone) (by rw [hrl]; exact htone)
            have gw1 := hcw tone (by rw [hrl]; exact htone)
            rw [hrl] at gr1
            generalize (rowAt rs t).getD tone (0, 0) = x at *
            clear hq1 hq2 hcl hcr hcw hpr hiP hTi htr ep hrl
            go_upto_region 14 with fail
            have hc : ∀ (wc : World), Below wr.heap.size wr wc → ∀ q v, wr.cell? q = some v → wc.cell? q = some v := fun wc hbc q v h => (hbc.cell (World.block_lt_of_cell? wr _ h)).trans h
            refine wp_mono (region_known3 20 [(63, .slice (some ⟨gl, ol, none⟩) nl cl), (64, .int .i64 i), (65, .pointer (some ⟨gl, ol + i * 2, none⟩)), (66, .agg #[.int .i64 x.1, .int .i64 x.2]), (67, .slice (some ⟨gr, or, none⟩) k cr), (68, .slice (some ⟨gq, 0, none⟩) nl cq), (69, .int .i64 i), (70, .pointer (some ⟨gq, 0 + i * 2, none⟩)), (71, .pointer (some ⟨gq, 0 + i * 2 + 1, none⟩)), (72, .int .i64 t), (73, .pointer (some ⟨gr, or + t, none⟩)), (74, .slice (some ⟨gw, ow, none⟩) N rc), (75, .slice (some ⟨gq, 0, none⟩) nl cq), (76, .int .i64 i), (77, .pointer (some ⟨gq, 0 + i * 2, none⟩)), (78, .pointer (some ⟨gq, 0 + i * 2, none⟩)), (79, .int .i64 tone), (80, .pointer (some ⟨gw, ow + tone * 2, none⟩)), (81, .agg #[.int .i64 x.1, .int .i64 x.2]), (82, .bool false)]
                [[3], [14], [63, 64], [65], [1], [13], [14], [68, 69], [70], [71], [67, 72], [73], [13], [14], [75, 76], [77], [78], [74, 79], [80], [66, 81]] wr hmix rfl rfl (show ([63, 64, 65, 66, 67, 68, 69, 70, 71, 72, 73, 74, 75, 76, 77, 78, 79, 80, 81, 82] : List Nat).Nodup by decide) (by kernel_rfl) (by kernel_rfl) (by kernel_rfl) (by kernel_rfl) (fun i' hi' ac wc hbc hr Q K hK => by
                have h20 : i' = 0 ∨ i' = 1 ∨ i' = 2 ∨ i' = 3 ∨ i' = 4 ∨ i' = 5 ∨ i' = 6 ∨ i' = 7 ∨ i' = 8 ∨ i' = 9 ∨ i' = 10 ∨ i' = 11 ∨ i' = 12 ∨ i' = 13 ∨ i' = 14 ∨ i' = 15 ∨ i' = 16 ∨ i' = 17 ∨ i' = 18 ∨ i' = 19 := by omega
                rcases h20 with rfl | rfl | rfl | rfl | rfl | rfl | rfl | rfl | rfl | rfl | rfl | rfl | rfl | rfl | rfl | rfl | rfl | rfl | rfl | rfl
                · exact op_value rfl rfl (run_moveQ wc rfl (hr 3 (by decide))) (hK wc hbc)
                · exact op_value rfl rfl (run_moveQ wc rfl (hr 14 (by decide))) (hK wc hbc)
                · exact op_value rfl rfl (run_idxPt wc rfl (hr 63 (by decide)) (hr 64 (by decide)) hlt2) (hK wc hbc)
                · exact op_value rfl rfl (run_loadPt wc rfl (hr 65 (by decide)) ⟨hc wc hbc _ _ gl1.1, hc wc hbc _ _ gl1.2⟩) (hK wc hbc)
                · exact op_value rfl rfl (run_moveQ wc rfl (hr 1 (by decide))) (hK wc hbc)
                · exact op_value rfl rfl (run_moveQ wc rfl (hr 13 (by decide))) (hK wc hbc)
                · exact op_value rfl rfl (run_moveQ wc rfl (hr 14 (by decide))) (hK wc hbc)
                · exact op_value rfl rfl (run_idxPl wc rfl (hr 68 (by decide)) (hr 69 (by decide)) hlt2) (hK wc hbc)
                · exact op_value rfl rfl (run_fldPl1 wc rfl (hr 70 (by decide))) (hK wc hbc)
                · exact op_value rfl rfl (run_loadI wc rfl (hr 71 (by decide)) (by rw [Nat.zero_add]; exact hc wc hbc _ _ gq2)) (hK wc hbc)
                · exact op_value rfl rfl (run_idxRw wc rfl (hr 67 (by decide)) (hr 72 (by decide)) htk) (hK wc hbc)
                · exact op_value rfl rfl (run_loadRw wc rfl (hr 73 (by decide)) (hc wc hbc _ _ gr1)) (hK wc hbc)
                · exact op_value rfl rfl (run_moveQ wc rfl (hr 13 (by decide))) (hK wc hbc)
                · exact op_value rfl rfl (run_moveQ wc rfl (hr 14 (by decide))) (hK wc hbc)
                · exact op_value rfl rfl (run_idxPl wc rfl (hr 75 (by decide)) (hr 76 (by decide)) hlt2) (hK wc hbc)
                · exact op_value rfl rfl (run_fldPl0 wc rfl (hr 77 (by decide))) (hK wc hbc)
                · exact op_value rfl rfl (run_loadI wc rfl (hr 78 (by decide)) (by rw [Nat.zero_add]; exact hc wc hbc _ _ gq1)) (hK wc hbc)
                · exact op_value rfl rfl (run_idxPt wc rfl (hr 74 (by decide)) (hr 79 (by decide)) htone) (hK wc hbc)
                · exact op_value rfl rfl (run_loadPt wc rfl (hr 80 (by decide)) ⟨hc wc hbc _ _ gw1.1, hc wc hbc _ _ gw1.2⟩) (hK wc hbc)
                · exact op_value rfl rfl (run_neqPt wc rfl (hr 66 (by decide)) (hr 81 (by decide))) (hK wc hbc))) ?_
            rintro e a' w' ⟨rfl, rfl, hbw'⟩
            have hbz' : Below w5.heap.size w5 w' := hbz.trans (hbw'.mono hbz.size)
            dsimp only [setAll, List.set]
            clear hbw' hbz gq1 gq2 gl1 gr1 gw1 hc
            go_wp2
            go_roundw
            case rel => exact ⟨i + 1, by omega, by go_num, hbz'⟩
            case measure => simp [intOf]; omega
          · go_wp2
            go_ret
            exact ⟨rfl, bthen hfin5 hbz⟩
end Go.Proofs.Ytjpohfghibhkiad
