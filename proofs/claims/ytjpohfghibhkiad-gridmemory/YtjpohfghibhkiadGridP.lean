import Derived.Test.YtjpohfghibhkiadGridO
import Derived.Test.YtjpohfghibhkiadPairs
namespace Go.Proofs.Ytjpohfghibhkiad
open Go.ChangeShapes Go.WideShapes Go.ChangeAt Go.RowKit

/-! THE DOCUMENT'S PlacesOf. -/

theorem Try.infoPl : (Try.prog.info? 39).map (fun i => (i.zero, i.size, i.bytes)) = some (some (.agg #[.int .i64 0, .int .i64 0]), 2, 16) := by kernel_rfl

set_option maxRecDepth 100000 in
set_option maxHeartbeats 4000000 in
theorem placesof_any (B who : Int) (m N : Nat) (ss : List Sh) (n c : Nat) (a : Option Addr) (w : World) (hS : Shs w a ss) (hn : ss.length = n) (hBm : B = (m : Int)) (hm : m ≤ 12) (hN : N = 12 * m) (h100 : n ≤ 100) (hok : ∀ i, i < n → shOk B (shAt ss i) = true) :
    Calls Try.prog 11 #[.agg #[.int .i64 B, .slice a n c], .int .i64 who] w fun e w' => ∃ v, e = .returned v ∧ OwnT 39 w' w.heap.size v (placesOfM N ss who) ∧ Below w.heap.size w w' := by
  obtain ⟨i0, hi, hz0, hz1, hz2⟩ := info_parts Try.infoPl
  have hown := fun (tone t : Int) (wz : World) (hbz : Below w.heap.size w wz) => owner_any B ss n c a tone t wz (hS.below hbz) hn (by omega) h100 hok
  have HN := hid hn
  have HBM := hid hBm
  have h144 : N ≤ 144 := by omega
  have hB12 : (12 : Int) * B = (N : Int) := by rw [hBm, hN]; omega
  have hb1 : Below w.heap.size w (w.alloc (.cells #[.int .i64 B, .slice a n c] 24)) := (Below.refl _ w).alloc (Nat.le_refl _) _
  have q0 : (w.alloc (.cells #[.int .i64 B, .slice a n c] 24)).cell? ⟨w.heap.size, 0, none⟩ = some (.int .i64 B) := by rw [cell_of_row _ _ _ _ _ _ (heap_alloc_new w _)]; rfl
  have q1 : (w.alloc (.cells #[.int .i64 B, .slice a n c] 24)).cell? ⟨w.heap.size, 1, none⟩ = some (.slice a n c) := by rw [cell_of_row _ _ _ _ _ _ (heap_alloc_new w _)]; rfl
  clear hn hBm hN hok
  go_enter Try.func11, Try.ntmps11
  go_wp2
  have hwb : w.heap.size < (w.alloc (.cells #[.int .i64 B, .slice a n c] 24)).heap.size := by simp
  generalize w.alloc (.cells #[.int .i64 B, .slice a n c] 24) = wb at *
  obtain ⟨gB, eB⟩ : ∃ gB, gB = w.heap.size := ⟨_, rfl⟩
  rw [← eB] at q0 q1
  rw [← eB]
  clear eB
  go_loopw [5, 6] (fun v q wr => ∃ t : Nat, t ≤ 14 ∧ q = .int .i64 t ∧ OwnT 39 wr wb.heap.size v (placesTo N ss who t) ∧ Below wb.heap.size wb wr) (fun _ q _ => 14 - (intOf q).toNat)
  case atStart => exact ⟨0, Nat.zero_le _, rfl, by simpa [placesTo] using OwnT.nil _ _ _, Below.refl _ _⟩
  case round =>
    obtain ⟨t, ht, rfl, hO, hbel⟩ := hrel
    by_cases htl : t < 14
    · have HTL := hid htl
      have HD14 := hid (show decide ((t : Int) < 14) = true from decide_eq_true (by omega))
      have HSUC := hid (placesTo_succ N ss who t)
      have HLEN := hid (placesTo_length N ss who t)
      obtain ⟨A, eA⟩ : ∃ A, A = placesTo N ss who t := ⟨_, rfl⟩
      rw [← eA] at hO HSUC HLEN
      clear eA
      go_wp2
      clear htl
      go_loopw [5, 7] (fun v q wr => ∃ z : Nat, z ≤ N ∧ q = .int .i64 z ∧ OwnT 39 wr wb.heap.size v (A ++ rowOf ss who t z) ∧ Below wb.heap.size wb wr) (fun _ q _ => N - (intOf q).toNat)
      case atStart => exact ⟨0, Nat.zero_le _, rfl, by simpa [rowOf] using hO, hbel⟩
      case round =>
        clear hO hbel
        obtain ⟨z, hz, rfl, hO, hbel⟩ := hrel
        have r0 := (hbel.cell (World.block_lt_of_cell? wb _ q0)).trans q0
        have r1 := (hbel.cell (World.block_lt_of_cell? wb _ q1)).trans q1
        by_cases hlt : z < N
        · have HLT := hid hlt
          have hal := (Below.refl wr.heap.size wr).alloc (Nat.le_refl _) (.cells #[.int .i64 z, .int .i64 t] 39)
          have s0 := (hal.cell (World.block_lt_of_cell? wr _ r0)).trans r0
          have s1 := (hal.cell (World.block_lt_of_cell? wr _ r1)).trans r1
          have p0 : (wr.alloc (.cells #[.int .i64 z, .int .i64 t] 39)).cell? ⟨wr.heap.size, 0, none⟩ = some (.int .i64 z) := by rw [cell_of_row _ _ _ _ _ _ (heap_alloc_new wr _)]; rfl
          have p1 : (wr.alloc (.cells #[.int .i64 z, .int .i64 t] 39)).cell? ⟨wr.heap.size, 1, none⟩ = some (.int .i64 t) := by rw [cell_of_row _ _ _ _ _ _ (heap_alloc_new wr _)]; rfl
          have hO' := hO.below hal
          have hbel' := hbel.trans (hal.mono hbel.size)
          have hfin : Below w.heap.size w (wr.alloc (.cells #[.int .i64 z, .int .i64 t] 39)) := hb1.trans (hbel'.mono hb1.size)
          have ho := hown (z : Int) (t : Int) _ hfin
          have hpl := fun wz => pilot_any (z : Int) (t : Int) wz (by omega)
          have HST := hid (rowOf_succ ss who t z)
          have HPO := hid (show placeOf ss who (z : Int) (t : Int) = (decide (0 < (ownM ss (z : Int) (t : Int)).2) && (decide ((ownM ss (z : Int) (t : Int)).1 = who) && !pilotM (z : Int) (t : Int))) from rfl)
          have hno : (ownM ss (z : Int) (t : Int)).2 ≤ 100 := by
            have h1 : (ownM ss (z : Int) (t : Int)).2 ≤ ss.length := ownTo_le ss _ _ _
            rw [HN.out] at h1
            omega
          have HLN : Hid ((A ++ rowOf ss who t z).length < 1000000) := by
            unfold Hid
            rw [List.length_append]
            have e1 := HLEN.out
            have e2 := rowOf_length ss who t z
            have e3 := HTL.out
            have : t * N ≤ 14 * 144 := Nat.mul_le_mul (by omega) h144
            omega
          obtain ⟨⟨wo, no⟩, eo⟩ : ∃ q, ownM ss (z : Int) (t : Int) = q := ⟨_, rfl⟩
          rw [eo] at ho HPO hno
          simp only at ho HPO hno
          obtain ⟨pb, epb⟩ : ∃ pb, pilotM (z : Int) (t : Int) = pb := ⟨_, rfl⟩
          rw [epb] at HPO
          simp only [epb] at hpl
          clear eo epb hown hO hbel hal
          go_wp2_with fail
          generalize wr.alloc (.cells #[.int .i64 z, .int .i64 t] 39) = wl at *
          generalize wr.heap.size = gP at *
          refine ho.mono ?_
          rintro e w5 ⟨rfl, hb5⟩
          have t0 := (hb5.cell (World.block_lt_of_cell? wl _ p0)).trans p0
          have t1 := (hb5.cell (World.block_lt_of_cell? wl _ p1)).trans p1
          have hO5 := hO'.below hb5
          have hbel5 := hbel'.trans (hb5.mono hbel'.size)
          clear p0 p1 hO' hbel' hfin ho s0 s1 hb5 r0 r1
          by_cases hn0 : 0 < no
          · have d0 : decide ((0 : Int) < (no : Int)) = true := decide_eq_true (by omega)
            have d0' : decide (0 < no) = true := decide_eq_true hn0
            by_cases hw0 : wo = who
            · have d1 : (wo == who) = true := by simpa using hw0
              cases pb with
              | true =>
                have HV := hid (show rowOf ss who t (z + 1) = rowOf ss who t z by rw [HST.out, HPO.out, decide_eq_true hn0, decide_eq_true hw0]; simp)
                clear HST HPO hw0
                go_wp2_with (go_at_call 26; refine (hpl _).mono ?_; rintro e w6 ⟨rfl, hb6⟩)
                go_roundw
                case rel =>
                  have := HLT.out
                  have hx : OwnT 39 w6 wb.heap.size u5 (A ++ rowOf ss who t (z + 1)) := by rw [HV.out]; exact hO5.below hb6
                  first | exact ⟨z + 1, by omega, by go_num, hx, hbel5.trans (hb6.mono hbel5.size)⟩ | ((repeat apply Exists.intro); exact ⟨⟨z + 1, by omega, by go_num, hx, hbel5.trans (hb6.mono hbel5.size)⟩, by first | rfl | (rw [HD14.out]; rfl)⟩)
                case measure =>
                  have := HLT.out
                  simp [intOf]
                  omega
              | false =>
                have HV := hid (show A ++ rowOf ss who t (z + 1) = (A ++ rowOf ss who t z) ++ [((z : Int), (t : Int))] by rw [HST.out, HPO.out, decide_eq_true hn0, decide_eq_true hw0, List.append_assoc]; simp)
                rw [List.append_assoc] at HV
                clear HST HPO hw0
                go_wp2_with fail
                refine (hpl _).mono ?_
                rintro e w6 ⟨rfl, hb6⟩
                have v0 := (hb6.cell (World.block_lt_of_cell? w5 _ t0)).trans t0
                have v1 := (hb6.cell (World.block_lt_of_cell? w5 _ t1)).trans t1
                have hO6 := hO5.below hb6
                have hbel6 := hbel5.trans (hb6.mono hbel5.size)
                clear hO5 hbel5 t0 t1 hb6
                go_wp2_with (first | (at_builtin; refine wpList_pushT Try.underlying29 hi hz0 hz1 hz2 wb.heap.size wb ((z : Int), (t : Int)) hO6 rfl _ _ rfl rfl rfl HLN.out hbel6 hbel6.size ?_))
                intro v7 w7 hO7 hbel7 _
                rw [← HV.out] at hO7
                clear hO6 hbel6 v0 v1
                go_wp2
                go_roundw
                case rel =>
                  have := HLT.out
                  first | exact ⟨z + 1, by omega, by go_num, hO7, hbel7⟩ | ((repeat apply Exists.intro); exact ⟨⟨z + 1, by omega, by go_num, hO7, hbel7⟩, by first | rfl | (rw [HD14.out]; rfl)⟩)
                case measure =>
                  have := HLT.out
                  simp [intOf]
                  omega
            · have d1 : (wo == who) = false := by simpa using hw0
              have HV := hid (show rowOf ss who t (z + 1) = rowOf ss who t z by rw [HST.out, HPO.out, decide_eq_false hw0]; simp)
              clear HST HPO hw0
              go_wp2
              go_roundw
              case rel =>
                have := HLT.out
                have hx : OwnT 39 w5 wb.heap.size u5 (A ++ rowOf ss who t (z + 1)) := by rw [HV.out]; exact hO5
                first | exact ⟨z + 1, by omega, by go_num, hx, hbel5⟩ | ((repeat apply Exists.intro); exact ⟨⟨z + 1, by omega, by go_num, hx, hbel5⟩, by first | rfl | (rw [HD14.out]; rfl)⟩)
              case measure =>
                have := HLT.out
                simp [intOf]
                omega
          · have HV := hid (show rowOf ss who t (z + 1) = rowOf ss who t z by rw [HST.out, HPO.out, decide_eq_false hn0]; simp)
            obtain rfl : no = 0 := by omega
            clear HST HPO hn0
            go_wp2
            go_roundw
            case rel =>
              have := HLT.out
              have hx : OwnT 39 w5 wb.heap.size u5 (A ++ rowOf ss who t (z + 1)) := by rw [HV.out]; exact hO5
              first | exact ⟨z + 1, by omega, by go_num, hx, hbel5⟩ | ((repeat apply Exists.intro); exact ⟨⟨z + 1, by omega, by go_num, hx, hbel5⟩, by first | rfl | (rw [HD14.out]; rfl)⟩)
            case measure =>
              have := HLT.out
              simp [intOf]
              omega
        · obtain rfl : z = N := by omega
          rw [← HSUC.out] at hO
          clear hown
          go_wp2
          go_roundw
          case rel =>
            have := HTL.out
            first | exact ⟨t + 1, by omega, by go_num, hO, hbel⟩ | ((repeat apply Exists.intro); exact ⟨⟨t + 1, by omega, by go_num, hO, hbel⟩, rfl⟩)
          case measure =>
            have := HTL.out
            simp [intOf]
            omega
    · obtain rfl : t = 14 := by omega
      clear hown
      go_wp2
      go_ret
      exact ⟨_, rfl, hO.mono hb1.size, hb1.trans (hbel.mono hb1.size)⟩
end Go.Proofs.Ytjpohfghibhkiad
