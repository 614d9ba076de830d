import Derived.Test.YtjpohfghibhkiadLawGrid
import Derived.Test.YtjpohfghibhkiadGridB
namespace Go.Proofs.Ytjpohfghibhkiad
open Go.ChangeShapes Go.WideShapes Go.ChangeAt Go.RowKit Go.Shelf Go.Maps

/-! GridOnce, over what it asks of Check, Places, Lay and Take. -/

theorem run_make_mapP (w : World) : (Instr.makeMap 43 none).run Try.prog w = .ok (.map (some w.heap.size)) (w.alloc (.map #[] 0)) := by
  simp [Instr.makeMap]
theorem Try.infoPtO : (Try.prog.info? 47).map (fun i => (i.zero, i.size, i.bytes)) = some (some (.agg #[.int .i64 0, .int .i64 0]), 2, 16) := by kernel_rfl
theorem Try.infoPaO : (Try.prog.info? 45).map (fun i => (i.zero, i.size, i.bytes)) = some (some (.agg #[.int .i64 0, .slice none 0 0]), 2, 32) := by kernel_rfl
theorem info_partsO {T : TypeId} {z : Option Value} {s b : Nat} (h : (Try.prog.info? T).map (fun i => (i.zero, i.size, i.bytes)) = some (z, s, b)) : ∃ i0, Try.prog.info? T = some i0 ∧ i0.zero = z ∧ i0.size = s ∧ i0.bytes = b := by
  cases hi : Try.prog.info? T with
  | none => rw [hi] at h; simp at h
  | some i => rw [hi] at h; simp at h; exact ⟨i, rfl, h.1, h.2.1, h.2.2⟩
theorem rowsTo_of {N : Nat} {rs : List (List (Int × Int))} (h14 : rs.length = 14) : ∀ k, (∀ i, i < k → (rowAt rs i).length = N) → rowsTo N rs k = true
  | 0, _ => decide_eq_true h14
  | k + 1, h => by
    rw [rowsTo, rowsTo_of h14 k (fun i hi => h i (by omega)), h k (by omega)]
    simp
theorem take_next {l : List (Int × Int)} {j : Nat} (h : j < l.length) : l.take (j + 1) = l.take j ++ [l.getD j (0, 0)] := by
  rw [List.take_add_one, List.getD, List.getElem?_eq_getElem h]
  rfl
/-- What holds behind the rounds of k users. -/
structure OnceAt (w2 w : World) (gM N : Nat) (ss : List Sh) (xs : List (Int × Int)) (k : Nat) (v : Value) : Prop where
  bel : Below w2.heap.size w2 w
  lt : gM < w.heap.size
  map : WhoMap w gM (seenAll N ss k)
  parts : PartsAt w w2.heap.size N ss xs k v

theorem OnceAt.below {w2 w w' : World} {gM N : Nat} {ss : List Sh} {xs : List (Int × Int)} {k : Nat} {v : Value} (h : OnceAt w2 w gM N ss xs k v) (hb : Below w.heap.size w w') : OnceAt w2 w' gM N ss xs k v :=
  ⟨h.bel.trans (hb.mono h.bel.size), Nat.lt_of_lt_of_le h.lt hb.size, h.map.same (hb.block gM h.lt), h.parts.below hb⟩

theorem once_wf (N : Nat) (ss : List Sh) (xs : List (Int × Int)) {k : Nat} (hk : k ≤ 16) : PrB (onceParts N ss xs k) := fun i hi => by
  rw [onceParts_length] at hi
  rw [onceParts_at N ss xs hi]
  exact WalkArith.wf_i64 (n := ((i + 1 : Nat) : Int)) (by omega)

set_option maxRecDepth 100000 in
set_option maxHeartbeats 8000000 in
theorem gonce_any (hG : GridLaws) (B : Int) (ss : List Sh) (a : Option Addr) (c : Nat) (xs : List (Int × Int)) (ax : Option Addr) (cx : Nat) (w : World) (hS : Shs w a ss) (hn : ss.length ≤ 9223372036854775807) (hF : ShB ss) (hX : Pts w ax xs) (hzx : xs.length ≤ 9223372036854775807) :
    Calls Try.prog 4 #[.agg #[.int .i64 B, .slice a ss.length c], .slice ax xs.length cx] w fun e w' => e = .returned (.bool true) ∧ Below w.heap.size w w' := by
  have hb1 : Below w.heap.size w (w.alloc (.cells #[.int .i64 B, .slice a ss.length c] 24)) := (Below.refl _ w).alloc (Nat.le_refl _) _
  have q0 : (w.alloc (.cells #[.int .i64 B, .slice a ss.length c] 24)).cell? ⟨w.heap.size, 0, none⟩ = some (.int .i64 B) := by rw [cell_of_row _ _ _ _ _ _ (heap_alloc_new w _)]; rfl
  have q1 : (w.alloc (.cells #[.int .i64 B, .slice a ss.length c] 24)).cell? ⟨w.heap.size, 1, none⟩ = some (.slice a ss.length c) := by rw [cell_of_row _ _ _ _ _ _ (heap_alloc_new w _)]; rfl
  have hmix : Try.prog.follows .mixedOrders = true := by kernel_rfl
  obtain ⟨i0, hi, hz0, hz1, hz2⟩ := info_partsO Try.infoPtO
  obtain ⟨i1, hj, hy0, hy1, hy2⟩ := info_partsO Try.infoPaO
  have HI1 := hid hj
  have HY0 := hid hy0
  have HY1 := hid hy1
  have HY2 := hid hy2
  clear hj hy0 hy1 hy2
  go_enter Try.func4, Try.ntmps4
  go_wp2_with fail
  generalize w.alloc (.cells #[.int .i64 B, .slice a ss.length c] 24) = wb at *
  obtain ⟨gB, eB⟩ : ∃ gB, gB = w.heap.size := ⟨_, rfl⟩
  rw [← eB] at q0 q1
  rw [← eB]
  clear eB
  obtain ⟨n, en⟩ : ∃ n, n = ss.length := ⟨_, rfl⟩
  obtain ⟨nx, enx⟩ : ∃ nx, nx = xs.length := ⟨_, rfl⟩
  have hPL := fun (who : Int) (wz : World) (hbz : Below w.heap.size w wz) => hG.places B who ss a c wz (hS.below hbz) hn hF
  have hCH := fun (wz : World) (hbz : Below w.heap.size w wz) => hG.check B ss a c wz (hS.below hbz) hn hF
  have hLA := fun (ps : List Prt) (ap : Option Addr) (cp : Nat) (wz : World) (hbz : Below w.heap.size w wz) (hP : PrtsP wz ap ps) (h1 : ps.length ≤ 9223372036854775807) (h2 : ∀ i, i < ps.length → (prAt ps i).pts.length ≤ 9223372036854775807) (h3 : PrB ps) => hG.lay B ss a c ps ap cp wz (hS.below hbz) hn hF hP h1 h2 h3
  have hTA := fun (who : Int) (rs : List (List (Int × Int))) (ar : Option Addr) (cr : Nat) (wz : World) (hbz : Below w.heap.size w wz) (hR : RowsP wz ar rs) (h1 : rs.length ≤ 9223372036854775807) (h2 : ∀ i, i < rs.length → (rowAt rs i).length ≤ 9223372036854775807) => hG.take B who ss a c rs ar cr wz (hS.below hbz) hn hF hR h1 h2
  have HGD := hid (@griderr_good B ss)
  have HLEN := hid en
  have HLENX := hid enx
  rw [← en] at hn
  rw [← enx] at hzx
  simp only [← en, ← enx] at q1 hPL hCH hLA hTA HGD ⊢
  clear en enx
  obtain ⟨W, eW⟩ : ∃ W, W = gridErrM B ss := ⟨_, rfl⟩
  simp only [← eW] at hPL hCH hLA hTA HGD
  clear eW
  have HPL := hid hPL
  have HLA := hid hLA
  have HTA := hid hTA
  refine (hCH wb hb1).mono ?_
  rintro e w1 ⟨rfl, hw1⟩
  have hf1 : Below w.heap.size w w1 := hb1.trans (hw1.mono hb1.size)
  have a0 := (hw1.cell (World.block_lt_of_cell? wb _ q0)).trans q0
  have a1 := (hw1.cell (World.block_lt_of_cell? wb _ q1)).trans q1
  clear hPL hCH hLA hTA q0 q1 hw1 hb1
  by_cases hW0 : W = 0
  · obtain ⟨⟨hB1, hB2⟩, h100, hok⟩ := HGD.out hW0
    have HBB := hid (show 1 ≤ B ∧ B ≤ 12 from ⟨hB1, hB2⟩)
    have HOK := hid hok
    have HW0 := hid hW0
    have d0 : (W != 0) = false := by simp [hW0]
    have hmm := run_make_mapP
    have hO : OnceAt w1 (w1.alloc (.map #[] 0)) w1.heap.size (gN B) ss xs 0 (.slice none 0 0) := ⟨(Below.refl _ w1).alloc (Nat.le_refl _) _, by simp, who_new w1, PartsAt.nil _ _ _ _ _⟩
    have h144 : gN B ≤ 144 := by unfold gN; omega
    clear hok HGD hB1 hB2 hW0
    go_wp2_with fail
    generalize w1.alloc (.map #[] 0) = wM at *
    obtain ⟨gM, eM⟩ : ∃ gM, gM = w1.heap.size := ⟨_, rfl⟩
    have HGM := hid eM
    rw [← eM] at hO
    rw [← eM]
    clear eM hmm d0
    go_loopw [8, 9] (fun q8 q9 wz => ∃ k : Nat, k ≤ 16 ∧ q9 = .int .i64 ((k : Int) + 1) ∧ OnceAt w1 wz gM (gN B) ss xs k q8) (fun _ q9 _ => 18 - (intOf q9).toNat)
    case atStart => exact ⟨0, by omega, rfl, hO⟩
    case round =>
      clear hO
      obtain ⟨k, hk, rfl, hO⟩ := hrel
      have hf := hf1.trans (hO.bel.mono hf1.size)
      have b0 := (hO.bel.cell (World.block_lt_of_cell? w1 _ a0)).trans a0
      have b1 := (hO.bel.cell (World.block_lt_of_cell? w1 _ a1)).trans a1
      by_cases hk16 : k < 16
      · have hPl := HPL.out ((k : Int) + 1) wr hf
        have HK := hid hk16
        clear HLA HTA HPL
        go_wp2_with fail
        refine hPl.mono ?_
        rintro e wl ⟨p1, k1, c1, rfl, hwl, hp0, -⟩
        obtain ⟨ek1, hpl⟩ := hp0 HW0.out
        have hOl := hO.below hwl
        have hfl := hf.trans (hwl.mono hf.size)
        have e1 : ((k : Int) + 1) = ((k + 1 : Nat) : Int) := by simp
        have HE1 := hid e1
        rw [e1] at ek1 hpl
        have HEK := hid ek1
        have dW : (W != 0) = false := by rw [HW0.out]; rfl
        have hkb : k1 ≤ 2016 := by
          have h1 := placesTo_length (gN B) ss ((k + 1 : Nat) : Int) 14
          have h2 : 14 * gN B ≤ 14 * 144 := Nat.mul_le_mul_left _ h144
          rw [ek1]
          unfold placesOfM
          omega
        clear hPl hp0 e1 ek1 hO hwl b0 b1 hf
        have hI0 : InnerAt wl (wl.alloc (.cells #[.int .i64 ((k : Int) + 1), .slice none 0 0] 45)) gM wl.heap.size (gN B) ss xs k 0 0 (.slice none 0 0) :=
          ⟨World.grownBy_alloc _ _ _, (by rw [List.take_zero, List.append_nil]; exact hOl.map.same (Below.heap_alloc _ _ _ hOl.lt)), (by rw [HE1.out]; exact heap_alloc_new wl _), Nat.le_refl _, OwnT.nil _ _ _⟩
        go_wp2_with fail
        generalize wl.alloc (.cells #[.int .i64 ((k : Int) + 1), .slice none 0 0] 45) = wi at *
        obtain ⟨gx, egx⟩ : ∃ gx, gx = wl.heap.size := ⟨_, rfl⟩
        rw [← egx] at hI0
        rw [← egx]
        clear egx dW
        have hgl := hOl.lt
        go_loopw [13] (fun q wz => ∃ j : Nat, j ≤ k1 ∧ q = .int .i64 j ∧ ∃ pv, InnerAt wl wz gM gx (gN B) ss xs k j j pv) (fun q _ => k1 - (intOf q).toNat)
        case atStart => exact ⟨0, Nat.zero_le _, rfl, _, hI0⟩
        case round =>
          clear hI0
          obtain ⟨j, hj, rfl, pv, hI⟩ := hrel
          by_cases hjl : j < k1
          · have hjp : j < (placesOfM (gN B) ss ((k + 1 : Nat) : Int)).length := by rw [← HEK.out]; exact hjl
            have HJL := hid hjl
            obtain ⟨g1, o1, rfl, hcp⟩ := hpl.at hjp
            obtain ⟨f0, f1⟩ := hcp j hjp
            have d0 := hI.grown.cell f0 (by simpa using cell_ne_map f0 hOl.map)
            have d1 := hI.grown.cell f1 (by simpa using cell_ne_map f1 hOl.map)
            have hwf := places_wf h144 hjp
            have hfr := once_fresh hjp
            obtain ⟨px, epx⟩ : ∃ px, px = (placesOfM (gN B) ss ((k + 1 : Nat) : Int)).getD j (0, 0) := ⟨_, rfl⟩
            have HTK := hid (show (placesOfM (gN B) ss ((k + 1 : Nat) : Int)).take (j + 1) = (placesOfM (gN B) ss ((k + 1 : Nat) : Int)).take j ++ [px] by
              rw [epx]
              exact take_next hjp)
            rw [← epx] at d0 d1 hwf hfr
            obtain ⟨D, hM, hsz, hD⟩ := hI.map
            have hkey := keyOf_pl hwf
            have HAT := hid (atKey_of_not_has (hD px hwf hfr) (.lit (.int .i64 0) : DataW Unit))
            have HD := hid hD
            have HSZ := hid hsz
            have HFR := hid hfr
            have HWF := hid hwf
            have hSb : (seenAll (gN B) ss k ++ (placesOfM (gN B) ss ((k + 1 : Nat) : Int)).take j).length ≤ 1000000 := by
              have h1 := seenAll_length (gN B) ss k
              have h2 : k * (14 * gN B) ≤ 16 * (14 * 144) := Nat.mul_le_mul hk (Nat.mul_le_mul_left _ h144)
              rw [List.length_append, List.length_take]
              omega
            obtain ⟨SL, eSL⟩ : ∃ SL, SL = seenAll (gN B) ss k ++ (placesOfM (gN B) ss ((k + 1 : Nat) : Int)).take j := ⟨_, rfl⟩
            have HSL := hid eSL
            rw [← eSL] at hM hSb HFR HSZ
            simp only [← eSL] at HD
            obtain ⟨nS, enS⟩ : ∃ nS, nS = SL.length := ⟨_, rfl⟩
            have HNS := hid enS
            rw [← enS] at hM hSb
            clear hcp f0 f1 epx hfr hD hsz eSL enS hwf
            go_upto_region 19 with (first
              | (at_lookup; refine wpList_lookup_own_int _ rfl _ _ 43 rfl 39 3 .i64 Try.lawPl Try.underlying43 Try.underlying3 (Try.zero3g _) gM nS _ rfl hM _ _ rfl hkey ?_; intro v hat hwz; obtain rfl : v = 0 := by (rw [HAT.out] at hat; simpa using hat.symm))
              | (at_mapUpdate; refine wpList_mapUpdate_own _ rfl _ _ _ 43 rfl 39 3 Try.lawPl Try.underlying43 _ gM nS _ rfl hM (by unfold maxLen; omega) _ _ _ rfl rfl hkey _ [] (plainElem_int Try.underlying3 (WalkArith.wf_i64 (by omega))) ?_; intro w4 hM4 hg4))
            have hI4 : InnerAt wl w4 gM gx (gN B) ss xs k (j + 1) j pv := hI.marked hg4 (by
              rw [HTK.out, ← List.append_assoc, ← HSL.out]
              exact WhoMap.put (by rw [← HNS.out]; exact hM) HSZ.out HD.out HWF.out HFR.out (by rw [← HNS.out]; exact hM4))
            have hX4 : Pts w4 ax xs := by
              intro hne
              obtain ⟨b, off, e, hc⟩ := (hX.below hfl) hne
              exact ⟨b, off, e, fun i hi => ⟨hI4.grown.cell (hc i hi).1 (by simpa using cell_ne_map (hc i hi).1 hOl.map), hI4.grown.cell (hc i hi).2 (by simpa using cell_ne_map (hc i hi).2 hOl.map)⟩⟩
            clear hI hg4 hM4 hM hkey HAT HD HSZ HFR HWF HTK d0 d1 hSb
            have hs4 : wl.heap.size ≤ w4.heap.size := hI4.grown.size
            by_cases hxs : nx = 0
            · have HXE := hid (show xs = [] from List.length_eq_zero_iff.1 (by rw [← HLENX.out]; exact hxs))
              have HV := hid (show fillM xs (k + 1) (j + 1) = fillM xs (k + 1) j ++ [((k : Int) + 1, (j : Int))] by rw [fillM_succ, if_pos HXE.out, HE1.out])
              have hb5 := (Below.refl w4.heap.size w4).alloc (Nat.le_refl _) (.cells #[.int .i64 ((k : Int) + 1), .int .i64 j] 47)
              have hI5 := hI4.below hgl hb5
              have x0 : (w4.alloc (.cells #[.int .i64 ((k : Int) + 1), .int .i64 j] 47)).cell? ⟨w4.heap.size, 0, none⟩ = some (.int .i64 ((k : Int) + 1)) := by rw [cell_of_row _ _ _ _ _ _ (heap_alloc_new w4 _)]; rfl
              have x1 : (w4.alloc (.cells #[.int .i64 ((k : Int) + 1), .int .i64 j] 47)).cell? ⟨w4.heap.size, 1, none⟩ = some (.int .i64 j) := by rw [cell_of_row _ _ _ _ _ _ (heap_alloc_new w4 _)]; rfl
              have y1 := hI5.box.cells.2
              have hs5 : wl.heap.size ≤ (w4.alloc (.cells #[.int .i64 ((k : Int) + 1), .int .i64 j] 47)).heap.size := Nat.le_trans hs4 hb5.size
              have HLN := hid (show (fillM xs (k + 1) j).length < 1000000 by rw [fillM_length]; omega)
              have dx : decide ((0 : Int) < (nx : Int)) = false := by simp; omega
              have dx' : decide (0 < nx) = false := by simp; omega
              clear hI4 hX4 HXE hb5 hs4 hat hwz HSL HNS hxs
              go_upto_region 22 with fail
              generalize w4.alloc (.cells #[.int .i64 ((k : Int) + 1), .int .i64 j] 47) = w5 at *
              go_wp2_with (first | (at_builtin; refine wpList_pushT Try.underlying34 hi hz0 hz1 hz2 wl.heap.size w5 ((k : Int) + 1, (j : Int)) hI5.own rfl _ _ rfl rfl rfl HLN.out (Below.refl _ _) hs5 ?_))
              intro v7 w7 hO7 hb7 hg7
              rw [← HV.out] at hO7
              obtain ⟨a7, c7, rfl, -, -⟩ := hO7.shape
              obtain ⟨hbx, hI8⟩ := hI5.pushed hgl hO7 hb7 hg7
              have z1 := hbx.cells.2
              have z2 := hbx.free 1
              clear hI5 x0 x1 y1 hs5
              go_wp2_with fail
              go_roundw
              case rel =>
                have := HJL.out
                first | exact ⟨j + 1, by omega, by go_num, _, hI8⟩ | ((repeat apply Exists.intro); exact ⟨⟨j + 1, by omega, by go_num, _, hI8⟩, by first | rfl | (rw [dx]; rfl)⟩)
              case measure =>
                have := HJL.out
                simp [intOf]
                omega
            · have hxne : ¬ xs = [] := fun e => hxs (by rw [HLENX.out, e]; rfl)
              obtain ⟨r, er⟩ : ∃ r, r = j % nx := ⟨_, rfl⟩
              have hrx : r < nx := by rw [er]; exact Nat.mod_lt _ (by omega)
              have hrm : ((j : Int)).tmod (nx : Int) = (r : Int) := by rw [er, Int.tmod_eq_emod_of_nonneg (by omega)]; simp
              have hrn : ((j : Int)) % (nx : Int) = (r : Int) := by rw [er]; simp
              have hnz : ((nx : Int) == 0) = false := beq_eq_false_iff_ne.2 (by omega)
              have hnz' : (nx : Int) ≠ 0 := by omega
              obtain ⟨y, ey⟩ : ∃ y, y = xs.getD r (0, 0) := ⟨_, rfl⟩
              have HV := hid (show fillM xs (k + 1) (j + 1) = fillM xs (k + 1) j ++ [y] by rw [fillM_succ, if_neg hxne, ey, er, HLENX.out])
              have hrl : r < xs.length := by rw [← HLENX.out]; exact hrx
              obtain ⟨gs, os, rfl, hcx⟩ := hX4.at hrl
              obtain ⟨s0, s1⟩ := hcx r hrl
              rw [← ey] at s0 s1
              clear hcx er ey hrl
              have hb5 := (Below.refl w4.heap.size w4).alloc (Nat.le_refl _) (.cells #[.int .i64 y.1, .int .i64 y.2] 47)
              have hI5 := hI4.below hgl hb5
              have x0 : (w4.alloc (.cells #[.int .i64 y.1, .int .i64 y.2] 47)).cell? ⟨w4.heap.size, 0, none⟩ = some (.int .i64 y.1) := by rw [cell_of_row _ _ _ _ _ _ (heap_alloc_new w4 _)]; rfl
              have x1 : (w4.alloc (.cells #[.int .i64 y.1, .int .i64 y.2] 47)).cell? ⟨w4.heap.size, 1, none⟩ = some (.int .i64 y.2) := by rw [cell_of_row _ _ _ _ _ _ (heap_alloc_new w4 _)]; rfl
              have y1 := hI5.box.cells.2
              have hs5 : wl.heap.size ≤ (w4.alloc (.cells #[.int .i64 y.1, .int .i64 y.2] 47)).heap.size := Nat.le_trans hs4 hb5.size
              have HLN := hid (show (fillM xs (k + 1) j).length < 1000000 by rw [fillM_length]; omega)
              have dx : decide ((0 : Int) < (nx : Int)) = true := by simp; omega
              have dx' : decide (0 < nx) = true := by simp; omega
              have hb0 := (Below.refl w4.heap.size w4).alloc (Nat.le_refl _) (.cells #[.int .i64 ((k : Int) + 1), .int .i64 j] 47)
              have m0 := (hb0.cell (World.block_lt_of_cell? w4 _ s0)).trans s0
              have m1 := (hb0.cell (World.block_lt_of_cell? w4 _ s1)).trans s1
              clear hI4 hX4 hxne hb5 hb0 hs4 hat hwz HSL HNS hxs
              go_upto_region 22 with fail
              generalize w4.alloc (.cells #[.int .i64 y.1, .int .i64 y.2] 47) = w5 at *
              go_wp2_with (first | (at_builtin; refine wpList_pushT Try.underlying34 hi hz0 hz1 hz2 wl.heap.size w5 y hI5.own rfl _ _ rfl rfl rfl HLN.out (Below.refl _ _) hs5 ?_))
              intro v7 w7 hO7 hb7 hg7
              rw [← HV.out] at hO7
              obtain ⟨a7, c7, rfl, -, -⟩ := hO7.shape
              obtain ⟨hbx, hI8⟩ := hI5.pushed hgl hO7 hb7 hg7
              have z1 := hbx.cells.2
              have z2 := hbx.free 1
              clear hI5 x0 x1 y1 hs5
              go_wp2_with fail
              go_roundw
              case rel =>
                have := HJL.out
                first | exact ⟨j + 1, by omega, by go_num, _, hI8⟩ | ((repeat apply Exists.intro); exact ⟨⟨j + 1, by omega, by go_num, _, hI8⟩, by first | rfl | (rw [dx]; rfl)⟩)
              case measure =>
                have := HJL.out
                simp [intOf]
                omega
          · obtain rfl : k1 = j := by omega
            have hpa := hOl.parts.turn hOl.map hI.grown
            have hbr : Below w1.heap.size w1 wr := hOl.bel.trans ⟨hI.grown.os, hI.grown.tape, hI.grown.output, hI.grown.size, fun b hb => hI.grown.block b (Nat.lt_of_lt_of_le hb hOl.bel.size) (fun e => by have h2 := HGM.out; simp at e; omega)⟩
            have hmp := hI.map
            rw [List.take_of_length_le (by rw [← HEK.out]; exact Nat.le_refl _), ← seenAll_succ] at hmp
            have hmk : WhoMap wr gM (seenAll (gN B) ss (k + 1)) := hmp
            have hpt : OwnT 47 wr w1.heap.size pv (oncePart (gN B) ss xs k).pts := by
              have h1 := hI.own.mono hOl.bel.size
              rw [HEK.out] at h1
              exact h1
            have hbox := hI.box
            rw [← HE1.out] at hbox
            have x0 := hbox.cells.1
            have x1 := hbox.cells.2
            have hlr : gM < wr.heap.size := Nat.lt_of_lt_of_le hOl.lt hI.grown.size
            obtain ⟨qs, h1, h2, h3⟩ := hpa.own
            have HQL := hid (show qs.length < 1000000 by omega)
            have H2 := hid h2
            have H3 := hid h3
            obtain ⟨av, cv, rfl, -, -⟩ := hpt.shape
            clear hpa hI hmp hpl hbox h2 h3 hOl
            go_wp2_with (first | (at_builtin; refine wpList_pushR Try.underlying25 HI1.out HY0.out HY1.out HY2.out w1.heap.size w1 ((k : Int) + 1, _) rfl h1 rfl _ _ rfl rfl rfl HQL.out hbr hbr.size ?_))
            intro v8 w8 hR8 hb8 hg8
            have hO8 : OnceAt w1 w8 gM (gN B) ss xs (k + 1) v8 := ⟨hb8, Nat.lt_of_lt_of_le hlr hg8.size, hmk.same (hg8.block gM hlr (fun e => by
              rcases own_ne_map h1 hmk with h | h
              · rw [h] at e; cases e
              · exact h e.symm)), PartsAt.push h1 H2.out H3.out hpt hg8 (by rw [← HE1.out]; exact hR8)⟩
            clear h1 hpt hbr hmk x0 x1 hR8 hg8 hb8 H3
            go_wp2_with fail
            go_roundw
            case rel =>
              have := HK.out
              first | exact ⟨k + 1, by omega, by go_num, hO8⟩ | ((repeat apply Exists.intro); exact ⟨⟨k + 1, by omega, by go_num, hO8⟩, rfl⟩)
            case measure =>
              have := HK.out
              simp [intOf]
              omega
      · obtain rfl : k = 16 := by omega
        obtain ⟨qs, h1, h2, h3⟩ := hO.parts.own
        obtain ⟨ap, cp, e8, -, -⟩ := h1.shape
        rw [h2] at e8
        subst e8
        have hPP := hO.parts.parts
        have hlb : ∀ i, i < 16 → (prAt (onceParts (gN B) ss xs 16) i).pts.length ≤ 2016 := fun i hi => by
          rw [once_lens (gN B) ss xs hi]
          have h1 := placesTo_length (gN B) ss (prAt (onceParts (gN B) ss xs 16) i).who 14
          have h2 : 14 * gN B ≤ 14 * 144 := Nat.mul_le_mul_left _ h144
          unfold placesOfM
          omega
        have hLay := HLA.out (onceParts (gN B) ss xs 16) ap cp wr hf hPP (by rw [onceParts_length]; omega) (fun i hi => by rw [onceParts_length] at hi; have := hlb i hi; omega) (once_wf _ _ _ (Nat.le_refl _))
        rw [onceParts_length] at hLay
        have HLB := hid hlb
        have HPPw := hid hPP
        clear hk hk16 h1 h2 h3 hPP hlb HLA HPL
        go_wp2_with fail
        refine hLay.mono ?_
        rintro e wL ⟨al, nl, cl, E, rfl, hwL, hzL, -, hgood⟩
        obtain ⟨rfl, rfl, ls, hRL, h14, hrl, hly⟩ := (hgood HW0.out).2.2 (once_nodups _ _ _ _) (fun i hi => once_lens _ _ _ hi)
        have hOL := hO.below hwL
        have hfL := hf.trans (hwL.mono hf.size)
        have e0 := (hwL.cell (World.block_lt_of_cell? wr _ b0)).trans b0
        have e1 := (hwL.cell (World.block_lt_of_cell? wr _ b1)).trans b1
        obtain ⟨D, hM, hsz, -⟩ := hOL.map
        have hln := World.ownsMap.len hM Try.underlying43 3
        rw [hsz] at hln
        have hsp := fun (h : 0 < n) => once_some (B := B) (N := gN B) (ss := ss) (by have := HBB.out; unfold gN; omega) (by rw [← HLEN.out]; exact h) (by rw [← HLEN.out]; exact HOK.out)
        obtain ⟨zS, ezS⟩ : ∃ zS, zS = (seenAll (gN B) ss 16).length := ⟨_, rfl⟩
        rw [← ezS] at hln hsp
        have HRL := hid hRL
        have H14 := hid h14
        have HRR := hid hrl
        have HLY := hid hly
        have HSP := hid hsp
        have HOL := hid hOL
        clear hLay hgood hO hwL hf b0 b1 hM hsz ezS hRL h14 hrl hly hsp hOL
        by_cases hn0 : n = 0
        · have dn : decide ((0 : Int) < (n : Int)) = false := by simp; omega
          have dn' : decide (0 < n) = false := by simp; omega
          clear hn0 HSP
          go_wp2_with fail
          go_loopw [17] (fun q wz => ∃ i : Nat, i ≤ 16 ∧ q = .int .i64 ((i : Int) + 1) ∧ Below wL.heap.size wL wz) (fun q _ => 18 - (intOf q).toNat)
          case atStart => exact ⟨0, by omega, rfl, Below.refl _ _⟩
          case round =>
            obtain ⟨i, hi16, rfl, hbz⟩ := hrel
            have hfz := hfL.trans (hbz.mono hfL.size)
            have j0 := (hbz.cell (World.block_lt_of_cell? wL _ e0)).trans e0
            have j1 := (hbz.cell (World.block_lt_of_cell? wL _ e1)).trans e1
            by_cases hil : i < 16
            · have hT := HTA.out ((i : Int) + 1) ls al cl wr hfz (HRL.out.below hbz) (by rw [H14.out]; omega) (fun t ht => by rw [HRR.out t (by rw [H14.out] at ht; exact ht)]; omega)
              rw [H14.out] at hT
              have hpw := HOL.out.parts.parts.below hbz
              have hip : i < (onceParts (gN B) ss xs 16).length := by rw [onceParts_length]; exact hil
              obtain ⟨gp, op, rfl, hcp⟩ := hpw.at hip
              obtain ⟨f0, ra, rc, f1, hpts⟩ := hcp i hip
              have hTL : takeM (gN B) ss ls ((i : Int) + 1) = (prAt (onceParts (gN B) ss xs 16) i).pts := by
                have h1 := take_lay (N := gN B) (ss := ss) (ps := onceParts (gN B) ss xs 16) (ls := ls) (by rw [onceParts_length]; exact once_nodups _ _ _ _) HLY.out hip (once_lens _ _ _ hil)
                rw [← h1, onceParts_at _ _ _ hil]
                simp [oncePart]
              have hTB := HLB.out i hil
              have hNL : (placesOfM (gN B) ss ((i : Int) + 1)).length = (prAt (onceParts (gN B) ss xs 16) i).pts.length := by
                rw [← hTL]
                simp [takeM]
              have HOKR := hid (rowsTo_of (N := gN B) H14.out ls.length (fun t ht => HRR.out t (by rw [H14.out] at ht; exact ht)))
              obtain ⟨T, eT⟩ : ∃ T, T = (prAt (onceParts (gN B) ss xs 16) i).pts := ⟨_, rfl⟩
              rw [← eT] at f1 hpts hTL hTB hNL
              have HTL := hid hTL
              have HNL := hid hNL
              have HIL := hid hil
              clear hpw hcp f0 hTL hNL eT hip
              go_wp2_with fail
              refine hT.mono ?_
              rintro e w5 ⟨a5, n5, c5, E5, rfl, hw5, hz5, -, hgd⟩
              obtain ⟨rfl, en5, hpt5⟩ := (hgd HW0.out).2 HOKR.out
              rw [HNL.out] at en5
              rw [HTL.out] at hpt5
              have g1 := (hw5.cell (World.block_lt_of_cell? wr _ f1)).trans f1
              have hsm := same_points T T a5 ra c5 rc w5 hpt5 (hpts.below hw5) (by unfold maxLen; omega) (by unfold maxLen; omega)
              subst en5
              obtain ⟨LT, eLT⟩ : ∃ LT, LT = T.length := ⟨_, rfl⟩
              rw [← eLT] at g1 hsm
              rw [← eLT]
              have dT : decide (T = T) = true := by simp
              rw [dT] at hsm
              have hb5 := hbz.trans (hw5.mono hbz.size)
              clear hT hgd hpt5 hpts hw5 f1 eLT hz5 dT j0 j1 hTB
              go_wp2_with fail
              refine hsm.mono ?_
              rintro e w6 ⟨rfl, hw6⟩
              have hb6 := hb5.trans (hw6.mono hb5.size)
              clear hsm hw6 hb5 g1
              go_wp2_with fail
              go_roundw
              case rel =>
                have := HIL.out
                first | exact ⟨i + 1, by omega, by go_num, hb6⟩ | ((repeat apply Exists.intro); exact ⟨⟨i + 1, by omega, by go_num, hb6⟩, rfl⟩)
              case measure =>
                have := HIL.out
                simp [intOf]
                omega
            · obtain rfl : i = 16 := by omega
              go_wp2_with fail
              go_ret
              exact ⟨rfl, hfz⟩
        · have hz0' := HSP.out (by omega)
          have dn : decide ((0 : Int) < (n : Int)) = true := by simp; omega
          have dn' : decide (0 < n) = true := by simp; omega
          have dz : ((zS : Int) == 0) = false := beq_eq_false_iff_ne.2 (by omega)
          clear hn0 HSP
          go_wp2_with fail
          go_loopw [17] (fun q wz => ∃ i : Nat, i ≤ 16 ∧ q = .int .i64 ((i : Int) + 1) ∧ Below wL.heap.size wL wz) (fun q _ => 18 - (intOf q).toNat)
          case atStart => exact ⟨0, by omega, rfl, Below.refl _ _⟩
          case round =>
            obtain ⟨i, hi16, rfl, hbz⟩ := hrel
            have hfz := hfL.trans (hbz.mono hfL.size)
            have j0 := (hbz.cell (World.block_lt_of_cell? wL _ e0)).trans e0
            have j1 := (hbz.cell (World.block_lt_of_cell? wL _ e1)).trans e1
            by_cases hil : i < 16
            · have hT := HTA.out ((i : Int) + 1) ls al cl wr hfz (HRL.out.below hbz) (by rw [H14.out]; omega) (fun t ht => by rw [HRR.out t (by rw [H14.out] at ht; exact ht)]; omega)
              rw [H14.out] at hT
              have hpw := HOL.out.parts.parts.below hbz
              have hip : i < (onceParts (gN B) ss xs 16).length := by rw [onceParts_length]; exact hil
              obtain ⟨gp, op, rfl, hcp⟩ := hpw.at hip
              obtain ⟨f0, ra, rc, f1, hpts⟩ := hcp i hip
              have hTL : takeM (gN B) ss ls ((i : Int) + 1) = (prAt (onceParts (gN B) ss xs 16) i).pts := by
                have h1 := take_lay (N := gN B) (ss := ss) (ps := onceParts (gN B) ss xs 16) (ls := ls) (by rw [onceParts_length]; exact once_nodups _ _ _ _) HLY.out hip (once_lens _ _ _ hil)
                rw [← h1, onceParts_at _ _ _ hil]
                simp [oncePart]
              have hTB := HLB.out i hil
              have hNL : (placesOfM (gN B) ss ((i : Int) + 1)).length = (prAt (onceParts (gN B) ss xs 16) i).pts.length := by
                rw [← hTL]
                simp [takeM]
              have HOKR := hid (rowsTo_of (N := gN B) H14.out ls.length (fun t ht => HRR.out t (by rw [H14.out] at ht; exact ht)))
              obtain ⟨T, eT⟩ : ∃ T, T = (prAt (onceParts (gN B) ss xs 16) i).pts := ⟨_, rfl⟩
              rw [← eT] at f1 hpts hTL hTB hNL
              have HTL := hid hTL
              have HNL := hid hNL
              have HIL := hid hil
              clear hpw hcp f0 hTL hNL eT hip
              go_wp2_with fail
              refine hT.mono ?_
              rintro e w5 ⟨a5, n5, c5, E5, rfl, hw5, hz5, -, hgd⟩
              obtain ⟨rfl, en5, hpt5⟩ := (hgd HW0.out).2 HOKR.out
              rw [HNL.out] at en5
              rw [HTL.out] at hpt5
              have g1 := (hw5.cell (World.block_lt_of_cell? wr _ f1)).trans f1
              have hsm := same_points T T a5 ra c5 rc w5 hpt5 (hpts.below hw5) (by unfold maxLen; omega) (by unfold maxLen; omega)
              subst en5
              obtain ⟨LT, eLT⟩ : ∃ LT, LT = T.length := ⟨_, rfl⟩
              rw [← eLT] at g1 hsm
              rw [← eLT]
              have dT : decide (T = T) = true := by simp
              rw [dT] at hsm
              have hb5 := hbz.trans (hw5.mono hbz.size)
              clear hT hgd hpt5 hpts hw5 f1 eLT hz5 dT j0 j1 hTB
              go_wp2_with fail
              refine hsm.mono ?_
              rintro e w6 ⟨rfl, hw6⟩
              have hb6 := hb5.trans (hw6.mono hb5.size)
              clear hsm hw6 hb5 g1
              go_wp2_with fail
              go_roundw
              case rel =>
                have := HIL.out
                first | exact ⟨i + 1, by omega, by go_num, hb6⟩ | ((repeat apply Exists.intro); exact ⟨⟨i + 1, by omega, by go_num, hb6⟩, rfl⟩)
              case measure =>
                have := HIL.out
                simp [intOf]
                omega
            · obtain rfl : i = 16 := by omega
              go_wp2_with fail
              go_ret
              exact ⟨rfl, hfz⟩
  · have d0 : (W != 0) = true := by simp [hW0]
    have hL := HLA.out [] none 0 w1 hf1 (fun h => absurd rfl h) (by simp) (fun i hi => by simp at hi) (fun i hi => by simp at hi)
    clear HLA HTA HPL
    go_wp2_with fail
    refine hL.mono ?_
    rintro e w2 ⟨al, nl, cl, E, rfl, hw2, hz2, h0, _⟩
    obtain ⟨rfl, rfl⟩ := h0 hW0
    have hf2 : Below w.heap.size w w2 := hf1.trans (hw2.mono hf1.size)
    go_wp2_with fail
    go_ret
    exact ⟨rfl, hf2⟩
end Go.Proofs.Ytjpohfghibhkiad
