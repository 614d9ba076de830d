import Derived.Test.YtplkmkbambbemaeGreatDoorM08
import Derived.Test.YtplkmkbambbemaeGreatDoorM09
import Derived.Test.YtplkmkbambbemaeGreatDoorM10
import Derived.Test.YtplkmkbambbemaeGreatDoorM12
import Derived.Test.YtplkmkbambbemaeGreatDoorTie
import Derived.Test.YtplkmkbambbemaeGreatDoorCards
import Derived.LaidMore
import Derived.SevenTiedAt
import Derived.Laws.IdiomArrays
import Derived.Test.YtplkmkbambbemaeGreatDoorM02
import Derived.Test.YtplkmkbambbemaeGreatDoorM03
import Derived.Deep.RegionHeld3
import Derived.Test.YtplkmkbambbemaeGreatDoorM01
import Derived.Test.YtplkmkbambbemaeGreatDoorM07
import Derived.RangeFuncBox
import Derived.RangeFuncLeaves
import Derived.Shelf.Abstract
import Derived.WalkKit
import Derived.OwnWalkIn
import Derived.TacticsInMore
import Derived.LoopNIn
import Derived.LoopIn
import Derived.Maps.AppendAt
namespace Go.Proofs.YtplkmkbambbemaeGreatDoor
open Go.ChangeShapes Go.WideShapes Go.ChangeAt Go.RowKit
structure ReadyL (w : World) : Prop where
  taps : Taps w
  wor : Wor w
  col : Col w
theorem ReadyL.below {w w' : World} (h : ReadyL w) (hb : Below w.heap.size w w') : ReadyL w' := ⟨h.taps.below hb, h.wor.below hb h.wor.lt, h.col.later hb⟩
theorem errAll {z : List Int} (h : AllBits z) (hl : z.length ≤ 4096) : errOf z = 0 := by
  refine err_none (fun j hj => ?_) (by omega)
  have e : z.getD j 0 = z[j] := by simp [List.getD, hj]
  have := h z[j] (List.getElem_mem hj)
  omega
set_option maxHeartbeats 1000000 in
theorem lencode_any (S : Setg) (B : Nat) (z : List Int) (a : Option Addr) (k c : Nat) (w : World) (hS : SetOk S B) (hR : ReadyL w) (ha : Rd .u8 w a z) (hb : AllBits z) (hl : z.length = k) (hk : k = 8 * B + 24) :
    Calls Tryz.prog 29 #[.slice a k c, S.val] w fun e w' => ∃ v, e = .returned v ∧ Own w' w.heap.size v (codeL S z) ∧ Below w.heap.size w w' := by
  have hB : B ≤ 40 := by have := hS.few; omega
  have hb0 : Below w.heap.size w (w.alloc (.cells #[.int .i64 S.code, .int .i64 S.size, .int .i64 S.order, .int .i64 S.seed, .int .i64 S.count] 24)) := (Below.refl _ w).alloc (Nat.le_refl _) _
  have ha0 := ha.below hb0
  have hR0 := hR.below hb0
  by_cases h0 : S.code = 0
  · have hE : encErr z = 0 := by unfold encErr; rw [if_pos (errAll hb (by omega)), if_neg (by omega)]
    have hC : codeL S z = encL z := by unfold codeL encL; rw [if_pos h0, if_pos hE]
    have henc := encode_any z a c _ ha0 (by unfold maxLen; omega) hb.bytes hR0.taps
    rw [hE, hl] at henc
    rw [hC]
    obtain ⟨code, size, order, seed, count⟩ := S
    obtain rfl : code = 0 := h0
    unfold Setg.val
    dsimp only at *
    clear hC hS hE hb hl hk ha0 hR0
    go_enter Tryz.func29, Tryz.ntmps29
    go_wp2_with (first | (go_at_call 49; refine henc.mono ?_; rintro e w1 ⟨v1, rfl, ho1, hb1⟩) | (go_at_call 25; refine (mustB _ _).mono ?_; rintro e w2 ⟨rfl, rfl⟩))
    go_ret
    exact ⟨v1, rfl, ho1.mono hb0.size, hb0.trans (hb1.mono hb0.size)⟩
  · have h1 : S.code = 1 := by have := hS.code; omega
    obtain ⟨hp, hsz⟩ := hS.size1 h1
    obtain ⟨p1, p2, p3⟩ := size_pow hp
    have hC : codeL S z = turnM (sizeL S) (spreadM S.size.toNat (placesM S.size.toNat z.length) z z.length) := by unfold codeL; rw [if_neg h0]
    rw [hC]
    have henc := pencode_any (sizeL S) z a S.size.toNat k c _ ha0 hb hl p3 p2 (by omega) hR0.wor
    rw [hl]
    rw [show ((S.size.toNat : Nat) : Int) = S.size by omega] at henc
    obtain ⟨L, eL⟩ : ∃ L, L = turnM (sizeL S) (spreadM S.size.toNat (placesM S.size.toNat k) z k) := ⟨_, rfl⟩
    rw [← eL] at henc ⊢
    obtain ⟨m, em⟩ : ∃ m, m = S.size.toNat := ⟨_, rfl⟩
    rw [← em] at henc
    obtain ⟨code, size, order, seed, count⟩ := S
    obtain rfl : code = 1 := h1
    unfold Setg.val
    dsimp only at henc hb0
    clear hC hS p1 p2 p3 hp hsz eL em h0 hb hl hk ha0 hR0
    go_enter Tryz.func29, Tryz.ntmps29
    go_wp2_with (first | (go_at_call 48; refine henc.mono ?_; rintro e w1 ⟨g1, rfl, ho1, hb1⟩) | (go_at_call 25; refine (mustB _ _).mono ?_; rintro e w2 ⟨rfl, rfl⟩))
    go_ret
    exact ⟨_, rfl, ho1.mono hb0.size, hb0.trans (hb1.mono hb0.size)⟩
set_option maxHeartbeats 1000000 in
theorem ldecode_any (S : Setg) (B : Nat) (s : List Int) (b1 o1 n k c : Nat) (w : World) (hS : SetOk S B) (hR : ReadyL w) (ha : Rd .i64 w (some ⟨b1, o1, none⟩) s) (hsl : (s.length : Int) = codedN S B) (hso : softOk s = true) (hl : s.length = n) (hnc : n ≤ c) (hk : k = 8 * B + 24) :
    Calls Tryz.prog 55 #[.slice (some ⟨b1, o1, none⟩) n c, S.val, .int .i64 k] w fun e w' => ∃ v, e = .returned v ∧ Own w' w.heap.size v (foundL S k s) ∧ Below w.heap.size w w' := by
  have hB : B ≤ 40 := by have := hS.few; omega
  have hb0 : Below w.heap.size w (w.alloc (.cells #[.int .i64 S.code, .int .i64 S.size, .int .i64 S.order, .int .i64 S.seed, .int .i64 S.count] 24)) := (Below.refl _ w).alloc (Nat.le_refl _) _
  have ha0 := ha.below hb0
  have hR0 := hR.below hb0
  by_cases h0 : S.code = 0
  · have hC : foundL S k s = way s k 0 0 := by unfold foundL; rw [if_pos h0]
    rw [hC]
    have hsl' : (s.length : Int) = 3 * (8 * (B : Int) + 24) + 18 := by rw [hsl]; unfold codedN; rw [if_pos h0]
    have hdec := decode_good s k (some ⟨b1, o1, none⟩) c _ ha0 (by omega) (by omega) (by unfold softErr; rw [hso]; rfl) (by omega) hR0.taps
    rw [hl] at hdec
    obtain ⟨L, eL⟩ : ∃ L, L = way s k 0 0 := ⟨_, rfl⟩
    rw [← eL] at hdec ⊢
    obtain ⟨T, eT⟩ : ∃ T, T = top s k 0 0 := ⟨_, rfl⟩
    rw [← eT] at hdec
    obtain ⟨code, size, order, seed, count⟩ := S
    obtain rfl : code = 0 := h0
    unfold Setg.val
    dsimp only at *
    clear hC hS eL eT hsl hsl' hso hl hk ha0 hR0
    go_enter Tryz.func55, Tryz.ntmps55
    go_wp2_with (first | (go_at_call 68; refine hdec.mono ?_; rintro e w1 ⟨v1, rfl, ho1, hb1⟩) | (go_at_call 25; refine (mustB _ _).mono ?_; rintro e w2 ⟨rfl, rfl⟩))
    go_ret
    exact ⟨v1, rfl, ho1.mono hb0.size, hb0.trans (hb1.mono hb0.size)⟩
  · have h1 : S.code = 1 := by have := hS.code; omega
    obtain ⟨hp, hsz⟩ := hS.size1 h1
    obtain ⟨p1, p2, p3⟩ := size_pow hp
    have hsl' : (s.length : Int) = S.size := by rw [hsl]; unfold codedN; rw [if_neg h0]
    have hC : foundL S k s = readM (placesM n k) (decP (sizeL S) s (openM n k)) := by unfold foundL; rw [if_neg h0, show S.size.toNat = n by omega]
    rw [hC]
    have hdec := pdecode_any (sizeL S) s b1 o1 n k c _ ha0 hl p3 (by omega) hnc (by omega) hso hR0.wor
    obtain ⟨L, eL⟩ : ∃ L, L = readM (placesM n k) (decP (sizeL S) s (openM n k)) := ⟨_, rfl⟩
    rw [← eL] at hdec ⊢
    obtain ⟨code, size, order, seed, count⟩ := S
    obtain rfl : code = 1 := h1
    unfold Setg.val
    dsimp only at *
    clear hC hS p1 p2 p3 hp hsz eL h0 hsl hsl' hso hl hk ha0 hR0
    go_enter Tryz.func55, Tryz.ntmps55
    go_wp2_with (first | (go_at_call 67; refine hdec.mono ?_; rintro e w1 ⟨g1, rfl, ho1, hb1⟩) | (go_at_call 25; refine (mustB _ _).mono ?_; rintro e w2 ⟨rfl, rfl⟩))
    go_ret
    exact ⟨_, rfl, ho1.mono hb0.size, hb0.trans (hb1.mono hb0.size)⟩
end Go.Proofs.YtplkmkbambbemaeGreatDoor
namespace Go.Proofs.YtplkmkbambbemaeGreatDoor
open Go.ChangeShapes Go.WideShapes Go.ChangeAt Go.RowKit
def laidT : List (String × DataW Unit) := [("roamwave/conv.taps", Rows.laid_roamwave_conv_taps), ("roamwave/match.columns", Rows.laid_roamwave_match_columns), ("roamwave/polar.worths", Rows.laid_roamwave_polar_worths)]
theorem gTap : Tryz.prog.globalNamed "roamwave/conv.taps" = some 1 := by kernel_rfl
theorem tTap : (Tryz.prog.globals[1]?).map (·.type) = some 112 := by kernel_rfl
theorem gCol : Tryz.prog.globalNamed "roamwave/match.columns" = some 0 := by kernel_rfl
theorem tCol : (Tryz.prog.globals[0]?).map (·.type) = some 111 := by kernel_rfl
theorem gWor : Tryz.prog.globalNamed "roamwave/polar.worths" = some 2 := by kernel_rfl
theorem tWor : (Tryz.prog.globals[2]?).map (·.type) = some 122 := by kernel_rfl
/-- The door's own heap meets the condition. -/
theorem door_met (os : Os) (args : Array Value) : laidMetH Tryz.prog laidT ((World.doorLaid Tryz.prog 400 os).forCall (fun _ _ => 0) ⟨#[], args, []⟩).memory :=
  laidMetH_of_parts3 (fuel := 8) (laidMet_of_run' 8 (by kernel_rfl) (by kernel_rfl)) (by kernel_rfl) (by kernel_rfl)
theorem lit_num {e : TypeId} {W : World} {m : Nat} {c : Value} {y : DataW Unit × List MemPlace} {kd : IntKind} {k : Int} {f : TypeId × Value → Unit} (he : Tryz.prog.underlying e = some (.int kd))
    (h : DataW.trod f Tryz.prog W 0 (fun _ => true) false m e [c] = some y) (hy : y.1 = .lit (.int kd k)) : c = .int kd k := by
  obtain ⟨n, e1, e2, _⟩ := DataW.trod_int he h
  rw [e2] at hy
  simp only [DataW.lit.injEq, Lit.int.injEq, true_and] at hy
  subst hy
  simpa using e1
theorem var_cells {W : World} {g : Nat} {nm : String} {cs : Array Value} (hg : Tryz.prog.globalNamed nm = some g) (h : W.var? Tryz.prog nm = some cs) : ∃ T fr, W.heap[g]? = some (.cells cs T fr) := by
  simp only [World.var?, hg, Option.bind_some] at h
  split at h
  · rename_i cs' T fr heq
    simp only [Option.some.injEq] at h
    subst h
    exact ⟨T, fr, heq⟩
  · cases h
set_option maxHeartbeats 1000000 in
theorem Tap_cells {W : World} {cs : Array Value} {m : Nat} {x : DataW Unit × List MemPlace} {f : TypeId × Value → Unit} (hd : DataW.trod f Tryz.prog W 0 (fun _ => true) false m 112 cs.toList = some x) (hx : x.1 = Rows.laid_roamwave_conv_taps) : cs = #[.int .u64 79, .int .u64 109, .int .u64 87] := by
  obtain ⟨xs, m1, hx1, hx2, hlen, hn3, hel⟩ := DataW.trod_array Tryz.underlying112 hd
  have c1 : Tryz.prog.cellsOf 103 = 1 := by kernel_rfl
  have cN : Tryz.prog.cellsOf 112 = 3 := by kernel_rfl
  rw [cN] at hlen
  rw [c1] at hel
  obtain ⟨cl⟩ := cs
  simp only at hlen hel
  rw [hx2] at hx
  simp only [Rows.laid_roamwave_conv_taps, DataW.agg.injEq] at hx
  have h0 := hel 0 (by decide)
  have h1 := hel 1 (by decide)
  have h2 := hel 2 (by decide)
  match cl, hlen, xs, hn3, hx, h0, h1, h2 with
  | [c0, c1, c2], _, [x0, x1, x2], _, hx, h0, h1, h2 =>
    simp only [List.map_cons, List.map_nil, List.cons.injEq] at hx
    obtain ⟨y0, y1, y2, -⟩ := hx
    have e0 := lit_num Tryz.underlying103 (c := c0) (y := x0) (k := 79) (by simpa using h0) y0
    have e1 := lit_num Tryz.underlying103 (c := c1) (y := x1) (k := 109) (by simpa using h1) y1
    have e2 := lit_num Tryz.underlying103 (c := c2) (y := x2) (k := 87) (by simpa using h2) y2
    rw [e0, e1, e2]
set_option maxHeartbeats 1000000 in
theorem Col_cells {W : World} {cs : Array Value} {m : Nat} {x : DataW Unit × List MemPlace} {f : TypeId × Value → Unit} (hd : DataW.trod f Tryz.prog W 0 (fun _ => true) false m 111 cs.toList = some x) (hx : x.1 = Rows.laid_roamwave_match_columns) : cs = #[.int .i64 0, .int .i64 4, .int .i64 2, .int .i64 6, .int .i64 1, .int .i64 5, .int .i64 3, .int .i64 7] := by
  obtain ⟨xs, m1, hx1, hx2, hlen, hn3, hel⟩ := DataW.trod_array Tryz.underlying111 hd
  have c1 : Tryz.prog.cellsOf 3 = 1 := by kernel_rfl
  have cN : Tryz.prog.cellsOf 111 = 8 := by kernel_rfl
  rw [cN] at hlen
  rw [c1] at hel
  obtain ⟨cl⟩ := cs
  simp only at hlen hel
  rw [hx2] at hx
  simp only [Rows.laid_roamwave_match_columns, DataW.agg.injEq] at hx
  have h0 := hel 0 (by decide)
  have h1 := hel 1 (by decide)
  have h2 := hel 2 (by decide)
  have h3 := hel 3 (by decide)
  have h4 := hel 4 (by decide)
  have h5 := hel 5 (by decide)
  have h6 := hel 6 (by decide)
  have h7 := hel 7 (by decide)
  match cl, hlen, xs, hn3, hx, h0, h1, h2, h3, h4, h5, h6, h7 with
  | [c0, c1, c2, c3, c4, c5, c6, c7], _, [x0, x1, x2, x3, x4, x5, x6, x7], _, hx, h0, h1, h2, h3, h4, h5, h6, h7 =>
    simp only [List.map_cons, List.map_nil, List.cons.injEq] at hx
    obtain ⟨y0, y1, y2, y3, y4, y5, y6, y7, -⟩ := hx
    have e0 := lit_num Tryz.underlying3 (c := c0) (y := x0) (k := 0) (by simpa using h0) y0
    have e1 := lit_num Tryz.underlying3 (c := c1) (y := x1) (k := 4) (by simpa using h1) y1
    have e2 := lit_num Tryz.underlying3 (c := c2) (y := x2) (k := 2) (by simpa using h2) y2
    have e3 := lit_num Tryz.underlying3 (c := c3) (y := x3) (k := 6) (by simpa using h3) y3
    have e4 := lit_num Tryz.underlying3 (c := c4) (y := x4) (k := 1) (by simpa using h4) y4
    have e5 := lit_num Tryz.underlying3 (c := c5) (y := x5) (k := 5) (by simpa using h5) y5
    have e6 := lit_num Tryz.underlying3 (c := c6) (y := x6) (k := 3) (by simpa using h6) y6
    have e7 := lit_num Tryz.underlying3 (c := c7) (y := x7) (k := 7) (by simpa using h7) y7
    rw [e0, e1, e2, e3, e4, e5, e6, e7]
set_option maxHeartbeats 1000000 in
theorem Wor_cells {W : World} {cs : Array Value} {m : Nat} {x : DataW Unit × List MemPlace} {f : TypeId × Value → Unit} (hd : DataW.trod f Tryz.prog W 0 (fun _ => true) false m 122 cs.toList = some x) (hx : x.1 = Rows.laid_roamwave_polar_worths) : cs = #[.int .i64 1000, .int .i64 1189, .int .i64 1414, .int .i64 1681, .int .i64 2000, .int .i64 2378, .int .i64 2828, .int .i64 3363, .int .i64 4000] := by
  obtain ⟨xs, m1, hx1, hx2, hlen, hn3, hel⟩ := DataW.trod_array Tryz.underlying122 hd
  have c1 : Tryz.prog.cellsOf 3 = 1 := by kernel_rfl
  have cN : Tryz.prog.cellsOf 122 = 9 := by kernel_rfl
  rw [cN] at hlen
  rw [c1] at hel
  obtain ⟨cl⟩ := cs
  simp only at hlen hel
  rw [hx2] at hx
  simp only [Rows.laid_roamwave_polar_worths, DataW.agg.injEq] at hx
  have h0 := hel 0 (by decide)
  have h1 := hel 1 (by decide)
  have h2 := hel 2 (by decide)
  have h3 := hel 3 (by decide)
  have h4 := hel 4 (by decide)
  have h5 := hel 5 (by decide)
  have h6 := hel 6 (by decide)
  have h7 := hel 7 (by decide)
  have h8 := hel 8 (by decide)
  match cl, hlen, xs, hn3, hx, h0, h1, h2, h3, h4, h5, h6, h7, h8 with
  | [c0, c1, c2, c3, c4, c5, c6, c7, c8], _, [x0, x1, x2, x3, x4, x5, x6, x7, x8], _, hx, h0, h1, h2, h3, h4, h5, h6, h7, h8 =>
    simp only [List.map_cons, List.map_nil, List.cons.injEq] at hx
    obtain ⟨y0, y1, y2, y3, y4, y5, y6, y7, y8, -⟩ := hx
    have e0 := lit_num Tryz.underlying3 (c := c0) (y := x0) (k := 1000) (by simpa using h0) y0
    have e1 := lit_num Tryz.underlying3 (c := c1) (y := x1) (k := 1189) (by simpa using h1) y1
    have e2 := lit_num Tryz.underlying3 (c := c2) (y := x2) (k := 1414) (by simpa using h2) y2
    have e3 := lit_num Tryz.underlying3 (c := c3) (y := x3) (k := 1681) (by simpa using h3) y3
    have e4 := lit_num Tryz.underlying3 (c := c4) (y := x4) (k := 2000) (by simpa using h4) y4
    have e5 := lit_num Tryz.underlying3 (c := c5) (y := x5) (k := 2378) (by simpa using h5) y5
    have e6 := lit_num Tryz.underlying3 (c := c6) (y := x6) (k := 2828) (by simpa using h6) y6
    have e7 := lit_num Tryz.underlying3 (c := c7) (y := x7) (k := 3363) (by simpa using h7) y7
    have e8 := lit_num Tryz.underlying3 (c := c8) (y := x8) (k := 4000) (by simpa using h8) y8
    rw [e0, e1, e2, e3, e4, e5, e6, e7, e8]
set_option maxHeartbeats 1000000 in
theorem tabs_of_laid {W : World} (h : laidMetH Tryz.prog laidT W) : Taps W ∧ Col W ∧ Wor W := by
  rw [MakeChecks.laidMetH_plain _ _ _ (by kernel_rfl)] at h
  obtain ⟨ps, ⟨g0, t0, cs0, f0, p0, q0, hg0, ht0, hv0, hd0, ⟨g1, t1, cs1, f1, p1, q1, hg1, ht1, hv1, hd1, ⟨g2, t2, cs2, f2, p2, q2, hg2, ht2, hv2, hd2, _⟩, _⟩, _⟩, _, _⟩ := h
  obtain rfl := Option.some.inj (gTap.symm.trans hg0)
  obtain rfl := Option.some.inj (tTap.symm.trans ht0)
  obtain rfl := Option.some.inj (gCol.symm.trans hg1)
  obtain rfl := Option.some.inj (tCol.symm.trans ht1)
  obtain rfl := Option.some.inj (gWor.symm.trans hg2)
  obtain rfl := Option.some.inj (tWor.symm.trans ht2)
  obtain ⟨T0, fr0, hh0⟩ := var_cells hg0 hv0
  obtain ⟨T1, fr1, hh1⟩ := var_cells hg1 hv1
  obtain ⟨T2, fr2, hh2⟩ := var_cells hg2 hv2
  have e0 := Tap_cells hd0 rfl
  have e1 := Col_cells hd1 rfl
  have e2 := Wor_cells hd2 rfl
  refine ⟨⟨T0, fr0, ?_⟩, ⟨T1, fr1, ?_⟩, ⟨T2, fr2, ?_⟩⟩
  · rw [hh0, e0]
  · rw [hh1, e1]; rfl
  · rw [hh2, e2]; rfl
end Go.Proofs.YtplkmkbambbemaeGreatDoor
namespace Go.Proofs.YtplkmkbambbemaeGreatDoor
open Go.ChangeShapes Go.WideShapes Go.ChangeAt Go.RowKit
theorem u8_bit (x : Int) (h0 : 0 ≤ x) (h1 : x < 256) : bits .and .u8 x 1 = x % 2 := by
  rw [u8_and x 1 h0 h1 (by decide) (by decide), show (1 : Int).toNat = 1 from rfl, Nat.and_one_is_mod]
  omega
theorem div_pow_bd (x : Int) (e : Nat) (h0 : 0 ≤ x) (h1 : x < 256) : 0 ≤ x / 2 ^ e ∧ x / 2 ^ e < 256 := by
  have hp : (0 : Int) < 2 ^ e := Int.pow_pos (by decide)
  have h := Int.ediv_nonneg h0 (Int.le_of_lt hp)
  refine ⟨h, ?_⟩
  have : x / 2 ^ e ≤ x := Int.ediv_le_self _ h0
  omega
theorem unp_bit (s : ByteArray) (k : Nat) (h : k / 8 < s.size) : bits .and .u8 ((s[k / 8].toNat : Int) / 2 ^ (7 - k % 8)) 1 = bitAt s k := by
  have hb := byteAt_bd s (k / 8)
  rw [← byteAt_eq s _ h]
  have hd := div_pow_bd (byteAt s (k / 8)) (7 - k % 8) hb.1 (by omega)
  rw [u8_bit _ hd.1 hd.2]
  rfl
theorem unp_set (s : ByteArray) (N k : Nat) (h : k < N) (x : Int) (hx : x = bitAt s k) : (unpackTo s k ++ List.replicate (N - k) 0).set k x = unpackTo s (k + 1) ++ List.replicate (N - (k + 1)) 0 := by
  rw [show N - k = (N - (k + 1)) + 1 from by omega, set_fill _ _ _ _ (unpackTo_length s k), unpackTo_succ, hx]
set_option maxHeartbeats 1000000 in
theorem unpack_any (s : ByteArray) (n : Int) (w : World) (hm : s.size ≤ 140737488355328) :
    Calls Tryz.prog 27 #[.string s, .int .i64 n] w fun e w' => ∃ v, e = .returned (.tuple #[v, .int .i64 (unpackErr s n)]) ∧ Own w' w.heap.size v (unpackL s n) ∧ Below w.heap.size w w' := by
  by_cases h1 : n < 0
  · have he : unpackErr s n = 1 := by unfold unpackErr; rw [if_pos (.inl h1)]
    have hL : unpackL s n = [] := by unfold unpackL; rw [he]; rfl
    rw [he, hL]
    go_enter Tryz.func27, Tryz.ntmps27
    go_wp2
    go_ret2
    exact ⟨_, rfl, Own.nil _ _, Below.refl _ _⟩
  · have h1' : decide (n < 0) = false := by simpa using h1
    by_cases h2 : 8 * (s.size : Int) < n
    · have he : unpackErr s n = 1 := by unfold unpackErr; rw [if_pos (.inr h2)]
      have hL : unpackL s n = [] := by unfold unpackL; rw [he]; rfl
      rw [he, hL]
      go_enter Tryz.func27, Tryz.ntmps27
      go_wp2
      go_ret2
      exact ⟨_, rfl, Own.nil _ _, Below.refl _ _⟩
    · have h2' : decide (8 * (s.size : Int) < n) = false := by simpa using h2
      by_cases h3 : 4096 < n
      · have he : unpackErr s n = 2 := by unfold unpackErr; rw [if_neg (by omega), if_pos h3]
        have hL : unpackL s n = [] := by unfold unpackL; rw [he]; rfl
        rw [he, hL]
        go_enter Tryz.func27, Tryz.ntmps27
        go_wp2
        go_ret2
        exact ⟨_, rfl, Own.nil _ _, Below.refl _ _⟩
      · have he : unpackErr s n = 0 := by unfold unpackErr; rw [if_neg (by omega), if_neg h3]
        have hL : unpackL s n = unpackTo s n.toNat := by unfold unpackL; rw [if_pos he]
        rw [he, hL]
        clear hL he
        obtain ⟨N, rfl⟩ := Int.eq_ofNat_of_zero_le (show 0 ≤ n by omega)
        rw [Int.toNat_natCast]
        go_enter Tryz.func27, Tryz.ntmps27
        go_wp2_with (at_make; refine wpList_makeBytes w.heap.size w N rfl _ _ rfl _ _ rfl rfl rfl rfl (by omega) (Below.refl _ _) (Nat.le_refl _) ?_)
        intro w1 hown1 hbel1 hsz1
        go_wp2
        go_loopw [23] (fun i wr => ∃ k : Nat, k ≤ N ∧ i = .int .i64 k ∧ Own wr w.heap.size (.slice (some ⟨w.heap.size, 0, none⟩) N N) (unpackTo s k ++ List.replicate (N - k) 0) ∧ Below w.heap.size w wr) (fun i _ => N - (intOf i).toNat)
        case atStart => exact ⟨0, Nat.zero_le _, rfl, hown1, hbel1⟩
        case round =>
          clear hown1 hbel1
          obtain ⟨k, hk, rfl, hown, hbel⟩ := hrel
          by_cases hlt : k < N
          · have hll : (unpackTo s k ++ List.replicate (N - k) 0).length = N := hown.len
            have hc := hown.cell (i := k) (by omega)
            have hf := hown.free k
            have hi8 : (k : Int) / 8 < s.size := by omega
            clear hll
            go_wp2
            go_roundw
            case rel => exact ⟨k + 1, by omega, by go_num, unp_set s N k hlt _ (unp_bit s k (by omega)) ▸ hown.set k _, hbel.setCell (Nat.le_refl _) _⟩
            case measure => simp [intOf]; omega
          · go_wp2
            go_ret2
            obtain rfl : k = N := by omega
            rw [Nat.sub_self, List.replicate_zero, List.append_nil] at hown
            exact ⟨_, rfl, hown, hbel⟩
end Go.Proofs.YtplkmkbambbemaeGreatDoor
namespace Go.Proofs.YtplkmkbambbemaeGreatDoor
open Go.ChangeShapes Go.WideShapes Go.ChangeAt Go.RowKit
theorem keep1 {w w' : World} {x o : Nat} {v : Value} (hb : Below w.heap.size w w') (h : w.cell? ⟨x, o, none⟩ = some v) : w'.cell? ⟨x, o, none⟩ = some v :=
  (hb.cell (World.block_lt_of_cell? w _ h)).trans h
theorem laid_two (zs S : List Int) (N : Nat) (hN : N = zs.length + S.length) (n : Nat) (hn : S.length ≤ n) : laidOver (laidOver (List.replicate N 0) 0 zs) zs.length (S.take n) = zs ++ S := by
  subst hN
  rw [List.take_of_length_le hn]
  simp [laidOver]
set_option maxRecDepth 100000 in
set_option maxHeartbeats 2000000 in
theorem seal_ok (zs : List Int) (k : Int) (a : Option Addr) (c : Nat) (w : World) (ha : Rd .u8 w a zs) (hy : Bytes zs) (h : errSum zs k = 0) (hl : zs.length + kW k ≤ 4096) :
    Calls Tryz.prog 26 #[.slice a zs.length c, .int .i64 k] w fun e w' => ∃ v, e = .returned (.tuple #[v, .int .i64 0]) ∧ Own w' w.heap.size v (zs ++ ksum zs k) ∧ Below w.heap.size w w' := by
  obtain ⟨he, hk⟩ := errSum_ok h
  obtain ⟨hD, hW1, hW, hR⟩ := kind_div hk
  have hb : Bits zs := fun j => ⟨(hy.at j).1, (err_zero he).1 j⟩
  have hz := (err_zero he).2
  have HE : Hid (errOf zs = 0) := he
  have HK : Hid (isKind k = true) := hk
  clear h hy he hk
  unfold ksum kP
  unfold kP at hD
  go_enter Tryz.func26, Tryz.ntmps26
  go_wp2_with fail
  refine (checksum_ok zs k a c _ ha (by unfold maxLen; omega) HE.out HK.out).mono ?_
  rintro e w1 ⟨rfl, hb1⟩
  have ha1 := ha.below hb1
  obtain ⟨N, hN⟩ : ∃ N, N = zs.length + kW k := ⟨_, rfl⟩
  have HN : Hid (N = zs.length + kW k) := hN
  have hN1 : N ≤ 4096 := by omega
  have hN2 : zs.length ≤ N := by omega
  clear hN
  have ha2 := ha1.below ((Below.refl _ _).alloc (Nat.le_refl _) (.cells #[.int .i64 (kW k), .int .u32 (kR k)] 85))
  go_wp2_with (at_make; refine wpList_makeBytes (w1.heap.size + 1) (w1.alloc (.cells #[.int .i64 (kW k), .int .u32 (kR k)] 85)) N rfl _ _ rfl _ _ rfl rfl ?_ ?_ (by omega) (by exact Below.refl _ _) (by simp) ?_)
  · have := HN.out; omega
  · have := HN.out; omega
  intro w2 hown2 hbel2 hsz2
  have ha3 := ha2.below (by simpa using hbel2)
  obtain ⟨q0, q1, q2, q3, q4⟩ := box2 (w := w1) (x := .int .i64 (kW k)) (y := .int .u32 (kR k)) (T := 85) (w1 := w2) (by simpa using hbel2)
  go_wp2_with (refine wpList_copyBytes (w1.alloc (.cells #[.int .i64 (kW k), .int .u32 (kR k)] 85)) hown2 ha3 rfl (.tmp 30) (.tmp 31) rfl (some ⟨w1.heap.size + 1, 0, none⟩) N N c 0 zs.length ?_ rfl rfl ?_ ?_ hbel2 ?_)
  · omega
  · omega
  intro w3 hown3 hbel3 hsz3
  obtain ⟨p0, p1, -⟩ := box2 (w := w1) (x := .int .i64 (kW k)) (y := .int .u32 (kR k)) (T := 85) (w1 := w3) (by simpa using hbel3)
  have ha4 := ha2.below (by simpa using hbel3)
  have hN3 : zs.length < N := by have := HN.out; omega
  clear q0 q1 q2 q3 q4 hown2 hbel2 ha2 ha3
  go_wp2_with fail
  have hmin : kW k = min (sumL (kW k) (2 ^ kW k ||| kR k) zs).length (N - zs.length) := by rw [sumL_length]; have := HN.out; omega
  have HM : Hid (kW k = min (sumL (kW k) (2 ^ kW k ||| kR k) zs).length (N - zs.length)) := hmin
  clear hmin
  go_region_held3 (fun w' => w'.cell? ⟨w1.heap.size, 0, none⟩ = some (.int .i64 (kW k)) ∧ w'.cell? ⟨w1.heap.size, 1, none⟩ = some (.int .u32 (kR k))) (first | exact ⟨p0, p1⟩ | exact ⟨keep1 hb4 p0, keep1 hb4 p1⟩ | exact ⟨hgr5.cell (keep1 hb4 p0) (by simp), hgr5.cell (keep1 hb4 p1) (by simp)⟩)
    (first | (go_at_call 47; refine (sum_any (kW k) (kR k) zs a c _ ?_ hb hz hD hW1 hW hR).mono ?_; exact ha4; rintro e w4 ⟨v4, rfl, hown4, hb4⟩; obtain ⟨a4, c4, rfl, -⟩ := hown4.shape; obtain ⟨w5, hrun5, hown5, hgr5⟩ := run_copy_own (hown3.drew.below hb4) hown4.rd 3 (some ⟨w1.heap.size + 1, zs.length, none⟩) (N - zs.length) (N - zs.length) c4 zs.length (kW k) HM.out (fun _ => rfl) (by have := HN.out; omega)))
  go_wp2
  go_ret2
  have hs1 := hb1.size
  have b3 : Below w.heap.size w w3 := (hb1.alloc hs1 _).trans (hbel3.mono (by omega))
  have b4 := bthen b3.drew hb4
  have b5 := b4.grown hgr5 b4.size (fun k hk => by simp at hk; omega)
  rw [laid_two zs (sumL (kW k) (2 ^ kW k ||| kR k) zs) N (by rw [sumL_length]; exact HN.out) (kW k) (by rw [sumL_length]; exact Nat.le_refl _)] at hown5
  exact ⟨_, rfl, hown5.mono (by omega), b5⟩
end Go.Proofs.YtplkmkbambbemaeGreatDoor
namespace Go.Proofs.YtplkmkbambbemaeGreatDoor
open Go.ChangeShapes Go.WideShapes Go.ChangeAt Go.RowKit
/-- A row of noise, its first k places covered. -/
def coverTo (zs ns : List Int) (k : Nat) : List Int := (List.range ns.length).map fun j => if j < k then (zs.getD j 0 + ns.getD j 0) % 2 else ns.getD j 0
theorem coverTo_zero (zs ns : List Int) : coverTo zs ns 0 = ns := by
  refine List.ext_getElem (by simp [coverTo]) fun j h1 h2 => ?_
  simp [coverTo, List.getD, h2]
theorem coverTo_all (zs ns : List Int) : coverTo zs ns ns.length = addTo zs ns ns.length := by
  unfold coverTo addTo
  refine List.map_congr_left fun j hj => ?_
  rw [if_pos (List.mem_range.1 hj)]
theorem coverTo_getD (zs ns : List Int) (k : Nat) (h : k < ns.length) : (coverTo zs ns k).getD k 0 = ns.getD k 0 := by simp [coverTo, List.getD, h]
theorem coverTo_set (zs ns : List Int) (k : Nat) (x : Int) (hx : x = (zs.getD k 0 + ns.getD k 0) % 2) : (coverTo zs ns k).set k x = coverTo zs ns (k + 1) := by
  refine List.ext_getElem (by simp [coverTo]) fun j h1 h2 => ?_
  rw [List.getElem_set]
  split
  · rename_i e
    subst e
    simp only [coverTo, List.getElem_map, List.getElem_range]
    rw [if_pos (by omega), hx]
  · rename_i e
    simp only [coverTo, List.getElem_map, List.getElem_range]
    by_cases hj : j < k
    · rw [if_pos hj, if_pos (by omega)]
    · rw [if_neg hj, if_neg (by omega)]
theorem xor_bits (a b : Int) (ha : 0 ≤ a ∧ a ≤ 1) (hb : 0 ≤ b ∧ b ≤ 1) : bits .xor .u8 a b = (b + a) % 2 := by
  rcases (show a = 0 ∨ a = 1 by omega) with rfl | rfl <;> rcases (show b = 0 ∨ b = 1 by omega) with rfl | rfl <;> decide
theorem noise_bits (s n : Nat) : Bits (noiseTo s n) := fun k => by
  by_cases h : k < n
  · have : (noiseTo s n).getD k 0 = noiseAt s k := by simp [noiseTo, List.getD, h]
    rw [this]; exact b2i_bd _
  · have : (noiseTo s n).getD k 0 = 0 := by simp [noiseTo, List.getD, h]
    rw [this]; omega
set_option maxRecDepth 100000 in
set_option maxHeartbeats 1000000 in
theorem cover_ok (zs : List Int) (s : Nat) (a : Option Addr) (c : Nat) (w : World) (ha : Rd .u8 w a zs) (hb : Bits zs) (he : errOf zs = 0) (hs : s < 2147483648) :
    Calls Tryz.prog 32 #[.slice a zs.length c, .int .i64 s] w fun e w' => ∃ v, e = .returned (.tuple #[v, .int .i64 0]) ∧ Own w' w.heap.size v (addTo zs (noiseTo s zs.length) zs.length) ∧ Below w.heap.size w w' := by
  have hz := (err_zero he).2
  have HE := hid he
  have hnb := noise_bits s zs.length
  have HNL := hid (noiseTo_length s zs.length)
  clear he
  go_enter Tryz.func32, Tryz.ntmps32
  go_wp2_with fail
  refine (check_any zs a c _ ha (by unfold maxLen; omega)).mono ?_
  rintro e w1 ⟨rfl, rfl⟩
  rw [HE.out]
  go_wp2_with fail
  refine (noise_ok s zs.length _ hs hz).mono ?_
  rintro e w1 ⟨v1, rfl, hown1, hb1⟩
  obtain ⟨a1, c1, rfl, hne1, -⟩ := hown1.shape
  rw [HNL.out]
  rw [HNL.out, ← coverTo_zero zs (noiseTo s zs.length)] at hown1
  have ha1 := ha.below hb1
  generalize hns : noiseTo s zs.length = ns at *
  have HNS := hid hns
  clear hns
  go_wp2
  go_loopw [28] (fun i wr => ∃ k : Nat, k ≤ zs.length ∧ i = .int .i64 k ∧ Own wr w.heap.size (.slice a1 zs.length c1) (coverTo zs ns k) ∧ Below w.heap.size w wr) (fun i _ => zs.length - (intOf i).toNat)
  case atStart => exact ⟨0, Nat.zero_le _, rfl, hown1, hb1⟩
  case round =>
    clear hown1
    obtain ⟨k, hk, rfl, hown, hbel⟩ := hrel
    by_cases hlt : k < zs.length
    · obtain ⟨g, rfl⟩ := hne1 (by intro e; have := HNL.out; rw [e] at this; simp at this; omega)
      obtain ⟨b2, o2, rfl, hc2⟩ := (ha.below hbel).at hlt
      have g2 := hc2 k hlt
      have hll : (coverTo zs ns k).length = zs.length := hown.len
      have hc := hown.cell (i := k) (by omega)
      rw [coverTo_getD zs ns k (by rw [HNL.out]; exact hlt)] at hc
      have hf := hown.free k
      have bx := hb k
      have bn := hnb k
      clear hll hc2
      obtain ⟨x, ex⟩ : ∃ x, x = zs.getD k 0 := ⟨_, rfl⟩
      obtain ⟨y, ey⟩ : ∃ y, y = ns.getD k 0 := ⟨_, rfl⟩
      rw [← ex] at g2 bx
      rw [← ey] at hc bn
      have EX := hid ex
      have EY := hid ey
      clear ex ey
      go_wp2
      have hset := coverTo_set zs ns k (bits .xor .u8 y x) (by rw [xor_bits y x bn bx, ← EX.out, ← EY.out])
      go_roundw
      case rel => exact ⟨k + 1, by omega, by go_num, hset ▸ hown.set k _, hbel.setCell hown.block.1 _⟩
      case measure => simp [intOf]; omega
    · go_wp2
      go_ret2
      obtain rfl : k = zs.length := by omega
      refine ⟨_, rfl, ?_, hbel⟩
      have e1 : ns.length = zs.length := HNL.out
      have e2 := coverTo_all zs ns
      rw [e1] at e2
      rw [e2] at hown
      rw [HNS.out]
      exact hown
end Go.Proofs.YtplkmkbambbemaeGreatDoor
namespace Go.Proofs.YtplkmkbambbemaeGreatDoor
open Go.ChangeShapes Go.WideShapes Go.ChangeAt Go.RowKit
/-- All cells but S's are as they were. -/
structure KeptC (S : List Nat) (W W' : World) : Prop where
  size : W.heap.size ≤ W'.heap.size
  same : ∀ k o, W.heap[k]? = some o → o.isCells = true → k ∉ S → W'.heap[k]? = some o
theorem KeptC.refl (S : List Nat) (W : World) : KeptC S W W := ⟨Nat.le_refl _, fun _ _ h _ _ => h⟩
theorem KeptC.trans {S : List Nat} {A B C : World} (h : KeptC S A B) (k : KeptC S B C) : KeptC S A C := ⟨Nat.le_trans h.size k.size, fun i o hi ho hn => k.same i o (h.same i o hi ho hn) ho hn⟩
theorem KeptC.putObj {S : List Nat} (W : World) (l : Nat) (o o' : Obj) (h : W.heap[l]? = some o) (ho : o.isCells = false) : KeptC S W (W.putObj l o') :=
  ⟨by simp [World.putObj], fun k x hk hx _ => (World.putObj_heap_other (fun e => by subst e; rw [h] at hk; cases hk; rw [ho] at hx; cases hx)).trans hk⟩
theorem KeptC.setCell {S : List Nat} {p : Addr} (W : World) (hp : p.block ∈ S) (u : Value) : KeptC S W (W.setCell p u) :=
  ⟨by simp [World.setCell], fun k o hk _ hn => (Below.heap_setCell W p u k (fun e => hn (by rw [e]; exact hp))).trans hk⟩
theorem KeptC.alloc {S : List Nat} (W : World) (o : Obj) : KeptC S W (W.alloc o) :=
  ⟨by simp, fun k x hk _ _ => (Below.heap_alloc _ _ _ (Array.getElem?_eq_some_iff.1 hk).1).trans hk⟩
theorem KeptC.drew {S : List Nat} {A W : World} (h : KeptC S A W) : KeptC S A W.drew := ⟨h.size, h.same⟩
theorem KeptC.cell {S : List Nat} {W W' : World} (h : KeptC S W W') {p : Addr} {v : Value} (hc : W.cell? p = some v) (hp : p.block ∉ S) : W'.cell? p = some v := by
  obtain ⟨o, ho, hx⟩ := cells_of_cell hc
  have := h.same _ _ ho hx hp
  rw [← hc]
  simp only [World.cell?, ho, this]
theorem KeptC.rd {S : List Nat} {a b : World} (h : KeptC S a b) {k : IntKind} {ad : Option Addr} {zs : List Int} (hr : Rd k a ad zs) (hs : ∀ g o, ad = some ⟨g, o, none⟩ → zs ≠ [] → g ∉ S) : Rd k b ad zs := by
  intro hne
  obtain ⟨g, o, rfl, hc⟩ := hr hne
  exact ⟨g, o, rfl, fun j hj => h.cell (hc j hj) (hs g o rfl hne)⟩
theorem KeptC.of_grown {S : List Nat} {W W' : World} {g : Nat} (h : W.grownBy W' (some g)) (hg : g ∈ S) : KeptC S W W' :=
  ⟨h.size, fun k _ hk _ hn => (h.block k (Array.getElem?_eq_some_iff.1 hk).1 (fun e => by cases e; exact hn hg)).trans hk⟩
theorem keptC_b {S : List Nat} {w : World} (W : World) (l : Nat) (o o' : Obj) (_ : w.heap.size ≤ l) (h : W.heap[l]? = some o) (ho : o.isCells = false) (_ : o.isWalk = false) : KeptC S W (W.putObj l o') := KeptC.putObj W l o o' h ho
/-- Where all blocks but S's lie as they were, the cells do. -/
theorem Kept.cells {S : List Nat} {W W' : World} (h : Kept S W W') : KeptC S W W' := ⟨h.size, fun k _ hk _ hn => (h.block k (Array.getElem?_eq_some_iff.1 hk).1 hn).trans hk⟩
theorem Below.grows {W W' : World} (h : Below W.heap.size W W') : W.grownBy W' none := ⟨h.os, h.tape, h.output, h.size, fun k hk _ => h.block k hk⟩
/-- What is gathered in rounds. -/
def gathF (n v : Nat) (xs s : List Int) (pre : List Nat) : List Int := pre.foldl (fun L i => L.set (pickM n v i) (L.getD (pickM n v i) 0 + xs.getD i 0)) s
theorem gathF_snoc (n v : Nat) (xs s : List Int) (pre : List Nat) (i : Nat) : gathF n v xs s (pre ++ [i]) = (gathF n v xs s pre).set (pickM n v i) ((gathF n v xs s pre).getD (pickM n v i) 0 + xs.getD i 0) := by simp [gathF, List.foldl_append]
theorem gathF_length (n v : Nat) (xs : List Int) (pre : List Nat) : ∀ s : List Int, (gathF n v xs s pre).length = s.length := by
  induction pre with
  | nil => intro s; rfl
  | cons i pre ih =>
    intro s
    have := ih (s.set (pickM n v i) (s.getD (pickM n v i) 0 + xs.getD i 0))
    rw [List.length_set] at this
    exact this
theorem gathF_range (n v : Nat) (xs s : List Int) (c : Nat) : ∀ k, k ≤ c → gathF n v xs s (List.range k) = gathTo s (pickTo n v c) xs k
  | 0, _ => rfl
  | k + 1, hk => by
    rw [List.range_succ, gathF_snoc, gathF_range n v xs s c k (by omega)]
    have : (pickTo n v c).getD k 0 = pickM n v k := pickTo_at (by omega)
    show _ = (gathTo s (pickTo n v c) xs k).set ((pickTo n v c).getD k 0) ((gathTo s (pickTo n v c) xs k).getD ((pickTo n v c).getD k 0) 0 + xs.getD k 0)
    rw [this]
theorem getD_set_any (L : List Int) (i j : Nat) (x : Int) : (L.set i x).getD j 0 = x ∨ (L.set i x).getD j 0 = L.getD j 0 := by
  simp only [List.getD, List.getElem?_set]
  split
  · split
    · exact .inl rfl
    · rename_i h1 h2
      right
      subst h1
      rw [List.getElem?_eq_none (by omega)]
  · exact .inr rfl
theorem gathF_bd0 (n v : Nat) {xs : List Int} (hx : softOk xs = true) (pre : List Nat) : ∀ (s : List Int) (M : Int), (∀ j, -M ≤ s.getD j 0 ∧ s.getD j 0 ≤ M) → ∀ j, -(M + 100000 * (pre.length : Int)) ≤ (gathF n v xs s pre).getD j 0 ∧ (gathF n v xs s pre).getD j 0 ≤ M + 100000 * (pre.length : Int) := by
  induction pre with
  | nil => intro s M h j; have := h j; simpa [gathF] using this
  | cons i pre ih =>
    intro s M h j
    have h1 := soft_at hx i
    have h2 := ih (s.set (pickM n v i) (s.getD (pickM n v i) 0 + xs.getD i 0)) (M + 100000) (fun j => by
      have h3 := h (pickM n v i)
      have h4 := h j
      rcases getD_set_any s (pickM n v i) j (s.getD (pickM n v i) 0 + xs.getD i 0) with e | e
      · rw [e]; omega
      · rw [e]; omega) j
    have e : gathF n v xs s (i :: pre) = gathF n v xs (s.set (pickM n v i) (s.getD (pickM n v i) 0 + xs.getD i 0)) pre := rfl
    rw [e, List.length_cons]
    omega
theorem gathF_bd (n v : Nat) {xs s : List Int} (hs : softOk s = true) (hx : softOk xs = true) (pre : List Nat) (j : Nat) : -(100000 + 100000 * (pre.length : Int)) ≤ (gathF n v xs s pre).getD j 0 ∧ (gathF n v xs s pre).getD j 0 ≤ 100000 + 100000 * (pre.length : Int) :=
  gathF_bd0 n v hx pre s 100000 (soft_at hs) j
/-- What is picked in rounds. -/
def pickF (n v : Nat) (cs s : List Int) (pre : List Nat) : List Int := pre.foldl (fun L i => L.set i (cs.getD (pickM n v i) 0)) s
theorem pickF_snoc (n v : Nat) (cs s : List Int) (pre : List Nat) (i : Nat) : pickF n v cs s (pre ++ [i]) = (pickF n v cs s pre).set i (cs.getD (pickM n v i) 0) := by simp [pickF, List.foldl_append]
theorem pickF_length (n v : Nat) (cs : List Int) (pre : List Nat) : ∀ s : List Int, (pickF n v cs s pre).length = s.length := by
  induction pre with
  | nil => intro s; rfl
  | cons i pre ih =>
    intro s
    have := ih (s.set i (cs.getD (pickM n v i) 0))
    rw [List.length_set] at this
    exact this
theorem pickF_range (v : Nat) (cs : List Int) (K : Nat) : ∀ k, k ≤ K → pickF cs.length v cs (List.replicate K 0) (List.range k) = pickedM cs v k ++ List.replicate (K - k) 0
  | 0, _ => by simp [pickF, pickedM]
  | k + 1, hk => by
    rw [List.range_succ, pickF_snoc, pickF_range v cs K k (by omega)]
    have e : pickedM cs v (k + 1) = pickedM cs v k ++ [cs.getD (pickM cs.length v k) 0] := by simp [pickedM, List.range_succ]
    have er : List.replicate (K - k) (0 : Int) = 0 :: List.replicate (K - (k + 1)) 0 := by
      rw [show K - k = (K - (k + 1)) + 1 by omega, List.replicate_succ]
    rw [e, er, List.set_append_right _ _ (by rw [pickedM_length]; omega), pickedM_length]
    simp
theorem pickF_all (v : Nat) (cs : List Int) (K : Nat) : pickF cs.length v cs (List.replicate K 0) (List.range K) = pickedM cs v K := by
  rw [pickF_range v cs K K (Nat.le_refl _)]
  simp
end Go.Proofs.YtplkmkbambbemaeGreatDoor
namespace Go.Proofs.YtplkmkbambbemaeGreatDoor
open Go.ChangeShapes Go.WideShapes Go.ChangeAt Go.RowKit Go.Shelf
/-- 'x := a[k]', a an array in a slot, inside a fence. -/
theorem wpListIn_index {F : Fence} {nf : Nat} {P : Program} {ops : Array Oper} {rest : List Oper} {o : Oper} {a : Act} {w : World} {Q : Exit → Act → World → Prop} (hgd : o.guard = none) (ty : TypeId) (x i : Operand) (ho : o.op = .index ty x i)
    (e : TypeId) (cs : Array Value) (n k : Nat) (v : Value) (d : TypeDesc) (ik : IntKind) (hx : a.eval x = .agg cs) (hi : a.eval i = .int ik k) (hu : P.underlying ty = some (.array n e)) (he : P.underlying e = some d)
    (hd : d.isRow = false) (hs : (P.info? e).map (·.size) = some 1) (hk : k < n) (hv : cs[k]? = some v)
    (h : wpListIn F nf P ops Q rest (a.put o.dst v) w) : wpListIn F nf P ops Q (o :: rest) a w := by
  refine wpListIn_plain hgd fun K hK => ?_
  unfold Oper.wpIn
  refine ⟨?_, ?_⟩
  · simp [Oper.about, ho]
  · rw [Oper.semAt_plain F _ _ (by rw [ho]; intro c hc'; cases hc')]
    unfold execOp
    simp only [ho, hx, hi, Sem.run_bind, run_index_arr w ty e cs n k v d hu he hd hs hk hv ik, Result.andThen_ok]
    exact hK _ _ h
/-- A whole array out of a block, inside a fence. -/
theorem wpListIn_load_row {F : Fence} {nf : Nat} {P : Program} {ops : Array Oper} {rest : List Oper} {o : Oper} {a : Act} {w : World} {Q : Exit → Act → World → Prop} (hgd : o.guard = none) (ty : TypeId) (x : Operand) (ho : o.op = .load ty x)
    (g : Nat) (hx : a.eval x = .pointer (some ⟨g, 0, none⟩)) (t : TypeId) (cs : Array Value) (fr : Nat × Nat) (d : TypeDesc) (hg : w.heap[g]? = some (.cells cs t fr))
    (hu : P.underlying ty = some d) (hd : (match d with | .struct _ | .array _ _ => true | _ => false) = true) (hi : (P.info? ty).map (·.size) = some cs.size)
    (h : wpListIn F nf P ops Q rest (a.put o.dst (.agg cs)) w) : wpListIn F nf P ops Q (o :: rest) a w := by
  refine wpListIn_plain hgd fun K hK => ?_
  unfold Oper.wpIn
  refine ⟨?_, ?_⟩
  · simp [Oper.about, ho]
  · rw [Oper.semAt_plain F _ _ (by rw [ho]; intro c hc'; cases hc')]
    unfold execOp
    simp only [ho, hx, Instr.loadAt, Instr.sureAddr, Sem.run_bind, Sem.run_pure, Result.andThen_ok, run_loadVar_row w g t ty cs fr d hg hu hd hi]
    exact hK _ _ h
/-- 'make([]byte, N)' inside a fence. -/
theorem wpListIn_makeBytes {F : Fence} {nf : Nat} {w : World} {ops : Array Oper} {rest : List Oper} {o : Oper} {a : Act} {Q : Exit → Act → World → Prop} (N : Nat) (hgd : o.guard = none) (l c : Operand)
    (ho : o.op = Op.makeSlice 55 l c) (x y : Int) (hl : a.eval l = .int .i64 x) (hc : a.eval c = .int .i64 y) (hx : x = (N : Int)) (hy : y = (N : Int)) (hN : N ≤ 70368744177664)
    (h : ∀ w', Own w' w.heap.size (.slice (some ⟨w.heap.size, 0, none⟩) N N) (List.replicate N 0) → Below w.heap.size w w' → w.heap.size < w'.heap.size → wpListIn F nf Tryz.prog ops Q rest (a.put o.dst (.slice (some ⟨w.heap.size, 0, none⟩) N N)) w') :
    wpListIn F nf Tryz.prog ops Q (o :: rest) a w := by
  obtain ⟨i0, hi, hz0, hz1, hz2⟩ := info_parts Tryz.info5
  refine wpListIn_plain hgd fun K hK' => ?_
  obtain ⟨w', hrun, h1, h2⟩ := run_make_full (P := Tryz.prog) w w.heap.size 55 5 i0 (.int .u8 0) 1 Tryz.underlying55 hi hz0 hz1 .i64 .i64 N (by rw [hz2]; omega) (by unfold maxLen; omega) (Nat.le_refl _)
  subst hx
  subst hy
  have e : (madeCells (Value.cells (.int .u8 0)) (N * 1)).toList = List.replicate N (.int .u8 0) := by
    rw [Nat.mul_one]; exact toList_madeCells_one _ _
  rw [e] at h1
  have hlt := (h1.lt w.heap.size rfl).2
  have hown : Own w' w.heap.size (.slice (some ⟨w.heap.size, 0, none⟩) N N) (List.replicate N 0) := by
    unfold Own
    rw [List.length_replicate, List.map_replicate]
    exact h1
  unfold Oper.wpIn
  refine ⟨?_, ?_⟩
  · simp [Oper.about, ho]
  · rw [Oper.semAt_plain F _ _ (by rw [ho]; intro c hc'; cases hc')]
    simp [execOp, ho, hl, hc, hrun, Result.andThen]
    exact hK' _ _ (h w' hown ((Below.refl _ _).grown h2 (Nat.le_refl _) (by intro k hk; cases hk)) hlt)
end Go.Proofs.YtplkmkbambbemaeGreatDoor
