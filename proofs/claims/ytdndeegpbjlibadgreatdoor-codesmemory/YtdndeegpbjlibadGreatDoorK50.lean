import Derived.Test.YtdndeegpbjlibadGreatDoorK48
import Derived.Test.YtdndeegpbjlibadGreatDoorTie
import Derived.Test.YtdndeegpbjlibadGreatDoorCards
import Derived.LaidMore
import Derived.SevenTiedAt
import Derived.Laws.IdiomArrays
namespace Go.Proofs.YtdndeegpbjlibadGreatDoor
open Go.ChangeShapes Go.WideShapes Go.ChangeAt Go.RowKit

def laidT : List (String × DataW Unit) := [("roamwave/conv.taps", Rows.laid_roamwave_conv_taps), ("roamwave/match.columns", Rows.laid_roamwave_match_columns), ("roamwave/polar.worths", Rows.laid_roamwave_polar_worths)]
theorem gTap : Tryz.prog.globalNamed "roamwave/conv.taps" = some 0 := by kernel_rfl
theorem tTap : (Tryz.prog.globals[0]?).map (·.type) = some 89 := by kernel_rfl
theorem gCol : Tryz.prog.globalNamed "roamwave/match.columns" = some 2 := by kernel_rfl
theorem tCol : (Tryz.prog.globals[2]?).map (·.type) = some 94 := by kernel_rfl
theorem gWor : Tryz.prog.globalNamed "roamwave/polar.worths" = some 1 := by kernel_rfl
theorem tWor : (Tryz.prog.globals[1]?).map (·.type) = some 105 := by kernel_rfl

/-- The door's own heap meets the condition. -/
theorem door_met (os : Os) (args : Array Value) : laidMetH Tryz.prog laidT ((World.doorLaid Tryz.prog 400 os).forCall (fun _ _ => 0) ⟨#[], args, []⟩).memory :=
  laidMetH_of_parts3 (fuel := 8) (laidMet_of_run' 8 (by kernel_rfl) (by kernel_rfl)) (by kernel_rfl) (by kernel_rfl)

theorem lit_num {e : TypeId} {W : World} {m : Nat} {c : Value} {y : DataW Unit × List MemPlace} {kd : IntKind} {k : Int} {f : TypeId × Value → Unit} (he : Tryz.prog.underlying e = some (.int kd))
    (h : DataW.trod f Tryz.prog W 0 (fun _ => true) false m e [c] = some y) (hy : y.1 = .lit (.int kd k)) : c = .int kd k := by
  obtain ⟨n, e1, e2, _⟩ := DataW.trod_int he h
  rw [e2] at hy
  simp only [DataW.lit.injEq, Lit.int.injEq, true_and] at hy
  subst hy
  simpa using e1
theorem var_cells {W : World} {g : Nat} {nm : String} {cs : Array Value} (hg : Tryz.prog.globalNamed nm = some g) (h : W.var? Tryz.prog nm = some cs) : ∃ T fr, W.heap[g]? = some (.cells cs T fr) := by
  simp only [World.var?, hg, Option.bind_some] at h
  split at h
  · rename_i cs' T fr heq
    simp only [Option.some.injEq] at h
    subst h
    exact ⟨T, fr, heq⟩
  · cases h

set_option maxHeartbeats 1000000 in
theorem Tap_cells {W : World} {cs : Array Value} {m : Nat} {x : DataW Unit × List MemPlace} {f : TypeId × Value → Unit} (hd : DataW.trod f Tryz.prog W 0 (fun _ => true) false m 89 cs.toList = some x) (hx : x.1 = Rows.laid_roamwave_conv_taps) : cs = #[.int .u64 79, .int .u64 109, .int .u64 87] := by
  obtain ⟨xs, m1, hx1, hx2, hlen, hn3, hel⟩ := DataW.trod_array Tryz.underlying89 hd
  have c1 : Tryz.prog.cellsOf 62 = 1 := by kernel_rfl
  have cN : Tryz.prog.cellsOf 89 = 3 := by kernel_rfl
  rw [cN] at hlen
  rw [c1] at hel
  obtain ⟨cl⟩ := cs
  simp only at hlen hel
  rw [hx2] at hx
  simp only [Rows.laid_roamwave_conv_taps, DataW.agg.injEq] at hx
  have h0 := hel 0 (by decide)
  have h1 := hel 1 (by decide)
  have h2 := hel 2 (by decide)
  match cl, hlen, xs, hn3, hx, h0, h1, h2 with
  | [c0, c1, c2], _, [x0, x1, x2], _, hx, h0, h1, h2 =>
    simp only [List.map_cons, List.map_nil, List.cons.injEq] at hx
    obtain ⟨y0, y1, y2, -⟩ := hx
    have e0 := lit_num Tryz.underlying62 (c := c0) (y := x0) (k := 79) (by simpa using h0) y0
    have e1 := lit_num Tryz.underlying62 (c := c1) (y := x1) (k := 109) (by simpa using h1) y1
    have e2 := lit_num Tryz.underlying62 (c := c2) (y := x2) (k := 87) (by simpa using h2) y2
    rw [e0, e1, e2]

set_option maxHeartbeats 1000000 in
theorem Col_cells {W : World} {cs : Array Value} {m : Nat} {x : DataW Unit × List MemPlace} {f : TypeId × Value → Unit} (hd : DataW.trod f Tryz.prog W 0 (fun _ => true) false m 94 cs.toList = some x) (hx : x.1 = Rows.laid_roamwave_match_columns) : cs = #[.int .i64 0, .int .i64 4, .int .i64 2, .int .i64 6, .int .i64 1, .int .i64 5, .int .i64 3, .int .i64 7] := by
  obtain ⟨xs, m1, hx1, hx2, hlen, hn3, hel⟩ := DataW.trod_array Tryz.underlying94 hd
  have c1 : Tryz.prog.cellsOf 3 = 1 := by kernel_rfl
  have cN : Tryz.prog.cellsOf 94 = 8 := by kernel_rfl
  rw [cN] at hlen
  rw [c1] at hel
  obtain ⟨cl⟩ := cs
  simp only at hlen hel
  rw [hx2] at hx
  simp only [Rows.laid_roamwave_match_columns, DataW.agg.injEq] at hx
  have h0 := hel 0 (by decide)
  have h1 := hel 1 (by decide)
  have h2 := hel 2 (by decide)
  have h3 := hel 3 (by decide)
  have h4 := hel 4 (by decide)
  have h5 := hel 5 (by decide)
  have h6 := hel 6 (by decide)
  have h7 := hel 7 (by decide)
  match cl, hlen, xs, hn3, hx, h0, h1, h2, h3, h4, h5, h6, h7 with
  | [c0, c1, c2, c3, c4, c5, c6, c7], _, [x0, x1, x2, x3, x4, x5, x6, x7], _, hx, h0, h1, h2, h3, h4, h5, h6, h7 =>
    simp only [List.map_cons, List.map_nil, List.cons.injEq] at hx
    obtain ⟨y0, y1, y2, y3, y4, y5, y6, y7, -⟩ := hx
    have e0 := lit_num Tryz.underlying3 (c := c0) (y := x0) (k := 0) (by simpa using h0) y0
    have e1 := lit_num Tryz.underlying3 (c := c1) (y := x1) (k := 4) (by simpa using h1) y1
    have e2 := lit_num Tryz.underlying3 (c := c2) (y := x2) (k := 2) (by simpa using h2) y2
    have e3 := lit_num Tryz.underlying3 (c := c3) (y := x3) (k := 6) (by simpa using h3) y3
    have e4 := lit_num Tryz.underlying3 (c := c4) (y := x4) (k := 1) (by simpa using h4) y4
    have e5 := lit_num Tryz.underlying3 (c := c5) (y := x5) (k := 5) (by simpa using h5) y5
    have e6 := lit_num Tryz.underlying3 (c := c6) (y := x6) (k := 3) (by simpa using h6) y6
    have e7 := lit_num Tryz.underlying3 (c := c7) (y := x7) (k := 7) (by simpa using h7) y7
    rw [e0, e1, e2, e3, e4, e5, e6, e7]

set_option maxHeartbeats 1000000 in
theorem Wor_cells {W : World} {cs : Array Value} {m : Nat} {x : DataW Unit × List MemPlace} {f : TypeId × Value → Unit} (hd : DataW.trod f Tryz.prog W 0 (fun _ => true) false m 105 cs.toList = some x) (hx : x.1 = Rows.laid_roamwave_polar_worths) : cs = #[.int .i64 1000, .int .i64 1189, .int .i64 1414, .int .i64 1681, .int .i64 2000, .int .i64 2378, .int .i64 2828, .int .i64 3363, .int .i64 4000] := by
  obtain ⟨xs, m1, hx1, hx2, hlen, hn3, hel⟩ := DataW.trod_array Tryz.underlying105 hd
  have c1 : Tryz.prog.cellsOf 3 = 1 := by kernel_rfl
  have cN : Tryz.prog.cellsOf 105 = 9 := by kernel_rfl
  rw [cN] at hlen
  rw [c1] at hel
  obtain ⟨cl⟩ := cs
  simp only at hlen hel
  rw [hx2] at hx
  simp only [Rows.laid_roamwave_polar_worths, DataW.agg.injEq] at hx
  have h0 := hel 0 (by decide)
  have h1 := hel 1 (by decide)
  have h2 := hel 2 (by decide)
  have h3 := hel 3 (by decide)
  have h4 := hel 4 (by decide)
  have h5 := hel 5 (by decide)
  have h6 := hel 6 (by decide)
  have h7 := hel 7 (by decide)
  have h8 := hel 8 (by decide)
  match cl, hlen, xs, hn3, hx, h0, h1, h2, h3, h4, h5, h6, h7, h8 with
  | [c0, c1, c2, c3, c4, c5, c6, c7, c8], _, [x0, x1, x2, x3, x4, x5, x6, x7, x8], _, hx, h0, h1, h2, h3, h4, h5, h6, h7, h8 =>
    simp only [List.map_cons, List.map_nil, List.cons.injEq] at hx
    obtain ⟨y0, y1, y2, y3, y4, y5, y6, y7, y8, -⟩ := hx
    have e0 := lit_num Tryz.underlying3 (c := c0) (y := x0) (k := 1000) (by simpa using h0) y0
    have e1 := lit_num Tryz.underlying3 (c := c1) (y := x1) (k := 1189) (by simpa using h1) y1
    have e2 := lit_num Tryz.underlying3 (c := c2) (y := x2) (k := 1414) (by simpa using h2) y2
    have e3 := lit_num Tryz.underlying3 (c := c3) (y := x3) (k := 1681) (by simpa using h3) y3
    have e4 := lit_num Tryz.underlying3 (c := c4) (y := x4) (k := 2000) (by simpa using h4) y4
    have e5 := lit_num Tryz.underlying3 (c := c5) (y := x5) (k := 2378) (by simpa using h5) y5
    have e6 := lit_num Tryz.underlying3 (c := c6) (y := x6) (k := 2828) (by simpa using h6) y6
    have e7 := lit_num Tryz.underlying3 (c := c7) (y := x7) (k := 3363) (by simpa using h7) y7
    have e8 := lit_num Tryz.underlying3 (c := c8) (y := x8) (k := 4000) (by simpa using h8) y8
    rw [e0, e1, e2, e3, e4, e5, e6, e7, e8]

set_option maxHeartbeats 1000000 in
theorem tabs_of_laid {W : World} (h : laidMetH Tryz.prog laidT W) : Taps W ∧ Col W ∧ Wor W := by
  rw [MakeChecks.laidMetH_plain _ _ _ (by kernel_rfl)] at h
  obtain ⟨ps, ⟨g0, t0, cs0, f0, p0, q0, hg0, ht0, hv0, hd0, ⟨g1, t1, cs1, f1, p1, q1, hg1, ht1, hv1, hd1, ⟨g2, t2, cs2, f2, p2, q2, hg2, ht2, hv2, hd2, _⟩, _⟩, _⟩, _, _⟩ := h
  obtain rfl := Option.some.inj (gTap.symm.trans hg0)
  obtain rfl := Option.some.inj (tTap.symm.trans ht0)
  obtain rfl := Option.some.inj (gCol.symm.trans hg1)
  obtain rfl := Option.some.inj (tCol.symm.trans ht1)
  obtain rfl := Option.some.inj (gWor.symm.trans hg2)
  obtain rfl := Option.some.inj (tWor.symm.trans ht2)
  obtain ⟨T0, fr0, hh0⟩ := var_cells hg0 hv0
  obtain ⟨T1, fr1, hh1⟩ := var_cells hg1 hv1
  obtain ⟨T2, fr2, hh2⟩ := var_cells hg2 hv2
  have e0 := Tap_cells hd0 rfl
  have e1 := Col_cells hd1 rfl
  have e2 := Wor_cells hd2 rfl
  refine ⟨⟨T0, fr0, ?_⟩, ⟨T1, fr1, ?_⟩, ⟨T2, fr2, ?_⟩⟩
  · rw [hh0, e0]
  · rw [hh1, e1]; rfl
  · rw [hh2, e2]; rfl
end Go.Proofs.YtdndeegpbjlibadGreatDoor
