import Derived.Test.YtiiobeelmnjffabDoorWord
import Derived.Test.YtiiobeelmnjffabDoorTie
import Derived.Test.YtiiobeelmnjffabDoorCards
import Derived.LaidMore
import Derived.SevenTiedAt
import Derived.Laws.IdiomArrays
namespace Go.Proofs.YtiiobeelmnjffabDoor
open Go.ChangeShapes Go.WideShapes Go.ChangeAt Go.RowKit

def laidT : List (String × DataW Unit) := [("roamwave/conv.taps", Rows.laid_roamwave_conv_taps)]
theorem gTaps : Tryd.prog.globalNamed "roamwave/conv.taps" = some 0 := by kernel_rfl
theorem tTaps : (Tryd.prog.globals[0]?).map (·.type) = some 55 := by kernel_rfl

/-- The door's own heap meets the condition. -/
theorem door_met (os : Os) (args : Array Value) : laidMetH Tryd.prog laidT ((World.doorLaid Tryd.prog 400 os).forCall (fun _ _ => 0) ⟨#[], args, []⟩).memory :=
  laidMetH_of_parts3 (fuel := 8) (laidMet_of_run' 8 (by kernel_rfl) (by kernel_rfl)) (by kernel_rfl) (by kernel_rfl)

theorem lit_u64 {e : TypeId} {W : World} {m : Nat} {c : Value} {y : DataW Unit × List MemPlace} {k : Int} {f : TypeId × Value → Unit} (he : Tryd.prog.underlying e = some (.int .u64))
    (h : DataW.trod f Tryd.prog W 0 (fun _ => true) false m e [c] = some y) (hy : y.1 = .lit (.int .u64 k)) : c = .int .u64 k := by
  obtain ⟨n, e1, e2, _⟩ := DataW.trod_int he h
  rw [e2] at hy
  simp only [DataW.lit.injEq, Lit.int.injEq, true_and] at hy
  subst hy
  simpa using e1

theorem taps_of_laid {W : World} (h : laidMetH Tryd.prog laidT W) : Taps W := by
  rw [MakeChecks.laidMetH_plain _ _ _ (by kernel_rfl)] at h
  obtain ⟨ps, ⟨g0, t0, cs0, f0, p0, q0, hg0, ht0, hv0, hd0, _⟩, _, _⟩ := h
  obtain rfl := Option.some.inj (gTaps.symm.trans hg0)
  obtain rfl := Option.some.inj (tTaps.symm.trans ht0)
  have hsh : ∃ T fr, W.heap[0]? = some (.cells cs0 T fr) := by
    simp only [World.var?, hg0, Option.bind_some] at hv0
    split at hv0
    · rename_i cs T fr heq
      simp only [Option.some.injEq] at hv0
      subst hv0
      exact ⟨T, fr, heq⟩
    · cases hv0
  obtain ⟨T, fr, hh⟩ := hsh
  refine ⟨T, fr, ?_⟩
  rw [hh]
  obtain ⟨xs, m1, hx1, hx2, hlen, hn3, hel⟩ := DataW.trod_array Tryd.underlying55 hd0
  have c43 : Tryd.prog.cellsOf 43 = 1 := by kernel_rfl
  have c55 : Tryd.prog.cellsOf 55 = 3 := by kernel_rfl
  rw [c55] at hlen
  rw [c43] at hel
  obtain ⟨cl⟩ := cs0
  simp only at hlen hel
  simp only [Prod.mk.injEq, Rows.laid_roamwave_conv_taps, DataW.agg.injEq] at hx2
  have h0 := hel 0 (by decide)
  have h1 := hel 1 (by decide)
  have h2 := hel 2 (by decide)
  match cl, hlen, xs, hn3, hx2, h0, h1, h2 with
  | [c0, c1, c2], _, [x0, x1, x2], _, hx2, h0, h1, h2 =>
    simp only [List.map_cons, List.map_nil, List.cons.injEq] at hx2
    have e0 := lit_u64 Tryd.underlying43 (c := c0) (y := x0) (k := 79) (by simpa using h0) hx2.1.1.symm
    have e1 := lit_u64 Tryd.underlying43 (c := c1) (y := x1) (k := 109) (by simpa using h1) hx2.1.2.1.symm
    have e2 := lit_u64 Tryd.underlying43 (c := c2) (y := x2) (k := 87) (by simpa using h2) hx2.1.2.2.1.symm
    rw [e0, e1, e2]
end Go.Proofs.YtiiobeelmnjffabDoor
