import Derived.Test.YtpeidccpplfbaaeDoorHsE
import Derived.Test.YtpeidccpplfbaaeDoorTie
import Derived.Test.YtpeidccpplfbaaeDoorCards
import Derived.LaidMore
import Derived.SevenTiedAt
import Derived.Laws.IdiomArrays
namespace Go.Proofs.YtpeidccpplfbaaeDoor
open Go.ChangeShapes Go.WideShapes Go.ChangeAt Go.RowKit

def laidT : List (String × DataW Unit) := [("roamwave/harq.versions", Rows.laid_roamwave_harq_versions)]
theorem gVer : Tryd.prog.globalNamed "roamwave/harq.versions" = some 0 := by kernel_rfl
theorem tVer : (Tryd.prog.globals[0]?).map (·.type) = some 65 := by kernel_rfl

/-- The door's own heap meets the condition. -/
theorem door_met (os : Os) (args : Array Value) : laidMetH Tryd.prog laidT ((World.doorLaid Tryd.prog 400 os).forCall (fun _ _ => 0) ⟨#[], args, []⟩).memory :=
  laidMetH_of_parts3 (fuel := 8) (laidMet_of_run' 8 (by kernel_rfl) (by kernel_rfl)) (by kernel_rfl) (by kernel_rfl)

theorem lit_i64 {e : TypeId} {W : World} {m : Nat} {c : Value} {y : DataW Unit × List MemPlace} {k : Int} {f : TypeId × Value → Unit} (he : Tryd.prog.underlying e = some (.int .i64))
    (h : DataW.trod f Tryd.prog W 0 (fun _ => true) false m e [c] = some y) (hy : y.1 = .lit (.int .i64 k)) : c = .int .i64 k := by
  obtain ⟨n, e1, e2, _⟩ := DataW.trod_int he h
  rw [e2] at hy
  simp only [DataW.lit.injEq, Lit.int.injEq, true_and] at hy
  subst hy
  simpa using e1

set_option maxHeartbeats 1000000 in
theorem ver_of_laid {W : World} (h : laidMetH Tryd.prog laidT W) : VerT W := by
  rw [MakeChecks.laidMetH_plain _ _ _ (by kernel_rfl)] at h
  obtain ⟨ps, ⟨g0, t0, cs0, f0, p0, q0, hg0, ht0, hv0, hd0, _⟩, _, _⟩ := h
  obtain rfl := Option.some.inj (gVer.symm.trans hg0)
  obtain rfl := Option.some.inj (tVer.symm.trans ht0)
  have hsh : ∃ T fr, W.heap[0]? = some (.cells cs0 T fr) := by
    simp only [World.var?, hg0, Option.bind_some] at hv0
    split at hv0
    · rename_i cs T fr heq
      simp only [Option.some.injEq] at hv0
      subst hv0
      exact ⟨T, fr, heq⟩
    · cases hv0
  obtain ⟨T, fr, hh⟩ := hsh
  refine ⟨T, fr, ?_⟩
  rw [hh]
  obtain ⟨xs, m1, hx1, hx2, hlen, hn3, hel⟩ := DataW.trod_array Tryd.underlying65 hd0
  have c3 : Tryd.prog.cellsOf 3 = 1 := by kernel_rfl
  have c8' : Tryd.prog.cellsOf 65 = 4 := by kernel_rfl
  rw [c8'] at hlen
  rw [c3] at hel
  obtain ⟨cl⟩ := cs0
  simp only at hlen hel
  simp only [Prod.mk.injEq, Rows.laid_roamwave_harq_versions, DataW.agg.injEq] at hx2
  have h0 := hel 0 (by decide)
  have h1 := hel 1 (by decide)
  have h2 := hel 2 (by decide)
  have h3 := hel 3 (by decide)
  match cl, hlen, xs, hn3, hx2, h0, h1, h2, h3 with
  | [c0, c1, c2, c3], _, [x0, x1, x2, x3], _, hx2, h0, h1, h2, h3 =>
    simp only [List.map_cons, List.map_nil, List.cons.injEq] at hx2
    obtain ⟨⟨y0, y1, y2, y3, -⟩, -⟩ := hx2
    have e0 := lit_i64 Tryd.underlying3 (c := c0) (y := x0) (k := 0) (by simpa using h0) y0.symm
    have e1 := lit_i64 Tryd.underlying3 (c := c1) (y := x1) (k := 2) (by simpa using h1) y1.symm
    have e2 := lit_i64 Tryd.underlying3 (c := c2) (y := x2) (k := 3) (by simpa using h2) y2.symm
    have e3 := lit_i64 Tryd.underlying3 (c := c3) (y := x3) (k := 1) (by simpa using h3) y3.symm
    rw [e0, e1, e2, e3]
end Go.Proofs.YtpeidccpplfbaaeDoor
