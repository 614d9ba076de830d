import Derived.Test.YtplkmkbambbemadGreatDoorB02
import Derived.Test.YtplkmkbambbemadGreatDoorB21
import Derived.Deep.SlicePairs
import Derived.Lib.SmallJoins
namespace Go.Proofs.YtplkmkbambbemadGreatDoor
open Go.ChangeShapes Go.WideShapes Go.ChangeAt Go.RowKit Go.Deep
theorem Addr.addL (b off j : Nat) : (⟨b, off, none⟩ : Addr).add j = ⟨b, off + j, none⟩ := by unfold Addr.add; split <;> simp_all
theorem open_settings {H : Type} {enc : TypeId × Value → H} {P : Program} {W : World} {base : Nat} {t : TypeId} {g0 g1 g2 g3 g4 : Field} {v : Value} {d : DataW H} {p : List MemPlace} (hs : P.underlying t = some (.struct #[g0, g1, g2, g3, g4])) (hC : P.cellsOf t = 5)
    (p0 : g0.offset = 0) (p1 : g1.offset = 1) (p2 : g2.offset = 2) (p3 : g3.offset = 3) (p4 : g4.offset = 4) (k0 : P.cellsOf g0.type = 1) (k1 : P.cellsOf g1.type = 1) (k2 : P.cellsOf g2.type = 1) (k3 : P.cellsOf g3.type = 1) (k4 : P.cellsOf g4.type = 1)
    (h0 : P.underlying g0.type = some (.int .i64)) (h1 : P.underlying g1.type = some (.int .i64)) (h2 : P.underlying g2.type = some (.int .i64)) (h3 : P.underlying g3.type = some (.int .i64)) (h4 : P.underlying g4.type = some (.int .i64)) (hv : Value.okWide P W .any base t v) (h : DataW.Trod enc P W 0 (fun _ => true) true t v d p) :
    ∃ S : Setg, v = S.val ∧ S.In := by
  obtain ⟨cs, rfl, hsz⟩ := okWide_struct hs hv
  obtain ⟨fuel, hf⟩ := h
  obtain ⟨xs, k, hk, hxy, _, hxl, hff⟩ := DataW.trod_struct hs hf
  obtain ⟨cl⟩ := cs
  rw [hC] at hsz
  match xs, hxl, cl, hsz with
  | [y0, y1, y2, y3, y4], _, [v0, v1, v2, v3, v4], _ =>
    have z0 := hff 0 g0 rfl
    have z1 := hff 1 g1 rfl
    have z2 := hff 2 g2 rfl
    have z3 := hff 3 g3 rfl
    have z4 := hff 4 g4 rfl
    simp [Value.cells, p0, p1, p2, p3, p4, k0, k1, k2, k3, k4] at z0 z1 z2 z3 z4
    obtain ⟨a0, e0, _, wf0⟩ := DataW.trod_int h0 z0
    obtain ⟨a1, e1, _, wf1⟩ := DataW.trod_int h1 z1
    obtain ⟨a2, e2, _, wf2⟩ := DataW.trod_int h2 z2
    obtain ⟨a3, e3, _, wf3⟩ := DataW.trod_int h3 z3
    obtain ⟨a4, e4, _, wf4⟩ := DataW.trod_int h4 z4
    simp at e0 e1 e2 e3 e4
    subst e0 e1 e2 e3 e4
    exact ⟨⟨a0, a1, a2, a3, a4⟩, rfl, ⟨bounds_i64 wf0, bounds_i64 wf1, bounds_i64 wf2, bounds_i64 wf3, bounds_i64 wf4⟩⟩
end Go.Proofs.YtplkmkbambbemadGreatDoor
