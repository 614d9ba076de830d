import Derived.Test.YtmdfjhnibhmdkafTpI
import Derived.Test.YtmdfjhnibhmdkafTpU
namespace Go.Proofs.Ytmdfjhnibhmdkaf
open Go.ChangeShapes Go.WideShapes Go.ChangeAt Go.RowKit Go.Deep

/-! SLOTS THAT COME IN. -/

theorem open_sltsF {H : Type} {enc : TypeId × Value → H} {P : Program} {W : World} {u s e : TypeId} {g0 g1 f0 f1 f2 : Field} {v : Value} {x : DataW H × List MemPlace} {fuel : Nat} (hu : P.underlying u = some (.slice s)) (hs : P.underlying s = some (.struct #[g0, g1])) (cs : P.cellsOf s = 2) (p0 : g0.offset = 0) (p1 : g1.offset = 1) (k0 : P.cellsOf g0.type = 1) (k1 : P.cellsOf g1.type = 1)
    (ht : P.underlying g0.type = some (.slice e)) (hg : P.underlying g1.type = some (.int .i64)) (he : P.underlying e = some (.struct #[f0, f1, f2])) (ce : P.cellsOf e = 3) (o0 : f0.offset = 0) (o1 : f1.offset = 1) (o2 : f2.offset = 2) (c0 : P.cellsOf f0.type = 1) (c1 : P.cellsOf f1.type = 1) (c2 : P.cellsOf f2.type = 1)
    (h0 : P.underlying f0.type = some (.int .i64)) (h1 : P.underlying f1.type = some (.int .i64)) (h2 : P.underlying f2.type = some (.int .i64)) (hf : DataW.trod enc P W 0 (fun _ => true) true fuel u [v] = some x) :
    ∃ a c ts, v = .slice a ts.length c ∧ Slts W a ts ∧ ts.length ≤ c ∧ c ≤ maxLen := by
  rcases Deep.open_slice_pairs hu hs cs p0 p1 k0 k1 hf with ⟨hcs, hx⟩ | ⟨x, len, c, m, n, V0, V1, D0, D1, P0, P1, hcs, _, hl, hm, hmm, hd, hx⟩
  · simp at hcs
    subst hcs
    exact ⟨none, 0, [], rfl, fun h => absurd rfl h, by simp, by unfold maxLen; omega⟩
  · simp at hcs
    subst hcs
    simp at hmm
    subst hmm
    have : Inhabited SltM := ⟨.zero⟩
    obtain ⟨f, hfx⟩ := Deep.choose_lt (α := SltM) (n := len) (p := fun i y => V1 i = .int .i64 y.bl ∧ ∃ a c, V0 i = .slice a y.us.length c ∧ Usr W a y.us ∧ y.us.length ≤ maxLen ∧ (a = none → y.us.length = 0 ∧ c = 0)) (fun i hi => by
      obtain ⟨_, _, g3, g4⟩ := hx i (by omega)
      obtain ⟨y, e3, _, wfy⟩ := DataW.trod_int hg g4
      obtain ⟨a, c, l, e1, e2, e3', e4, e5⟩ := open_usersF ht he ce o0 o1 o2 c0 c1 c2 h0 h1 h2 g3
      simp at e3
      exact ⟨⟨l, y⟩, e3, a, c, e1, e2, by show l.length ≤ maxLen; omega, e5⟩)
    have hlen : ((List.range len).map f).length = len := by simp
    have hat : ∀ i, i < len → ((List.range len).map f).getD i .zero = f i := fun i hi => by simp [List.getD, hi]
    refine ⟨some x, m, (List.range len).map f, by rw [hlen], ?_, by omega, hm⟩
    intro hne
    have hn : 0 < len := by
      rcases Nat.eq_zero_or_pos len with h | h
      · subst h; simp at hne
      · exact h
    obtain ⟨b, off, spot⟩ := x
    have hc0 := (hx 0 (by omega)).1
    have hspot : spot = none := by simpa [Addr.add] using World.cell?_spot hc0
    subst hspot
    refine ⟨b, off, rfl, fun i hi => ?_⟩
    rw [hlen] at hi
    obtain ⟨g2, g3, _, _⟩ := hx i (by omega)
    obtain ⟨e0, a, c, e1, e2, e3, e4⟩ := hfx i hi
    rw [addrAddU, e1] at g2
    rw [addrAddU, e0] at g3
    rw [hat i hi]
    exact ⟨a, _, c, g2, by rw [Nat.add_assoc]; exact g3, e2, rfl, e3, e4⟩
end Go.Proofs.Ytmdfjhnibhmdkaf
