import Derived.Test.YtjpohfghibhkiadGridL
import Derived.Deep.SlicePairs
import Derived.Lib.SmallJoins
namespace Go.Proofs.Ytjpohfghibhkiad
open Go.ChangeShapes Go.WideShapes Go.ChangeAt Go.RowKit Go.Deep

/-! SHARES, PARTS AND ROWS OF POINTS THAT COME IN. -/

theorem Addr.addG (b off j : Nat) : (⟨b, off, none⟩ : Addr).add j = ⟨b, off + j, none⟩ := by unfold Addr.add; split <;> simp_all
theorem open_pointsF {H : Type} {enc : TypeId × Value → H} {P : Program} {W : World} {t e : TypeId} {f0 f1 : Field} {v : Value} {x : DataW H × List MemPlace} {fuel : Nat}
    (ht : P.underlying t = some (.slice e)) (he : P.underlying e = some (.struct #[f0, f1])) (ce : P.cellsOf e = 2) (o0 : f0.offset = 0) (o1 : f1.offset = 1) (c0 : P.cellsOf f0.type = 1) (c1 : P.cellsOf f1.type = 1)
    (h0 : P.underlying f0.type = some (.int .i64)) (h1 : P.underlying f1.type = some (.int .i64)) (hf : DataW.trod enc P W 0 (fun _ => true) true fuel t [v] = some x) :
    ∃ a c ps, v = .slice a ps.length c ∧ Pts W a ps ∧ ps.length ≤ c ∧ c ≤ maxLen := by
  rcases Deep.open_slice_pairs ht he ce o0 o1 c0 c1 hf with ⟨hcs, hx⟩ | ⟨x, len, c, m, n, V0, V1, D0, D1, P0, P1, hcs, _, hl, hm, hmm, hd, hx⟩
  · simp at hcs
    subst hcs
    exact ⟨none, 0, [], rfl, fun h => absurd rfl h, by simp, by unfold maxLen; omega⟩
  · simp at hcs
    subst hcs
    simp at hmm
    subst hmm
    obtain ⟨f, hfx⟩ := Deep.choose_lt (α := Int × Int) (n := len) (p := fun i y => V0 i = .int .i64 y.1 ∧ V1 i = .int .i64 y.2) (fun i hi => by
      obtain ⟨_, _, g3, g4⟩ := hx i (by omega)
      obtain ⟨y, e3, _, _⟩ := DataW.trod_int h0 g3
      obtain ⟨z, e5, _, _⟩ := DataW.trod_int h1 g4
      simp at e3 e5
      exact ⟨(y, z), e3, e5⟩)
    have hlen : ((List.range len).map f).length = len := by simp
    have hat : ∀ i, i < len → ((List.range len).map f).getD i (0, 0) = f i := fun i hi => by simp [List.getD, hi]
    refine ⟨some x, m, (List.range len).map f, by rw [hlen], ?_, by omega, hm⟩
    intro hne
    have hn : 0 < len := by
      rcases Nat.eq_zero_or_pos len with h | h
      · subst h; simp at hne
      · exact h
    obtain ⟨b, off, spot⟩ := x
    have hc0 := (hx 0 (by omega)).1
    have hspot : spot = none := by simpa [Addr.add] using World.cell?_spot hc0
    subst hspot
    refine ⟨b, off, rfl, fun i hi => ?_⟩
    rw [hlen] at hi
    obtain ⟨g1, g2, _, _⟩ := hx i (by omega)
    obtain ⟨e1, e2⟩ := hfx i hi
    rw [Addr.addG] at g1 g2
    rw [e1] at g1
    rw [e2] at g2
    rw [hat i hi]
    exact ⟨g1, by rw [Nat.add_assoc]; exact g2⟩
theorem open_rowsF {H : Type} {enc : TypeId × Value → H} {P : Program} {W : World} {u t e : TypeId} {f0 f1 : Field} {v : Value} {x : DataW H × List MemPlace} {fuel : Nat} (hu : P.underlying u = some (.slice t)) (cu : P.cellsOf t = 1)
    (ht : P.underlying t = some (.slice e)) (he : P.underlying e = some (.struct #[f0, f1])) (ce : P.cellsOf e = 2) (o0 : f0.offset = 0) (o1 : f1.offset = 1) (c0 : P.cellsOf f0.type = 1) (c1 : P.cellsOf f1.type = 1)
    (h0 : P.underlying f0.type = some (.int .i64)) (h1 : P.underlying f1.type = some (.int .i64)) (hf : DataW.trod enc P W 0 (fun _ => true) true fuel u [v] = some x) :
    ∃ a c rs, v = .slice a rs.length c ∧ RowsP W a rs ∧ rs.length ≤ c ∧ c ≤ maxLen ∧ ∀ i, i < rs.length → (rowAt rs i).length ≤ maxLen := by
  rcases Deep.open_slice1 hu cu hf with ⟨hcs, hx⟩ | ⟨x, len, c, m, n, V, D, Pl, hcs, _, hl, hm, hmm, hd, hx⟩
  · simp at hcs
    subst hcs
    exact ⟨none, 0, [], rfl, fun h => absurd rfl h, by simp, by unfold maxLen; omega, fun i hi => by simp at hi⟩
  · simp at hcs
    subst hcs
    simp at hmm
    subst hmm
    obtain ⟨f, hfx⟩ := Deep.choose_lt (α := List (Int × Int)) (n := len) (p := fun i y => ∃ a c, V i = .slice a y.length c ∧ Pts W a y ∧ y.length ≤ maxLen) (fun i hi => by
      obtain ⟨a, c, ps, e1, e2, e3, e4⟩ := open_pointsF ht he ce o0 o1 c0 c1 h0 h1 (hx i (by omega)).2
      exact ⟨ps, a, c, e1, e2, by omega⟩)
    have hlen : ((List.range len).map f).length = len := by simp
    have hat : ∀ i, i < len → rowAt ((List.range len).map f) i = f i := fun i hi => by simp [rowAt, List.getD, hi]
    refine ⟨some x, m, (List.range len).map f, by rw [hlen], ?_, by omega, hm, fun i hi => ?_⟩
    · intro hne
      have hn : 0 < len := by
        rcases Nat.eq_zero_or_pos len with h | h
        · subst h; simp at hne
        · exact h
      obtain ⟨b, off, spot⟩ := x
      have hc0 := (hx 0 (by omega)).1
      have hspot : spot = none := by simpa [Addr.add] using World.cell?_spot hc0
      subst hspot
      refine ⟨b, off, rfl, fun i hi => ?_⟩
      rw [hlen] at hi
      have g1 := (hx i (by omega)).1
      obtain ⟨a, c, e1, e2, _⟩ := hfx i hi
      rw [Addr.addG, e1] at g1
      rw [hat i hi]
      exact ⟨a, c, g1, e2⟩
    · rw [hlen] at hi
      obtain ⟨a, c, e1, e2, e3⟩ := hfx i hi
      rw [hat i hi]
      exact e3
theorem open_partsF {H : Type} {enc : TypeId × Value → H} {P : Program} {W : World} {u s e : TypeId} {g0 g1 f0 f1 : Field} {v : Value} {x : DataW H × List MemPlace} {fuel : Nat} (hu : P.underlying u = some (.slice s)) (hs : P.underlying s = some (.struct #[g0, g1])) (cs : P.cellsOf s = 2) (p0 : g0.offset = 0) (p1 : g1.offset = 1) (k0 : P.cellsOf g0.type = 1) (k1 : P.cellsOf g1.type = 1)
    (hg : P.underlying g0.type = some (.int .i64)) (ht : P.underlying g1.type = some (.slice e)) (he : P.underlying e = some (.struct #[f0, f1])) (ce : P.cellsOf e = 2) (o0 : f0.offset = 0) (o1 : f1.offset = 1) (c0 : P.cellsOf f0.type = 1) (c1 : P.cellsOf f1.type = 1)
    (h0 : P.underlying f0.type = some (.int .i64)) (h1 : P.underlying f1.type = some (.int .i64)) (hf : DataW.trod enc P W 0 (fun _ => true) true fuel u [v] = some x) :
    ∃ a c ps, v = .slice a ps.length c ∧ PrtsP W a ps ∧ ps.length ≤ c ∧ c ≤ maxLen ∧ (∀ i, i < ps.length → (prAt ps i).pts.length ≤ maxLen) ∧ ∀ i, i < ps.length → (Lit.int .i64 (prAt ps i).who).wf = true := by
  rcases Deep.open_slice_pairs hu hs cs p0 p1 k0 k1 hf with ⟨hcs, hx⟩ | ⟨x, len, c, m, n, V0, V1, D0, D1, P0, P1, hcs, _, hl, hm, hmm, hd, hx⟩
  · simp at hcs
    subst hcs
    exact ⟨none, 0, [], rfl, fun h => absurd rfl h, by simp, by unfold maxLen; omega, fun i hi => by simp at hi, fun i hi => by simp at hi⟩
  · simp at hcs
    subst hcs
    simp at hmm
    subst hmm
    have : Inhabited Prt := ⟨⟨0, []⟩⟩
    obtain ⟨f, hfx⟩ := Deep.choose_lt (α := Prt) (n := len) (p := fun i y => V0 i = .int .i64 y.who ∧ ∃ a c, V1 i = .slice a y.pts.length c ∧ Pts W a y.pts ∧ y.pts.length ≤ maxLen ∧ (Lit.int .i64 y.who).wf = true) (fun i hi => by
      obtain ⟨_, _, g3, g4⟩ := hx i (by omega)
      obtain ⟨y, e3, _, wfy⟩ := DataW.trod_int hg g3
      obtain ⟨a, c, ps, e1, e2, e3', e4⟩ := open_pointsF ht he ce o0 o1 c0 c1 h0 h1 g4
      simp at e3
      exact ⟨⟨y, ps⟩, e3, a, c, e1, e2, by show ps.length ≤ maxLen; omega, wfy⟩)
    have hlen : ((List.range len).map f).length = len := by simp
    have hat : ∀ i, i < len → prAt ((List.range len).map f) i = f i := fun i hi => by simp [prAt, List.getD, hi]
    refine ⟨some x, m, (List.range len).map f, by rw [hlen], ?_, by omega, hm, fun i hi => ?_, fun i hi => ?_⟩
    · intro hne
      have hn : 0 < len := by
        rcases Nat.eq_zero_or_pos len with h | h
        · subst h; simp at hne
        · exact h
      obtain ⟨b, off, spot⟩ := x
      have hc0 := (hx 0 (by omega)).1
      have hspot : spot = none := by simpa [Addr.add] using World.cell?_spot hc0
      subst hspot
      refine ⟨b, off, rfl, fun i hi => ?_⟩
      rw [hlen] at hi
      obtain ⟨g2, g3, _, _⟩ := hx i (by omega)
      obtain ⟨e0, a, c, e1, e2, _⟩ := hfx i hi
      rw [Addr.addG, e0] at g2
      rw [Addr.addG, e1] at g3
      rw [hat i hi]
      exact ⟨g2, a, c, by rw [Nat.add_assoc]; exact g3, e2⟩
    · rw [hlen] at hi
      obtain ⟨e0, a, c, e1, e2, e3, _⟩ := hfx i hi
      rw [hat i hi]
      exact e3
    · rw [hlen] at hi
      obtain ⟨e0, a, c, e1, e2, e3, e4⟩ := hfx i hi
      rw [hat i hi]
      exact e4
theorem open_sharesF {H : Type} {enc : TypeId × Value → H} {P : Program} {W : World} {u s : TypeId} {g0 g1 g2 g3 g4 : Field} {v : Value} {x : DataW H × List MemPlace} {fuel : Nat} (hu : P.underlying u = some (.slice s)) (hs : P.underlying s = some (.struct #[g0, g1, g2, g3, g4])) (cs : P.cellsOf s = 5)
    (p0 : g0.offset = 0) (p1 : g1.offset = 1) (p2 : g2.offset = 2) (p3 : g3.offset = 3) (p4 : g4.offset = 4) (k0 : P.cellsOf g0.type = 1) (k1 : P.cellsOf g1.type = 1) (k2 : P.cellsOf g2.type = 1) (k3 : P.cellsOf g3.type = 1) (k4 : P.cellsOf g4.type = 1)
    (h0 : P.underlying g0.type = some (.int .i64)) (h1 : P.underlying g1.type = some (.int .i64)) (h2 : P.underlying g2.type = some (.int .i64)) (h3 : P.underlying g3.type = some (.int .i64)) (h4 : P.underlying g4.type = some (.int .i64)) (hf : DataW.trod enc P W 0 (fun _ => true) true fuel u [v] = some x) :
    ∃ a c ss, v = .slice a ss.length c ∧ Shs W a ss ∧ ss.length ≤ c ∧ c ≤ maxLen ∧ ∀ i, i < ss.length → (shAt ss i).fr ≤ 9223372036854775807 := by
  rcases Deep.open_slice hu hf with ⟨hcs, hx⟩ | ⟨x, len, c, m, n, D, Pl, hcs, _, hl, hm, hmm, hd, hx⟩
  · simp at hcs
    subst hcs
    exact ⟨none, 0, [], rfl, fun h => absurd rfl h, by simp, by unfold maxLen; omega, fun i hi => by simp at hi⟩
  · simp at hcs
    subst hcs
    simp at hmm
    subst hmm
    have : Inhabited Sh := ⟨⟨0, 0, 0, 0, 0⟩⟩
    obtain ⟨f, hfx⟩ := Deep.choose_lt (α := Sh) (n := len) (p := fun i y => W.cell? (x.add (i * 5)) = some (.int .i64 y.who) ∧ W.cell? (x.add (i * 5 + 1)) = some (.int .i64 y.fr) ∧ W.cell? (x.add (i * 5 + 2)) = some (.int .i64 y.cnt) ∧ W.cell? (x.add (i * 5 + 3)) = some (.int .i64 y.bg) ∧ W.cell? (x.add (i * 5 + 4)) = some (.int .i64 y.en) ∧ y.fr ≤ 9223372036854775807) (fun i hi => by
      obtain ⟨cs', q1, q2⟩ := hx i (by omega)
      rw [cs] at q1
      obtain ⟨_, hlen, hcell⟩ := World.cells?_some q1
      obtain ⟨xs, k, hk, hxy, _, hxl, hff⟩ := DataW.trod_struct hs q2
      match xs, hxl, cs', hlen with
      | [y0, y1, y2, y3, y4], _, [v0, v1, v2, v3, v4], _ =>
        have z0 := hff 0 g0 rfl
        have z1 := hff 1 g1 rfl
        have z2 := hff 2 g2 rfl
        have z3 := hff 3 g3 rfl
        have z4 := hff 4 g4 rfl
        simp [p0, p1, p2, p3, p4, k0, k1, k2, k3, k4] at z0 z1 z2 z3 z4
        obtain ⟨a0, e0, _, _⟩ := DataW.trod_int h0 z0
        obtain ⟨a1, e1, _, wf1⟩ := DataW.trod_int h1 z1
        have bd1 := (bounds_i64 wf1).2
        obtain ⟨a2, e2, _, _⟩ := DataW.trod_int h2 z2
        obtain ⟨a3, e3, _, _⟩ := DataW.trod_int h3 z3
        obtain ⟨a4, e4, _, _⟩ := DataW.trod_int h4 z4
        simp at e0 e1 e2 e3 e4
        subst e0 e1 e2 e3 e4
        have t0 := hcell 0 (by omega)
        have t1 := hcell 1 (by omega)
        have t2 := hcell 2 (by omega)
        have t3 := hcell 3 (by omega)
        have t4 := hcell 4 (by omega)
        rw [add_add] at t0 t1 t2 t3 t4
        exact ⟨⟨a0, a1, a2, a3, a4⟩, by simpa using t0, by simpa using t1, by simpa using t2, by simpa using t3, by simpa using t4, bd1⟩)
    have hlen : ((List.range len).map f).length = len := by simp
    have hat : ∀ i, i < len → shAt ((List.range len).map f) i = f i := fun i hi => by simp [shAt, List.getD, hi]
    refine ⟨some x, m, (List.range len).map f, by rw [hlen], ?_, by omega, hm, fun i hi => by rw [hlen] at hi; rw [hat i hi]; exact (hfx i hi).2.2.2.2.2⟩
    intro hne
    have hn : 0 < len := by
      rcases Nat.eq_zero_or_pos len with h | h
      · subst h; simp at hne
      · exact h
    obtain ⟨b, off, spot⟩ := x
    have hc0 := (hfx 0 hn).1
    have hspot : spot = none := by simpa [Addr.add] using World.cell?_spot hc0
    subst hspot
    refine ⟨b, off, rfl, fun i hi => ?_⟩
    rw [hlen] at hi
    obtain ⟨t0, t1, t2, t3, t4, -⟩ := hfx i hi
    rw [Addr.addG] at t0 t1 t2 t3 t4
    rw [hat i hi]
    exact ⟨t0, by rw [Nat.add_assoc]; exact t1, by rw [Nat.add_assoc]; exact t2, by rw [Nat.add_assoc]; exact t3, by rw [Nat.add_assoc]; exact t4⟩
end Go.Proofs.Ytjpohfghibhkiad
