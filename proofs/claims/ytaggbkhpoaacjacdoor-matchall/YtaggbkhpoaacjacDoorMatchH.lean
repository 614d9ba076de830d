import Derived.Test.YtaggbkhpoaacjacDoorFrame
import Derived.Deep.SlicePairs
namespace Go.Proofs.YtaggbkhpoaacjacDoor
open Go.ChangeShapes Go.WideShapes Go.ChangeAt Go.RowKit

/-! A LIST OF PAIRS (numbers, a number) that came in, as the walks are told of it. -/

/-- n pairs from a on: the i-th is the numbers X i (at A i, with C i places) and the number V i. -/
def PairsAt (k : IntKind) (w : World) (a : Option Addr) (n : Nat) (A : Nat → Option Addr) (C : Nat → Nat) (X : Nat → List Int) (V : Nat → Int) : Prop :=
  0 < n → ∃ b off, a = some ⟨b, off, none⟩ ∧ ∀ i, i < n → w.cell? ⟨b, off + i * 2, none⟩ = some (.slice (A i) (X i).length (C i)) ∧ w.cell? ⟨b, off + i * 2 + 1, none⟩ = some (.int k (V i)) ∧ Rd k w (A i) (X i) ∧ (X i).length ≤ C i ∧ C i ≤ maxLen
theorem PairsAt.below {k : IntKind} {w w' : World} {a : Option Addr} {n : Nat} {A : Nat → Option Addr} {C : Nat → Nat} {X : Nat → List Int} {V : Nat → Int} (h : PairsAt k w a n A C X V) (hb : Below w.heap.size w w') : PairsAt k w' a n A C X V := by
  intro hn
  obtain ⟨b, off, rfl, hc⟩ := h hn
  refine ⟨b, off, rfl, fun i hi => ?_⟩
  obtain ⟨h1, h2, h3, h4, h5⟩ := hc i hi
  exact ⟨(hb.cell (World.block_lt_of_cell? w _ h1)).trans h1, (hb.cell (World.block_lt_of_cell? w _ h2)).trans h2, h3.below hb, h4, h5⟩

theorem PairsAt.inner {k : IntKind} {w : World} {a : Option Addr} {n : Nat} {A : Nat → Option Addr} {C : Nat → Nat} {X : Nat → List Int} {V : Nat → Int} (h : PairsAt k w a n A C X V) {i : Nat} (hi : i < n) : ∀ g o, A i = some ⟨g, o, none⟩ → (X i) ≠ [] → g < w.heap.size := by
  intro g o e hne
  obtain ⟨b, off, rfl, hc⟩ := h (by omega)
  obtain ⟨_, _, hr, _, _⟩ := hc i hi
  obtain ⟨g', o', e', hc'⟩ := hr hne
  rw [e] at e'
  simp at e'
  obtain ⟨rfl, rfl⟩ := e'
  have h0 : 0 < (X i).length := by
    rcases Nat.eq_zero_or_pos (X i).length with h | h
    · exact absurd (List.eq_nil_of_length_eq_zero h) hne
    · exact h
  exact World.block_lt_of_cell? w _ (hc' 0 h0)

theorem PairsAt.first {k : IntKind} {w : World} {b off : Nat} {n : Nat} {A : Nat → Option Addr} {C : Nat → Nat} {X : Nat → List Int} {V : Nat → Int} (h : PairsAt k w (some ⟨b, off, none⟩) n A C X V) {i : Nat} (hi : i < n) : b < w.heap.size := by
  obtain ⟨b', off', e, hc⟩ := h (by omega)
  simp at e
  obtain ⟨rfl, rfl⟩ := e
  exact World.block_lt_of_cell? w _ (hc i hi).1

/-- The numbers that a cell leads to. -/
theorem nums_cell {H : Type} {enc : TypeId × Value → H} {P : Program} {W : World} {base : Nat} {sp : Nat → Bool} {t e : TypeId} {k : IntKind} {fuel : Nat} {v : Value} {y : DataW H × List MemPlace}
    (ht : P.underlying t = some (.slice e)) (he : P.underlying e = some (.int k)) (hc : P.cellsOf e = 1) (h : DataW.trod enc P W base sp true fuel t [v] = some y) :
    ∃ a c zs, v = .slice a zs.length c ∧ Rd k W a zs ∧ zs.length ≤ c ∧ c ≤ maxLen := by
  rcases open_ints ht he hc h with ⟨hcs, _⟩ | ⟨x, len, cap, zs, hcs, _, hl, hm, hz, _, hcell, _⟩
  · simp at hcs
    subst hcs
    exact ⟨none, 0, [], rfl, Rd.nil _ _ _, by simp, by unfold maxLen; omega⟩
  · simp at hcs
    subst hcs
    have hle : len ≤ zs.length := by rw [hz]; split <;> omega
    have hlen : (zs.take len).length = len := by rw [List.length_take]; omega
    refine ⟨some x, cap, zs.take len, by rw [hlen], ?_, by omega, hm⟩
    intro hne
    have h0 : 0 < len := by
      rcases Nat.eq_zero_or_pos len with h | h
      · subst h; simp at hne
      · exact h
    obtain ⟨b, off, spot⟩ := x
    have hc0 := hcell 0 (by omega)
    have hspot : spot = none := by simpa [Addr.add] using World.cell?_spot hc0
    subst hspot
    refine ⟨b, off, rfl, fun j hj => ?_⟩
    have := hcell j (by omega)
    have e1 : (⟨b, off, none⟩ : Addr).add j = ⟨b, off + j, none⟩ := by unfold Addr.add; split <;> simp_all
    rw [e1] at this
    rw [this]
    have hj' : j < len := by omega
    simp [List.getD, hj']

theorem open_pairs {H : Type} {enc : TypeId × Value → H} {P : Program} {W : World} {base : Nat} {t e q : TypeId} {f0 f1 : Field} {k : IntKind} {v : Value} {d : DataW H} {p : List MemPlace}
    (ht : P.underlying t = some (.slice e)) (he : P.underlying e = some (.struct #[f0, f1])) (ce : P.cellsOf e = 2) (o0 : f0.offset = 0) (o1 : f1.offset = 1) (c0 : P.cellsOf f0.type = 1) (c1 : P.cellsOf f1.type = 1)
    (h0 : P.underlying f0.type = some (.slice q)) (hq : P.underlying q = some (.int k)) (cq : P.cellsOf q = 1) (h1 : P.underlying f1.type = some (.int k)) (hv : Value.okWide P W .any base t v)
    (h : DataW.Trod enc P W 0 (fun _ => true) true t v d p) :
    ∃ a n c A C X V, v = .slice a n c ∧ PairsAt k W a n A C X V ∧ n ≤ c ∧ c ≤ maxLen := by
  obtain ⟨a, len, cap, rfl⟩ := okWide_slice ht hv
  obtain ⟨fuel, hf⟩ := h
  rcases Deep.open_slice_pairs ht he ce o0 o1 c0 c1 hf with ⟨hcs, _⟩ | ⟨x, l, c, m, n, V0, V1, D0, D1, P0, P1, hcs, _, hl, hm, hmm, _, hx⟩
  · simp [Value.cells] at hcs
    obtain ⟨rfl, rfl, rfl⟩ := hcs
    exact ⟨none, 0, 0, fun _ => none, fun _ => 0, fun _ => [], fun _ => 0, rfl, fun h => absurd h (by omega), by omega, by unfold maxLen; omega⟩
  · simp [Value.cells] at hcs
    obtain ⟨rfl, rfl, rfl⟩ := hcs
    have hlm : len ≤ m := by rw [hmm]; split <;> omega
    obtain ⟨f, hfx⟩ := Deep.choose_lt (α := (Option Addr × Nat) × (List Int × Int)) (n := len) (p := fun i y => V0 i = .slice y.1.1 y.2.1.length y.1.2 ∧ V1 i = .int k y.2.2 ∧ Rd k W y.1.1 y.2.1 ∧ y.2.1.length ≤ y.1.2 ∧ y.1.2 ≤ maxLen) (fun i hi => by
      obtain ⟨_, _, g3, g4⟩ := hx i (by omega)
      obtain ⟨a', c', zs, e1, e2, e3, e4⟩ := nums_cell h0 hq cq g3
      obtain ⟨z, e5, _, _⟩ := DataW.trod_int h1 g4
      simp at e5
      exact ⟨((a', c'), (zs, z)), e1, e5, e2, e3, e4⟩)
    refine ⟨some x, len, cap, fun i => (f i).1.1, fun i => (f i).1.2, fun i => (f i).2.1, fun i => (f i).2.2, rfl, ?_, hl, hm⟩
    intro hn
    obtain ⟨b, off, spot⟩ := x
    have hc0 := (hx 0 (by omega)).1
    have hspot : spot = none := by simpa [Addr.add] using World.cell?_spot hc0
    subst hspot
    have ea : ∀ j, (⟨b, off, none⟩ : Addr).add j = ⟨b, off + j, none⟩ := fun j => by unfold Addr.add; split <;> simp_all
    refine ⟨b, off, rfl, fun i hi => ?_⟩
    obtain ⟨g1, g2, _, _⟩ := hx i (by omega)
    obtain ⟨e1, e2, e3, e4, e5⟩ := hfx i hi
    rw [ea] at g1 g2
    rw [e1] at g1
    rw [e2] at g2
    exact ⟨g1, by rw [Nat.add_assoc]; exact g2, e3, e4, e5⟩
end Go.Proofs.YtaggbkhpoaacjacDoor
