import Derived.Test.YtdndeegpbjlibadGreatDoorK34
import Derived.Test.YtdndeegpbjlibadGreatDoorK02
namespace Go.Proofs.YtdndeegpbjlibadGreatDoor
open Go.ChangeShapes Go.WideShapes Go.ChangeAt Go.RowKit

/-! POINTS THAT COME IN. -/

theorem Tryz.bytesPt : Tryz.prog.bytesOf 29 = 16 := by kernel_rfl

theorem open_points {H : Type} {enc : TypeId × Value → H} {P : Program} {W : World} {base : Nat} {t e : TypeId} {f0 f1 : Field} {v : Value} {d : DataW H} {p : List MemPlace}
    (ht : P.underlying t = some (.slice e)) (he : P.underlying e = some (.struct #[f0, f1])) (ce : P.cellsOf e = 2) (o0 : f0.offset = 0) (o1 : f1.offset = 1) (c0 : P.cellsOf f0.type = 1) (c1 : P.cellsOf f1.type = 1)
    (h0 : P.underlying f0.type = some (.int .i64)) (h1 : P.underlying f1.type = some (.int .i64)) (hv : Value.okWide P W .any base t v)
    (h : DataW.Trod enc P W 0 (fun _ => true) true t v d p) :
    ∃ a c ps, v = .slice a ps.length c ∧ Pts W a ps ∧ ps.length ≤ c ∧ c ≤ maxLen ∧ Places d c := by
  obtain ⟨a, len, cap, rfl⟩ := okWide_slice ht hv
  obtain ⟨fuel, hf⟩ := h
  rcases Deep.open_slice_pairs ht he ce o0 o1 c0 c1 hf with ⟨hcs, hx⟩ | ⟨x, l, c, m, n, V0, V1, D0, D1, P0, P1, hcs, _, hl, hm, hmm, hd, hx⟩
  · simp [Value.cells] at hcs
    obtain ⟨rfl, rfl, rfl⟩ := hcs
    simp at hx
    exact ⟨none, 0, [], rfl, fun h => absurd rfl h, by simp, by unfold maxLen; omega, .inl ⟨hx.1, rfl⟩⟩
  · simp [Value.cells] at hcs
    obtain ⟨rfl, rfl, rfl⟩ := hcs
    simp at hmm
    subst hmm
    obtain ⟨f, hfx⟩ := Deep.choose_lt (α := Int × Int) (n := len) (p := fun i y => V0 i = .int .i64 y.1 ∧ V1 i = .int .i64 y.2) (fun i hi => by
      obtain ⟨_, _, g3, g4⟩ := hx i (by omega)
      obtain ⟨y, e3, _, _⟩ := DataW.trod_int h0 g3
      obtain ⟨z, e5, _, _⟩ := DataW.trod_int h1 g4
      simp at e3 e5
      exact ⟨(y, z), e3, e5⟩)
    have hlen : ((List.range len).map f).length = len := by simp
    have hat : ∀ i, i < len → ((List.range len).map f).getD i (0, 0) = f i := fun i hi => by simp [List.getD, hi]
    refine ⟨some x, m, (List.range len).map f, by rw [hlen], ?_, by omega, hm, .inr ⟨_, _, (Prod.mk.inj hd).1, by simp; omega⟩⟩
    intro hne
    have hn : 0 < len := by
      rcases Nat.eq_zero_or_pos len with h | h
      · subst h; simp at hne
      · exact h
    obtain ⟨b, off, spot⟩ := x
    have hc0 := (hx 0 (by omega)).1
    have hspot : spot = none := by simpa [Addr.add] using World.cell?_spot hc0
    subst hspot
    have ea : ∀ j, (⟨b, off, none⟩ : Addr).add j = ⟨b, off + j, none⟩ := fun j => by unfold Addr.add; split <;> simp_all
    refine ⟨b, off, rfl, fun i hi => ?_⟩
    rw [hlen] at hi
    obtain ⟨g1, g2, _, _⟩ := hx i (by omega)
    obtain ⟨e1, e2⟩ := hfx i hi
    rw [ea] at g1 g2
    rw [e1] at g1
    rw [e2] at g2
    rw [hat i hi]
    exact ⟨g1, by rw [Nat.add_assoc]; exact g2⟩
end Go.Proofs.YtdndeegpbjlibadGreatDoor

namespace Go.Proofs.YtdndeegpbjlibadGreatDoor
open Go.ChangeShapes Go.WideShapes Go.ChangeAt Go.RowKit

/-! LISTS THAT COME IN: and where there is none. -/

theorem Tryz.bytes3 : Tryz.prog.bytesOf 3 = 8 := by kernel_rfl
theorem Tryz.cells3 : Tryz.prog.cellsOf 3 = 1 := by kernel_rfl

/-- A list of numbers that came in, as the walks are told of it. -/
theorem open_numsN {H : Type} {enc : TypeId × Value → H} {P : Program} {W : World} {base : Nat} {t e : TypeId} {k : IntKind} {v : Value} {d : DataW H} {p : List MemPlace}
    (ht : P.underlying t = some (.slice e)) (he : P.underlying e = some (.int k)) (hc : P.cellsOf e = 1) (hv : Value.okWide P W .any base t v)
    (h : DataW.Trod enc P W 0 (fun _ => true) true t v d p) :
    ∃ a c zs, v = .slice a zs.length c ∧ Rd k W a zs ∧ (∀ n ∈ zs, (Lit.int k n).wf = true) ∧ zs.length ≤ c ∧ c ≤ maxLen ∧ Places d c ∧ (a = none → zs.length = 0 ∧ c = 0) := by
  obtain ⟨a, len, cap, rfl⟩ := okWide_slice ht hv
  obtain ⟨fuel, hf⟩ := h
  rcases open_ints ht he hc hf with ⟨hcs, hx⟩ | ⟨x, l, c, zs, hcs, _, hl, hm, hz, hx, hcell, hwz⟩
  · simp [Value.cells] at hcs
    obtain ⟨rfl, rfl, rfl⟩ := hcs
    simp at hx
    exact ⟨none, 0, [], rfl, Rd.nil _ _ _, by simp, by simp, by unfold maxLen; omega, .inl ⟨hx.1, rfl⟩, fun _ => ⟨rfl, rfl⟩⟩
  · simp [Value.cells] at hcs
    obtain ⟨rfl, rfl, rfl⟩ := hcs
    simp at hz hx
    have hlen : (zs.take len).length = len := by rw [List.length_take]; omega
    refine ⟨some x, cap, zs.take len, by rw [hlen], ?_, fun n hn => hwz n (List.mem_of_mem_take hn), by omega, hm, .inr ⟨_, _, hx.1, ?_⟩, fun h => by cases h⟩
    · intro hne
      have h0 : 0 < len := by
        rcases Nat.eq_zero_or_pos len with h | h
        · subst h; simp at hne
        · exact h
      obtain ⟨b, off, spot⟩ := x
      have hc0 := hcell 0 (by omega)
      have hspot : spot = none := by simpa [Addr.add] using World.cell?_spot hc0
      subst hspot
      refine ⟨b, off, rfl, fun j hj => ?_⟩
      have := hcell j (by omega)
      have e1 : (⟨b, off, none⟩ : Addr).add j = ⟨b, off + j, none⟩ := by unfold Addr.add; split <;> simp_all
      rw [e1] at this
      rw [this]
      have hj' : j < len := by omega
      simp [List.getD, hj']
    · simp [lits]; omega

theorem open_pointsN {H : Type} {enc : TypeId × Value → H} {P : Program} {W : World} {base : Nat} {t e : TypeId} {f0 f1 : Field} {v : Value} {d : DataW H} {p : List MemPlace}
    (ht : P.underlying t = some (.slice e)) (he : P.underlying e = some (.struct #[f0, f1])) (ce : P.cellsOf e = 2) (o0 : f0.offset = 0) (o1 : f1.offset = 1) (c0 : P.cellsOf f0.type = 1) (c1 : P.cellsOf f1.type = 1)
    (h0 : P.underlying f0.type = some (.int .i64)) (h1 : P.underlying f1.type = some (.int .i64)) (hv : Value.okWide P W .any base t v)
    (h : DataW.Trod enc P W 0 (fun _ => true) true t v d p) :
    ∃ a c ps, v = .slice a ps.length c ∧ Pts W a ps ∧ ps.length ≤ c ∧ c ≤ maxLen ∧ Places d c ∧ (a = none → ps.length = 0 ∧ c = 0) := by
  obtain ⟨a, len, cap, rfl⟩ := okWide_slice ht hv
  obtain ⟨fuel, hf⟩ := h
  rcases Deep.open_slice_pairs ht he ce o0 o1 c0 c1 hf with ⟨hcs, hx⟩ | ⟨x, l, c, m, n, V0, V1, D0, D1, P0, P1, hcs, _, hl, hm, hmm, hd, hx⟩
  · simp [Value.cells] at hcs
    obtain ⟨rfl, rfl, rfl⟩ := hcs
    simp at hx
    exact ⟨none, 0, [], rfl, fun h => absurd rfl h, by simp, by unfold maxLen; omega, .inl ⟨hx.1, rfl⟩, fun _ => ⟨rfl, rfl⟩⟩
  · simp [Value.cells] at hcs
    obtain ⟨rfl, rfl, rfl⟩ := hcs
    simp at hmm
    subst hmm
    obtain ⟨f, hfx⟩ := Deep.choose_lt (α := Int × Int) (n := len) (p := fun i y => V0 i = .int .i64 y.1 ∧ V1 i = .int .i64 y.2) (fun i hi => by
      obtain ⟨_, _, g3, g4⟩ := hx i (by omega)
      obtain ⟨y, e3, _, _⟩ := DataW.trod_int h0 g3
      obtain ⟨z, e5, _, _⟩ := DataW.trod_int h1 g4
      simp at e3 e5
      exact ⟨(y, z), e3, e5⟩)
    have hlen : ((List.range len).map f).length = len := by simp
    have hat : ∀ i, i < len → ((List.range len).map f).getD i (0, 0) = f i := fun i hi => by simp [List.getD, hi]
    refine ⟨some x, m, (List.range len).map f, by rw [hlen], ?_, by omega, hm, .inr ⟨_, _, (Prod.mk.inj hd).1, by simp; omega⟩, fun h => by cases h⟩
    intro hne
    have hn : 0 < len := by
      rcases Nat.eq_zero_or_pos len with h | h
      · subst h; simp at hne
      · exact h
    obtain ⟨b, off, spot⟩ := x
    have hc0 := (hx 0 (by omega)).1
    have hspot : spot = none := by simpa [Addr.add] using World.cell?_spot hc0
    subst hspot
    have ea : ∀ j, (⟨b, off, none⟩ : Addr).add j = ⟨b, off + j, none⟩ := fun j => by unfold Addr.add; split <;> simp_all
    refine ⟨b, off, rfl, fun i hi => ?_⟩
    rw [hlen] at hi
    obtain ⟨g1, g2, _, _⟩ := hx i (by omega)
    obtain ⟨e1, e2⟩ := hfx i hi
    rw [ea] at g1 g2
    rw [e1] at g1
    rw [e2] at g2
    rw [hat i hi]
    exact ⟨g1, by rw [Nat.add_assoc]; exact g2⟩
end Go.Proofs.YtdndeegpbjlibadGreatDoor
