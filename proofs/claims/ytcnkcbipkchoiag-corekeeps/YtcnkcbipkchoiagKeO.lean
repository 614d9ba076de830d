import Derived.Test.YtcnkcbipkchoiagKeC
import Derived.Test.YtcnkcbipkchoiagFrame
import Derived.Deep.Strs
import Derived.Deep.SlicePairs
import Derived.Lib.SmallJoins
namespace Go.Proofs.Ytcnkcbipkchoiag
open Go.ChangeShapes Go.WideShapes Go.ChangeAt Go.RowKit Go.Deep

/-! REPORTS THAT COME IN. -/

theorem addrAddK (b off j : Nat) : (⟨b, off, none⟩ : Addr).add j = ⟨b, off + j, none⟩ := by unfold Addr.add; split <;> simp_all
theorem wf_in64 {x : Int} (h : (Lit.int .i64 x).wf = true) : In64 x := bounds_i64 h
theorem open_usgF {H : Type} {enc : TypeId × Value → H} {P : Program} {W : World} {u s : TypeId} {g0 g1 g2 g3 : Field} {v : Value} {x : DataW H × List MemPlace} {fuel : Nat} (hu : P.underlying u = some (.slice s)) (hs : P.underlying s = some (.struct #[g0, g1, g2, g3])) (cs : P.cellsOf s = 4)
    (p0 : g0.offset = 0) (p1 : g1.offset = 1) (p2 : g2.offset = 2) (p3 : g3.offset = 3) (k0 : P.cellsOf g0.type = 1) (k1 : P.cellsOf g1.type = 1) (k2 : P.cellsOf g2.type = 1) (k3 : P.cellsOf g3.type = 1)
    (h0 : P.underlying g0.type = some (.int .i64)) (h1 : P.underlying g1.type = some (.int .i64)) (h2 : P.underlying g2.type = some (.int .i64)) (h3 : P.underlying g3.type = some .bool) (hf : DataW.trod enc P W 0 (fun _ => true) true fuel u [v] = some x) :
    ∃ a c l, v = .slice a l.length c ∧ Usg W a l ∧ l.length ≤ c ∧ c ≤ maxLen ∧ (∀ i, i < l.length → (l.getD i .zero).ok) ∧ (l.length = 0 ∨ ∃ ds spare, x.1 = .slice ds spare ∧ ds.length = l.length) := by
  rcases Deep.open_slice hu hf with ⟨hcs, hx⟩ | ⟨y, len, c, m, n, D, Pl, hcs, _, hl, hm, hmm, hd, hx⟩
  · simp at hcs
    subst hcs
    exact ⟨none, 0, [], rfl, fun h => absurd rfl h, by simp, by unfold maxLen; omega, fun i hi => by simp at hi, .inl rfl⟩
  · simp at hcs
    subst hcs
    simp at hmm
    subst hmm
    have : Inhabited UsgM := ⟨.zero⟩
    obtain ⟨f, hfx⟩ := Deep.choose_lt (α := UsgM) (n := len) (p := fun i z => W.cell? (y.add (i * 4)) = some (.int .i64 z.g) ∧ W.cell? (y.add (i * 4 + 1)) = some (.int .i64 z.t) ∧ W.cell? (y.add (i * 4 + 2)) = some (.int .i64 z.b) ∧ W.cell? (y.add (i * 4 + 3)) = some (.bool z.f) ∧ z.ok) (fun i hi => by
      obtain ⟨cs', q1, q2⟩ := hx i (by omega)
      rw [cs] at q1
      obtain ⟨_, hlen, hcell⟩ := World.cells?_some q1
      obtain ⟨xs, k, hk, hxy, _, hxl, hff⟩ := DataW.trod_struct hs q2
      match xs, hxl, cs', hlen with
      | [y0, y1, y2, y3], _, [v0, v1, v2, v3], _ =>
        have z0 := hff 0 g0 rfl
        have z1 := hff 1 g1 rfl
        have z2 := hff 2 g2 rfl
        have z3 := hff 3 g3 rfl
        simp [p0, p1, p2, p3, k0, k1, k2, k3] at z0 z1 z2 z3
        obtain ⟨a0, e0, _, w0⟩ := DataW.trod_int h0 z0
        obtain ⟨a1, e1, _, w1⟩ := DataW.trod_int h1 z1
        obtain ⟨a2, e2, _, w2⟩ := DataW.trod_int h2 z2
        obtain ⟨a3, e3, _⟩ := DataW.trod_bool h3 z3
        simp at e0 e1 e2 e3
        subst e0 e1 e2 e3
        have t0 := hcell 0 (by omega)
        have t1 := hcell 1 (by omega)
        have t2 := hcell 2 (by omega)
        have t3 := hcell 3 (by omega)
        rw [add_add] at t0 t1 t2 t3
        exact ⟨⟨a0, a1, a2, a3⟩, by simpa using t0, by simpa using t1, by simpa using t2, by simpa using t3, wf_in64 w0, wf_in64 w1, wf_in64 w2⟩)
    have hlen : ((List.range len).map f).length = len := by simp
    have hat : ∀ i, i < len → ((List.range len).map f).getD i .zero = f i := fun i hi => by simp [List.getD, hi]
    refine ⟨some y, m, (List.range len).map f, by rw [hlen], ?_, by omega, hm, fun i hi => ?_, .inr ⟨_, _, congrArg Prod.fst hd, by simp⟩⟩
    · intro hne
      have hn : 0 < len := by
        rcases Nat.eq_zero_or_pos len with h | h
        · subst h; simp at hne
        · exact h
      obtain ⟨b, off, spot⟩ := y
      have hc0 := (hfx 0 hn).1
      have hspot : spot = none := by simpa [Addr.add] using World.cell?_spot hc0
      subst hspot
      refine ⟨b, off, rfl, fun i hi => ?_⟩
      rw [hlen] at hi
      obtain ⟨t0, t1, t2, t3, _⟩ := hfx i hi
      rw [addrAddK] at t0 t1 t2 t3
      rw [hat i hi]
      exact ⟨t0, by rw [Nat.add_assoc]; exact t1, by rw [Nat.add_assoc]; exact t2, by rw [Nat.add_assoc]; exact t3⟩
    · rw [hlen] at hi
      rw [hat i hi]
      exact (hfx i hi).2.2.2.2
end Go.Proofs.Ytcnkcbipkchoiag
