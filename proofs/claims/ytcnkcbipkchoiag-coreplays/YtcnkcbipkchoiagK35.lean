import Derived.Test.YtcnkcbipkchoiagK34
namespace Go.Proofs.Ytcnkcbipkchoiag
open Go.ChangeShapes Go.WideShapes Go.ChangeAt Go.RowKit Go.Deep
theorem open_ddsF {H : Type} {enc : TypeId × Value → H} {P : Program} {W : World} {u s s2 : TypeId} {g0 g1 g2 g3 g4 f0 f1 f2 f3 : Field} {v : Value} {x : DataW H × List MemPlace} {fuel : Nat} (hu : P.underlying u = some (.slice s)) (hs : P.underlying s = some (.struct #[g0, g1, g2, g3, g4])) (cs : P.cellsOf s = 8)
    (p0 : g0.offset = 0) (p1 : g1.offset = 1) (p2 : g2.offset = 2) (p3 : g3.offset = 3) (p4 : g4.offset = 4) (k0 : P.cellsOf g0.type = 1) (k1 : P.cellsOf g1.type = 1) (k2 : P.cellsOf g2.type = 1) (k3 : P.cellsOf g3.type = 1) (k4 : P.cellsOf g4.type = 4)
    (h0 : P.underlying g0.type = some (.int .i64)) (h1 : P.underlying g1.type = some (.int .i64)) (h2 : P.underlying g2.type = some (.int .i64)) (h3 : P.underlying g3.type = some (.int .i64)) (e4 : g4.type = s2) (hs2 : P.underlying s2 = some (.struct #[f0, f1, f2, f3]))
    (r0 : f0.offset = 0) (r1 : f1.offset = 1) (r2 : f2.offset = 2) (r3 : f3.offset = 3) (j0 : P.cellsOf f0.type = 1) (j1 : P.cellsOf f1.type = 1) (j2 : P.cellsOf f2.type = 1) (j3 : P.cellsOf f3.type = 1)
    (t0 : P.underlying f0.type = some (.int .i64)) (t1 : P.underlying f1.type = some (.int .i64)) (t2 : P.underlying f2.type = some (.int .i64)) (t3 : P.underlying f3.type = some .bool) (hf : DataW.trod enc P W 0 (fun _ => true) true fuel u [v] = some x) :
    ∃ a c l, v = .slice a l.length c ∧ Dds W a l ∧ l.length ≤ c ∧ c ≤ maxLen ∧ (∀ i, i < l.length → (l.getD i .zero).ok) ∧ (l.length = 0 ∨ ∃ ds spare, x.1 = .slice ds spare ∧ ds.length = l.length) := by
  rcases Deep.open_slice hu hf with ⟨hcs, hx⟩ | ⟨y, len, c, m, n, D, Pl, hcs, _, hl, hm, hmm, hd, hx⟩
  · simp at hcs
    subst hcs
    exact ⟨none, 0, [], rfl, fun h => absurd rfl h, by simp, by unfold maxLen; omega, fun i hi => by simp at hi, .inl rfl⟩
  · simp at hcs
    subst hcs
    simp at hmm
    subst hmm
    have : Inhabited DeedM := ⟨.zero⟩
    obtain ⟨f, hfx⟩ := Deep.choose_lt (α := DeedM) (n := len) (p := fun i z => (∀ j v, z.cells[j]? = some v → W.cell? (y.add (i * 8 + j)) = some v) ∧ z.ok) (fun i hi => by
      obtain ⟨cs', q1, q2⟩ := hx i (by omega)
      rw [cs] at q1
      obtain ⟨_, hlen, hcell⟩ := World.cells?_some q1
      obtain ⟨xs, k, hk, hxy, _, hxl, hff⟩ := DataW.trod_struct hs q2
      match xs, hxl, cs', hlen with
      | [y0, y1, y2, y3, y4], _, [v0, v1, v2, v3, v4, v5, v6, v7], _ =>
        have z0 := hff 0 g0 rfl
        have z1 := hff 1 g1 rfl
        have z2 := hff 2 g2 rfl
        have z3 := hff 3 g3 rfl
        have z4 := hff 4 g4 rfl
        simp [p0, p1, p2, p3, p4, k0, k1, k2, k3, k4] at z0 z1 z2 z3 z4
        rw [e4] at z4
        obtain ⟨xs2, k', hk', hxy2, _, hxl2, hff2⟩ := DataW.trod_struct hs2 z4
        match xs2, hxl2 with
        | [s0, s1, s2', s3], _ =>
          have b0 := hff2 0 f0 rfl
          have b1 := hff2 1 f1 rfl
          have b2 := hff2 2 f2 rfl
          have b3 := hff2 3 f3 rfl
          simp [r0, r1, r2, r3, j0, j1, j2, j3] at b0 b1 b2 b3
          obtain ⟨a0, e0, _, w0⟩ := DataW.trod_int h0 z0
          obtain ⟨a1, e1, _, w1⟩ := DataW.trod_int h1 z1
          obtain ⟨a2, e2, _, w2⟩ := DataW.trod_int h2 z2
          obtain ⟨a3, e3, _, w3⟩ := DataW.trod_int h3 z3
          obtain ⟨a4, e4', _, w4⟩ := DataW.trod_int t0 b0
          obtain ⟨a5, e5, _, w5⟩ := DataW.trod_int t1 b1
          obtain ⟨a6, e6, _, w6⟩ := DataW.trod_int t2 b2
          obtain ⟨a7, e7, _⟩ := DataW.trod_bool t3 b3
          simp at e0 e1 e2 e3 e4' e5 e6 e7
          subst e0 e1 e2 e3 e4' e5 e6 e7
          refine ⟨⟨a0, a1, a2, a3, a4, a5, a6, a7⟩, fun j v hj => ?_, wf_in64 w0, wf_in64 w1, wf_in64 w2, wf_in64 w3, wf_in64 w4, wf_in64 w5, wf_in64 w6⟩
          have hj8 : j < 8 := (List.getElem?_eq_some_iff.1 hj).1
          have := hcell j hj8
          rw [add_add] at this
          rw [this]
          exact hj)
    have hlen : ((List.range len).map f).length = len := by simp
    have hat : ∀ i, i < len → ((List.range len).map f).getD i .zero = f i := fun i hi => by simp [List.getD, hi]
    refine ⟨some y, m, (List.range len).map f, by rw [hlen], ?_, by omega, hm, fun i hi => ?_, .inr ⟨_, _, congrArg Prod.fst hd, by simp⟩⟩
    · intro hne
      have hn : 0 < len := by
        rcases Nat.eq_zero_or_pos len with h | h
        · subst h; simp at hne
        · exact h
      obtain ⟨b, off, spot⟩ := y
      have hc0 := (hfx 0 hn).1 0 _ rfl
      have hspot : spot = none := by simpa [Addr.add] using World.cell?_spot hc0
      subst hspot
      refine ⟨b, off, rfl, fun i hi j v hj => ?_⟩
      rw [hlen] at hi
      rw [hat i hi] at hj
      have := (hfx i hi).1 j v hj
      rw [addrAddK] at this
      rw [Nat.add_assoc]
      exact this
    · rw [hlen] at hi
      rw [hat i hi]
      exact (hfx i hi).2
end Go.Proofs.Ytcnkcbipkchoiag
