import Derived.Test.YtcnkcbipkchoiagU03
import Derived.SizedLaws
import Derived.Test.YtcnkcbipkchoiagU39
import Derived.Deep.Strs
import Derived.Deep.SlicePairs
import Derived.Lib.SmallJoins
namespace Go.Proofs.Ytcnkcbipkchoiag
open Go.ChangeShapes Go.WideShapes Go.ChangeAt Go.RowKit
open Go.ChangeMaps (open_string shut_string)
theorem Try.own : ownKnob Try.prog.godebug = none := by kernel_rfl
theorem Try.laidOut : laidOutB Try.prog = true := by kernel_rfl
/-- The datum of a slice with so many places. -/
def Places {H : Type} (d : DataW H) (c : Nat) : Prop := (d = .nil ∧ c = 0) ∨ ∃ elems spare, d = .slice elems spare ∧ elems.length + spare.length = c
end Go.Proofs.Ytcnkcbipkchoiag
namespace Go.Proofs.Ytcnkcbipkchoiag
open Go.ChangeShapes Go.WideShapes Go.ChangeAt Go.RowKit Go.Deep
theorem addrAddN (b off j : Nat) : (⟨b, off, none⟩ : Addr).add j = ⟨b, off + j, none⟩ := by unfold Addr.add; split <;> simp_all
/-- Texts that come in. -/
theorem open_txsU {H : Type} {enc : TypeId × Value → H} {P : Program} {W : World} {t e : TypeId} {v : Value} {x : DataW H × List MemPlace} {fuel : Nat} (ht : P.underlying t = some (.slice e)) (he : P.underlying e = some .string) (hc : P.cellsOf e = 1) (hf : DataW.trod enc P W 0 (fun _ => true) true fuel t [v] = some x) :
    ∃ a c l, v = .slice a l.length c ∧ Txs W a l ∧ l.length ≤ c ∧ c ≤ maxLen ∧ ∀ i, i < l.length → (l.getD i ByteArray.empty).size ≤ maxLen := by
  rcases Deep.open_strs ht he hc hf with ⟨hcs, hx⟩ | ⟨a, len, cap, m, Sx, hcs, _, hl, hm, hmm, hd, hx⟩
  · simp at hcs
    subst hcs
    exact ⟨none, 0, [], rfl, fun h => absurd rfl h, by simp, by unfold maxLen; omega, fun i hi => by simp at hi⟩
  · simp at hcs
    subst hcs
    simp at hmm
    subst hmm
    have hlen : ((List.range len).map Sx).length = len := by simp
    have hat : ∀ i, i < len → ((List.range len).map Sx).getD i ByteArray.empty = Sx i := fun i hi => by simp [List.getD, hi]
    refine ⟨some a, m, (List.range len).map Sx, by rw [hlen], ?_, by omega, hm, fun i hi => ?_⟩
    · intro hne
      have hn : 0 < len := by
        rcases Nat.eq_zero_or_pos len with h | h
        · subst h; simp at hne
        · exact h
      obtain ⟨b, off, spot⟩ := a
      have hc0 := (hx 0 (by omega)).1
      have hspot : spot = none := by simpa [Addr.add] using World.cell?_spot hc0
      subst hspot
      refine ⟨b, off, rfl, fun i hi => ?_⟩
      rw [hlen] at hi
      have h1 := (hx i (by omega)).1
      rw [addrAddN] at h1
      rw [hat i hi]
      exact h1
    · rw [hlen] at hi
      rw [hat i hi]
      exact (hx i (by omega)).2
theorem open_gapsU {H : Type} {enc : TypeId × Value → H} {P : Program} {W : World} {u s : TypeId} {g0 g1 g2 : Field} {v : Value} {x : DataW H × List MemPlace} {fuel : Nat} (hu : P.underlying u = some (.slice s)) (hs : P.underlying s = some (.struct #[g0, g1, g2])) (cs : P.cellsOf s = 3)
    (p0 : g0.offset = 0) (p1 : g1.offset = 1) (p2 : g2.offset = 2) (k0 : P.cellsOf g0.type = 1) (k1 : P.cellsOf g1.type = 1) (k2 : P.cellsOf g2.type = 1)
    (h0 : P.underlying g0.type = some (.int .i64)) (h1 : P.underlying g1.type = some (.int .i64)) (h2 : P.underlying g2.type = some (.int .i64)) (hf : DataW.trod enc P W 0 (fun _ => true) true fuel u [v] = some x) :
    ∃ a c l, v = .slice a l.length c ∧ Gps W a l ∧ l.length ≤ c ∧ c ≤ maxLen ∧ (a = none → l.length = 0 ∧ c = 0) := by
  rcases Deep.open_slice hu hf with ⟨hcs, hx⟩ | ⟨x, len, c, m, n, D, Pl, hcs, _, hl, hm, hmm, hd, hx⟩
  · simp at hcs
    subst hcs
    exact ⟨none, 0, [], rfl, fun h => absurd rfl h, by simp, by unfold maxLen; omega, fun _ => ⟨rfl, rfl⟩⟩
  · simp at hcs
    subst hcs
    simp at hmm
    subst hmm
    have : Inhabited GapM := ⟨.zero⟩
    obtain ⟨f, hfx⟩ := Deep.choose_lt (α := GapM) (n := len) (p := fun i y => W.cell? (x.add (i * 3)) = some (.int .i64 y.num) ∧ W.cell? (x.add (i * 3 + 1)) = some (.int .i64 y.frm) ∧ W.cell? (x.add (i * 3 + 2)) = some (.int .i64 y.til)) (fun i hi => by
      obtain ⟨cs', q1, q2⟩ := hx i (by omega)
      rw [cs] at q1
      obtain ⟨_, hlen, hcell⟩ := World.cells?_some q1
      obtain ⟨xs, k, hk, hxy, _, hxl, hff⟩ := DataW.trod_struct hs q2
      match xs, hxl, cs', hlen with
      | [y0, y1, y2], _, [v0, v1, v2], _ =>
        have z0 := hff 0 g0 rfl
        have z1 := hff 1 g1 rfl
        have z2 := hff 2 g2 rfl
        simp [p0, p1, p2, k0, k1, k2] at z0 z1 z2
        obtain ⟨a0, e0, _, _⟩ := DataW.trod_int h0 z0
        obtain ⟨a1, e1, _, _⟩ := DataW.trod_int h1 z1
        obtain ⟨a2, e2, _, _⟩ := DataW.trod_int h2 z2
        simp at e0 e1 e2
        subst e0 e1 e2
        have t0 := hcell 0 (by omega)
        have t1 := hcell 1 (by omega)
        have t2 := hcell 2 (by omega)
        rw [add_add] at t0 t1 t2
        exact ⟨⟨a0, a1, a2⟩, by simpa using t0, by simpa using t1, by simpa using t2⟩)
    have hlen : ((List.range len).map f).length = len := by simp
    have hat : ∀ i, i < len → ((List.range len).map f).getD i .zero = f i := fun i hi => by simp [List.getD, hi]
    refine ⟨some x, m, (List.range len).map f, by rw [hlen], ?_, by omega, hm, fun h => by cases h⟩
    intro hne
    have hn : 0 < len := by
      rcases Nat.eq_zero_or_pos len with h | h
      · subst h; simp at hne
      · exact h
    obtain ⟨b, off, spot⟩ := x
    have hc0 := (hfx 0 hn).1
    have hspot : spot = none := by simpa [Addr.add] using World.cell?_spot hc0
    subst hspot
    refine ⟨b, off, rfl, fun i hi => ?_⟩
    rw [hlen] at hi
    obtain ⟨t0, t1, t2⟩ := hfx i hi
    rw [addrAddN] at t0 t1 t2
    rw [hat i hi]
    exact ⟨t0, by rw [Nat.add_assoc]; exact t1, by rw [Nat.add_assoc]; exact t2⟩
end Go.Proofs.Ytcnkcbipkchoiag
