import Derived.Test.YtmdfjhnibhmdkafDoorSt19
import Derived.Deep.SlicePairs
import Derived.Lib.SmallJoins
import Derived.Test.YtmdfjhnibhmdkafDoorRows
namespace Go.Proofs.YtmdfjhnibhmdkafDoor
open Go.ChangeShapes Go.WideShapes Go.ChangeAt Go.RowKit Go.Deep
def itemD {H : Type} (t : ItemM) : DataW H := .agg [.lit (.int .i64 t.ch), .lit (.string t.data.data.toList)]
theorem addrAddJ (b off j : Nat) : (⟨b, off, none⟩ : Addr).add j = ⟨b, off + j, none⟩ := by unfold Addr.add; split <;> simp_all
theorem open_itemsF {H : Type} {enc : TypeId × Value → H} {P : Program} {W : World} {u s : TypeId} {g0 g1 : Field} {v : Value} {x : DataW H × List MemPlace} {fuel : Nat} (hu : P.underlying u = some (.slice s)) (hs : P.underlying s = some (.struct #[g0, g1])) (cs : P.cellsOf s = 2)
    (p0 : g0.offset = 0) (p1 : g1.offset = 1) (k0 : P.cellsOf g0.type = 1) (k1 : P.cellsOf g1.type = 1) (h0 : P.underlying g0.type = some (.int .i64)) (h1 : P.underlying g1.type = some .string) (hf : DataW.trod enc P W 0 (fun _ => true) true fuel u [v] = some x) :
    ∃ a c l, v = .slice a l.length c ∧ Itms W a l ∧ l.length ≤ c ∧ c ≤ maxLen ∧ (l = [] ∨ ∃ spare, x.1 = .slice (l.map itemD) spare) := by
  rcases Deep.open_slice hu hf with ⟨hcs, hx⟩ | ⟨y, len, c, m, n, D, Pl, hcs, _, hl, hm, hmm, hd, hx⟩
  · simp at hcs
    subst hcs
    exact ⟨none, 0, [], rfl, fun h => absurd rfl h, by simp, by unfold maxLen; omega, .inl rfl⟩
  · simp at hcs
    subst hcs
    simp at hmm
    subst hmm
    have : Inhabited ItemM := ⟨.zero⟩
    obtain ⟨f, hfx⟩ := Deep.choose_lt (α := ItemM) (n := len) (p := fun i t => W.cell? (y.add (i * 2)) = some (.int .i64 t.ch) ∧ W.cell? (y.add (i * 2 + 1)) = some (.string t.data) ∧ D i = itemD t) (fun i hi => by
      obtain ⟨cs', q1, q2⟩ := hx i (by omega)
      rw [cs] at q1
      obtain ⟨_, hlen, hcell⟩ := World.cells?_some q1
      obtain ⟨xs, k, hk, hxy, _, hxl, hff⟩ := DataW.trod_struct hs q2
      match xs, hxl, cs', hlen with
      | [y0, y1], _, [v0, v1], _ =>
        have z0 := hff 0 g0 rfl
        have z1 := hff 1 g1 rfl
        simp [p0, p1, k0, k1] at z0 z1
        obtain ⟨a0, e0, f0, _⟩ := DataW.trod_int h0 z0
        obtain ⟨a1, e1, f1, _⟩ := DataW.trod_string h1 z1
        simp at e0 e1
        subst e0 e1
        have t0 := hcell 0 (by omega)
        have t1 := hcell 1 (by omega)
        rw [add_add] at t0 t1
        refine ⟨⟨a0, a1⟩, by simpa using t0, by simpa using t1, ?_⟩
        simp only [Prod.mk.injEq] at hxy
        rw [hxy.1, f0, f1]
        rfl)
    have hlen : ((List.range len).map f).length = len := by simp
    have hat : ∀ i, i < len → ((List.range len).map f).getD i .zero = f i := fun i hi => by simp [List.getD, hi]
    refine ⟨some y, m, (List.range len).map f, by rw [hlen], ?_, by omega, hm, .inr ⟨(List.range (m - len)).map (fun j => D (len + j)), ?_⟩⟩
    · intro hne
      have hn : 0 < len := by
        rcases Nat.eq_zero_or_pos len with h | h
        · subst h; simp at hne
        · exact h
      obtain ⟨b, off, spot⟩ := y
      have hc0 := (hfx 0 hn).1
      have hspot : spot = none := by simpa [Addr.add] using World.cell?_spot hc0
      subst hspot
      refine ⟨b, off, rfl, fun i hi => ?_⟩
      rw [hlen] at hi
      obtain ⟨t0, t1, _⟩ := hfx i hi
      rw [addrAddJ] at t0 t1
      rw [hat i hi]
      exact ⟨t0, by rw [Nat.add_assoc]; exact t1⟩
    · rw [hd]
      have e : (List.range len).map D = ((List.range len).map f).map itemD := by
        rw [List.map_map]
        refine List.map_congr_left fun i hi => ?_
        exact (hfx i (List.mem_range.1 hi)).2.2
      show DataW.slice _ _ = _
      rw [e]
end Go.Proofs.YtmdfjhnibhmdkafDoor
