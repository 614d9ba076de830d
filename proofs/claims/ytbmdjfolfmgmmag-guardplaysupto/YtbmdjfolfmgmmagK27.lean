import Derived.Test.YtbmdjfolfmgmmagK01
import Derived.SizedLaws
import Derived.Test.YtbmdjfolfmgmmagK26
import Derived.Deep.Strs
import Derived.Deep.SlicePairs
import Derived.Lib.SmallJoins
namespace Go.Proofs.Ytbmdjfolfmgmmag
open Go.ChangeShapes Go.WideShapes Go.ChangeAt Go.RowKit
open Go.ChangeMaps (open_string shut_string)
theorem Try.own : ownKnob Try.prog.godebug = none := by kernel_rfl
theorem Try.laidOut : laidOutB Try.prog = true := by kernel_rfl
end Go.Proofs.Ytbmdjfolfmgmmag
namespace Go.Proofs.Ytbmdjfolfmgmmag
open Go.ChangeShapes Go.WideShapes Go.ChangeAt Go.RowKit Go.Deep
theorem addrAddT (b off j : Nat) : (⟨b, off, none⟩ : Addr).add j = ⟨b, off + j, none⟩ := by unfold Addr.add; split <;> simp_all
theorem bulkG_one {H : Type} (d : DataW H) : 1 ≤ Rows.uptoBulk d := by
  cases d with
  | lit l => cases l <;> simp [Rows.uptoBulk]
  | nil => simp [Rows.uptoBulk]
  | ptr d => simp [Rows.uptoBulk]
  | slice elems spare => simp [Rows.uptoBulk]
  | agg parts => simp [Rows.uptoBulk]
  | iface t d => simp [Rows.uptoBulk]
  | map es => simp [Rows.uptoBulk]
  | held h => simp [Rows.uptoBulk]
theorem bulkG_len {H : Type} : ∀ l : List (DataW H), l.length ≤ Rows.uptoBulkAll l
  | [] => by simp
  | d :: l => by
    have h1 := bulkG_one d
    have h2 := bulkG_len l
    simp only [List.length_cons, Rows.uptoBulkAll]
    omega
theorem bulkG_mem {H : Type} : ∀ {l : List (DataW H)} {d : DataW H}, d ∈ l → Rows.uptoBulk d ≤ Rows.uptoBulkAll l
  | d' :: l, d, h => by
    simp only [Rows.uptoBulkAll]
    rcases List.mem_cons.1 h with rfl | h
    · omega
    · have := bulkG_mem h
      omega
theorem open_tns {H : Type} {enc : TypeId × Value → H} {P : Program} {W : World} {u s : TypeId} {g0 g1 g2 : Field} {v : Value} {x : DataW H × List MemPlace} {fuel : Nat} (hu : P.underlying u = some (.slice s)) (hs : P.underlying s = some (.struct #[g0, g1, g2])) (cs : P.cellsOf s = 3)
    (p0 : g0.offset = 0) (p1 : g1.offset = 1) (p2 : g2.offset = 2) (k0 : P.cellsOf g0.type = 1) (k1 : P.cellsOf g1.type = 1) (k2 : P.cellsOf g2.type = 1)
    (h0 : P.underlying g0.type = some (.int .i64)) (h1 : P.underlying g1.type = some (.int .i64)) (h2 : P.underlying g2.type = some .string) (hf : DataW.trod enc P W 0 (fun _ => true) true fuel u [v] = some x) :
    ∃ a c l, v = .slice a l.length c ∧ Tns W a l ∧ l.length ≤ c ∧ c ≤ maxLen ∧ l.length ≤ Rows.uptoBulk x.1 ∧ ∀ i, i < l.length → (l.getD i .zero).text.size ≤ Rows.uptoBulk x.1 := by
  rcases Deep.open_slice hu hf with ⟨hcs, hx⟩ | ⟨y, len, c, m, n, D, Pl, hcs, _, hl, hm, hmm, hd, hx⟩
  · simp at hcs
    subst hcs
    exact ⟨none, 0, [], rfl, fun h => absurd rfl h, by simp, by unfold maxLen; omega, by simp, fun i hi => by simp at hi⟩
  · simp at hcs
    subst hcs
    simp at hmm
    subst hmm
    have : Inhabited TurnM := ⟨.zero⟩
    obtain ⟨f, hfx⟩ := Deep.choose_lt (α := TurnM) (n := len) (p := fun i z => W.cell? (y.add (i * 3)) = some (.int .i64 z.kind) ∧ W.cell? (y.add (i * 3 + 1)) = some (.int .i64 z.n) ∧ W.cell? (y.add (i * 3 + 2)) = some (.string z.text) ∧ z.text.size ≤ Rows.uptoBulk (D i)) (fun i hi => by
      obtain ⟨cs', q1, q2⟩ := hx i (by omega)
      rw [cs] at q1
      obtain ⟨_, hlen, hcell⟩ := World.cells?_some q1
      obtain ⟨xs, k, hk, hxy, _, hxl, hff⟩ := DataW.trod_struct hs q2
      match xs, hxl, cs', hlen with
      | [y0, y1, y2], _, [v0, v1, v2], _ =>
        have z0 := hff 0 g0 rfl
        have z1 := hff 1 g1 rfl
        have z2 := hff 2 g2 rfl
        simp [p0, p1, p2, k0, k1, k2] at z0 z1 z2
        obtain ⟨a0, e0, _, _⟩ := DataW.trod_int h0 z0
        obtain ⟨a1, e1, _, _⟩ := DataW.trod_int h1 z1
        obtain ⟨a2, e2, ey2, _⟩ := DataW.trod_string h2 z2
        simp at e0 e1 e2
        subst e0 e1 e2
        have t0 := hcell 0 (by omega)
        have t1 := hcell 1 (by omega)
        have t2 := hcell 2 (by omega)
        rw [add_add] at t0 t1 t2
        refine ⟨⟨a0, a1, a2⟩, by simpa using t0, by simpa using t1, by simpa using t2, ?_⟩
        have hD : D i = .agg [y0.1, y1.1, y2.1] := by
          have := congrArg Prod.fst hxy
          simpa using this
        rw [hD, ey2]
        simp only [Rows.uptoBulk, Rows.uptoBulkAll, Array.length_toList]
        have : a2.data.size = a2.size := rfl
        show a2.size ≤ _
        omega)
    have hlen : ((List.range len).map f).length = len := by simp
    have hat : ∀ i, i < len → ((List.range len).map f).getD i .zero = f i := fun i hi => by simp [List.getD, hi]
    refine ⟨some y, m, (List.range len).map f, by rw [hlen], ?_, by omega, hm, ?_, fun i hi => ?_⟩
    · intro hne
      have hn : 0 < len := by
        rcases Nat.eq_zero_or_pos len with h | h
        · subst h; simp at hne
        · exact h
      obtain ⟨b, off, spot⟩ := y
      have hc0 := (hfx 0 hn).1
      have hspot : spot = none := by simpa [Addr.add] using World.cell?_spot hc0
      subst hspot
      refine ⟨b, off, rfl, fun i hi => ?_⟩
      rw [hlen] at hi
      obtain ⟨t0, t1, t2, _⟩ := hfx i hi
      rw [addrAddT] at t0 t1 t2
      rw [hat i hi]
      exact ⟨t0, by rw [Nat.add_assoc]; exact t1, by rw [Nat.add_assoc]; exact t2⟩
    · rw [hlen, hd]
      show len ≤ Rows.uptoBulk (DataW.slice _ _)
      simp only [Rows.uptoBulk]
      have := bulkG_len ((List.range len).map D)
      rw [List.length_map, List.length_range] at this
      omega
    · rw [hlen] at hi
      rw [hat i hi, hd]
      show _ ≤ Rows.uptoBulk (DataW.slice _ _)
      simp only [Rows.uptoBulk]
      have h1 := (hfx i hi).2.2.2
      have h2 := bulkG_mem (l := (List.range len).map D) (List.mem_map.2 ⟨i, List.mem_range.2 hi, rfl⟩)
      omega
end Go.Proofs.Ytbmdjfolfmgmmag
