import Derived.Test.YtdndeegpbjlibacWaveU
import Derived.Test.YtdndeegpbjlibacWaveM
namespace Go.Proofs.Ytdndeegpbjlibac
open Go.ChangeShapes Go.WideShapes Go.ChangeAt Go.RowKit

/-! THE DOCUMENT'S Constellation: its lists. -/

/-- Lists of bits, each of one's own. -/
def RowsB (w : World) (B : Nat) (vs : List Value) (LL : List (List Int)) : Prop := vs.length = LL.length ∧ ∀ i, i < LL.length → Own w B (vs.getD i undef) (LL.getD i [])
theorem RowsB.grow {w w' : World} {B : Nat} {vs : List Value} {LL : List (List Int)} {row : Option Nat} (h : RowsB w B vs LL) (hg : w.grownBy w' row) (hr : ∀ g, row = some g → ∀ i, i < LL.length → (vs.getD i undef).ownBlock ≠ some g) : RowsB w' B vs LL :=
  ⟨h.1, fun i hi => own_growW (h.2 i hi) hg (fun k hk => hr k hk i hi)⟩
theorem grown_of_below {w w' : World} (h : Below w.heap.size w w') : w.grownBy w' none := ⟨h.os, h.tape, h.output, h.size, fun k hk _ => h.block k hk⟩
theorem RowsB.below {w w' : World} {B : Nat} {vs : List Value} {LL : List (List Int)} (h : RowsB w B vs LL) (hb : Below w.heap.size w w') : RowsB w' B vs LL := h.grow (grown_of_below hb) (fun g e => by cases e)
theorem RowsB.snoc2 {w : World} {B : Nat} {vs : List Value} {LL : List (List Int)} {u1 u2 : Value} {l1 l2 : List Int} (h : RowsB w B vs LL) (h1 : Own w B u1 l1) (h2 : Own w B u2 l2) : RowsB w B (vs ++ [u1, u2]) (LL ++ [l1, l2]) := by
  refine ⟨by rw [List.length_append, List.length_append, h.1]; rfl, fun i hi => ?_⟩
  rw [List.length_append] at hi
  simp only [List.length_cons, List.length_nil] at hi
  by_cases h3 : i < LL.length
  · have e1 : (vs ++ [u1, u2]).getD i undef = vs.getD i undef := by simp [List.getD, List.getElem?_append_left (show i < vs.length by rw [h.1]; exact h3)]
    have e2 : (LL ++ [l1, l2]).getD i [] = LL.getD i [] := by simp [List.getD, List.getElem?_append_left h3]
    rw [e1, e2]
    exact h.2 i h3
  · have hv := h.1
    have : i = LL.length ∨ i = LL.length + 1 := by omega
    rcases this with rfl | rfl
    · have e1 : (vs ++ [u1, u2]).getD LL.length undef = u1 := by rw [← hv]; simp [List.getD]
      have e2 : (LL ++ [l1, l2]).getD LL.length [] = l1 := by simp [List.getD]
      rw [e1, e2]
      exact h1
    · have e1 : (vs ++ [u1, u2]).getD (LL.length + 1) undef = u2 := by rw [← hv]; simp [List.getD]
      have e2 : (LL ++ [l1, l2]).getD (LL.length + 1) [] = l2 := by simp [List.getD]
      rw [e1, e2]
      exact h2
theorem apart_typesW {w : World} {B B' : Nat} {e e' : TypeId} {v u : Value} {n n' : Nat} {xs ys : List Value} (h : w.ownsRow B e 1 v n xs) (h' : w.ownsRow B' e' 1 u n' ys) (he : e ≠ e') : ∀ k, v.ownBlock = some k → u.ownBlock ≠ some k := by
  intro k hk hu
  rcases h.2 with ⟨rfl, _⟩ | ⟨g, cap, cur, rfl, _, hg, _⟩
  · cases hk
  · rcases h'.2 with ⟨rfl, _⟩ | ⟨g', cap', cur', rfl, _, hg', _⟩
    · cases hu
    · have e1 : g = k := by simpa [Value.ownBlock] using hk
      have e2 : g' = k := by simpa [Value.ownBlock] using hu
      subst e1
      subst e2
      rw [hg] at hg'
      simp only [Option.some.injEq, Obj.cells.injEq] at hg'
      exact he hg'.2.1
theorem OwnR.cell {w : World} {B g n c : Nat} {vs : List Value} (h : OwnR w B (.slice (some ⟨g, 0, none⟩) n c) vs) {i : Nat} (hi : i < vs.length) : w.cell? ⟨g, i, none⟩ = some (vs.getD i undef) := by
  have hl : vs.length = n := by
    rcases h.2 with ⟨h', _⟩ | ⟨g', cap', cur', h', _⟩
    · cases h'
    · simp only [Value.slice.injEq] at h'
      exact h'.2.1.symm
  subst hl
  unfold OwnR at h
  rw [h.cellAt i (by omega)]
  simp [List.getD, hi]
theorem OwnR.shape1 {w : World} {B : Nat} {v : Value} {vs : List Value} (h : OwnR w B v vs) (h1 : 1 ≤ vs.length) : ∃ g c, v = .slice (some ⟨g, 0, none⟩) vs.length c ∧ vs.length ≤ c ∧ c ≤ maxLen ∧ g < w.heap.size := by
  rcases h.2 with ⟨_, h0⟩ | ⟨g, cap, cur, h', _, hg, h2, h3, _⟩
  · omega
  · exact ⟨g, cap, h', h2, h3, (Array.getElem?_eq_some_iff.1 hg).1⟩
theorem OwnR.below {w w' : World} {B : Nat} {v : Value} {vs : List Value} (h : OwnR w B v vs) (hb : Below w.heap.size w w') : OwnR w' B v vs := own_growW h (grown_of_below hb) (fun k e => by cases e)

/-- A frame is what its slots are. -/
theorem act_list (a : Act) (n : Nat) (h : a.tmps.size = n) (hd : a.defers = []) : a = { tmps := ((List.range n).map fun s => a.eval (.tmp s)).toArray, defers := [] } := by
  obtain ⟨t, d⟩ := a
  simp only at h hd
  subst hd
  congr 1
  refine Array.ext (by simp [h]) fun i h1 h2 => ?_
  simp [Act.eval, Array.getD, h1]

/-- The step of the lists, as the loop wants it told. -/
theorem con_step {B : Nat} {wr w : World} {a0 a : Act} {v4 v6 v' : Value} {vs4 vs6 : List Value} {LL : List (List Int)} {i : Nat} (hF : ConF wr a0 B v6 vs6 (LL.getD i []) v' a w) (hi : i < LL.length) (hB : B ≤ wr.heap.size) (h4 : OwnR wr B v4 vs4) (r4 : RowsB wr B vs4 LL) (h6 : OwnR wr B v6 vs6) (r6 : RowsB wr B vs6 (growW LL i))
    (hap : ∀ k, v6.ownBlock = some k → v4.ownBlock ≠ some k) : OwnR w B v4 vs4 ∧ RowsB w B vs4 LL ∧ (∃ vs', OwnR w B v' vs' ∧ RowsB w B vs' (growW LL (i + 1))) ∧ (∀ k, v'.ownBlock = some k → v4.ownBlock ≠ some k) ∧ Below B wr w := by
  obtain ⟨u1, u2, w1, f1, f2, f3, f4, f5, f6⟩ := hF.facts
  have g4 := h4.below f4
  have g6 := h6.below f4
  have hsz := f4.size
  have lt6 : ∀ g, v6.ownBlock = some g → B ≤ g ∧ g < wr.heap.size := fun g e => World.ownsRow.lt h6 g e
  refine ⟨own_growW g4 f5 (fun k hk => hap k hk), (r4.below f4).grow f5 (fun g e j hj => ?_), ⟨vs6 ++ [u1, u2], f1, ?_⟩, fun k hk he => ?_, ?_⟩
  · exact fun he => apart_typesW (e := 5) (e' := 22) ((r4.below f4).2 j hj) g6 (by decide) g he e
  · rw [growW_succ hi]
    refine RowsB.snoc2 ((r6.below f4).grow f5 (fun g e j hj => ?_)) (own_monoW f2 hB) (own_monoW f3 hB)
    exact fun he => apart_typesW (e := 5) (e' := 22) ((r6.below f4).2 j hj) g6 (by decide) g he e
  · rcases f6 with e | e
    · exact hap k (e.symm.trans hk) he
    · have h1 := (World.ownsRow.lt h4 k he).2
      have h2 : some w1.heap.size = some k := e.symm.trans hk
      simp at h2
      omega
  · exact (f4.mono hB).grown f5 (by omega) (fun g e => (lt6 g e).1)
end Go.Proofs.Ytdndeegpbjlibac
