import Derived.Test.YtjpohfghibhkiadPairs
namespace Go.Proofs.Ytjpohfghibhkiad
open Go.ChangeShapes Go.WideShapes Go.ChangeAt Go.RowKit

/-! PAIRS OF A NUMBER AND A VALUE OF ONE CELL, cell by cell; lists of them of one's own (parts). -/

def cellsR (qs : List (Int × Value)) : List Value := qs.flatMap fun q => [.int .i64 q.1, q.2]
theorem cellsR_length (qs : List (Int × Value)) : (cellsR qs).length = 2 * qs.length := by
  induction qs with
  | nil => rfl
  | cons q qs ih =>
    have e : cellsR (q :: qs) = .int .i64 q.1 :: q.2 :: cellsR qs := rfl
    rw [e]; simp [ih]; omega
theorem cellsR_at (qs : List (Int × Value)) : ∀ i, i < qs.length → (cellsR qs)[i * 2]? = some (.int .i64 (qs.getD i (0, undef)).1) ∧ (cellsR qs)[i * 2 + 1]? = some (qs.getD i (0, undef)).2 := by
  induction qs with
  | nil => intro i hi; simp at hi
  | cons q qs ih =>
    intro i hi
    have e : cellsR (q :: qs) = .int .i64 q.1 :: q.2 :: cellsR qs := rfl
    cases i with
    | zero => rw [e]; simp [List.getD]
    | succ i =>
      have := ih i (by simpa using hi)
      rw [e, show (i + 1) * 2 = i * 2 + 1 + 1 by omega, List.getElem?_cons_succ, List.getElem?_cons_succ, show i * 2 + 1 + 1 + 1 = (i * 2 + 1) + 1 + 1 by omega, List.getElem?_cons_succ, List.getElem?_cons_succ]
      simpa [List.getD] using this
theorem cellsR_append (ps qs : List (Int × Value)) : cellsR (ps ++ qs) = cellsR ps ++ cellsR qs := by unfold cellsR; rw [List.flatMap_append]
def OwnR (T : TypeId) (w : World) (B : Nat) (v : Value) (qs : List (Int × Value)) : Prop := w.ownsRow B T 2 v qs.length (cellsR qs)
theorem OwnR.nil (T : TypeId) (w : World) (B : Nat) : OwnR T w B (.slice none 0 0) [] := World.ownsRow_nil _ _ _ _
theorem OwnR.below {T : TypeId} {w w' : World} {B : Nat} {v : Value} {qs : List (Int × Value)} (h : OwnR T w B v qs) (hb : Below w.heap.size w w') : OwnR T w' B v qs := by
  refine ⟨h.1, ?_⟩
  rcases h.2 with h' | ⟨g, cap, cur, h1, h2, h3, h4⟩
  · exact .inl h'
  · have hlt : g < w.heap.size := (Array.getElem?_eq_some_iff.1 h3).1
    exact .inr ⟨g, cap, cur, h1, h2, (hb.block g hlt).trans h3, h4⟩
theorem OwnR.kept {T : TypeId} {w w' : World} {B : Nat} {v : Value} {qs : List (Int × Value)} {row : Option Nat} (h : OwnR T w B v qs) (hg : w.grownBy w' row) (hne : v.ownBlock = none ∨ v.ownBlock ≠ row) : OwnR T w' B v qs := World.ownsRow.kept h hg hne
theorem OwnR.shape {T : TypeId} {w : World} {B : Nat} {v : Value} {qs : List (Int × Value)} (h : OwnR T w B v qs) : ∃ a c, v = .slice a qs.length c ∧ qs.length ≤ c ∧ c ≤ maxLen := by
  rcases h.2 with ⟨rfl, h0⟩ | ⟨g, cap, cur, rfl, _, _, h1, h2, _⟩
  · exact ⟨none, 0, by rw [h0], by omega, by unfold maxLen; omega⟩
  · exact ⟨_, cap, rfl, h1, h2⟩
theorem OwnR.cells {T : TypeId} {w : World} {B n c : Nat} {a : Option Addr} {qs : List (Int × Value)} (h : OwnR T w B (.slice a n c) qs) {i : Nat} (hi : i < qs.length) : ∃ g, a = some ⟨g, 0, none⟩ ∧ w.cell? ⟨g, i * 2, none⟩ = some (.int .i64 (qs.getD i (0, undef)).1) ∧ w.cell? ⟨g, i * 2 + 1, none⟩ = some (qs.getD i (0, undef)).2 := by
  rcases h.2 with ⟨h', h0⟩ | ⟨g, cap, cur, h', _, hg, hlc, _, hcs, ht⟩
  · omega
  · simp only [Value.slice.injEq] at h'
    obtain ⟨rfl, rfl, rfl⟩ := h'
    have hc := cellsR_at qs i hi
    have hat : ∀ j, j < qs.length * 2 → cur[j]? = (cellsR qs)[j]? := fun j hj => by
      rw [← ht, List.getElem?_take_of_lt hj]
      simp
    refine ⟨g, rfl, ?_, ?_⟩
    · rw [cell_of_row _ _ _ _ _ _ hg, hat _ (by omega)]; exact hc.1
    · rw [cell_of_row _ _ _ _ _ _ hg, hat _ (by omega)]; exact hc.2
theorem OwnR.blocks {T : TypeId} {w : World} {B : Nat} {v : Value} {qs : List (Int × Value)} (h : OwnR T w B v qs) : ∀ k, v.ownBlock = some k → B ≤ k := fun k hk => (h.lt k hk).1
/-- 'append(parts, x)'. -/
theorem wpList_pushR {ops : Array Oper} {rest : List Oper} {o : Oper} {a : Act} {Q : Exit → Act → World → Prop} {w0 : World} {v : Value} {qs : List (Int × Value)} {T S : TypeId} {i0 : TypeInfo} (hu : Try.prog.underlying S = some (.slice T)) (hi : Try.prog.info? T = some i0) (hz0 : i0.zero = some (.agg #[.int .i64 0, .slice none 0 0])) (hz1 : i0.size = 2) (hz2 : i0.bytes = 32) (B : Nat) (w00 : World) (p : Int × Value) (hp : p.2.oneCell' = true) (hown : OwnR T w0 B v qs) (hgd : o.guard = none) (s x : Operand)
    (ho : o.op = .call { callee := .builtin .append, args := #[s, x], argTypes := #[S, S] }) (hs : a.eval s = v)
    (hx : a.eval x = .slice (some ⟨w0.heap.size, 0, none⟩) 1 1) (hlen : qs.length < 1000000) (hbel : Below B w00 w0) (hB : B ≤ w0.heap.size)
    (h : ∀ v' w', OwnR T w' B v' (qs ++ [p]) → Below B w00 w' → w0.grownBy w' v.ownBlock → wpList Try.prog ops Q rest (a.put o.dst v') w') : wpList Try.prog ops Q (o :: rest) a (w0.alloc (.cells #[.int .i64 p.1, p.2] T)) := by
  have hone : ∀ u ∈ cellsR [p], u.oneCell' = true := by
    intro u hu
    simp [cellsR] at hu
    rcases hu with rfl | rfl
    · rfl
    · exact hp
  refine wpList_append_own _ hgd s x S ho B T i0 (.agg #[.int .i64 0, .slice none 0 0]) 2 32 hu hi hz0 hz1 hz2 rfl (by decide) v _ _ hs (World.ownsRow.alloc hown _) ⟨w0.heap.size, 0, none⟩ 1 1 [.int .i64 p.1, p.2] hx rfl ?_ hone ?_ ?_ ?_ ?_
  · intro j u hj
    rw [Addr.add_lit, cell_of_row _ _ _ _ _ _ (heap_alloc_new w0 _), Nat.zero_add]
    simpa using hj
  · unfold maxLen; omega
  · omega
  · simp; omega
  · intro v' w' h1 h2 _
    have hg : w0.grownBy w' v.ownBlock := by
      have h0 : w0.grownBy (w0.alloc (.cells #[.int .i64 p.1, p.2] T)) none := ⟨rfl, rfl, rfl, by simp, fun k hk _ => Below.heap_alloc _ _ _ hk⟩
      exact ⟨h2.os.trans h0.os, h2.tape.trans h0.tape, h2.output.trans h0.output, Nat.le_trans h0.size h2.size, fun k hk hn => (h2.block k (Nat.lt_of_lt_of_le hk h0.size) hn).trans (h0.block k hk (by simp))⟩
    refine h v' w' ?_ ((hbel.alloc hB _).grown h2 (by simp; omega) hown.blocks) hg
    unfold OwnR
    rw [List.length_append, cellsR_append]
    exact h1
end Go.Proofs.Ytjpohfghibhkiad
