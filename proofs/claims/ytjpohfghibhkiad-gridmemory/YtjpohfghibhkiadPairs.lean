import Derived.Test.YtjpohfghibhkiadArrs
namespace Go.Proofs.Ytjpohfghibhkiad
open Go.ChangeShapes Go.WideShapes Go.ChangeAt Go.RowKit

/-! PAIRS OF NUMBERS, cell by cell; lists of them of one's own (points, places). -/

def cellsQ (ps : List (Int × Int)) : List Value := ps.flatMap fun p => [.int .i64 p.1, .int .i64 p.2]
theorem cellsQ_length (ps : List (Int × Int)) : (cellsQ ps).length = 2 * ps.length := by
  induction ps with
  | nil => rfl
  | cons p ps ih =>
    have e : cellsQ (p :: ps) = .int .i64 p.1 :: .int .i64 p.2 :: cellsQ ps := rfl
    rw [e]; simp [ih]; omega
theorem cellsQ_at (ps : List (Int × Int)) : ∀ i, i < ps.length → (cellsQ ps)[i * 2]? = some (.int .i64 (ps.getD i (0, 0)).1) ∧ (cellsQ ps)[i * 2 + 1]? = some (.int .i64 (ps.getD i (0, 0)).2) := by
  induction ps with
  | nil => intro i hi; simp at hi
  | cons p ps ih =>
    intro i hi
    have e : cellsQ (p :: ps) = .int .i64 p.1 :: .int .i64 p.2 :: cellsQ ps := rfl
    cases i with
    | zero => rw [e]; simp [List.getD]
    | succ i =>
      have := ih i (by simpa using hi)
      rw [e, show (i + 1) * 2 = i * 2 + 1 + 1 by omega, List.getElem?_cons_succ, List.getElem?_cons_succ, show i * 2 + 1 + 1 + 1 = (i * 2 + 1) + 1 + 1 by omega, List.getElem?_cons_succ, List.getElem?_cons_succ]
      simpa [List.getD] using this
theorem cellsQ_set (p : Int × Int) : ∀ (ps : List (Int × Int)) (i : Nat), i < ps.length → cellsQ (ps.set i p) = ((cellsQ ps).set (i * 2) (.int .i64 p.1)).set (i * 2 + 1) (.int .i64 p.2)
  | [], i, hi => by simp at hi
  | q :: ps, 0, _ => rfl
  | q :: ps, i + 1, hi => by
    have ih := cellsQ_set p ps i (by simpa using hi)
    have e : ∀ (r : Int × Int) rs, cellsQ (r :: rs) = .int .i64 r.1 :: .int .i64 r.2 :: cellsQ rs := fun _ _ => rfl
    rw [List.set_cons_succ, e, e, ih, show (i + 1) * 2 = i * 2 + 1 + 1 by omega]
    rfl
theorem cellsQ_zero (n : Nat) : cellsQ (List.replicate n (0, 0)) = List.replicate (n * 2) (.int .i64 0) := by
  induction n with
  | zero => rfl
  | succ n ih =>
    have e : cellsQ ((0, 0) :: List.replicate n (0, 0)) = .int .i64 0 :: .int .i64 0 :: cellsQ (List.replicate n (0, 0)) := rfl
    rw [List.replicate_succ, e, ih, show (n + 1) * 2 = n * 2 + 1 + 1 by omega, List.replicate_succ, List.replicate_succ]
theorem cellsQ_one (ps : List (Int × Int)) : ∀ u ∈ cellsQ ps, u.oneCell' = true := by
  intro u hu
  unfold cellsQ at hu
  rw [List.mem_flatMap] at hu
  obtain ⟨p, _, hp⟩ := hu
  simp at hp
  rcases hp with rfl | rfl <;> rfl
theorem cellsQ_append (ps qs : List (Int × Int)) : cellsQ (ps ++ qs) = cellsQ ps ++ cellsQ qs := by unfold cellsQ; rw [List.flatMap_append]
/-- Such a list of one's own, T its type. -/
def OwnT (T : TypeId) (w : World) (B : Nat) (v : Value) (ps : List (Int × Int)) : Prop := w.ownsRow B T 2 v ps.length (cellsQ ps)
theorem OwnT.nil (T : TypeId) (w : World) (B : Nat) : OwnT T w B (.slice none 0 0) [] := World.ownsRow_nil _ _ _ _
theorem OwnT.below {T : TypeId} {w w' : World} {B : Nat} {v : Value} {ps : List (Int × Int)} (h : OwnT T w B v ps) (hb : Below w.heap.size w w') : OwnT T w' B v ps := by
  refine ⟨h.1, ?_⟩
  rcases h.2 with h' | ⟨g, cap, cur, h1, h2, h3, h4⟩
  · exact .inl h'
  · have hlt : g < w.heap.size := (Array.getElem?_eq_some_iff.1 h3).1
    exact .inr ⟨g, cap, cur, h1, h2, (hb.block g hlt).trans h3, h4⟩
theorem OwnT.mono {T : TypeId} {w : World} {B B' : Nat} {v : Value} {ps : List (Int × Int)} (h : OwnT T w B v ps) (hB : B' ≤ B) : OwnT T w B' v ps := by
  refine ⟨h.1, ?_⟩
  rcases h.2 with h' | ⟨g, cap, cur, h1, h2, h3⟩
  · exact .inl h'
  · exact .inr ⟨g, cap, cur, h1, by omega, h3⟩
theorem OwnT.shape {T : TypeId} {w : World} {B : Nat} {v : Value} {ps : List (Int × Int)} (h : OwnT T w B v ps) : ∃ a c, v = .slice a ps.length c ∧ ps.length ≤ c ∧ c ≤ maxLen := by
  rcases h.2 with ⟨rfl, h0⟩ | ⟨g, cap, cur, rfl, _, _, h1, h2, _⟩
  · exact ⟨none, 0, by rw [h0], by omega, by unfold maxLen; omega⟩
  · exact ⟨_, cap, rfl, h1, h2⟩
theorem OwnT.cells {T : TypeId} {w : World} {B n c : Nat} {a : Option Addr} {ps : List (Int × Int)} (h : OwnT T w B (.slice a n c) ps) {i : Nat} (hi : i < ps.length) : ∃ g, a = some ⟨g, 0, none⟩ ∧ w.cell? ⟨g, i * 2, none⟩ = some (.int .i64 (ps.getD i (0, 0)).1) ∧ w.cell? ⟨g, i * 2 + 1, none⟩ = some (.int .i64 (ps.getD i (0, 0)).2) := by
  rcases h.2 with ⟨h', h0⟩ | ⟨g, cap, cur, h', _, hg, hlc, _, hcs, ht⟩
  · omega
  · simp only [Value.slice.injEq] at h'
    obtain ⟨rfl, rfl, rfl⟩ := h'
    have hc := cellsQ_at ps i hi
    have hat : ∀ j, j < ps.length * 2 → cur[j]? = (cellsQ ps)[j]? := fun j hj => by
      rw [← ht, List.getElem?_take_of_lt hj]
      simp
    refine ⟨g, rfl, ?_, ?_⟩
    · rw [cell_of_row _ _ _ _ _ _ hg, hat _ (by omega)]; exact hc.1
    · rw [cell_of_row _ _ _ _ _ _ hg, hat _ (by omega)]; exact hc.2
theorem OwnT.blocks {T : TypeId} {w : World} {B : Nat} {v : Value} {ps : List (Int × Int)} (h : OwnT T w B v ps) : ∀ k, v.ownBlock = some k → B ≤ k := fun k hk => (h.lt k hk).1
/-- 'append(out, p)'. -/
theorem wpList_pushT {ops : Array Oper} {rest : List Oper} {o : Oper} {a : Act} {Q : Exit → Act → World → Prop} {w0 : World} {v : Value} {ps : List (Int × Int)} {T S : TypeId} {i0 : TypeInfo} (hu : Try.prog.underlying S = some (.slice T)) (hi : Try.prog.info? T = some i0) (hz0 : i0.zero = some (.agg #[.int .i64 0, .int .i64 0])) (hz1 : i0.size = 2) (hz2 : i0.bytes = 16) (B : Nat) (w00 : World) (p : Int × Int) (hown : OwnT T w0 B v ps) (hgd : o.guard = none) (s x : Operand)
    (ho : o.op = .call { callee := .builtin .append, args := #[s, x], argTypes := #[S, S] }) (hs : a.eval s = v)
    (hx : a.eval x = .slice (some ⟨w0.heap.size, 0, none⟩) 1 1) (hlen : ps.length < 1000000) (hbel : Below B w00 w0) (hB : B ≤ w0.heap.size)
    (h : ∀ v' w', OwnT T w' B v' (ps ++ [p]) → Below B w00 w' → w0.grownBy w' v.ownBlock → wpList Try.prog ops Q rest (a.put o.dst v') w') : wpList Try.prog ops Q (o :: rest) a (w0.alloc (.cells #[.int .i64 p.1, .int .i64 p.2] T)) := by
  refine wpList_append_own _ hgd s x S ho B T i0 (.agg #[.int .i64 0, .int .i64 0]) 2 16 hu hi hz0 hz1 hz2 rfl (by decide) v _ _ hs (World.ownsRow.alloc hown _) ⟨w0.heap.size, 0, none⟩ 1 1 [.int .i64 p.1, .int .i64 p.2] hx rfl ?_ (cellsQ_one [p]) ?_ ?_ ?_ ?_
  · intro j u hj
    rw [Addr.add_lit, cell_of_row _ _ _ _ _ _ (heap_alloc_new w0 _), Nat.zero_add]
    simpa using hj
  · unfold maxLen; omega
  · omega
  · simp; omega
  · intro v' w' h1 h2 _
    have hg : w0.grownBy w' v.ownBlock := by
      have h0 : w0.grownBy (w0.alloc (.cells #[.int .i64 p.1, .int .i64 p.2] T)) none := ⟨rfl, rfl, rfl, by simp, fun k hk _ => Below.heap_alloc _ _ _ hk⟩
      exact ⟨h2.os.trans h0.os, h2.tape.trans h0.tape, h2.output.trans h0.output, Nat.le_trans h0.size h2.size, fun k hk hn => (h2.block k (Nat.lt_of_lt_of_le hk h0.size) hn).trans (h0.block k hk (by simp))⟩
    refine h v' w' ?_ ((hbel.alloc hB _).grown h2 (by simp; omega) hown.blocks) hg
    unfold OwnT
    rw [List.length_append, cellsQ_append]
    exact h1
end Go.Proofs.Ytjpohfghibhkiad
