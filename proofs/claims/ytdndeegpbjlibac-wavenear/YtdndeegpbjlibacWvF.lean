import Derived.Test.YtdndeegpbjlibacWvH
import Derived.Test.YtdndeegpbjlibacWvG
namespace Go.Proofs.Ytdndeegpbjlibac
open Go.ChangeShapes Go.WideShapes Go.ChangeAt Go.RowKit Go.Shelf

/-! LISTS THAT ARE FILLED WITHIN THEIR ROOM. -/

theorem grownQ {w w' : World} (h : Below w.heap.size w w') : w.grownBy w' none := ⟨h.os, h.tape, h.output, h.size, fun k hk _ => h.block k hk⟩
theorem below_grownQ {w w' : World} (h : w.grownBy w' none) : Below w.heap.size w w' := (Below.refl _ w).grown h (Nat.le_refl _) (fun g e => by cases e)
theorem Kept.cellQ {S : List Nat} {a b : World} (h : Kept S a b) {p : Addr} {v : Value} (hc : a.cell? p = some v) (hn : p.block ∉ S) : b.cell? p = some v := by
  have hb := h.block p.block (World.block_lt_of_cell? a _ hc) hn
  rw [← hc]
  unfold World.cell?
  rw [hb]
theorem kept_grown {w w' : World} {g : Nat} (h : w.grownBy w' (some g)) : Kept [g] w w' := ⟨h.os, h.tape, h.output, h.size, fun k hk hn => h.block k hk (fun e => hn (by simp only [Option.some.injEq] at e; simp [e]))⟩

def pairsAll (F : Int → Nat → Int) (h : Nat) (ps : List (Int × Int)) (k : Nat) : List Int := (ps.take k).flatMap fun p => pairsTo (F p.1) (F p.2) h h
theorem pairsAll_succ {F : Int → Nat → Int} {h : Nat} {ps : List (Int × Int)} {k : Nat} (hk : k < ps.length) : pairsAll F h ps (k + 1) = pairsAll F h ps k ++ pairsTo (F (ps.getD k (0, 0)).1) (F (ps.getD k (0, 0)).2) h h := by
  unfold pairsAll
  rw [List.take_succ_eq_append_getElem hk, List.flatMap_append]
  simp [List.getD, hk]
theorem pairsAll_length (F : Int → Nat → Int) (h : Nat) (ps : List (Int × Int)) : ∀ k, k ≤ ps.length → (pairsAll F h ps k).length = k * (2 * h)
  | 0, _ => by simp [pairsAll]
  | k + 1, hk => by rw [pairsAll_succ (by omega), List.length_append, pairsAll_length F h ps k (by omega), pairsTo_length, Nat.add_mul, Nat.one_mul]

/-- Two numbers side by side. -/
def Two (k : IntKind) (y z : Int) (x : Value) (w : World) : Prop := ∃ g, x = .slice (some ⟨g, 0, none⟩) 2 2 ∧ w.cell? ⟨g, 0, none⟩ = some (.int k y) ∧ w.cell? ⟨g, 1, none⟩ = some (.int k z)
theorem Two.grow {k : IntKind} {y z : Int} {x : Value} {w w' : World} (h : Two k y z x w) (hg : w.grownBy w' none) : Two k y z x w' := by
  obtain ⟨g, e, h0, h1⟩ := h
  have hb := below_grownQ hg
  exact ⟨g, e, (hb.cell (World.block_lt_of_cell? w _ h0)).trans h0, (hb.cell (World.block_lt_of_cell? w _ h1)).trans h1⟩
theorem two_new (k : IntKind) (y z : Int) (w : World) (T : TypeId) : Two k y z (.slice (some ⟨w.heap.size, 0, none⟩) 2 2) (w.alloc (.cells #[.int k y, .int k z] T)) := by
  refine ⟨w.heap.size, rfl, ?_, ?_⟩ <;> rw [cell_of_row _ _ _ _ _ _ (heap_alloc_new w _)] <;> rfl
theorem grown_alloc (w : World) (b : Obj) : w.grownBy (w.alloc b) none := grownQ ((Below.refl _ w).alloc (Nat.le_refl _) b)
theorem run_build2I {ρ : Operand → Value} (w : World) {o : Oper} {x y : Operand} {p q : Int} (ho : o.op = .buildSlice 30 2 #[(0, x), (1, y)]) (h : ρ x = .int .i64 p) (h' : ρ y = .int .i64 q) : (execOp ρ o).run Try.prog w = .ok (.value (.slice (some ⟨w.heap.size, 0, none⟩) 2 2)) (w.alloc (.cells #[.int .i64 p, .int .i64 q] 3)) := by
  unfold execOp
  simp only [ho]
  simp [go_sem, h, h']
theorem op_fit2I {ops : Array Oper} {Q : Exit → Act → World → Prop} {i : Nat} {o : Oper} {a : Act} {W : World} {K : Act → World → Prop} {L : List Int} {g m cap : Nat} {y z : Int} {v : Value} (hi : ops[i]? = some o) (hg : o.guard = none) {s x : Operand}
    (ho : o.op = .call { callee := .builtin .append, args := #[s, x], argTypes := #[30, 30] }) (hs : a.eval s = .slice (some ⟨g, 0, none⟩) m cap) (hx : a.eval x = v) (hown : OwnI W g (.slice (some ⟨g, 0, none⟩) m cap) L) (hv : Two .i64 y z v W) (hcap : m + 2 ≤ cap)
    (h : ∀ w', OwnI w' g (.slice (some ⟨g, 0, none⟩) (m + 2) cap) (L ++ [y, z]) → W.grownBy w' (some g) → K (a.put o.dst (.slice (some ⟨g, 0, none⟩) (m + 2) cap)) w') : wpOp Try.prog ops Q i K a W := by
  have hl := hown.len
  subst hl
  obtain ⟨gx, rfl, c0, c1⟩ := hv
  obtain ⟨i0, hi0, hz0, hz1, hz2⟩ := info_parts Try.info3
  obtain ⟨w', hrun, r1, r2⟩ := run_append_fits (P := Try.prog) W g 30 o.type 3 i0 1 Try.underlying30 hi0 hz1 g L.length cap _ hown ⟨gx, 0, none⟩ 2 2 [.int .i64 y, .int .i64 z] rfl (fun j u hj => by
    match j, hj with
    | 0, hj => simp at hj; subst hj; simpa [Addr.add] using c0
    | 1, hj => simp at hj; subst hj; simpa [Addr.add] using c1) (by simp; exact ⟨rfl, rfl⟩) hcap
  have hO : OwnI w' g (.slice (some ⟨g, 0, none⟩) (L.length + 2) cap) (L ++ [y, z]) := by
    unfold OwnI
    rw [List.length_append, List.map_append]
    exact r1
  unfold wpOp
  rw [hi]
  have hw : Region.wanted o (yielded ops a.tmps) = true := by simp [Region.wanted, hg]
  simp only [hw, if_true, Oper.wp]
  left
  simp [execOp, ho, resolve, invoke, builtin, hs, hx, hrun, Result.andThen]
  exact h w' hO r2
theorem wpList_makeFitI {w : World} {ops : Array Oper} {rest : List Oper} {o : Oper} {a : Act} {Q : Exit → Act → World → Prop} (N : Nat) (hgd : o.guard = none) (l c : Operand)
    (ho : o.op = Op.makeSlice 30 l c) (y : Int) (hl : a.eval l = .int .i64 0) (hc : a.eval c = .int .i64 y) (hy : y = (N : Int)) (hN : N ≤ 1000000)
    (h : ∀ w', OwnI w' w.heap.size (.slice (some ⟨w.heap.size, 0, none⟩) 0 N) [] → Below w.heap.size w w' → wpList Try.prog ops Q rest (a.put o.dst (.slice (some ⟨w.heap.size, 0, none⟩) 0 N)) w') :
    wpList Try.prog ops Q (o :: rest) a w := by
  obtain ⟨i0, hi, hz0, hz1, hz2⟩ := info_parts Try.info3
  exact wpList_make_own w hgd l c 30 ho w.heap.size 3 i0 (.int .i64 0) 1 Try.underlying30 hi hz0 hz1 .i64 .i64 y N hl hc hy (by rw [hz2]; omega) (by unfold maxLen; omega) (Nat.le_refl _) fun w' h1 h2 => h w' h1 (below_grownQ h2)

theorem op_fit2B {ops : Array Oper} {Q : Exit → Act → World → Prop} {i : Nat} {o : Oper} {a : Act} {W : World} {K : Act → World → Prop} {L : List Int} {g m cap : Nat} {y z : Int} {v : Value} (hi : ops[i]? = some o) (hg : o.guard = none) {s x : Operand}
    (ho : o.op = .call { callee := .builtin .append, args := #[s, x], argTypes := #[22, 22] }) (hs : a.eval s = .slice (some ⟨g, 0, none⟩) m cap) (hx : a.eval x = v) (hown : Own W g (.slice (some ⟨g, 0, none⟩) m cap) L) (hv : Two .u8 y z v W) (hcap : m + 2 ≤ cap)
    (h : ∀ w', Own w' g (.slice (some ⟨g, 0, none⟩) (m + 2) cap) (L ++ [y, z]) → W.grownBy w' (some g) → K (a.put o.dst (.slice (some ⟨g, 0, none⟩) (m + 2) cap)) w') : wpOp Try.prog ops Q i K a W := by
  have hl := hown.len
  subst hl
  obtain ⟨gx, rfl, c0, c1⟩ := hv
  obtain ⟨i0, hi0, hz0, hz1, hz2⟩ := info_parts Try.info5
  obtain ⟨w', hrun, r1, r2⟩ := run_append_fits (P := Try.prog) W g 22 o.type 5 i0 1 Try.underlying22 hi0 hz1 g L.length cap _ hown ⟨gx, 0, none⟩ 2 2 [.int .u8 y, .int .u8 z] rfl (fun j u hj => by
    match j, hj with
    | 0, hj => simp at hj; subst hj; simpa [Addr.add] using c0
    | 1, hj => simp at hj; subst hj; simpa [Addr.add] using c1) (by simp; exact ⟨rfl, rfl⟩) hcap
  have hO : Own w' g (.slice (some ⟨g, 0, none⟩) (L.length + 2) cap) (L ++ [y, z]) := by
    unfold Own
    rw [List.length_append, List.map_append]
    exact r1
  unfold wpOp
  rw [hi]
  have hw : Region.wanted o (yielded ops a.tmps) = true := by simp [Region.wanted, hg]
  simp only [hw, if_true, Oper.wp]
  left
  simp [execOp, ho, resolve, invoke, builtin, hs, hx, hrun, Result.andThen]
  exact h w' hO r2
theorem wpList_makeFitB {w : World} {ops : Array Oper} {rest : List Oper} {o : Oper} {a : Act} {Q : Exit → Act → World → Prop} (N : Nat) (hgd : o.guard = none) (l c : Operand)
    (ho : o.op = Op.makeSlice 22 l c) (y : Int) (hl : a.eval l = .int .i64 0) (hc : a.eval c = .int .i64 y) (hy : y = (N : Int)) (hN : N ≤ 1000000)
    (h : ∀ w', Own w' w.heap.size (.slice (some ⟨w.heap.size, 0, none⟩) 0 N) [] → Below w.heap.size w w' → wpList Try.prog ops Q rest (a.put o.dst (.slice (some ⟨w.heap.size, 0, none⟩) 0 N)) w') :
    wpList Try.prog ops Q (o :: rest) a w := by
  obtain ⟨i0, hi, hz0, hz1, hz2⟩ := info_parts Try.info5
  exact wpList_make_own w hgd l c 22 ho w.heap.size 5 i0 (.int .u8 0) 1 Try.underlying22 hi hz0 hz1 .i64 .i64 y N hl hc hy (by rw [hz2]; omega) (by unfold maxLen; omega) (Nat.le_refl _) fun w' h1 h2 => h w' h1 (below_grownQ h2)

end Go.Proofs.Ytdndeegpbjlibac
