import Derived.Test.YtjpohfghibhkiadGmC
import Derived.Test.YtjpohfghibhkiadGmD
import Derived.Test.YtjpohfghibhkiadGmR
namespace Go.Proofs.Ytjpohfghibhkiad
open Go.ChangeShapes Go.WideShapes Go.ChangeAt Go.RowKit

/-! GridMemory's ROUND: a point behind a part's others. -/

theorem op_pushT {ops : Array Oper} {Q : Exit → Act → World → Prop} {i : Nat} {o : Oper} {a : Act} {W : World} {K : Act → World → Prop} {v : Value} {ps : List (Int × Int)} {T S : TypeId} {i0 : TypeInfo} (hi : ops[i]? = some o) (hg : o.guard = none) (hu : Try.prog.underlying S = some (.slice T)) (hi0 : Try.prog.info? T = some i0) (hz0 : i0.zero = some (.agg #[.int .i64 0, .int .i64 0])) (hz1 : i0.size = 2) (hz2 : i0.bytes = 16) (B : Nat) (p : Int × Int) (gb : Nat) {s x : Operand}
    (ho : o.op = .call { callee := .builtin .append, args := #[s, x], argTypes := #[S, S] }) (hs : a.eval s = v) (hx : a.eval x = .slice (some ⟨gb, 0, none⟩) 1 1) (hown : OwnT T W B v ps) (hc : W.cell? ⟨gb, 0, none⟩ = some (.int .i64 p.1) ∧ W.cell? ⟨gb, 1, none⟩ = some (.int .i64 p.2)) (hlen : ps.length < 1000000) (hB : B ≤ W.heap.size)
    (h : ∀ v' w', OwnT T w' B v' (ps ++ [p]) → W.grownBy w' v.ownBlock → K (a.put o.dst v') w') : wpOp Try.prog ops Q i K a W := by
  obtain ⟨v', w', hrun, r1, r2, -⟩ := run_append_own (P := Try.prog) W B S o.type T i0 (.agg #[.int .i64 0, .int .i64 0]) 2 16 hu hi0 hz0 hz1 hz2 rfl (by decide) v _ _ hown ⟨gb, 0, none⟩ 1 1 [.int .i64 p.1, .int .i64 p.2] rfl (fun j u hj => by
    rw [Addr.add_lit, Nat.zero_add]
    match j, hj with
    | 0, hj => simp at hj; subst hj; exact hc.1
    | 1, hj => simp at hj; subst hj; exact hc.2) (cellsQ_one [p]) (by unfold maxLen; omega) (by omega) hB
  have hO : OwnT T w' B v' (ps ++ [p]) := by
    unfold OwnT
    rw [List.length_append, cellsQ_append]
    exact r1
  unfold wpOp
  rw [hi]
  have hw : Region.wanted o (yielded ops a.tmps) = true := by simp [Region.wanted, hg]
  simp only [hw, if_true, Oper.wp]
  left
  simp [execOp, ho, resolve, invoke, builtin, hs, hx, hrun, Result.andThen]
  exact h v' w' hO r2
theorem OwnT.neT {T T' : TypeId} {w : World} {B g : Nat} {v : Value} {ps : List (Int × Int)} {cs : Array Value} {fr : Nat × Nat} (h : OwnT T w B v ps) (hb : w.heap[g]? = some (.cells cs T' fr)) (hT : T ≠ T') : v.ownBlock ≠ some g := by
  intro e
  rcases h.2 with ⟨rfl, h0⟩ | ⟨g', cap, cur, rfl, _, h3, _⟩
  · cases e
  · have e' : g' = g := by simpa [Value.ownBlock] using e
    subst e'
    rw [h3] at hb
    simp at hb
    exact hT hb.2.1
theorem OwnT.setOther {T : TypeId} {w : World} {B : Nat} {v : Value} {ps : List (Int × Int)} (h : OwnT T w B v ps) (p : Addr) (x : Value) (hne : v.ownBlock ≠ some p.block) : OwnT T (w.setCell p x) B v ps :=
  World.ownsRow.kept h (row := some p.block) ⟨rfl, rfl, rfl, by simp [World.setCell], fun k _ hk => heap_setCell_other _ _ k _ (fun e => hk (by rw [e]))⟩ (.inr hne)
theorem Kept.fresh {S T : List Nat} {a b c : World} (h : Kept S a b) (k : Kept T b c) (ht : ∀ x ∈ T, a.heap.size ≤ x) : Kept S a c :=
  ⟨k.os.trans h.os, k.tape.trans h.tape, k.output.trans h.output, Nat.le_trans h.size k.size, fun i hi hn => (k.block i (Nat.lt_of_lt_of_le hi h.size) (fun e => by have := ht i e; omega)).trans (h.block i hi hn)⟩
def ownS (v : Value) : List Nat := match v.ownBlock with | some g => [g] | none => []
theorem mem_ownS {v : Value} {x : Nat} : x ∈ ownS v ↔ v.ownBlock = some x := by
  unfold ownS
  cases v.ownBlock <;> simp [eq_comm]
theorem kept_ownS {v : Value} {w w' : World} (h : w.grownBy w' v.ownBlock) : Kept (ownS v) w w' := ⟨h.os, h.tape, h.output, h.size, fun k hk hn => h.block k hk (fun e => hn (mem_ownS.2 e.symm))⟩
def partC (v : Value) : Array Value := #[.int .i64 1, v, .int .i64 (-7), .slice none 0 0, .int .i64 (-7), .slice none 0 0, .int .i64 (-7), .slice none 0 0]
def PartB (w : World) (g : Nat) (v : Value) : Prop := w.heap[g]? = some (.cells (partC v) 45 (0, 0))
theorem PartB.lt {w : World} {g : Nat} {v : Value} (h : PartB w g v) : g < w.heap.size := (Array.getElem?_eq_some_iff.1 h).1
theorem PartB.cell {w : World} {g : Nat} {v : Value} (h : PartB w g v) (j : Nat) : w.cell? ⟨g, j, none⟩ = (partC v)[j]? := cell_of_row w g j _ _ (0, 0) h
theorem PartB.set {w : World} {g : Nat} {v : Value} (h : PartB w g v) (v' : Value) : PartB (w.setCell ⟨g, 1, none⟩ v') g v' := heap_setCell_same w g 1 _ _ v' h
theorem run_storeSl {ρ : Operand → Value} (w : World) {o : Oper} {x y : Operand} {g j : Nat} {u : Value} {a : Option Addr} {n c : Nat} (ho : o.op = .store 34 x y) (h : ρ x = .pointer (some ⟨g, j, none⟩)) (h' : ρ y = .slice a n c) (hc : w.cell? ⟨g, j, none⟩ = some u) (hf : w.frozen? ⟨g, j, none⟩ = false) : (execOp ρ o).run Try.prog w = .ok .skip (w.setCell ⟨g, j, none⟩ (.slice a n c)) := by
  unfold execOp
  simp only [ho, h, h']
  simp [go_sem, hc, hf]
theorem run_buildPt1 {ρ : Operand → Value} (w : World) {o : Oper} {x : Operand} {p : Int × Int} (ho : o.op = .buildSlice 34 1 #[(0, x)]) (h : ρ x = .agg #[.int .i64 p.1, .int .i64 p.2]) : (execOp ρ o).run Try.prog w = .ok (.value (.slice (some ⟨w.heap.size, 0, none⟩) 1 1)) (w.alloc (.cells #[.int .i64 p.1, .int .i64 p.2] 47)) := by
  unfold execOp
  simp only [ho]
  simp [go_sem, h]
/-- What is known of the values of 'parts[0].Points = append(parts[0].Points, p)'. -/
def mem2 (gT : Nat) (vP : Value) (X : List (Int × Int)) (p : Int × Int) (Bs : Nat) : Nat → (Nat → Value) → World → Prop
  | 0, σ, _ => σ 0 = .slice (some ⟨gT, 0, none⟩) 1 4
  | 1, σ, _ => σ 1 = .slice (some ⟨gT, 0, none⟩) 1 4
  | 2, σ, _ => σ 2 = .pointer (some ⟨gT, 0 + 0 * 2, none⟩)
  | 3, σ, _ => σ 3 = .pointer (some ⟨gT, 0 + 0 * 2 + 1, none⟩)
  | 4, σ, _ => σ 4 = vP
  | 5, σ, _ => σ 5 = .agg #[.int .i64 p.1, .int .i64 p.2]
  | 6, σ, w => ∃ g, g ∉ ownS vP ∧ σ 6 = .slice (some ⟨g, 0, none⟩) 1 1 ∧ w.cell? ⟨g, 0, none⟩ = some (.int .i64 p.1) ∧ w.cell? ⟨g, 1, none⟩ = some (.int .i64 p.2)
  | 7, σ, w => OwnT 47 w Bs (σ 7) (X ++ [p])
  | 8, σ, _ => σ 8 = .pointer (some ⟨gT, 0 + 0 * 2, none⟩)
  | 9, σ, _ => σ 9 = .pointer (some ⟨gT, 0 + 0 * 2 + 1, none⟩)
  | _, _, _ => True
theorem mem2_mono {gT : Nat} {vP : Value} {X : List (Int × Int)} {p : Int × Int} {Bs : Nat} (j : Nat) (σ : Nat → Value) (w w' : World) (h : mem2 gT vP X p Bs j σ w) (hk : Kept [] w w') : mem2 gT vP X p Bs j σ w' := by
  match j, h with
  | 0, h => exact h
  | 1, h => exact h
  | 2, h => exact h
  | 3, h => exact h
  | 4, h => exact h
  | 5, h => exact h
  | 6, ⟨g, h1, h2, h3, h4⟩ => exact ⟨g, h1, h2, hk.cellG h3 (by simp), hk.cellG h4 (by simp)⟩
  | 7, h => exact OwnT.below h (hk.below (Nat.le_refl _) (by simp))
  | 8, h => exact h
  | 9, h => exact h
  | j + 10, _ => exact trivial
theorem mem2_monoS {gT : Nat} {vP : Value} {X : List (Int × Int)} {p : Int × Int} {Bs : Nat} (j : Nat) (σ : Nat → Value) (w w' : World) (hj : j ≠ 7) (h : mem2 gT vP X p Bs j σ w) (hk : Kept (ownS vP) w w') : mem2 gT vP X p Bs j σ w' := by
  match j, h with
  | 0, h => exact h
  | 1, h => exact h
  | 2, h => exact h
  | 3, h => exact h
  | 4, h => exact h
  | 5, h => exact h
  | 6, ⟨g, h1, h2, h3, h4⟩ => exact ⟨g, h1, h2, hk.cellG h3 h1, hk.cellG h4 h1⟩
  | 7, h => exact absurd rfl hj
  | 8, h => exact h
  | 9, h => exact h
  | j + 10, _ => exact trivial
theorem mem2_cong {gT : Nat} {vP : Value} {X : List (Int × Int)} {p : Int × Int} {Bs : Nat} (j : Nat) (σ σ' : Nat → Value) (w : World) (e : σ j = σ' j) (h : mem2 gT vP X p Bs j σ w) : mem2 gT vP X p Bs j σ' w := by
  match j, h, e with
  | 0, h, e => exact e.symm.trans h
  | 1, h, e => exact e.symm.trans h
  | 2, h, e => exact e.symm.trans h
  | 3, h, e => exact e.symm.trans h
  | 4, h, e => exact e.symm.trans h
  | 5, h, e => exact e.symm.trans h
  | 6, ⟨g, h1, h2, h3, h4⟩, e => exact ⟨g, h1, e.symm.trans h2, h3, h4⟩
  | 7, h, e => show OwnT _ _ _ (σ' 7) _; rw [← e]; exact h
  | 8, h, e => exact e.symm.trans h
  | 9, h, e => exact e.symm.trans h
  | j + 10, _, _ => exact trivial
end Go.Proofs.Ytjpohfghibhkiad
