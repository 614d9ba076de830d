import Derived.Test.YtjpohfghibhkiadBase
import Derived.Deep.MidRow
namespace Go.Proofs.Ytjpohfghibhkiad
open Go.ChangeShapes Go.WideShapes Go.ChangeAt Go.RowKit

/-! ARRAYS OF NUMBERS: one element of an array that lies in a slot; whole arrays out of and into a block. -/

theorem run_index_arr {P : Program} (w : World) (ty e : TypeId) (cs : Array Value) (n k : Nat) (v : Value) (d : TypeDesc) (hu : P.underlying ty = some (.array n e)) (he : P.underlying e = some d) (hd : d.isRow = false) (hs : (P.info? e).map (·.size) = some 1) (hk : k < n) (hv : cs[k]? = some v) (ik : IntKind) :
    (Instr.index ty (.agg cs) (.int ik k)).run P w = .ok v w := by
  cases hq : P.info? e with
  | none => simp [hq] at hs
  | some i =>
    have hsz : i.size = 1 := by simpa [hq] using hs
    have hagg : (isAgg e).run P w = .ok false w := by
      unfold isAgg
      rw [Sem.run_bind, run_underlying he w]
      cases d <;> simp_all
    have hlt : 0 ≤ (k : Int) ∧ (k : Int) < (n : Int) := ⟨by omega, by omega⟩
    simp [Instr.index, asIntOf, Sem.run_bind, run_underlying hu w, hlt, sizeOf, typeInfo, hq, hsz, part, hagg, hv]
    intro h
    omega

/-- 'x := a[k]', a an array in a slot. -/
theorem wpList_index {P : Program} {ops : Array Oper} {rest : List Oper} {o : Oper} {a : Act} {w : World} {Q : Exit → Act → World → Prop} (hgd : o.guard = none) (ty : TypeId) (x i : Operand) (ho : o.op = .index ty x i)
    (e : TypeId) (cs : Array Value) (n k : Nat) (v : Value) (d : TypeDesc) (ik : IntKind) (hx : a.eval x = .agg cs) (hi : a.eval i = .int ik k) (hu : P.underlying ty = some (.array n e)) (he : P.underlying e = some d)
    (hd : d.isRow = false) (hs : (P.info? e).map (·.size) = some 1) (hk : k < n) (hv : cs[k]? = some v)
    (h : wpList P ops Q rest (a.put o.dst v) w) : wpList P ops Q (o :: rest) a w :=
  wpList_plain hgd fun _ hK => by
    unfold Oper.wp execOp
    simp only [ho, hx, hi, Sem.run_bind, run_index_arr w ty e cs n k v d hu he hd hs hk hv ik, Result.andThen_ok]
    exact hK _ _ h

/-- 'load' of a whole array. -/
theorem load_arr {P : Program} {w : World} {g : Nat} {t : TypeId} (ty : TypeId) {cs : Array Value} {fr : Nat × Nat} {n : Nat} {e : TypeId} (hg : w.heap[g]? = some (.cells cs t fr)) (hu : P.underlying ty = some (.array n e)) (hi : (P.info? ty).map (·.size) = some cs.size) :
    (Instr.loadAt ty (.pointer (some ⟨g, 0, none⟩))).run P w = .ok (.agg cs) w := by
  simp only [Instr.loadAt, Instr.sureAddr, Sem.run_bind, Sem.run_pure, Result.andThen_ok]
  exact run_loadVar_row w g t ty cs fr _ hg hu rfl hi

theorem wpList_store_row {P : Program} {ops : Array Oper} {rest : List Oper} {o : Oper} {a : Act} {w : World} {Q : Exit → Act → World → Prop} (hgd : o.guard = none) (ty : TypeId) (x y : Operand) (ho : o.op = .store ty x y)
    (g : Nat) (t : TypeId) (old cells : Array Value) (hx : a.eval x = .pointer (some ⟨g, 0, none⟩)) (hy : a.eval y = .agg cells) (hg : w.heap[g]? = some (.cells old t (0, 0))) (hi : (P.info? ty).map (·.size) = some cells.size)
    (hs : old.size = cells.size) (h1 : cells.all (·.oneCell') = true) (h : wpList P ops Q rest (a.put o.dst undef) (w.setRow g cells)) : wpList P ops Q (o :: rest) a w :=
  wpList_plain hgd fun _ hK => by
    unfold Oper.wp execOp
    simp only [ho, hx, hy, Instr.storeAt, Instr.sureAddr, Sem.run_bind, Sem.run_pure, Result.andThen_ok, run_storeVar_row w g t ty old cells hg hi hs h1]
    exact hK _ _ h
end Go.Proofs.Ytjpohfghibhkiad
