import Derived.Test.YtaggbkhpoaacjacDoorInts
import Derived.Laws.CopyOwn
import Derived.Deep.MidRow
namespace Go.Proofs.YtaggbkhpoaacjacDoor
open Go.ChangeShapes Go.WideShapes Go.ChangeAt Go.RowKit

theorem Tryd.one3 : (Tryd.prog.info? 3).map (·.size) = some 1 := by kernel_rfl
/-- 'copy(d, s)' of numbers, d filling its block. -/
theorem run_copy_ints {w : World} {g k n : Nat} {O L : List Int} {a : Addr} {sc : Nat} (hd : ArrAt .i64 3 w g L) (hl : L.length = k) (hs : ∀ j, j < n → w.cell? (a.add j) = some (.int .i64 (O.getD j 0))) (hO : O.length = n) (hk : k ≤ n) (ty : TypeId) :
    ∃ w', (Builtin.copy_ #[23, 23] ty #[.slice (some ⟨g, 0, none⟩) k k, .slice (some a) n sc]).run Tryd.prog w = .ok (goInt k) w' ∧ ArrAt .i64 3 w' g (O.take k) ∧ Kept [g] w w' := by
  by_cases h0 : k = 0
  · subst h0
    refine ⟨w, ?_, ?_, Kept.refl _ _⟩
    · exact run_copy_none (P := Tryd.prog) w 23 23 ty 3 _ _ 0 0 n sc Tryd.underlying23 Tryd.one3 (by simp)
    · have : L = [] := List.eq_nil_of_length_eq_zero hl
      subst this
      simpa using hd
  · have hn : ((O.take k).map (Value.int .i64)).length = k := by simp; omega
    have hrun := run_copy_row (P := Tryd.prog) w 23 23 ty 3 g 0 k k a n sc _ 3 ((O.take k).map (Value.int .i64)) Tryd.underlying23 Tryd.one3 hd (hn.trans (Nat.min_eq_right hk).symm) ?_ ?_ ?_
    · rw [hn] at hrun
      refine ⟨_, hrun, ?_, ⟨rfl, rfl, rfl, by simp, fun j _ hj => setRow_other w g j _ (fun e => hj (by simp [e]))⟩⟩
      refine (setRow_heap w g _ _ 3 _ hd).trans ?_
      simp [hl]
    · intro j u hj
      have hjl : j < k := by
        rcases Nat.lt_or_ge j k with h' | h'
        · exact h'
        · rw [List.getElem?_eq_none (by rw [hn]; exact h')] at hj; cases hj
      have hjO : j < O.length := by omega
      rw [hs j (by omega), ← hj]
      simp [List.getD, hjO, hjl]
    · rw [hn]; simp; omega
    · intro u hu
      obtain ⟨y, _, rfl⟩ := List.mem_map.1 hu
      rfl

theorem wpList_copyInts {w : World} {ops : Array Oper} {rest : List Oper} {o : Oper} {a : Act} {Q : Exit → Act → World → Prop} {g k n sc : Nat} {O L : List Int} {ad : Addr} (hd : ArrAt .i64 3 w g L) (hl : L.length = k) (hs : ∀ j, j < n → w.cell? (ad.add j) = some (.int .i64 (O.getD j 0))) (hO : O.length = n) (hk : k ≤ n)
    (hgd : o.guard = none) (d s : Operand) (ho : o.op = .call { callee := .builtin .copy, args := #[d, s], argTypes := #[23, 23] }) (hde : a.eval d = .slice (some ⟨g, 0, none⟩) k k) (hse : a.eval s = .slice (some ad) n sc)
    (h : ∀ w', ArrAt .i64 3 w' g (O.take k) → Kept [g] w w' → wpList Tryd.prog ops Q rest (a.put o.dst (goInt k)) w') :
    wpList Tryd.prog ops Q (o :: rest) a w := by
  obtain ⟨w', hrun, h1, h2⟩ := run_copy_ints hd hl hs hO hk (sc := sc) o.type
  refine wpList_plain hgd fun K hK => ?_
  unfold Oper.wp
  simp [execOp, ho, resolve, invoke, builtin, hde, hse, hrun, Result.andThen]
  exact hK _ _ (h w' h1 h2)

theorem src_cells {w : World} {g n : Nat} {L : List Int} (h : ArrAt .i64 3 w g L) (hl : L.length = n) : ∀ j, j < n → w.cell? ((⟨g, 0, none⟩ : Addr).add j) = some (.int .i64 (L.getD j 0)) := fun j hj => by
  have e1 : (⟨g, 0, none⟩ : Addr).add j = ⟨g, j, none⟩ := by unfold Addr.add; split <;> simp_all
  rw [e1, h.cell (by omega)]
end Go.Proofs.YtaggbkhpoaacjacDoor
