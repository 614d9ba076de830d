import Derived.Test.YtdndeegpbjlibacMixed
import Derived.Test.YtdndeegpbjlibacQuietL
import Derived.Test.YtdndeegpbjlibacOwn
import Derived.Test.YtdndeegpbjlibacPush
import Derived.Laws.AppendOwnNone
import Derived.Maps.AppendAt
namespace Go.Proofs.Ytdndeegpbjlibac
open Go.ChangeShapes Go.WideShapes Go.ChangeAt Go.RowKit

/-! LISTS OF LISTS OF BYTES: single operations, whatever the frame. -/

theorem Try.infoB : (Try.prog.info? 22).map (fun i => (i.zero, i.size, i.bytes)) = some (some (.slice none 0 0), 1, 24) := by kernel_rfl

/-- A list of lists of one's own. -/
def OwnR (w : World) (B : Nat) (v : Value) (vs : List Value) : Prop := w.ownsRow B 22 1 v vs.length vs

theorem run_idxR {ρ : Operand → Value} (w : World) {o : Oper} {x y : Operand} {g s j n c : Nat} (ho : o.op = .indexAddr 42 x y) (h : ρ x = .slice (some ⟨g, s, none⟩) n c) (h' : ρ y = .int .i64 j) (hj : j < n) : (execOp ρ o).run Try.prog w = .ok (.value (.pointer (some ⟨g, s + j, none⟩))) w := by
  unfold execOp
  simp only [ho, h, h']
  simp [go_sem, Try.underlying42, hj]
theorem run_assignQ {ρ : Operand → Value} {P : Program} (w : World) {o : Oper} {x : Operand} {v : Value} (ho : o.op = .assign x) (h : ρ x = v) : (execOp ρ o).run P w = .ok (.value v) w := by
  unfold execOp
  simp only [ho, h]
  simp [go_sem]
theorem run_build1 {ρ : Operand → Value} (w : World) {o : Oper} {x : Int} (ho : o.op = .buildSlice 22 1 #[(0, .const (.int .u8 x))]) (h : ρ (.const (.int .u8 x)) = .int .u8 x) : (execOp ρ o).run Try.prog w = .ok (.value (.slice (some ⟨w.heap.size, 0, none⟩) 1 1)) (w.alloc (.cells #[.int .u8 x] 5)) := by
  unfold execOp
  simp only [ho]
  simp [go_sem, h]
theorem run_build2 {ρ : Operand → Value} (w : World) {o : Oper} {x y : Operand} {a b : Option Addr} {m n c d : Nat} (ho : o.op = .buildSlice 42 2 #[(0, x), (1, y)]) (h : ρ x = .slice a m c) (h' : ρ y = .slice b n d) : (execOp ρ o).run Try.prog w = .ok (.value (.slice (some ⟨w.heap.size, 0, none⟩) 2 2)) (w.alloc (.cells #[.slice a m c, .slice b n d] 22)) := by
  unfold execOp
  simp only [ho]
  simp [go_sem, h, h']
/-- 'append(x, y...)' of bytes: x of one's own, one byte more. -/
theorem run_push1 {ρ : Operand → Value} (w : World) {o : Oper} {x y : Operand} {B g : Nat} {v : Value} {L : List Int} {z : Int} (ho : o.op = .call { callee := .builtin .append, args := #[x, y], argTypes := #[22, 22] }) (h : ρ x = v) (h' : ρ y = .slice (some ⟨g, 0, none⟩) 1 1)
    (hown : Own w B v L) (hc : w.cell? ⟨g, 0, none⟩ = some (.int .u8 z)) (hl : L.length ≤ 100) (hB : B ≤ w.heap.size) : ∃ v' w', (execOp ρ o).run Try.prog w = .ok (.value v') w' ∧ Own w' B v' (L ++ [z]) ∧ w.grownBy w' v.ownBlock ∧ (v'.ownBlock = v.ownBlock ∨ v'.ownBlock = some w.heap.size) := by
  obtain ⟨i0, hi, hz0, hz1, hz2⟩ := info_parts Try.info5
  obtain ⟨v', w', hrun, h1, h2, _, h3⟩ := run_append_own_at (P := Try.prog) (w := w) B 22 o.type 5 i0 (.int .u8 0) 1 1 Try.underlying22 hi hz0 hz1 hz2 rfl (by decide) v _ _ hown ⟨g, 0, none⟩ 1 1 [.int .u8 z] rfl (by
    intro j u hj
    match j, hj with
    | 0, hj =>
      simp at hj
      subst hj
      simpa [Addr.add] using hc) (by intro u hu; simp at hu; subst hu; rfl) (by unfold maxLen; omega) (by omega) hB
  refine ⟨v', w', ?_, Own.snoc h1, h2, h3⟩
  unfold execOp
  simp only [ho]
  simp [resolve, invoke, builtin, h, h', hrun, Result.andThen]

/-- 'append([]byte(nil), x...)'. -/
theorem run_copyB {ρ : Operand → Value} (w : World) {o : Oper} {y : Operand} {a : Option Addr} {n c : Nat} {L : List Int} (ho : o.op = .call { callee := .builtin .append, args := #[.const (.slice none 0 0), y], argTypes := #[22, 22] }) (h : ρ (.const (.slice none 0 0)) = .slice none 0 0) (h' : ρ y = .slice a n c)
    (hr : Rd .u8 w a L) (hn : L.length = n) (h0 : n = 0 → a = none ∧ c = 0) (hl : L.length ≤ 100) : ∃ v' w', (execOp ρ o).run Try.prog w = .ok (.value v') w' ∧ Own w' w.heap.size v' L ∧ w.grownBy w' none := by
  obtain ⟨i0, hi, hz0, hz1, hz2⟩ := info_parts Try.info5
  by_cases hn0 : n = 0
  · obtain ⟨rfl, rfl⟩ := h0 hn0
    have hL : L = [] := List.eq_nil_of_length_eq_zero (by omega)
    subst hL
    subst hn0
    have hrun := run_append_owned_none (P := Try.prog) (w := w) w.heap.size 22 o.type 5 i0 1 Try.underlying22 hi (.slice none 0 0) 0 [] (World.ownsRow_nil _ _ _ _)
    refine ⟨.slice none 0 0, w, ?_, World.ownsRow_nil _ _ _ _, ⟨rfl, rfl, rfl, Nat.le_refl _, fun _ _ _ => rfl⟩⟩
    unfold execOp
    simp only [ho]
    simp [resolve, invoke, builtin, h, h', hrun, Result.andThen]
  · have hne : L ≠ [] := by rintro rfl; simp at hn; omega
    obtain ⟨g, off, rfl, hc⟩ := hr hne
    obtain ⟨v', w', hrun, h1, h2, _⟩ := run_append_own (P := Try.prog) (w := w) w.heap.size 22 o.type 5 i0 (.int .u8 0) 1 1 Try.underlying22 hi hz0 hz1 hz2 rfl (by decide) (.slice none 0 0) 0 [] (World.ownsRow_nil _ _ _ _) ⟨g, off, none⟩ n c (L.map (Value.int .u8)) (by simp [hn]) (by
      intro j u hj
      have hjl : j < L.length := by
        rcases Nat.lt_or_ge j L.length with h | h
        · exact h
        · rw [List.getElem?_eq_none (by simpa using h)] at hj; cases hj
      have e1 : (⟨g, off, none⟩ : Addr).add j = ⟨g, off + j, none⟩ := by unfold Addr.add; split <;> simp_all
      rw [e1, hc j hjl, ← hj]
      simp [List.getD, hjl]) (by intro u hu; obtain ⟨z, _, rfl⟩ := List.mem_map.1 hu; rfl) (by unfold maxLen; omega) (by omega) (Nat.le_refl _)
    refine ⟨v', w', ?_, ?_, h2⟩
    · unfold execOp
      simp only [ho]
      simp [resolve, invoke, builtin, h, h', hrun, Result.andThen]
    · unfold Own
      rw [hn]
      simpa using h1
/-- 'append(x, y...)' of lists: x of one's own, two lists more. -/
theorem run_push2 {ρ : Operand → Value} (w : World) {o : Oper} {x y : Operand} {B g : Nat} {v u1 u2 : Value} {vs : List Value} (ho : o.op = .call { callee := .builtin .append, args := #[x, y], argTypes := #[42, 42] }) (h : ρ x = v) (h' : ρ y = .slice (some ⟨g, 0, none⟩) 2 2)
    (hown : OwnR w B v vs) (hc1 : w.cell? ⟨g, 0, none⟩ = some u1) (hc2 : w.cell? ⟨g, 1, none⟩ = some u2) (o1 : u1.oneCell' = true) (o2 : u2.oneCell' = true) (hl : vs.length ≤ 1000) (hB : B ≤ w.heap.size) :
    ∃ v' w', (execOp ρ o).run Try.prog w = .ok (.value v') w' ∧ OwnR w' B v' (vs ++ [u1, u2]) ∧ w.grownBy w' v.ownBlock ∧ (v'.ownBlock = v.ownBlock ∨ v'.ownBlock = some w.heap.size) := by
  obtain ⟨i0, hi, hz0, hz1, hz2⟩ := info_parts Try.infoB
  obtain ⟨v', w', hrun, h1, h2, _, h3⟩ := run_append_own_at (P := Try.prog) (w := w) B 42 o.type 22 i0 (.slice none 0 0) 1 24 Try.underlying42 hi hz0 hz1 hz2 rfl (by decide) v _ _ hown ⟨g, 0, none⟩ 2 2 [u1, u2] rfl (by
    intro j u hj
    match j, hj with
    | 0, hj => simp at hj; subst hj; simpa [Addr.add] using hc1
    | 1, hj => simp at hj; subst hj; simpa [Addr.add] using hc2) (by intro u hu; simp at hu; rcases hu with rfl | rfl; exact o1; exact o2) (by unfold maxLen; omega) (by omega) hB
  refine ⟨v', w', ?_, ?_, h2, h3⟩
  · unfold execOp
    simp only [ho]
    simp [resolve, invoke, builtin, h, h', hrun, Result.andThen]
  · unfold OwnR
    rw [List.length_append]
    exact h1
end Go.Proofs.Ytdndeegpbjlibac
