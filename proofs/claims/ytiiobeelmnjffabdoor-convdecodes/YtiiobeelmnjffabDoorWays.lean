import Derived.Test.YtiiobeelmnjffabDoorDecM
import Derived.Test.YtiiobeelmnjffabDoorCodeM
namespace Go.Proofs.YtiiobeelmnjffabDoor
open Go.ChangeShapes Go.WideShapes Go.ChangeAt Go.RowKit

theorem Tryd.info54 : (Tryd.prog.info? 54).map (fun i => (i.zero, i.size, i.bytes)) = some (some (.agg #[.slice none 0 0, .int .i64 0, .bool false]), 3, 40) := by kernel_rfl

/-- The cells of 64 ways. -/
def rowC (vv : Nat → Value) (qq : Nat → Int) (tt : Nat → Bool) : List Value := (List.range 64).flatMap fun s => [vv s, .int .i64 (qq s), .bool (tt s)]
def Row (w : World) (g : Nat) (vv : Nat → Value) (qq : Nat → Int) (tt : Nat → Bool) : Prop := w.heap[g]? = some (.cells (rowC vv qq tt).toArray 54 (0, 0))

theorem flat_len (f : Nat → List Value) (hf : ∀ s, (f s).length = 3) (N : Nat) : ((List.range N).flatMap f).length = 3 * N := by
  rw [List.length_flatMap]
  have : (List.map (fun a => (f a).length) (List.range N)) = List.replicate N 3 := by
    rw [List.eq_replicate_iff]
    refine ⟨by simp, fun x hx => ?_⟩
    obtain ⟨y, _, rfl⟩ := List.mem_map.1 hx
    exact hf y
  rw [this]
  simp
  omega

theorem rowC_length (vv : Nat → Value) (qq : Nat → Int) (tt : Nat → Bool) : (rowC vv qq tt).length = 192 := flat_len _ (fun _ => rfl) 64

theorem flat_get (f : Nat → List Value) (hf : ∀ s, (f s).length = 3) : ∀ (N s r : Nat), s < N → r < 3 → ((List.range N).flatMap f)[3 * s + r]? = (f s)[r]?
  | 0, s, r, h, _ => by omega
  | N + 1, s, r, h, hr => by
    rw [List.range_succ, List.flatMap_append]
    have hl := flat_len f hf N
    by_cases hs : s < N
    · rw [List.getElem?_append_left (by omega)]
      exact flat_get f hf N s r hs hr
    · obtain rfl : s = N := by omega
      rw [List.getElem?_append_right (by omega), hl, show 3 * s + r - 3 * s = r from by omega]
      simp

theorem Row.cell {w : World} {g : Nat} {vv : Nat → Value} {qq : Nat → Int} {tt : Nat → Bool} (h : Row w g vv qq tt) {s : Nat} (hs : s < 64) :
    w.cell? ⟨g, 3 * s, none⟩ = some (vv s) ∧ w.cell? ⟨g, 3 * s + 1, none⟩ = some (.int .i64 (qq s)) ∧ w.cell? ⟨g, 3 * s + 2, none⟩ = some (.bool (tt s)) := by
  have e : ∀ r, r < 3 → (rowC vv qq tt)[3 * s + r]? = ([vv s, .int .i64 (qq s), .bool (tt s)] : List Value)[r]? := fun r hr => flat_get _ (fun _ => rfl) 64 s r hs hr
  refine ⟨?_, ?_, ?_⟩
  · rw [cell_of_row w g _ _ 54 (0, 0) h]
    have := e 0 (by omega)
    simpa using this
  · rw [cell_of_row w g _ _ 54 (0, 0) h]
    have := e 1 (by omega)
    simpa using this
  · rw [cell_of_row w g _ _ 54 (0, 0) h]
    have := e 2 (by omega)
    simpa using this

theorem made_ways : (madeCells (Value.cells (.agg #[.slice none 0 0, .int .i64 0, .bool false])) (64 * 3)).toList = rowC (fun _ => .slice none 0 0) (fun _ => 0) (fun _ => false) := by kernel_rfl

/-- 'make([]way, 64)'. -/
theorem wpList_makeWays {w : World} {ops : Array Oper} {rest : List Oper} {o : Oper} {a : Act} {Q : Exit → Act → World → Prop} (hgd : o.guard = none) (l c : Operand)
    (ho : o.op = Op.makeSlice 52 l c) (hl : a.eval l = .int .i64 64) (hc : a.eval c = .int .i64 64)
    (h : ∀ w', Row w' w.heap.size (fun _ => .slice none 0 0) (fun _ => 0) (fun _ => false) → Below w.heap.size w w' → w.heap.size < w'.heap.size → wpList Tryd.prog ops Q rest (a.put o.dst (.slice (some ⟨w.heap.size, 0, none⟩) 64 64)) w') :
    wpList Tryd.prog ops Q (o :: rest) a w := by
  obtain ⟨i0, hi, hz0, hz1, hz2⟩ := info_parts Tryd.info54
  refine wpList_make_full w hgd l c 52 ho w.heap.size 54 i0 (.agg #[.slice none 0 0, .int .i64 0, .bool false]) 3 Tryd.underlying52 hi hz0 hz1 .i64 .i64 64 64 64 hl hc rfl rfl (by rw [hz2]; omega) (by unfold maxLen; omega) (Nat.le_refl _) fun w' h1 h2 => ?_
  rw [made_ways] at h1
  have hlt := (h1.lt w.heap.size rfl).2
  refine h w' ?_ ((Below.refl _ _).grown h2 (Nat.le_refl _) (by intro k hk; cases hk)) hlt
  rcases h1.2 with ⟨h', _⟩ | ⟨g', cap, cur, h', _, hg, _, _, hcs, ht⟩
  · simp at h'
  · simp only [Value.slice.injEq, Option.some.injEq, Addr.mk.injEq, and_true, true_and] at h'
    obtain ⟨rfl, rfl⟩ := h'
    unfold Row
    rw [hg, ← ht, List.take_of_length_le (by simp; omega)]

end Go.Proofs.YtiiobeelmnjffabDoor
