import Derived.Test.YtjpohfghibhkiadPairs
import Derived.Test.YtjpohfghibhkiadWaveP
namespace Go.Proofs.Ytjpohfghibhkiad
open Go.ChangeShapes Go.WideShapes Go.ChangeAt Go.RowKit

/-! POINTS THAT FILL A BLOCK. -/

theorem Try.infoQ : (Try.prog.info? 47).map (fun i => (i.zero, i.size, i.bytes)) = some (some (.agg #[.int .i64 0, .int .i64 0]), 2, 16) := by kernel_rfl
theorem Try.sizeQ : (Try.prog.info? 47).map (·.size) = some 2 := by kernel_rfl
/-- Points that fill a block. -/
def PArr (w : World) (g : Nat) (ps : List (Int × Int)) : Prop := w.heap[g]? = some (.cells (cellsQ ps).toArray 47 (0, 0))
theorem PArr.cells {w : World} {g : Nat} {ps : List (Int × Int)} (h : PArr w g ps) {i : Nat} (hi : i < ps.length) : w.cell? ⟨g, i * 2, none⟩ = some (.int .i64 (ps.getD i (0, 0)).1) ∧ w.cell? ⟨g, i * 2 + 1, none⟩ = some (.int .i64 (ps.getD i (0, 0)).2) := by
  have := cellsQ_at ps i hi
  rw [cell_of_row w g _ _ _ (0, 0) h, cell_of_row w g _ _ _ (0, 0) h]
  simpa using this
theorem PArr.free {w : World} {g : Nat} {ps : List (Int × Int)} (h : PArr w g ps) (j : Nat) : w.frozen? ⟨g, j, none⟩ = false := frozen_of_row w g j _ _ h
theorem PArr.set {w : World} {g : Nat} {ps : List (Int × Int)} (h : PArr w g ps) {i : Nat} (hi : i < ps.length) (p : Int × Int) : PArr (w.setCells g (i * 2) [.int .i64 p.1, .int .i64 p.2]) g (ps.set i p) := by
  unfold PArr
  show ((w.setCell ⟨g, i * 2, none⟩ (.int .i64 p.1)).setCell ⟨g, i * 2 + 1, none⟩ (.int .i64 p.2)).heap[g]? = _
  have h1 := heap_setCell_same w g (i * 2) _ _ (.int .i64 p.1) h
  rw [heap_setCell_same _ g (i * 2 + 1) _ _ (.int .i64 p.2) h1, cellsQ_set p ps i hi]
  simp
theorem PArr.below {w w' : World} {g B : Nat} {ps : List (Int × Int)} (h : PArr w g ps) (hb : Below B w w') (hg : g < B) : PArr w' g ps := (hb.block g hg).trans h
theorem PArr.lt {w : World} {g : Nat} {ps : List (Int × Int)} (h : PArr w g ps) : g < w.heap.size := by
  rcases Nat.lt_or_ge g w.heap.size with e | e
  · exact e
  · have : w.heap[g]? = none := Array.getElem?_eq_none e
    unfold PArr at h
    rw [this] at h; cases h
theorem PArr.pts {w : World} {g : Nat} {ps : List (Int × Int)} (h : PArr w g ps) : Pts w (some ⟨g, 0, none⟩) ps := by
  intro _
  refine ⟨g, 0, rfl, fun i hi => ?_⟩
  rw [Nat.zero_add]
  exact h.cells hi
/-- .. as a row of one's own. -/
theorem PArr.owns {w : World} {g B n : Nat} {ps : List (Int × Int)} (h : PArr w g ps) (hB : B ≤ g) (hl : ps.length = n) (hm : n ≤ maxLen) : w.ownsRow B 47 2 (.slice (some ⟨g, 0, none⟩) n n) n (cellsQ ps) := by
  subst hl
  have hc := cellsQ_length ps
  refine ⟨by omega, .inr ⟨g, _, _, rfl, hB, h, Nat.le_refl _, hm, by simp; omega, ?_⟩⟩
  rw [List.take_of_length_le (by simp; omega)]
theorem wpList_makePts {w : World} {ops : Array Oper} {rest : List Oper} {o : Oper} {a : Act} {Q : Exit → Act → World → Prop} (N : Nat) (hgd : o.guard = none) (l c : Operand)
    (ho : o.op = Op.makeSlice 34 l c) (x y : Int) (hl : a.eval l = .int .i64 x) (hc : a.eval c = .int .i64 y) (hx : x = (N : Int)) (hy : y = (N : Int)) (hN : N ≤ 1000000)
    (h : ∀ w', PArr w' w.heap.size (List.replicate N (0, 0)) → Below w.heap.size w w' → wpList Try.prog ops Q rest (a.put o.dst (.slice (some ⟨w.heap.size, 0, none⟩) N N)) w') :
    wpList Try.prog ops Q (o :: rest) a w := by
  obtain ⟨i0, hi, hz0, hz1, hz2⟩ := info_parts Try.infoQ
  refine wpList_make_full w hgd l c 34 ho w.heap.size 47 i0 (.agg #[.int .i64 0, .int .i64 0]) 2 Try.underlying34 hi hz0 hz1 .i64 .i64 x y N hl hc hx hy (by rw [hz2]; omega) (by unfold maxLen; omega) (Nat.le_refl _) fun w' h1 h2 => ?_
  have hb := (Below.refl w.heap.size w).grown h2 (Nat.le_refl _) (by intro k hk; cases hk)
  refine h w' ?_ hb
  have e : (madeCells (Value.cells (.agg #[.int .i64 0, .int .i64 0])) (N * 2)).toList = List.replicate (N * 2) (.int .i64 0) := by
    refine List.ext_getElem (by simp [madeCells]) fun i i1 i2 => ?_
    have h2 : i % 2 = 0 ∨ i % 2 = 1 := by omega
    rcases h2 with h2 | h2 <;> simp [madeCells, Value.cells, h2]
  rw [e] at h1
  rcases h1.2 with ⟨h', _⟩ | ⟨g', cap, cur, h', hB, hg, _, hm, hcs, ht⟩
  · simp at h'
  · simp only [Value.slice.injEq, Option.some.injEq, Addr.mk.injEq, and_true] at h'
    obtain ⟨rfl, _, rfl⟩ := h'
    unfold PArr
    rw [hg, cellsQ_zero, ← ht, List.take_of_length_le (by simp; omega)]

theorem run_storeQ {ρ : Operand → Value} (w : World) {o : Oper} {x y : Operand} {g i : Nat} {p : Int × Int} {ps : List (Int × Int)} (ho : o.op = .store 47 x y) (h : ρ x = .pointer (some ⟨g, i * 2, none⟩)) (h' : ρ y = .agg #[.int .i64 p.1, .int .i64 p.2]) (ha : PArr w g ps) (hi : i < ps.length) : (execOp ρ o).run Try.prog w = .ok .skip (w.setCells g (i * 2) [.int .i64 p.1, .int .i64 p.2]) := by
  have ht : w.there g (i * 2) 2 := by
    intro j hj
    have hc := ha.cells hi
    have h2 : j = 0 ∨ j = 1 := by omega
    rcases h2 with rfl | rfl
    · rw [Nat.add_zero, hc.1]; exact ⟨rfl, ha.free _⟩
    · rw [hc.2]; exact ⟨rfl, ha.free _⟩
  have := run_storeAt_mid (P := Try.prog) w g (i * 2) 47 #[.int .i64 p.1, .int .i64 p.2] ht Try.sizeQ (by simp; exact ⟨rfl, rfl⟩)
  unfold execOp
  simp only [ho, h, h']
  simp [this, Result.andThen]
end Go.Proofs.Ytjpohfghibhkiad
