import Derived.Test.YtdndeegpbjlibadGreatDoorK40
import Derived.Test.YtdndeegpbjlibadGreatDoorK37
namespace Go.Proofs.YtdndeegpbjlibadGreatDoor
open Go.ChangeShapes Go.WideShapes Go.ChangeAt Go.RowKit Go.Shelf

/-! POINTS THAT FILL A BLOCK. -/

theorem Tryz.infoQ : (Tryz.prog.info? 29).map (fun i => (i.zero, i.size, i.bytes)) = some (some (.agg #[.int .i64 0, .int .i64 0]), 2, 16) := by kernel_rfl
theorem Tryz.sizeQ : (Tryz.prog.info? 29).map (·.size) = some 2 := by kernel_rfl
def cellsQ (ps : List (Int × Int)) : List Value := ps.flatMap fun p => [.int .i64 p.1, .int .i64 p.2]
theorem cellsQ_length (ps : List (Int × Int)) : (cellsQ ps).length = 2 * ps.length := by
  induction ps with
  | nil => rfl
  | cons p ps ih =>
    have e : cellsQ (p :: ps) = .int .i64 p.1 :: .int .i64 p.2 :: cellsQ ps := rfl
    rw [e]; simp [ih]; omega
theorem cellsQ_at (ps : List (Int × Int)) : ∀ i, i < ps.length → (cellsQ ps)[i * 2]? = some (.int .i64 (ps.getD i (0, 0)).1) ∧ (cellsQ ps)[i * 2 + 1]? = some (.int .i64 (ps.getD i (0, 0)).2) := by
  induction ps with
  | nil => intro i hi; simp at hi
  | cons p ps ih =>
    intro i hi
    have e : cellsQ (p :: ps) = .int .i64 p.1 :: .int .i64 p.2 :: cellsQ ps := rfl
    cases i with
    | zero => rw [e]; simp [List.getD]
    | succ i =>
      have := ih i (by simpa using hi)
      rw [e, show (i + 1) * 2 = i * 2 + 1 + 1 by omega, List.getElem?_cons_succ, List.getElem?_cons_succ, show i * 2 + 1 + 1 + 1 = (i * 2 + 1) + 1 + 1 by omega, List.getElem?_cons_succ, List.getElem?_cons_succ]
      simpa [List.getD] using this
theorem cellsQ_set (p : Int × Int) : ∀ (ps : List (Int × Int)) (i : Nat), i < ps.length → cellsQ (ps.set i p) = ((cellsQ ps).set (i * 2) (.int .i64 p.1)).set (i * 2 + 1) (.int .i64 p.2)
  | [], i, hi => by simp at hi
  | q :: ps, 0, _ => rfl
  | q :: ps, i + 1, hi => by
    have ih := cellsQ_set p ps i (by simpa using hi)
    have e : ∀ (r : Int × Int) rs, cellsQ (r :: rs) = .int .i64 r.1 :: .int .i64 r.2 :: cellsQ rs := fun _ _ => rfl
    rw [List.set_cons_succ, e, e, ih, show (i + 1) * 2 = i * 2 + 1 + 1 by omega]
    rfl
theorem cellsQ_zero (n : Nat) : cellsQ (List.replicate n (0, 0)) = List.replicate (n * 2) (.int .i64 0) := by
  induction n with
  | zero => rfl
  | succ n ih =>
    have e : cellsQ ((0, 0) :: List.replicate n (0, 0)) = .int .i64 0 :: .int .i64 0 :: cellsQ (List.replicate n (0, 0)) := rfl
    rw [List.replicate_succ, e, ih, show (n + 1) * 2 = n * 2 + 1 + 1 by omega, List.replicate_succ, List.replicate_succ]
/-- Points that fill a block. -/
def PArr (w : World) (g : Nat) (ps : List (Int × Int)) : Prop := w.heap[g]? = some (.cells (cellsQ ps).toArray 29 (0, 0))
theorem PArr.cells {w : World} {g : Nat} {ps : List (Int × Int)} (h : PArr w g ps) {i : Nat} (hi : i < ps.length) : w.cell? ⟨g, i * 2, none⟩ = some (.int .i64 (ps.getD i (0, 0)).1) ∧ w.cell? ⟨g, i * 2 + 1, none⟩ = some (.int .i64 (ps.getD i (0, 0)).2) := by
  have := cellsQ_at ps i hi
  rw [cell_of_row w g _ _ _ (0, 0) h, cell_of_row w g _ _ _ (0, 0) h]
  simpa using this
theorem PArr.free {w : World} {g : Nat} {ps : List (Int × Int)} (h : PArr w g ps) (j : Nat) : w.frozen? ⟨g, j, none⟩ = false := frozen_of_row w g j _ _ h
theorem PArr.set {w : World} {g : Nat} {ps : List (Int × Int)} (h : PArr w g ps) {i : Nat} (hi : i < ps.length) (p : Int × Int) : PArr (w.setCells g (i * 2) [.int .i64 p.1, .int .i64 p.2]) g (ps.set i p) := by
  unfold PArr
  show ((w.setCell ⟨g, i * 2, none⟩ (.int .i64 p.1)).setCell ⟨g, i * 2 + 1, none⟩ (.int .i64 p.2)).heap[g]? = _
  have h1 := heap_setCell_same w g (i * 2) _ _ (.int .i64 p.1) h
  rw [heap_setCell_same _ g (i * 2 + 1) _ _ (.int .i64 p.2) h1, cellsQ_set p ps i hi]
  simp
theorem PArr.below {w w' : World} {g B : Nat} {ps : List (Int × Int)} (h : PArr w g ps) (hb : Below B w w') (hg : g < B) : PArr w' g ps := (hb.block g hg).trans h
theorem PArr.lt {w : World} {g : Nat} {ps : List (Int × Int)} (h : PArr w g ps) : g < w.heap.size := by
  rcases Nat.lt_or_ge g w.heap.size with e | e
  · exact e
  · have : w.heap[g]? = none := Array.getElem?_eq_none e
    unfold PArr at h
    rw [this] at h; cases h
theorem PArr.pts {w : World} {g : Nat} {ps : List (Int × Int)} (h : PArr w g ps) : Pts w (some ⟨g, 0, none⟩) ps := by
  intro _
  refine ⟨g, 0, rfl, fun i hi => ?_⟩
  rw [Nat.zero_add]
  exact h.cells hi
/-- .. as a row of one's own. -/
theorem PArr.owns {w : World} {g B n : Nat} {ps : List (Int × Int)} (h : PArr w g ps) (hB : B ≤ g) (hl : ps.length = n) (hm : n ≤ maxLen) : w.ownsRow B 29 2 (.slice (some ⟨g, 0, none⟩) n n) n (cellsQ ps) := by
  subst hl
  have hc := cellsQ_length ps
  refine ⟨by omega, .inr ⟨g, _, _, rfl, hB, h, Nat.le_refl _, hm, by simp; omega, ?_⟩⟩
  rw [List.take_of_length_le (by simp; omega)]
theorem wpList_makePts {w : World} {ops : Array Oper} {rest : List Oper} {o : Oper} {a : Act} {Q : Exit → Act → World → Prop} (N : Nat) (hgd : o.guard = none) (l c : Operand)
    (ho : o.op = Op.makeSlice 24 l c) (x y : Int) (hl : a.eval l = .int .i64 x) (hc : a.eval c = .int .i64 y) (hx : x = (N : Int)) (hy : y = (N : Int)) (hN : N ≤ 1000000)
    (h : ∀ w', PArr w' w.heap.size (List.replicate N (0, 0)) → Below w.heap.size w w' → wpList Tryz.prog ops Q rest (a.put o.dst (.slice (some ⟨w.heap.size, 0, none⟩) N N)) w') :
    wpList Tryz.prog ops Q (o :: rest) a w := by
  obtain ⟨i0, hi, hz0, hz1, hz2⟩ := info_parts Tryz.infoQ
  refine wpList_make_full w hgd l c 24 ho w.heap.size 29 i0 (.agg #[.int .i64 0, .int .i64 0]) 2 Tryz.underlying24 hi hz0 hz1 .i64 .i64 x y N hl hc hx hy (by rw [hz2]; omega) (by unfold maxLen; omega) (Nat.le_refl _) fun w' h1 h2 => ?_
  have hb := (Below.refl w.heap.size w).grown h2 (Nat.le_refl _) (by intro k hk; cases hk)
  refine h w' ?_ hb
  have e : (madeCells (Value.cells (.agg #[.int .i64 0, .int .i64 0])) (N * 2)).toList = List.replicate (N * 2) (.int .i64 0) := by
    refine List.ext_getElem (by simp [madeCells]) fun i i1 i2 => ?_
    have h2 : i % 2 = 0 ∨ i % 2 = 1 := by omega
    rcases h2 with h2 | h2 <;> simp [madeCells, Value.cells, h2]
  rw [e] at h1
  rcases h1.2 with ⟨h', _⟩ | ⟨g', cap, cur, h', hB, hg, _, hm, hcs, ht⟩
  · simp at h'
  · simp only [Value.slice.injEq, Option.some.injEq, Addr.mk.injEq, and_true] at h'
    obtain ⟨rfl, _, rfl⟩ := h'
    unfold PArr
    rw [hg, cellsQ_zero, ← ht, List.take_of_length_le (by simp; omega)]

theorem run_storeQ {ρ : Operand → Value} (w : World) {o : Oper} {x y : Operand} {g i : Nat} {p : Int × Int} {ps : List (Int × Int)} (ho : o.op = .store 29 x y) (h : ρ x = .pointer (some ⟨g, i * 2, none⟩)) (h' : ρ y = .agg #[.int .i64 p.1, .int .i64 p.2]) (ha : PArr w g ps) (hi : i < ps.length) : (execOp ρ o).run Tryz.prog w = .ok .skip (w.setCells g (i * 2) [.int .i64 p.1, .int .i64 p.2]) := by
  have ht : w.there g (i * 2) 2 := by
    intro j hj
    have hc := ha.cells hi
    have h2 : j = 0 ∨ j = 1 := by omega
    rcases h2 with rfl | rfl
    · rw [Nat.add_zero, hc.1]; exact ⟨rfl, ha.free _⟩
    · rw [hc.2]; exact ⟨rfl, ha.free _⟩
  have := run_storeAt_mid (P := Tryz.prog) w g (i * 2) 29 #[.int .i64 p.1, .int .i64 p.2] ht Tryz.sizeQ (by simp; exact ⟨rfl, rfl⟩)
  unfold execOp
  simp only [ho, h, h']
  simp [this, Result.andThen]
end Go.Proofs.YtdndeegpbjlibadGreatDoor

namespace Go.Proofs.YtdndeegpbjlibadGreatDoor
open Go.ChangeShapes Go.WideShapes Go.ChangeAt Go.RowKit Go.Shelf

/-! LISTS THAT ARE FILLED WITHIN THEIR ROOM. -/

theorem grownQ {w w' : World} (h : Below w.heap.size w w') : w.grownBy w' none := ⟨h.os, h.tape, h.output, h.size, fun k hk _ => h.block k hk⟩
theorem below_grownQ {w w' : World} (h : w.grownBy w' none) : Below w.heap.size w w' := (Below.refl _ w).grown h (Nat.le_refl _) (fun g e => by cases e)
theorem Kept.cellQ {S : List Nat} {a b : World} (h : Kept S a b) {p : Addr} {v : Value} (hc : a.cell? p = some v) (hn : p.block ∉ S) : b.cell? p = some v := by
  have hb := h.block p.block (World.block_lt_of_cell? a _ hc) hn
  rw [← hc]
  unfold World.cell?
  rw [hb]
theorem kept_grown {w w' : World} {g : Nat} (h : w.grownBy w' (some g)) : Kept [g] w w' := ⟨h.os, h.tape, h.output, h.size, fun k hk hn => h.block k hk (fun e => hn (by simp only [Option.some.injEq] at e; simp [e]))⟩

def pairsAll (F : Int → Nat → Int) (h : Nat) (ps : List (Int × Int)) (k : Nat) : List Int := (ps.take k).flatMap fun p => pairsTo (F p.1) (F p.2) h h
theorem pairsAll_succ {F : Int → Nat → Int} {h : Nat} {ps : List (Int × Int)} {k : Nat} (hk : k < ps.length) : pairsAll F h ps (k + 1) = pairsAll F h ps k ++ pairsTo (F (ps.getD k (0, 0)).1) (F (ps.getD k (0, 0)).2) h h := by
  unfold pairsAll
  rw [List.take_succ_eq_append_getElem hk, List.flatMap_append]
  simp [List.getD, hk]
theorem pairsAll_length (F : Int → Nat → Int) (h : Nat) (ps : List (Int × Int)) : ∀ k, k ≤ ps.length → (pairsAll F h ps k).length = k * (2 * h)
  | 0, _ => by simp [pairsAll]
  | k + 1, hk => by rw [pairsAll_succ (by omega), List.length_append, pairsAll_length F h ps k (by omega), pairsTo_length, Nat.add_mul, Nat.one_mul]

/-- Two numbers side by side. -/
def Two (k : IntKind) (y z : Int) (x : Value) (w : World) : Prop := ∃ g, x = .slice (some ⟨g, 0, none⟩) 2 2 ∧ w.cell? ⟨g, 0, none⟩ = some (.int k y) ∧ w.cell? ⟨g, 1, none⟩ = some (.int k z)
theorem Two.grow {k : IntKind} {y z : Int} {x : Value} {w w' : World} (h : Two k y z x w) (hg : w.grownBy w' none) : Two k y z x w' := by
  obtain ⟨g, e, h0, h1⟩ := h
  have hb := below_grownQ hg
  exact ⟨g, e, (hb.cell (World.block_lt_of_cell? w _ h0)).trans h0, (hb.cell (World.block_lt_of_cell? w _ h1)).trans h1⟩
theorem two_new (k : IntKind) (y z : Int) (w : World) (T : TypeId) : Two k y z (.slice (some ⟨w.heap.size, 0, none⟩) 2 2) (w.alloc (.cells #[.int k y, .int k z] T)) := by
  refine ⟨w.heap.size, rfl, ?_, ?_⟩ <;> rw [cell_of_row _ _ _ _ _ _ (heap_alloc_new w _)] <;> rfl
theorem grown_alloc (w : World) (b : Obj) : w.grownBy (w.alloc b) none := grownQ ((Below.refl _ w).alloc (Nat.le_refl _) b)
theorem run_build2I {ρ : Operand → Value} (w : World) {o : Oper} {x y : Operand} {p q : Int} (ho : o.op = .buildSlice 23 2 #[(0, x), (1, y)]) (h : ρ x = .int .i64 p) (h' : ρ y = .int .i64 q) : (execOp ρ o).run Tryz.prog w = .ok (.value (.slice (some ⟨w.heap.size, 0, none⟩) 2 2)) (w.alloc (.cells #[.int .i64 p, .int .i64 q] 3)) := by
  unfold execOp
  simp only [ho]
  simp [go_sem, h, h']
theorem op_fit2I {ops : Array Oper} {Q : Exit → Act → World → Prop} {i : Nat} {o : Oper} {a : Act} {W : World} {K : Act → World → Prop} {L : List Int} {g m cap : Nat} {y z : Int} {v : Value} (hi : ops[i]? = some o) (hg : o.guard = none) {s x : Operand}
    (ho : o.op = .call { callee := .builtin .append, args := #[s, x], argTypes := #[23, 23] }) (hs : a.eval s = .slice (some ⟨g, 0, none⟩) m cap) (hx : a.eval x = v) (hown : OwnI W g (.slice (some ⟨g, 0, none⟩) m cap) L) (hv : Two .i64 y z v W) (hcap : m + 2 ≤ cap)
    (h : ∀ w', OwnI w' g (.slice (some ⟨g, 0, none⟩) (m + 2) cap) (L ++ [y, z]) → W.grownBy w' (some g) → K (a.put o.dst (.slice (some ⟨g, 0, none⟩) (m + 2) cap)) w') : wpOp Tryz.prog ops Q i K a W := by
  have hl := hown.len
  subst hl
  obtain ⟨gx, rfl, c0, c1⟩ := hv
  obtain ⟨i0, hi0, hz0, hz1, hz2⟩ := info_parts Tryz.info3
  obtain ⟨w', hrun, r1, r2⟩ := run_append_fits (P := Tryz.prog) W g 23 o.type 3 i0 1 Tryz.underlying23 hi0 hz1 g L.length cap _ hown ⟨gx, 0, none⟩ 2 2 [.int .i64 y, .int .i64 z] rfl (fun j u hj => by
    match j, hj with
    | 0, hj => simp at hj; subst hj; simpa [Addr.add] using c0
    | 1, hj => simp at hj; subst hj; simpa [Addr.add] using c1) (by simp; exact ⟨rfl, rfl⟩) hcap
  have hO : OwnI w' g (.slice (some ⟨g, 0, none⟩) (L.length + 2) cap) (L ++ [y, z]) := by
    unfold OwnI
    rw [List.length_append, List.map_append]
    exact r1
  unfold wpOp
  rw [hi]
  have hw : Region.wanted o (yielded ops a.tmps) = true := by simp [Region.wanted, hg]
  simp only [hw, if_true, Oper.wp]
  left
  simp [execOp, ho, resolve, invoke, builtin, hs, hx, hrun, Result.andThen]
  exact h w' hO r2
theorem wpList_makeFitI {w : World} {ops : Array Oper} {rest : List Oper} {o : Oper} {a : Act} {Q : Exit → Act → World → Prop} (N : Nat) (hgd : o.guard = none) (l c : Operand)
    (ho : o.op = Op.makeSlice 23 l c) (y : Int) (hl : a.eval l = .int .i64 0) (hc : a.eval c = .int .i64 y) (hy : y = (N : Int)) (hN : N ≤ 1000000)
    (h : ∀ w', OwnI w' w.heap.size (.slice (some ⟨w.heap.size, 0, none⟩) 0 N) [] → Below w.heap.size w w' → wpList Tryz.prog ops Q rest (a.put o.dst (.slice (some ⟨w.heap.size, 0, none⟩) 0 N)) w') :
    wpList Tryz.prog ops Q (o :: rest) a w := by
  obtain ⟨i0, hi, hz0, hz1, hz2⟩ := info_parts Tryz.info3
  exact wpList_make_own w hgd l c 23 ho w.heap.size 3 i0 (.int .i64 0) 1 Tryz.underlying23 hi hz0 hz1 .i64 .i64 y N hl hc hy (by rw [hz2]; omega) (by unfold maxLen; omega) (Nat.le_refl _) fun w' h1 h2 => h w' h1 (below_grownQ h2)

theorem op_fit2B {ops : Array Oper} {Q : Exit → Act → World → Prop} {i : Nat} {o : Oper} {a : Act} {W : World} {K : Act → World → Prop} {L : List Int} {g m cap : Nat} {y z : Int} {v : Value} (hi : ops[i]? = some o) (hg : o.guard = none) {s x : Operand}
    (ho : o.op = .call { callee := .builtin .append, args := #[s, x], argTypes := #[22, 22] }) (hs : a.eval s = .slice (some ⟨g, 0, none⟩) m cap) (hx : a.eval x = v) (hown : Own W g (.slice (some ⟨g, 0, none⟩) m cap) L) (hv : Two .u8 y z v W) (hcap : m + 2 ≤ cap)
    (h : ∀ w', Own w' g (.slice (some ⟨g, 0, none⟩) (m + 2) cap) (L ++ [y, z]) → W.grownBy w' (some g) → K (a.put o.dst (.slice (some ⟨g, 0, none⟩) (m + 2) cap)) w') : wpOp Tryz.prog ops Q i K a W := by
  have hl := hown.len
  subst hl
  obtain ⟨gx, rfl, c0, c1⟩ := hv
  obtain ⟨i0, hi0, hz0, hz1, hz2⟩ := info_parts Tryz.info5
  obtain ⟨w', hrun, r1, r2⟩ := run_append_fits (P := Tryz.prog) W g 22 o.type 5 i0 1 Tryz.underlying22 hi0 hz1 g L.length cap _ hown ⟨gx, 0, none⟩ 2 2 [.int .u8 y, .int .u8 z] rfl (fun j u hj => by
    match j, hj with
    | 0, hj => simp at hj; subst hj; simpa [Addr.add] using c0
    | 1, hj => simp at hj; subst hj; simpa [Addr.add] using c1) (by simp; exact ⟨rfl, rfl⟩) hcap
  have hO : Own w' g (.slice (some ⟨g, 0, none⟩) (L.length + 2) cap) (L ++ [y, z]) := by
    unfold Own
    rw [List.length_append, List.map_append]
    exact r1
  unfold wpOp
  rw [hi]
  have hw : Region.wanted o (yielded ops a.tmps) = true := by simp [Region.wanted, hg]
  simp only [hw, if_true, Oper.wp]
  left
  simp [execOp, ho, resolve, invoke, builtin, hs, hx, hrun, Result.andThen]
  exact h w' hO r2
theorem wpList_makeFitB {w : World} {ops : Array Oper} {rest : List Oper} {o : Oper} {a : Act} {Q : Exit → Act → World → Prop} (N : Nat) (hgd : o.guard = none) (l c : Operand)
    (ho : o.op = Op.makeSlice 22 l c) (y : Int) (hl : a.eval l = .int .i64 0) (hc : a.eval c = .int .i64 y) (hy : y = (N : Int)) (hN : N ≤ 1000000)
    (h : ∀ w', Own w' w.heap.size (.slice (some ⟨w.heap.size, 0, none⟩) 0 N) [] → Below w.heap.size w w' → wpList Tryz.prog ops Q rest (a.put o.dst (.slice (some ⟨w.heap.size, 0, none⟩) 0 N)) w') :
    wpList Tryz.prog ops Q (o :: rest) a w := by
  obtain ⟨i0, hi, hz0, hz1, hz2⟩ := info_parts Tryz.info5
  exact wpList_make_own w hgd l c 22 ho w.heap.size 5 i0 (.int .u8 0) 1 Tryz.underlying22 hi hz0 hz1 .i64 .i64 y N hl hc hy (by rw [hz2]; omega) (by unfold maxLen; omega) (Nat.le_refl _) fun w' h1 h2 => h w' h1 (below_grownQ h2)

end Go.Proofs.YtdndeegpbjlibadGreatDoor
