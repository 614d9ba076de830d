import Derived.Test.YtdndeegpbjlibacWaveC
import Derived.Test.YtdndeegpbjlibacWaveP
import Derived.Shelf.Abstract
namespace Go.Proofs.Ytdndeegpbjlibac
open Go.ChangeShapes Go.WideShapes Go.ChangeAt Go.RowKit Go.Shelf

/-! 'out = append(out, api.Point{I: Sides(lists[i], 0), Q: Sides(lists[i], 1)})', in whatever order. -/

theorem Try.infoP : (Try.prog.info? 47).map (fun i => (i.zero, i.size, i.bytes)) = some (some (.agg #[.int .i64 0, .int .i64 0]), 2, 16) := by kernel_rfl

/-- Points of one's own. -/
def cellsP (ps : List (Int × Int)) : List Value := ps.flatMap fun p => [.int .i64 p.1, .int .i64 p.2]
def OwnP (w : World) (B : Nat) (v : Value) (ps : List (Int × Int)) : Prop := w.ownsRow B 47 2 v ps.length (cellsP ps)
theorem own_growN {w w' : World} {B : Nat} {e : TypeId} {z : Nat} {v : Value} {n : Nat} {xs : List Value} {row : Option Nat} (h : w.ownsRow B e z v n xs) (hg : w.grownBy w' row) (hr : ∀ k, row = some k → v.ownBlock ≠ some k) : w'.ownsRow B e z v n xs := by
  refine ⟨h.1, ?_⟩
  rcases h.2 with h' | ⟨g, cap, cur, h1, h2, h3, h4⟩
  · exact .inl h'
  · have hlt : g < w.heap.size := (Array.getElem?_eq_some_iff.1 h3).1
    refine .inr ⟨g, cap, cur, h1, h2, (hg.block g hlt (fun e => hr g e.symm ?_)).trans h3, h4⟩
    rw [h1]; rfl
theorem cellsP_at (ps : List (Int × Int)) : ∀ i, i < ps.length → (cellsP ps)[i * 2]? = some (.int .i64 (ps.getD i (0, 0)).1) ∧ (cellsP ps)[i * 2 + 1]? = some (.int .i64 (ps.getD i (0, 0)).2) := by
  induction ps with
  | nil => intro i hi; simp at hi
  | cons p ps ih =>
    intro i hi
    have e : cellsP (p :: ps) = .int .i64 p.1 :: .int .i64 p.2 :: cellsP ps := rfl
    cases i with
    | zero => rw [e]; simp [List.getD]
    | succ i =>
      have := ih i (by simpa using hi)
      rw [e, show (i + 1) * 2 = i * 2 + 1 + 1 by omega, List.getElem?_cons_succ, List.getElem?_cons_succ, show i * 2 + 1 + 1 + 1 = (i * 2 + 1) + 1 + 1 by omega, List.getElem?_cons_succ, List.getElem?_cons_succ]
      simpa [List.getD] using this
theorem OwnP.pts {w : World} {B n c : Nat} {a : Option Addr} {ps : List (Int × Int)} (h : OwnP w B (.slice a n c) ps) : Pts w a ps := by
  intro hne
  rcases h.2 with ⟨_, h0⟩ | ⟨g, cap, cur, h', _⟩
  · exact absurd (List.eq_nil_of_length_eq_zero h0) hne
  · simp only [Value.slice.injEq] at h'
    obtain ⟨rfl, rfl, rfl⟩ := h'
    refine ⟨g, 0, rfl, fun i hi => ?_⟩
    have := cellsP_at ps i hi
    unfold OwnP at h
    rw [Nat.zero_add, h.cellAt _ (by omega), h.cellAt _ (by omega)]
    exact this
theorem OwnP.shape {w : World} {B : Nat} {v : Value} {ps : List (Int × Int)} (h : OwnP w B v ps) : ∃ a c, v = .slice a ps.length c ∧ ps.length ≤ c ∧ c ≤ maxLen := by
  rcases h.2 with ⟨rfl, h0⟩ | ⟨g, cap, cur, rfl, _, _, h1, h2, _⟩
  · exact ⟨none, 0, by rw [h0], by omega, by unfold maxLen; omega⟩
  · exact ⟨_, cap, rfl, h1, h2⟩

theorem run_buildS {ρ : Operand → Value} (w : World) {o : Oper} {x y : Operand} {p q : Int} (ho : o.op = .build 47 #[(0, x), (1, y)]) (h : ρ x = .int .i64 p) (h' : ρ y = .int .i64 q) : (execOp ρ o).run Try.prog w = .ok (.value (.agg #[.int .i64 p, .int .i64 q])) w := by
  unfold execOp
  simp only [ho]
  simp [go_sem, h, h']
theorem run_buildP {ρ : Operand → Value} (w : World) {o : Oper} {x : Operand} {p q : Int} (ho : o.op = .buildSlice 23 1 #[(0, x)]) (h : ρ x = .agg #[.int .i64 p, .int .i64 q]) : (execOp ρ o).run Try.prog w = .ok (.value (.slice (some ⟨w.heap.size, 0, none⟩) 1 1)) (w.alloc (.cells #[.int .i64 p, .int .i64 q] 47)) := by
  unfold execOp
  simp only [ho]
  simp [go_sem, h]
theorem run_pushP {ρ : Operand → Value} (w : World) {o : Oper} {x y : Operand} {B g : Nat} {v : Value} {ps : List (Int × Int)} {p : Int × Int} (ho : o.op = .call { callee := .builtin .append, args := #[x, y], argTypes := #[23, 23] }) (h : ρ x = v) (h' : ρ y = .slice (some ⟨g, 0, none⟩) 1 1)
    (hown : OwnP w B v ps) (hc1 : w.cell? ⟨g, 0, none⟩ = some (.int .i64 p.1)) (hc2 : w.cell? ⟨g, 1, none⟩ = some (.int .i64 p.2)) (hl : ps.length ≤ 100000) (hB : B ≤ w.heap.size) :
    ∃ v' w', (execOp ρ o).run Try.prog w = .ok (.value v') w' ∧ OwnP w' B v' (ps ++ [p]) ∧ w.grownBy w' v.ownBlock ∧ (v'.ownBlock = v.ownBlock ∨ v'.ownBlock = some w.heap.size) := by
  obtain ⟨i0, hi, hz0, hz1, hz2⟩ := info_parts Try.infoP
  obtain ⟨v', w', hrun, h1, h2, _, h3⟩ := run_append_own_at (P := Try.prog) (w := w) B 23 o.type 47 i0 (.agg #[.int .i64 0, .int .i64 0]) 2 16 Try.underlying23 hi hz0 hz1 hz2 rfl (by decide) v _ _ hown ⟨g, 0, none⟩ 1 1 [.int .i64 p.1, .int .i64 p.2] rfl (by
    intro j u hj
    match j, hj with
    | 0, hj => simp at hj; subst hj; simpa [Addr.add] using hc1
    | 1, hj => simp at hj; subst hj; simpa [Addr.add] using hc2) (by intro u hu; simp at hu; rcases hu with rfl | rfl <;> rfl) (by unfold maxLen; omega) (by omega) hB
  refine ⟨v', w', ?_, ?_, h2, h3⟩
  · unfold execOp
    simp only [ho]
    simp [resolve, invoke, builtin, h, h', hrun, Result.andThen]
  · unfold OwnP
    rw [List.length_append, show cellsP (ps ++ [p]) = cellsP ps ++ [.int .i64 p.1, .int .i64 p.2] by simp [cellsP]]
    exact h1

/-- A call of a Go function of two arguments in a region. -/
theorem op_call2 {ops : Array Oper} {Q : Exit → Act → World → Prop} {i f : Nat} {o : Oper} {a : Act} {w : World} {x y : Operand} {u v : Value} {ts : Array TypeId} {K : Act → World → Prop} {R : Ending → World → Prop} (hi : ops[i]? = some o) (hg : o.guard = none) (hop : o.op = .call { callee := .value (.func f), args := #[x, y], argTypes := ts })
    (he : Enters Try.prog f) (hx : a.eval x = u) (hy : a.eval y = v) (hc : Calls Try.prog f #[u, v] w R) (hR : ∀ e w', R e w' → ∃ r, e = .returned r ∧ K (a.put o.dst r) w') : wpOp Try.prog ops Q i K a w := by
  unfold wpOp
  rw [hi]
  have hw : Region.wanted o (yielded ops a.tmps) = true := by simp [Region.wanted, hg]
  simp only [hw, if_true, Oper.wp]
  left
  have hrun : (execOp a.eval o).run Try.prog w = .ok (.enter f #[u, v]) w := by
    unfold execOp
    simp only [hop]
    have := he #[u, v] w
    have hfn : a.eval (.func f) = .func (.func f) #[] #[] := rfl
    simp [resolve, invoke, hx, hy, hfn, Deferred.ofValue, this]
  rw [hrun, Oper.upon_enter]
  refine hc.mono fun e w' h => ?_
  obtain ⟨r, rfl, hK⟩ := hR e w' h
  exact hK

def ptOp : Nat → Op
  | 0 => .move (.tmp 8)
  | 1 => .move (.tmp 4)
  | 2 => .move (.tmp 9)
  | 3 => .indexAddr 42 (.tmp 47) (.tmp 48)
  | 4 => .load 22 (.tmp 49)
  | 5 => .call { callee := .value (.func 26), args := #[.tmp 50, .const (.int .i64 0)], argTypes := #[22, 3] }
  | 6 => .move (.tmp 4)
  | 7 => .move (.tmp 9)
  | 8 => .indexAddr 42 (.tmp 52) (.tmp 53)
  | 9 => .load 22 (.tmp 54)
  | 10 => .call { callee := .value (.func 26), args := #[.tmp 55, .const (.int .i64 1)], argTypes := #[22, 3] }
  | 11 => .build 47 #[(0, .tmp 51), (1, .tmp 56)]
  | 12 => .buildSlice 23 1 #[(0, .tmp 57)]
  | 13 => .call { callee := .builtin .append, args := #[.tmp 46, .tmp 58], argTypes := #[23, 23] }
  | _ => .assign (.tmp 59)
def ptDeps : Nat → List Nat
  | 3 => [1, 2]
  | 4 => [3]
  | 5 => [4]
  | 8 => [6, 7]
  | 9 => [8]
  | 10 => [9]
  | 11 => [5, 10]
  | 12 => [11]
  | 13 => [0, 12]
  | 14 => [13]
  | _ => []
def ptPv (v8 v4 vi p rowv : Value) (x y : Int) : Nat → Option Value
  | 0 => some v8
  | 1 => some v4
  | 2 => some vi
  | 3 => some p
  | 4 => some rowv
  | 5 => some (.int .i64 x)
  | 6 => some v4
  | 7 => some vi
  | 8 => some p
  | 9 => some rowv
  | 10 => some (.int .i64 y)
  | 11 => some (.agg #[.int .i64 x, .int .i64 y])
  | _ => none
def ClosP (L : Nat → Bool) : Prop := ∀ i j, j ∈ ptDeps i → L i = true → L j = true
theorem ClosP.upd {L : Nat → Bool} (h : ClosP L) {i : Nat} (hi : ∀ j ∈ ptDeps i, L j = true) : ClosP (upd L i) := by
  intro p j hj hp
  by_cases hji : j = i
  · rw [hji]; exact upd_same L i
  · rw [upd_other L hji]
    by_cases hpi : p = i
    · subst hpi; exact hi j hj
    · rw [upd_other L hpi] at hp
      exact h p j hj hp
theorem ClosP.all13 {L : Nat → Bool} (h : ClosP L) (h13 : L 13 = true) : ∀ j, j ≤ 13 → L j = true := by
  have l0 := h 13 0 (by decide) h13
  have l12 := h 13 12 (by decide) h13
  have l11 := h 12 11 (by decide) l12
  have l5 := h 11 5 (by decide) l11
  have l10 := h 11 10 (by decide) l11
  have l4 := h 5 4 (by decide) l5
  have l3 := h 4 3 (by decide) l4
  have l2 := h 3 2 (by decide) l3
  have l1 := h 3 1 (by decide) l3
  have l9 := h 10 9 (by decide) l10
  have l8 := h 9 8 (by decide) l9
  have l7 := h 8 7 (by decide) l8
  have l6 := h 8 6 (by decide) l8
  intro j hj
  have : j = 0 ∨ j = 1 ∨ j = 2 ∨ j = 3 ∨ j = 4 ∨ j = 5 ∨ j = 6 ∨ j = 7 ∨ j = 8 ∨ j = 9 ∨ j = 10 ∨ j = 11 ∨ j = 12 ∨ j = 13 := by omega
  rcases this with rfl | rfl | rfl | rfl | rfl | rfl | rfl | rfl | rfl | rfl | rfl | rfl | rfl | rfl <;> assumption

structure PtI (wr : World) (a0 : Act) (pv : Nat → Option Value) (x y : Int) (L : Nat → Bool) (a : Act) (w : World) : Prop where
  size : a.tmps.size = a0.tmps.size
  defers : a.defers = a0.defers
  below : Below wr.heap.size wr w
  frame : ∀ s : Nat, s < 46 ∨ 59 < s → a.eval (.tmp s) = a0.eval (.tmp s)
  pure : ∀ i v, pv i = some v → L i = true → a.eval (.tmp (46 + i)) = v
  clos : ClosP L
  last : L 12 = true → ∃ g, wr.heap.size ≤ g ∧ a.eval (.tmp 58) = .slice (some ⟨g, 0, none⟩) 1 1 ∧ w.cell? ⟨g, 0, none⟩ = some (.int .i64 x) ∧ w.cell? ⟨g, 1, none⟩ = some (.int .i64 y)
  no13 : L 13 = false
structure PtF (wr : World) (a0 : Act) (B : Nat) (v8 : Value) (ps : List (Int × Int)) (p : Int × Int) (v' : Value) (a : Act) (w : World) : Prop where
  size : a.tmps.size = a0.tmps.size
  defers : a.defers = a0.defers
  frame : ∀ s : Nat, s < 46 ∨ 59 < s → s ≠ 8 → a.eval (.tmp s) = a0.eval (.tmp s)
  facts : ∃ w1, OwnP w B v' (ps ++ [p]) ∧ Below wr.heap.size wr w1 ∧ w1.grownBy w v8.ownBlock ∧ (v'.ownBlock = v8.ownBlock ∨ v'.ownBlock = some w1.heap.size)

theorem PtI.step {wr : World} {a0 : Act} {pv : Nat → Option Value} {x y : Int} {L : Nat → Bool} {a : Act} {w w' : World} {i : Nat} {v : Value} (h : PtI wr a0 pv x y L a w) (hi : i ≤ 11) (hN : 60 ≤ a0.tmps.size) (hd : ∀ j ∈ ptDeps i, L j = true) (hg : w.grownBy w' none) (hp : pv i = some v) : PtI wr a0 pv x y (upd L i) (a.put (some (46 + i)) v) w' := by
  refine ⟨by simp [Act.put, h.size], h.defers, h.below.grown hg h.below.size (fun g e => by cases e), fun s hs => ?_, fun j u hj hL => ?_, h.clos.upd hd, fun h12 => ?_, ?_⟩
  · rw [Act.eval_put_ne a _ _ _ (by omega)]
    exact h.frame s hs
  · by_cases hji : j = i
    · subst hji
      rw [Act.eval_put_same a _ _ (by rw [h.size]; omega)]
      rw [hp] at hj
      exact Option.some.inj hj
    · rw [upd_other L hji] at hL
      rw [Act.eval_put_ne a _ _ _ (by omega)]
      exact h.pure j u hj hL
  · rw [upd_other L (by omega)] at h12
    obtain ⟨g, h1, h2, h3, h4⟩ := h.last h12
    refine ⟨g, h1, ?_, cell_grown h3 hg (fun k e => by cases e), cell_grown h4 hg (fun k e => by cases e)⟩
    rw [Act.eval_put_ne a _ _ _ (by omega)]
    exact h2
  · rw [upd_other L (by omega)]
    exact h.no13
end Go.Proofs.Ytdndeegpbjlibac
