import Derived.Test.YtcnkcbipkchoiagSpF
import Derived.Test.YtcnkcbipkchoiagSpM
namespace Go.Proofs.Ytcnkcbipkchoiag
open Go.ChangeShapes Go.WideShapes Go.ChangeAt Go.RowKit

/-! Spans in memory; their end; what is cut off them. -/

def cellsSp (l : Sps) : List Value := l.flatMap fun q => [.int .i64 (q.1 : Int), .int .i64 (q.2 : Int)]
theorem cellsSp_len (l : Sps) : (cellsSp l).length = l.length * 2 := by
  induction l with
  | nil => rfl
  | cons q l ih => simp only [cellsSp, List.flatMap_cons, List.length_append, List.length_cons, List.length_nil] at ih ⊢; omega
theorem cellsSp_one (l : Sps) : ∀ u ∈ cellsSp l, u.oneCell' = true := by
  intro u hu
  simp only [cellsSp, List.mem_flatMap] at hu
  obtain ⟨q, _, h⟩ := hu
  simp at h
  rcases h with rfl | rfl <;> rfl
theorem cellsSp_app (l r : Sps) : cellsSp (l ++ r) = cellsSp l ++ cellsSp r := by simp [cellsSp]
theorem cellsSp_take (l : Sps) : ∀ i, (cellsSp l).take (i * 2) = cellsSp (l.take i) := by
  induction l with
  | nil => intro i; simp [cellsSp]
  | cons q l ih =>
    intro i
    cases i with
    | zero => simp [cellsSp]
    | succ i =>
      have e : cellsSp (q :: l) = .int .i64 (q.1 : Int) :: .int .i64 (q.2 : Int) :: cellsSp l := rfl
      have e' : cellsSp (q :: l.take i) = .int .i64 (q.1 : Int) :: .int .i64 (q.2 : Int) :: cellsSp (l.take i) := rfl
      rw [e, List.take_succ_cons, e', show (i + 1) * 2 = i * 2 + 1 + 1 by omega, List.take_succ_cons, List.take_succ_cons, ih]
theorem cellsSp_drop (l : Sps) : ∀ i, (cellsSp l).drop (i * 2) = cellsSp (l.drop i) := by
  induction l with
  | nil => intro i; simp [cellsSp]
  | cons q l ih =>
    intro i
    cases i with
    | zero => simp
    | succ i =>
      have e : cellsSp (q :: l) = .int .i64 (q.1 : Int) :: .int .i64 (q.2 : Int) :: cellsSp l := rfl
      rw [e, List.drop_succ_cons, show (i + 1) * 2 = i * 2 + 1 + 1 by omega, List.drop_succ_cons, List.drop_succ_cons, ih]
theorem cellsSp_at (l : Sps) : ∀ i, i < l.length → (cellsSp l)[i * 2]? = some (.int .i64 ((l.getD i (0, 0)).1 : Int)) ∧ (cellsSp l)[i * 2 + 1]? = some (.int .i64 ((l.getD i (0, 0)).2 : Int)) := by
  induction l with
  | nil => intro i h; simp at h
  | cons q l ih =>
    intro i h
    have e : cellsSp (q :: l) = .int .i64 (q.1 : Int) :: .int .i64 (q.2 : Int) :: cellsSp l := rfl
    cases i with
    | zero => exact ⟨rfl, rfl⟩
    | succ i =>
      have h' : i < l.length := by simpa using h
      have := ih i h'
      rw [e, show (i + 1) * 2 = i * 2 + 1 + 1 by omega, List.getElem?_cons_succ, List.getElem?_cons_succ, List.getElem?_cons_succ]
      exact this
/-- Spans of one's own. -/
def OwnSp (w : World) (v : Value) (l : Sps) : Prop := w.ownsRow 0 172 2 v l.length (cellsSp l)
theorem OwnSp.nil (w : World) : OwnSp w (.slice none 0 0) [] := World.ownsRow_nil _ _ _ _
theorem OwnSp.kept {w w' : World} {v : Value} {l : Sps} {S : List Nat} (h : OwnSp w v l) (hk : Kept S w w') (hs : ∀ g, v.ownBlock = some g → g ∉ S) : OwnSp w' v l := keptRow h hk hs
theorem OwnSp.shape {w : World} {v : Value} {l : Sps} (h : OwnSp w v l) : ∃ a c, v = .slice a l.length c ∧ l.length ≤ c ∧ c ≤ maxLen ∧ (∀ x, a = some x → ∃ g, x = ⟨g, 0, none⟩ ∧ v.ownBlock = some g) := row_shape h
theorem OwnSp.lt {w : World} {v : Value} {l : Sps} (h : OwnSp w v l) {g : Nat} (hg : v.ownBlock = some g) : g < w.heap.size := (World.ownsRow.lt h g hg).2
theorem OwnSp.at {w : World} {a : Option Addr} {c n : Nat} {l : Sps} (h : OwnSp w (.slice a n c) l) {i : Nat} (hi : i < l.length) : ∃ g, a = some ⟨g, 0, none⟩ ∧ g < w.heap.size ∧ ∀ k, k < l.length → w.cell? ⟨g, k * 2, none⟩ = some (.int .i64 ((l.getD k (0, 0)).1 : Int)) ∧ w.cell? ⟨g, k * 2 + 1, none⟩ = some (.int .i64 ((l.getD k (0, 0)).2 : Int)) := by
  have hn := row_len h
  subst hn
  obtain ⟨g, rfl⟩ := row_some h (by omega)
  obtain ⟨cur, hA, -, -, -, -, hct, hxl⟩ := row_at h
  refine ⟨g, rfl, hA.lt, fun k hk => ?_⟩
  have h2 := cellsSp_at l k hk
  rw [hA.cell, hA.cell, ← h2.1, ← h2.2, ← hct, List.getElem?_take_of_lt (by omega), List.getElem?_take_of_lt (by omega)]
  exact ⟨rfl, rfl⟩
theorem OwnSp.free {w : World} {g c n : Nat} {l : Sps} (h : OwnSp w (.slice (some ⟨g, 0, none⟩) n c) l) (j : Nat) : w.frozen? ⟨g, j, none⟩ = false := by
  obtain ⟨cur, hA, -⟩ := row_at h
  exact hA.free j

set_option maxHeartbeats 1000000 in
theorem spEnd_any {w : World} {a : Option Addr} {n c : Nat} {l : Sps} (h : OwnSp w (.slice a n c) l) (hn : l.length ≤ 4000) :
    Calls Try.prog 125 #[.slice a n c] w fun e w' => e = .returned (.int .i64 ((endS l : Nat) : Int)) ∧ w' = w := by
  have hl := row_len h
  subst hl
  by_cases h0 : l.length = 0
  · have e : l = [] := List.eq_nil_of_length_eq_zero h0
    subst e
    clear h hn h0
    go_enter Try.func125, Try.ntmps125
    go_wp2
    all_goals (go_ret; exact ⟨rfl, rfl⟩)
  · obtain ⟨g, rfl, -, hC⟩ := h.at (i := 0) (by omega)
    have hc1 := (hC (l.length - 1) (by omega)).2
    have he := hid (endS_at (l := l) (by rintro rfl; simp at h0))
    obtain ⟨N, hN⟩ : ∃ N, l.length = N + 1 := ⟨l.length - 1, by omega⟩
    rw [hN, Nat.add_sub_cancel] at hc1
    rw [hN] at hn h0 ⊢
    have he2 : Hid (endS l = (l.getD N (0, 0)).2) := by
      have := he.out
      rw [hN, Nat.add_sub_cancel] at this
      exact this
    have hw : IntKind.i64.wrap ((N : Int) + 1 - 1) = (N : Int) := by rw [IntKind.wrap_i64]; omega
    have hx : ¬ ((N : Int) + 1 = 0) := by omega
    generalize (l.getD N (0, 0)).2 = E at *
    clear h he hC hN
    go_enter Try.func125, Try.ntmps125
    go_wp2
    all_goals (go_ret; exact ⟨by rw [he2.out]; rfl, rfl⟩)

end Go.Proofs.Ytcnkcbipkchoiag
