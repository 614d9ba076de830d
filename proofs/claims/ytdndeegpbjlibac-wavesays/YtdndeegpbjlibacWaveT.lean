import Derived.Test.YtdndeegpbjlibacWaveS
namespace Go.Proofs.Ytdndeegpbjlibac
open Go.ChangeShapes Go.WideShapes Go.ChangeAt Go.RowKit

/-! 'next = append(next, append(append([]byte(nil), lists[i]...), 0), append(append([]byte(nil), lists[i]...), 1))', in whatever order. -/

def conOp : Nat → Op
  | 0 => .move (.tmp 6)
  | 1 => .move (.tmp 4)
  | 2 => .move (.tmp 7)
  | 3 => .indexAddr 42 (.tmp 23) (.tmp 24)
  | 4 => .load 22 (.tmp 25)
  | 5 => .call { callee := .builtin .append, args := #[.const (.slice none 0 0), .tmp 26], argTypes := #[22, 22] }
  | 6 => .buildSlice 22 1 #[(0, .const (.int .u8 0))]
  | 7 => .call { callee := .builtin .append, args := #[.tmp 27, .tmp 28], argTypes := #[22, 22] }
  | 8 => .move (.tmp 4)
  | 9 => .move (.tmp 7)
  | 10 => .indexAddr 42 (.tmp 30) (.tmp 31)
  | 11 => .load 22 (.tmp 32)
  | 12 => .call { callee := .builtin .append, args := #[.const (.slice none 0 0), .tmp 33], argTypes := #[22, 22] }
  | 13 => .buildSlice 22 1 #[(0, .const (.int .u8 1))]
  | 14 => .call { callee := .builtin .append, args := #[.tmp 34, .tmp 35], argTypes := #[22, 22] }
  | 15 => .buildSlice 42 2 #[(0, .tmp 29), (1, .tmp 36)]
  | 16 => .call { callee := .builtin .append, args := #[.tmp 22, .tmp 37], argTypes := #[42, 42] }
  | _ => .assign (.tmp 38)
def conDeps : Nat → List Nat
  | 3 => [1, 2]
  | 4 => [3]
  | 5 => [4]
  | 7 => [5, 6]
  | 10 => [8, 9]
  | 11 => [10]
  | 12 => [11]
  | 14 => [12, 13]
  | 15 => [7, 14]
  | 16 => [0, 15]
  | 17 => [16]
  | _ => []
def upd (L : Nat → Bool) (i : Nat) : Nat → Bool := fun j => if j = i then true else L j
theorem upd_same (L : Nat → Bool) (i : Nat) : upd L i i = true := if_pos rfl
theorem upd_other (L : Nat → Bool) {i j : Nat} (h : j ≠ i) : upd L i j = L j := if_neg h
def Clos (L : Nat → Bool) : Prop := ∀ i j, j ∈ conDeps i → L i = true → L j = true
theorem Clos.upd {L : Nat → Bool} (h : Clos L) {i : Nat} (hi : ∀ j ∈ conDeps i, L j = true) : Clos (upd L i) := by
  intro p j hj hp
  by_cases hji : j = i
  · rw [hji]; exact upd_same L i
  · rw [upd_other L hji]
    by_cases hpi : p = i
    · subst hpi; exact hi j hj
    · rw [upd_other L hpi] at hp
      exact h p j hj hp
/-- Behind the last but two all is done. -/
theorem Clos.all15 {L : Nat → Bool} (h : Clos L) (h15 : L 15 = true) : ∀ j, 1 ≤ j → j ≤ 15 → L j = true := by
  have l7 := h 15 7 (by decide) h15
  have l14 := h 15 14 (by decide) h15
  have l5 := h 7 5 (by decide) l7
  have l6 := h 7 6 (by decide) l7
  have l4 := h 5 4 (by decide) l5
  have l3 := h 4 3 (by decide) l4
  have l2 := h 3 2 (by decide) l3
  have l1 := h 3 1 (by decide) l3
  have l12 := h 14 12 (by decide) l14
  have l13 := h 14 13 (by decide) l14
  have l11 := h 12 11 (by decide) l12
  have l10 := h 11 10 (by decide) l11
  have l9 := h 10 9 (by decide) l10
  have l8 := h 10 8 (by decide) l10
  intro j h1 h2
  have : j = 1 ∨ j = 2 ∨ j = 3 ∨ j = 4 ∨ j = 5 ∨ j = 6 ∨ j = 7 ∨ j = 8 ∨ j = 9 ∨ j = 10 ∨ j = 11 ∨ j = 12 ∨ j = 13 ∨ j = 14 ∨ j = 15 := by omega
  rcases this with rfl | rfl | rfl | rfl | rfl | rfl | rfl | rfl | rfl | rfl | rfl | rfl | rfl | rfl | rfl <;> assumption
theorem Clos.all16 {L : Nat → Bool} (h : Clos L) (h16 : L 16 = true) : ∀ j, j ≤ 16 → L j = true := by
  intro j hj
  by_cases h0 : j = 0
  · subst h0; exact h 16 0 (by decide) h16
  · by_cases h6 : j = 16
    · subst h6; exact h16
    · exact h.all15 (h 16 15 (by decide) h16) j (by omega) (by omega)

/-- Ahead of the last append. -/
structure ConI (wr : World) (a0 : Act) (pv : Nat → Option Value) (l : List Int) (L : Nat → Bool) (a : Act) (w : World) : Prop where
  size : a.tmps.size = a0.tmps.size
  defers : a.defers = a0.defers
  below : Below wr.heap.size wr w
  frame : ∀ s : Nat, s < 22 ∨ 38 < s → a.eval (.tmp s) = a0.eval (.tmp s)
  pure : ∀ i v, pv i = some v → L i = true → a.eval (.tmp (22 + i)) = v
  clos : Clos L
  ch : ∃ SA SB, (∀ g ∈ SA, g ∉ SB) ∧ Ch w wr.heap.size l 0 (a.eval (.tmp 27)) (a.eval (.tmp 28)) (a.eval (.tmp 29)) (L 5) (L 6) (L 7) SA ∧ Ch w wr.heap.size l 1 (a.eval (.tmp 34)) (a.eval (.tmp 35)) (a.eval (.tmp 36)) (L 12) (L 13) (L 14) SB
  last : L 15 = true → ∃ g, wr.heap.size ≤ g ∧ a.eval (.tmp 37) = .slice (some ⟨g, 0, none⟩) 2 2 ∧ w.cell? ⟨g, 0, none⟩ = some (a.eval (.tmp 29)) ∧ w.cell? ⟨g, 1, none⟩ = some (a.eval (.tmp 36))
  no16 : L 16 = false

/-- What every operation ahead of the last append leaves as it was. -/
theorem ConI.step {wr : World} {a0 : Act} {pv : Nat → Option Value} {l : List Int} {L : Nat → Bool} {a : Act} {w w' : World} {i : Nat} {v : Value} {row : Option Nat} (h : ConI wr a0 pv l L a w) (hi : i ≤ 14) (hN : 39 ≤ a0.tmps.size) (hLi : L i = false)
    (hd : ∀ j ∈ conDeps i, L j = true) (hg : w.grownBy w' row) (hr : ∀ g, row = some g → wr.heap.size ≤ g) (hp : ∀ u, pv i = some u → v = u) (h0 : i = 0 → w' = w)
    (hch : ∃ SA SB, (∀ g ∈ SA, g ∉ SB) ∧ Ch w' wr.heap.size l 0 ((a.put (some (22 + i)) v).eval (.tmp 27)) ((a.put (some (22 + i)) v).eval (.tmp 28)) ((a.put (some (22 + i)) v).eval (.tmp 29)) (upd L i 5) (upd L i 6) (upd L i 7) SA ∧ Ch w' wr.heap.size l 1 ((a.put (some (22 + i)) v).eval (.tmp 34)) ((a.put (some (22 + i)) v).eval (.tmp 35)) ((a.put (some (22 + i)) v).eval (.tmp 36)) (upd L i 12) (upd L i 13) (upd L i 14) SB) :
    ConI wr a0 pv l (upd L i) (a.put (some (22 + i)) v) w' := by
  refine ⟨by simp [Act.put, h.size], h.defers, h.below.grown hg h.below.size hr, fun s hs => ?_, fun j u hj hL => ?_, h.clos.upd hd, hch, fun h15 => ?_, ?_⟩
  · rw [Act.eval_put_ne a _ _ _ (by omega)]
    exact h.frame s hs
  · by_cases hji : j = i
    · subst hji
      rw [Act.eval_put_same a _ _ (by rw [h.size]; omega)]
      exact hp u hj
    · rw [upd_other L hji] at hL
      rw [Act.eval_put_ne a _ _ _ (by omega)]
      exact h.pure j u hj hL
  · rw [upd_other L (by omega)] at h15
    by_cases hi0 : i = 0
    · obtain rfl := h0 hi0
      obtain ⟨g, h1, h2, h3, h4⟩ := h.last h15
      refine ⟨g, h1, ?_, ?_, ?_⟩
      · rw [Act.eval_put_ne a _ _ _ (by omega)]; exact h2
      · rw [Act.eval_put_ne a _ _ _ (by omega)]; exact h3
      · rw [Act.eval_put_ne a _ _ _ (by omega)]; exact h4
    · have := h.clos.all15 h15 i (by omega) (by omega)
      rw [hLi] at this
      cases this
  · rw [upd_other L (by omega)]
    exact h.no16
theorem grown_refl (w : World) : w.grownBy w none := ⟨rfl, rfl, rfl, Nat.le_refl _, fun _ _ _ => rfl⟩
/-- A step that only reads. -/
theorem ConI.read {wr : World} {a0 : Act} {pv : Nat → Option Value} {l : List Int} {L : Nat → Bool} {a : Act} {w : World} {i : Nat} {v : Value} (h : ConI wr a0 pv l L a w) (hi : i ≤ 4 ∨ (8 ≤ i ∧ i ≤ 11)) (hN : 39 ≤ a0.tmps.size) (hLi : L i = false)
    (hd : ∀ j ∈ conDeps i, L j = true) (hp : pv i = some v) : ConI wr a0 pv l (upd L i) (a.put (some (22 + i)) v) w := by
  refine h.step (row := none) (by omega) hN hLi hd (grown_refl w) (fun g e => by cases e) (fun u hu => by rw [hp] at hu; exact Option.some.inj hu) (fun _ => rfl) ?_
  obtain ⟨SA, SB, h1, h2, h3⟩ := h.ch
  refine ⟨SA, SB, h1, ?_, ?_⟩
  · rw [Act.eval_put_ne a _ _ _ (by omega), Act.eval_put_ne a _ _ _ (by omega), Act.eval_put_ne a _ _ _ (by omega), upd_other L (by omega), upd_other L (by omega), upd_other L (by omega)]
    exact h2
  · rw [Act.eval_put_ne a _ _ _ (by omega), Act.eval_put_ne a _ _ _ (by omega), Act.eval_put_ne a _ _ _ (by omega), upd_other L (by omega), upd_other L (by omega), upd_other L (by omega)]
    exact h3
end Go.Proofs.Ytdndeegpbjlibac
