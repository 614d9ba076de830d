import Derived.Test.YtfbjedcfppghgacDoorDocG
import Derived.Maps.AppendAt
namespace Go.Proofs.YtfbjedcfppghgacDoor
open Go.ChangeShapes Go.WideShapes Go.ChangeAt Go.RowKit

/-! THE DOCUMENT'S Found: two lists that grow beside each other. -/

def Apart (v u : Value) : Prop := ∀ k, v.ownBlock = some k → u.ownBlock ≠ some k
theorem Apart.symm {v u : Value} (h : Apart v u) : Apart u v := fun k hk hv => h k hv hk
theorem Own.grow {w w' : World} {B : Nat} {u : Value} {M : List Int} {row : Option Nat} (h : Own w B u M) (hg : w.grownBy w' row) (hr : ∀ k, row = some k → u.ownBlock ≠ some k) : Own w' B u M := by
  refine ⟨h.1, ?_⟩
  rcases h.2 with h' | ⟨g, cap, cur, h1, h2, h3, h4⟩
  · exact .inl h'
  · have hlt : g < w.heap.size := by
      rcases Nat.lt_or_ge g w.heap.size with hl | hl
      · exact hl
      · rw [Array.getElem?_eq_none hl] at h3; cases h3
    refine .inr ⟨g, cap, cur, h1, h2, (hg.block g hlt (fun e => hr g e.symm ?_)).trans h3, h4⟩
    rw [h1]; rfl

/-- 'out = append(out, y)' beside another list of one's own. -/
theorem wpList_pushA {ops : Array Oper} {rest : List Oper} {o : Oper} {a : Act} {Q : Exit → Act → World → Prop} {w0 : World} {v u : Value} {L M : List Int} (B : Nat) (w00 : World) (y : Int) (hown : Own w0 B v L) (hoth : Own w0 B u M) (hap : Apart v u) (hgd : o.guard = none) (s x : Operand)
    (ho : o.op = .call { callee := .builtin .append, args := #[s, x], argTypes := #[22, 22] }) (hs : a.eval s = v)
    (hx : a.eval x = .slice (some ⟨w0.heap.size, 0, none⟩) 1 1) (hlen : L.length < 70368744177664) (hbel : Below B w00 w0) (hB : B ≤ w0.heap.size)
    (h : ∀ v' w', Own w' B v' (L ++ [y]) → Own w' B u M → Apart v' u → Below B w00 w' → wpList Tryd.prog ops Q rest (a.put o.dst v') w') : wpList Tryd.prog ops Q (o :: rest) a (w0.alloc (.cells #[.int .u8 y] 5)) := by
  obtain ⟨i0, hi, hz0, hz1, hz2⟩ := info_parts Tryd.info5
  refine wpList_append_own_at _ hgd s x 22 ho B 5 i0 (.int .u8 0) 1 1 Tryd.underlying22 hi hz0 hz1 hz2 rfl (by decide) v _ _ hs (World.ownsRow.alloc hown _) ⟨w0.heap.size, 0, none⟩ 1 1 [.int .u8 y] hx rfl (cell_one_new _ _ _) ?_ ?_ ?_ ?_ ?_
  · intro u hu; simp at hu; subst hu; rfl
  · unfold maxLen; omega
  · omega
  · simp; omega
  · intro v' w' h1 h2 _ h4
    have hoth1 : Own (w0.alloc (.cells #[.int .u8 y] 5)) B u M := World.ownsRow.alloc hoth _
    refine h v' w' (Own.snoc h1) (hoth1.grow h2 (fun k hk => hap k hk)) ?_ ((hbel.alloc hB _).grown h2 (by simp; omega) (own_blocks hown))
    intro k hk
    rcases h4 with h4 | h4
    · exact hap k (h4.symm.trans hk)
    · intro hu
      have hlt := (hoth.lt k hu).2
      have : k = (w0.alloc (.cells #[.int .u8 y] 5)).heap.size := Option.some.inj (hk.symm.trans h4)
      simp at this
      omega

/-- Which places are open. -/
def openM (n k : Nat) : List Bool := (List.range n).map (isPlace n k)
theorem open_at {n k i : Nat} (h : i < n) : (openM n k).getD i false = isPlace n k i := by simp [openM, List.getD, h]
def readTo (n k : Nat) (U : List Int) (i : Nat) : List Int := readM ((List.range i).filter (isPlace n k)) U
theorem readTo_length (n k : Nat) (U : List Int) (i : Nat) : (readTo n k U i).length = cntM (isPlace n k) i := by simp [readTo, readM, cntM]
theorem readTo_yes {n k i : Nat} {U : List Int} (h : isPlace n k i = true) : readTo n k U (i + 1) = readTo n k U i ++ [U.getD i 0] := by
  unfold readTo readM
  rw [List.range_succ, List.filter_append, List.map_append]
  simp [h]
theorem readTo_no {n k i : Nat} {U : List Int} (h : isPlace n k i = false) : readTo n k U (i + 1) = readTo n k U i := by
  unfold readTo readM
  rw [List.range_succ, List.filter_append, List.map_append]
  simp [h]
theorem cnt_le (q : Nat → Bool) (i : Nat) : cntM q i ≤ i := by
  unfold cntM
  have := List.length_filter_le q (List.range i)
  simpa using this

end Go.Proofs.YtfbjedcfppghgacDoor
