import Derived.Test.YtfbjedcfppghgacDoorDocQ
import Derived.Test.YtfbjedcfppghgacDoorPush
namespace Go.Proofs.YtfbjedcfppghgacDoor
open Go.ChangeShapes Go.WideShapes Go.ChangeAt Go.RowKit

/-! THE DOCUMENT'S Sight. -/

/-- 'append(out, y)' of numbers as a step of a region that draws its order. -/
theorem step_pushI {W : World} {ops : Array Oper} {o : Oper} {a : Act} {K : Act → World → Prop} {Q : Exit → Act → World → Prop} {E : Prop} {v : Value} {L : List Int} (B : Nat) (w00 : World) (g : Nat) (y : Int) (hown : OwnI W B v L) (hgd : o.guard = none) (s x : Operand)
    (ho : o.op = .call { callee := .builtin .append, args := #[s, x], argTypes := #[23, 23] }) (hs : a.eval s = v) (hx : a.eval x = .slice (some ⟨g, 0, none⟩) 1 1) (hcell : W.cell? ⟨g, 0, none⟩ = some (.int .i64 y)) (hlen : L.length < 8796093022208) (hbel : Below B w00 W) (hB : B ≤ W.heap.size)
    (h : ∀ v' w', OwnI w' B v' (L ++ [y]) → Below B w00 w' → K (a.put o.dst v') w') : if Region.wanted o (yielded ops a.tmps) = true then Oper.wp Tryd.prog o a W K Q else E := by
  have hw : Region.wanted o (yielded ops a.tmps) = true := by simp [Region.wanted, hgd]
  rw [if_pos hw]
  obtain ⟨i0, hi, hz0, hz1, hz2⟩ := info_parts Tryd.info3
  refine wp_append_own W s x 23 ho B 3 i0 (.int .i64 0) 1 8 Tryd.underlying23 hi hz0 hz1 hz2 rfl (by decide) v _ _ hs hown ⟨g, 0, none⟩ 1 1 [.int .i64 y] hx rfl ?_ ?_ ?_ ?_ hB ?_
  · intro j u hj
    match j, hj with
    | 0, hj =>
      simp at hj
      subst hj
      simpa [Addr.add] using hcell
  · intro u hu; simp at hu; subst hu; rfl
  · unfold maxLen; omega
  · omega
  · intro v' w' h1 h2 _
    exact h v' w' (OwnI.snoc h1) (hbel.grown h2 hB (ownI_blocks hown))

theorem OwnI.cast {w : World} {B : Nat} {v : Value} {L L' : List Int} (h : OwnI w B v L) (e : L = L') : OwnI w B v L' := e ▸ h
theorem take_push {L : List Int} {i : Nat} (h : i < L.length) {x : Int} (hx : x = L.getD i 0) : L.take i ++ [x] = L.take (i + 1) := by
  rw [List.take_succ_eq_append_getElem h, hx]
  simp [List.getD, h]

/-- Numbers within a bound. -/
def Within (l : List Int) (K : Nat) : Prop := ∀ j, -(K : Int) ≤ l.getD j 0 ∧ l.getD j 0 ≤ K
theorem fI_bd {K : Nat} {a b : Int} (ha : -(K : Int) ≤ a ∧ a ≤ K) (hb : -(K : Int) ≤ b ∧ b ≤ K) : -(K : Int) ≤ fI a b ∧ fI a b ≤ K := by
  unfold fI absI
  split <;> split <;> split <;> omega
theorem gI_bd {K : Nat} {x a b : Int} (ha : -(K : Int) ≤ a ∧ a ≤ K) (hb : -(K : Int) ≤ b ∧ b ≤ K) : -((2 * K : Nat) : Int) ≤ gI x a b ∧ gI x a b ≤ (2 * K : Nat) := by
  unfold gI
  split <;> omega
theorem fL_length {a b : List Int} {h : Nat} (ha : a.length = h) (hb : b.length = h) : (fL a b).length = h := by simp [fL, ha, hb]
theorem fL_at {a b : List Int} {h : Nat} (ha : a.length = h) (hb : b.length = h) {j : Nat} (hj : j < h) : (fL a b).getD j 0 = fI (a.getD j 0) (b.getD j 0) := by
  simp [fL, List.getD, ha, hb, hj]
theorem gL_length : ∀ {x a b : List Int} {h : Nat}, x.length = h → a.length = h → b.length = h → (gL x a b).length = h
  | [], [], [], _, h, _, _ => h
  | [], _ :: _, _, _, h1, h2, _ => by subst h1; simp at h2
  | [], [], _ :: _, _, h1, _, h2 => by subst h1; simp at h2
  | _ :: _, [], _, _, h1, h2, _ => by subst h1; simp at h2
  | _ :: _, _ :: _, [], _, h1, _, h2 => by subst h1; simp at h2
  | x :: xs, a :: al, b :: bl, h, h1, h2, h3 => by
    subst h1
    have := gL_length (x := xs) (a := al) (b := bl) (h := xs.length) rfl (by simpa using h2) (by simpa using h3)
    simp [gL, this]
theorem gL_at : ∀ {x a b : List Int} {h : Nat}, x.length = h → a.length = h → b.length = h → ∀ {j : Nat}, j < h → (gL x a b).getD j 0 = gI (x.getD j 0) (a.getD j 0) (b.getD j 0)
  | [], _, _, _, h1, _, _, j, hj => by subst h1; simp at hj
  | _ :: _, [], _, _, h1, h2, _, _, _ => by subst h1; simp at h2
  | _ :: _, _ :: _, [], _, h1, _, h2, _, _ => by subst h1; simp at h2
  | x :: xs, a :: al, b :: bl, h, h1, h2, h3, 0, _ => by simp [gL]
  | x :: xs, a :: al, b :: bl, h, h1, h2, h3, j + 1, hj => by
    subst h1
    have := gL_at (x := xs) (a := al) (b := bl) (h := xs.length) rfl (by simpa using h2) (by simpa using h3) (j := j) (by simpa using hj)
    simpa [gL] using this
theorem getD_out {l : List Int} {j : Nat} (h : l.length ≤ j) : l.getD j 0 = 0 := by simp [List.getD, h]
theorem within_f {a b : List Int} {h K : Nat} (ha : a.length = h) (hb : b.length = h) (wa : Within a K) (wb : Within b K) : Within (fL a b) K := fun j => by
  rcases Nat.lt_or_ge j h with hj | hj
  · rw [fL_at ha hb hj]; exact fI_bd (wa j) (wb j)
  · rw [getD_out (by rw [fL_length ha hb]; exact hj)]; omega
theorem within_g {x a b : List Int} {h K : Nat} (hx : x.length = h) (ha : a.length = h) (hb : b.length = h) (wa : Within a K) (wb : Within b K) : Within (gL x a b) (2 * K) := fun j => by
  rcases Nat.lt_or_ge j h with hj | hj
  · rw [gL_at hx ha hb hj]; exact gI_bd (wa j) (wb j)
  · rw [getD_out (by rw [gL_length hx ha hb]; exact hj)]; omega
theorem getD_take {l : List Int} {h j : Nat} (hj : j < h) : (l.take h).getD j 0 = l.getD j 0 := by simp [List.getD, hj]
theorem getD_drop {l : List Int} {h j : Nat} : (l.drop h).getD j 0 = l.getD (h + j) 0 := by simp [List.getD]
theorem Within.take {l : List Int} {K : Nat} (h : Within l K) (n : Nat) : Within (l.take n) K := fun j => by
  rcases Nat.lt_or_ge j n with hj | hj
  · rw [getD_take hj]; exact h j
  · rw [getD_out (by simp; omega)]; omega
theorem Within.drop {l : List Int} {K : Nat} (h : Within l K) (n : Nat) : Within (l.drop n) K := fun j => by
  rw [getD_drop]; exact h _

end Go.Proofs.YtfbjedcfppghgacDoor
