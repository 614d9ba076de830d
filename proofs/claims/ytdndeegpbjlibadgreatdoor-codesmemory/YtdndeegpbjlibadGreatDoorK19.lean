import Derived.Test.YtdndeegpbjlibadGreatDoorK17
import Derived.Test.YtdndeegpbjlibadGreatDoorK07
import Derived.Test.YtdndeegpbjlibadGreatDoorK05
import Derived.Test.YtdndeegpbjlibadGreatDoorK03
import Derived.Test.YtdndeegpbjlibadGreatDoorK06
import Derived.Test.YtdndeegpbjlibadGreatDoorK16
import Derived.Test.YtdndeegpbjlibadGreatDoorK04
import Derived.Maps.AppendAt
namespace Go.Proofs.YtdndeegpbjlibadGreatDoor
open Go.ChangeShapes Go.WideShapes Go.ChangeAt Go.RowKit

/-! THE DOCUMENT'S Power, Turn, Worth. -/

theorem addTo_addLN {xs ys : List Int} {n : Nat} (hx : xs.length = n) (hy : ys.length = n) : addTo xs ys n = addL xs ys := by
  refine List.ext_getElem (by simp [addTo, addL, hx, hy]) fun j h1 h2 => ?_
  have hj : j < n := by simpa [addTo] using h1
  simp [addTo, addL, List.getD, hx, hy, hj]


def noPow (n : Int) (j : Nat) : Prop := ∀ i, i < j → n ≠ ((2 ^ i : Nat) : Int)
theorem noPow_all {n : Int} (h : noPow n 10) : powI n = false := by
  cases hp : powI n with
  | false => rfl
  | true =>
    obtain ⟨m, hm, e⟩ := pow_of hp
    exact absurd e (h m (by omega))

theorem tab9 (k : Nat) (h : k < 9) : 1000 ≤ wTab.getD k 0 ∧ wTab.getD k 0 ≤ 4000 := by
  have : k = 0 ∨ k = 1 ∨ k = 2 ∨ k = 3 ∨ k = 4 ∨ k = 5 ∨ k = 6 ∨ k = 7 ∨ k = 8 := by omega
  rcases this with rfl | rfl | rfl | rfl | rfl | rfl | rfl | rfl | rfl <;> decide
theorem worthTo_bd (p : Nat) : ∀ k, k ≤ 9 → 0 ≤ worthTo p k ∧ worthTo p k ≤ 4000 * k
  | 0, _ => by simp [worthTo]
  | k + 1, h => by
    have ih := worthTo_bd p k (by omega)
    have t := tab9 k (by omega)
    rw [worthTo]
    split <;> omega
theorem worthI_bd (p : Nat) : 0 ≤ worthI p ∧ worthI p ≤ 36000 := worthTo_bd p 9 (Nat.le_refl _)

end Go.Proofs.YtdndeegpbjlibadGreatDoor

namespace Go.Proofs.YtdndeegpbjlibadGreatDoor
open Go.ChangeShapes Go.WideShapes Go.ChangeAt Go.RowKit

/-! THE DOCUMENT'S Places, Halved. -/

def placesTo (n k i : Nat) : List Int := ints ((List.range i).filter (isPlace n k))
theorem placesTo_yes {n k i : Nat} (h : isPlace n k i = true) : placesTo n k (i + 1) = placesTo n k i ++ [(i : Int)] := by
  unfold placesTo ints
  rw [List.range_succ, List.filter_append, List.map_append]
  simp [h]
theorem placesTo_no {n k i : Nat} (h : isPlace n k i = false) : placesTo n k (i + 1) = placesTo n k i := by
  unfold placesTo ints
  rw [List.range_succ, List.filter_append, List.map_append]
  simp [h]
theorem placesTo_le (n k i : Nat) : (placesTo n k i).length ≤ i := by
  unfold placesTo
  rw [ints_length]
  have := List.length_filter_le (isPlace n k) (List.range i)
  simpa using this

theorem betterTo_le (i m : Nat) : betterTo i m ≤ m := by
  unfold betterTo
  have := List.length_filter_le (fun j => btr j i) (List.range m)
  simpa using this
theorem bthenB {B : Nat} {w w1 w2 : World} (h1 : Below B w w1) (h2 : Below w1.heap.size w1 w2) (hB : B ≤ w1.heap.size) : Below B w w2 := h1.trans (h2.mono hB)

/-- A list of numbers of one's own, as a slice. -/
theorem OwnI.slice {w : World} {B : Nat} {v : Value} {L : List Int} {k : Nat} (h : OwnI w B v L) (hk : L.length = k) : ∃ a c, v = .slice a k c ∧ k ≤ c ∧ c ≤ maxLen ∧ Rd .i64 w a L ∧ (∀ g o, a = some ⟨g, o, none⟩ → B ≤ g) := by
  obtain ⟨a, c, rfl, h1, h2⟩ := h.shape
  subst hk
  refine ⟨a, c, rfl, h1, h2, h.rd, ?_⟩
  rintro g o rfl
  exact ownI_blocks h g rfl
theorem places_at {n k i : Nat} (hk : k ≤ n) (hi : i < k) : (placesM n k).getD i 0 < n := by
  have hl := places_length hk
  have e : (placesM n k).getD i 0 = (placesM n k)[i] := by simp [List.getD, hl, hi]
  rw [e]
  exact places_lt (List.getElem_mem _)

end Go.Proofs.YtdndeegpbjlibadGreatDoor

namespace Go.Proofs.YtdndeegpbjlibadGreatDoor
open Go.ChangeShapes Go.WideShapes Go.ChangeAt Go.RowKit

/-! THE DOCUMENT'S Sight. -/

/-- 'append(out, y)' of numbers as a step of a region that draws its order. -/
theorem step_pushI {W : World} {ops : Array Oper} {o : Oper} {a : Act} {K : Act → World → Prop} {Q : Exit → Act → World → Prop} {E : Prop} {v : Value} {L : List Int} (B : Nat) (w00 : World) (g : Nat) (y : Int) (hown : OwnI W B v L) (hgd : o.guard = none) (s x : Operand)
    (ho : o.op = .call { callee := .builtin .append, args := #[s, x], argTypes := #[23, 23] }) (hs : a.eval s = v) (hx : a.eval x = .slice (some ⟨g, 0, none⟩) 1 1) (hcell : W.cell? ⟨g, 0, none⟩ = some (.int .i64 y)) (hlen : L.length < 8796093022208) (hbel : Below B w00 W) (hB : B ≤ W.heap.size)
    (h : ∀ v' w', OwnI w' B v' (L ++ [y]) → Below B w00 w' → K (a.put o.dst v') w') : if Region.wanted o (yielded ops a.tmps) = true then Oper.wp Tryz.prog o a W K Q else E := by
  have hw : Region.wanted o (yielded ops a.tmps) = true := by simp [Region.wanted, hgd]
  rw [if_pos hw]
  obtain ⟨i0, hi, hz0, hz1, hz2⟩ := info_parts Tryz.info3
  refine wp_append_own W s x 23 ho B 3 i0 (.int .i64 0) 1 8 Tryz.underlying23 hi hz0 hz1 hz2 rfl (by decide) v _ _ hs hown ⟨g, 0, none⟩ 1 1 [.int .i64 y] hx rfl ?_ ?_ ?_ ?_ hB ?_
  · intro j u hj
    match j, hj with
    | 0, hj =>
      simp at hj
      subst hj
      simpa [Addr.add] using hcell
  · intro u hu; simp at hu; subst hu; rfl
  · unfold maxLen; omega
  · omega
  · intro v' w' h1 h2 _
    exact h v' w' (OwnI.snoc h1) (hbel.grown h2 hB (ownI_blocks hown))

theorem OwnI.cast {w : World} {B : Nat} {v : Value} {L L' : List Int} (h : OwnI w B v L) (e : L = L') : OwnI w B v L' := e ▸ h
theorem take_push {L : List Int} {i : Nat} (h : i < L.length) {x : Int} (hx : x = L.getD i 0) : L.take i ++ [x] = L.take (i + 1) := by
  rw [List.take_succ_eq_append_getElem h, hx]
  simp [List.getD, h]

/-- Numbers within a bound. -/
def Within (l : List Int) (K : Nat) : Prop := ∀ j, -(K : Int) ≤ l.getD j 0 ∧ l.getD j 0 ≤ K
theorem fI_bd {K : Nat} {a b : Int} (ha : -(K : Int) ≤ a ∧ a ≤ K) (hb : -(K : Int) ≤ b ∧ b ≤ K) : -(K : Int) ≤ fI a b ∧ fI a b ≤ K := by
  unfold fI absI
  split <;> split <;> split <;> omega
theorem gI_bd {K : Nat} {x a b : Int} (ha : -(K : Int) ≤ a ∧ a ≤ K) (hb : -(K : Int) ≤ b ∧ b ≤ K) : -((2 * K : Nat) : Int) ≤ gI x a b ∧ gI x a b ≤ (2 * K : Nat) := by
  unfold gI
  split <;> omega
theorem fL_length {a b : List Int} {h : Nat} (ha : a.length = h) (hb : b.length = h) : (fL a b).length = h := by simp [fL, ha, hb]
theorem fL_at {a b : List Int} {h : Nat} (ha : a.length = h) (hb : b.length = h) {j : Nat} (hj : j < h) : (fL a b).getD j 0 = fI (a.getD j 0) (b.getD j 0) := by
  simp [fL, List.getD, ha, hb, hj]
theorem gL_length : ∀ {x a b : List Int} {h : Nat}, x.length = h → a.length = h → b.length = h → (gL x a b).length = h
  | [], [], [], _, h, _, _ => h
  | [], _ :: _, _, _, h1, h2, _ => by subst h1; simp at h2
  | [], [], _ :: _, _, h1, _, h2 => by subst h1; simp at h2
  | _ :: _, [], _, _, h1, h2, _ => by subst h1; simp at h2
  | _ :: _, _ :: _, [], _, h1, _, h2 => by subst h1; simp at h2
  | x :: xs, a :: al, b :: bl, h, h1, h2, h3 => by
    subst h1
    have := gL_length (x := xs) (a := al) (b := bl) (h := xs.length) rfl (by simpa using h2) (by simpa using h3)
    simp [gL, this]
theorem gL_at : ∀ {x a b : List Int} {h : Nat}, x.length = h → a.length = h → b.length = h → ∀ {j : Nat}, j < h → (gL x a b).getD j 0 = gI (x.getD j 0) (a.getD j 0) (b.getD j 0)
  | [], _, _, _, h1, _, _, j, hj => by subst h1; simp at hj
  | _ :: _, [], _, _, h1, h2, _, _, _ => by subst h1; simp at h2
  | _ :: _, _ :: _, [], _, h1, _, h2, _, _ => by subst h1; simp at h2
  | x :: xs, a :: al, b :: bl, h, h1, h2, h3, 0, _ => by simp [gL]
  | x :: xs, a :: al, b :: bl, h, h1, h2, h3, j + 1, hj => by
    subst h1
    have := gL_at (x := xs) (a := al) (b := bl) (h := xs.length) rfl (by simpa using h2) (by simpa using h3) (j := j) (by simpa using hj)
    simpa [gL] using this
theorem getD_out {l : List Int} {j : Nat} (h : l.length ≤ j) : l.getD j 0 = 0 := by simp [List.getD, h]
theorem within_f {a b : List Int} {h K : Nat} (ha : a.length = h) (hb : b.length = h) (wa : Within a K) (wb : Within b K) : Within (fL a b) K := fun j => by
  rcases Nat.lt_or_ge j h with hj | hj
  · rw [fL_at ha hb hj]; exact fI_bd (wa j) (wb j)
  · rw [getD_out (by rw [fL_length ha hb]; exact hj)]; omega
theorem within_g {x a b : List Int} {h K : Nat} (hx : x.length = h) (ha : a.length = h) (hb : b.length = h) (wa : Within a K) (wb : Within b K) : Within (gL x a b) (2 * K) := fun j => by
  rcases Nat.lt_or_ge j h with hj | hj
  · rw [gL_at hx ha hb hj]; exact gI_bd (wa j) (wb j)
  · rw [getD_out (by rw [gL_length hx ha hb]; exact hj)]; omega
theorem getD_take {l : List Int} {h j : Nat} (hj : j < h) : (l.take h).getD j 0 = l.getD j 0 := by simp [List.getD, hj]
theorem getD_drop {l : List Int} {h j : Nat} : (l.drop h).getD j 0 = l.getD (h + j) 0 := by simp [List.getD]
theorem Within.take {l : List Int} {K : Nat} (h : Within l K) (n : Nat) : Within (l.take n) K := fun j => by
  rcases Nat.lt_or_ge j n with hj | hj
  · rw [getD_take hj]; exact h j
  · rw [getD_out (by simp; omega)]; omega
theorem Within.drop {l : List Int} {K : Nat} (h : Within l K) (n : Nat) : Within (l.drop n) K := fun j => by
  rw [getD_drop]; exact h _

end Go.Proofs.YtdndeegpbjlibadGreatDoor

namespace Go.Proofs.YtdndeegpbjlibadGreatDoor
open Go.ChangeShapes Go.WideShapes Go.ChangeAt Go.RowKit

theorem Own.slice {w : World} {B : Nat} {v : Value} {L : List Int} {k : Nat} (h : Own w B v L) (hk : L.length = k) : ∃ a c, v = .slice a k c ∧ k ≤ c ∧ c ≤ maxLen ∧ Rd .u8 w a L ∧ (∀ g o, a = some ⟨g, o, none⟩ → B ≤ g) := by
  obtain ⟨a, c, rfl, -, h1, h2⟩ := h.shape
  subst hk
  refine ⟨a, c, rfl, h1, h2, h.rd, ?_⟩
  rintro g o rfl
  exact own_blocks h g rfl

end Go.Proofs.YtdndeegpbjlibadGreatDoor

namespace Go.Proofs.YtdndeegpbjlibadGreatDoor
open Go.ChangeShapes Go.WideShapes Go.ChangeAt Go.RowKit

/-! THE DOCUMENT'S Found: two lists that grow beside each other. -/

def Apart (v u : Value) : Prop := ∀ k, v.ownBlock = some k → u.ownBlock ≠ some k
theorem Apart.symm {v u : Value} (h : Apart v u) : Apart u v := fun k hk hv => h k hv hk
theorem Own.grow {w w' : World} {B : Nat} {u : Value} {M : List Int} {row : Option Nat} (h : Own w B u M) (hg : w.grownBy w' row) (hr : ∀ k, row = some k → u.ownBlock ≠ some k) : Own w' B u M := by
  refine ⟨h.1, ?_⟩
  rcases h.2 with h' | ⟨g, cap, cur, h1, h2, h3, h4⟩
  · exact .inl h'
  · have hlt : g < w.heap.size := by
      rcases Nat.lt_or_ge g w.heap.size with hl | hl
      · exact hl
      · rw [Array.getElem?_eq_none hl] at h3; cases h3
    refine .inr ⟨g, cap, cur, h1, h2, (hg.block g hlt (fun e => hr g e.symm ?_)).trans h3, h4⟩
    rw [h1]; rfl

/-- 'out = append(out, y)' beside another list of one's own. -/
theorem wpList_pushA {ops : Array Oper} {rest : List Oper} {o : Oper} {a : Act} {Q : Exit → Act → World → Prop} {w0 : World} {v u : Value} {L M : List Int} (B : Nat) (w00 : World) (y : Int) (hown : Own w0 B v L) (hoth : Own w0 B u M) (hap : Apart v u) (hgd : o.guard = none) (s x : Operand)
    (ho : o.op = .call { callee := .builtin .append, args := #[s, x], argTypes := #[22, 22] }) (hs : a.eval s = v)
    (hx : a.eval x = .slice (some ⟨w0.heap.size, 0, none⟩) 1 1) (hlen : L.length < 70368744177664) (hbel : Below B w00 w0) (hB : B ≤ w0.heap.size)
    (h : ∀ v' w', Own w' B v' (L ++ [y]) → Own w' B u M → Apart v' u → Below B w00 w' → wpList Tryz.prog ops Q rest (a.put o.dst v') w') : wpList Tryz.prog ops Q (o :: rest) a (w0.alloc (.cells #[.int .u8 y] 5)) := by
  obtain ⟨i0, hi, hz0, hz1, hz2⟩ := info_parts Tryz.info5
  refine wpList_append_own_at _ hgd s x 22 ho B 5 i0 (.int .u8 0) 1 1 Tryz.underlying22 hi hz0 hz1 hz2 rfl (by decide) v _ _ hs (World.ownsRow.alloc hown _) ⟨w0.heap.size, 0, none⟩ 1 1 [.int .u8 y] hx rfl (cell_one_new _ _ _) ?_ ?_ ?_ ?_ ?_
  · intro u hu; simp at hu; subst hu; rfl
  · unfold maxLen; omega
  · omega
  · simp; omega
  · intro v' w' h1 h2 _ h4
    have hoth1 : Own (w0.alloc (.cells #[.int .u8 y] 5)) B u M := World.ownsRow.alloc hoth _
    refine h v' w' (Own.snoc h1) (hoth1.grow h2 (fun k hk => hap k hk)) ?_ ((hbel.alloc hB _).grown h2 (by simp; omega) (own_blocks hown))
    intro k hk
    rcases h4 with h4 | h4
    · exact hap k (h4.symm.trans hk)
    · intro hu
      have hlt := (hoth.lt k hu).2
      have : k = (w0.alloc (.cells #[.int .u8 y] 5)).heap.size := Option.some.inj (hk.symm.trans h4)
      simp at this
      omega

/-- Which places are open. -/
def openM (n k : Nat) : List Bool := (List.range n).map (isPlace n k)
theorem open_at {n k i : Nat} (h : i < n) : (openM n k).getD i false = isPlace n k i := by simp [openM, List.getD, h]
def readTo (n k : Nat) (U : List Int) (i : Nat) : List Int := readM ((List.range i).filter (isPlace n k)) U
theorem readTo_length (n k : Nat) (U : List Int) (i : Nat) : (readTo n k U i).length = cntM (isPlace n k) i := by simp [readTo, readM, cntM]
theorem readTo_yes {n k i : Nat} {U : List Int} (h : isPlace n k i = true) : readTo n k U (i + 1) = readTo n k U i ++ [U.getD i 0] := by
  unfold readTo readM
  rw [List.range_succ, List.filter_append, List.map_append]
  simp [h]
theorem readTo_no {n k i : Nat} {U : List Int} (h : isPlace n k i = false) : readTo n k U (i + 1) = readTo n k U i := by
  unfold readTo readM
  rw [List.range_succ, List.filter_append, List.map_append]
  simp [h]
theorem cnt_le (q : Nat → Bool) (i : Nat) : cntM q i ≤ i := by
  unfold cntM
  have := List.length_filter_le q (List.range i)
  simpa using this

end Go.Proofs.YtdndeegpbjlibadGreatDoor
