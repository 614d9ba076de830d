import Derived.Test.YtmdfjhnibhmdkafDoorSt03
import Derived.Test.YtmdfjhnibhmdkafDoorSt11
import Derived.Test.YtmdfjhnibhmdkafDoorSt13
import Derived.OwnWalk
import Derived.Deep.CutRange
import Derived.Deep.MidRow
namespace Go.Proofs.YtmdfjhnibhmdkafDoor
open Go.ChangeShapes Go.WideShapes Go.ChangeAt Go.RowKit
theorem keptNoneD {S : List Nat} {w w' : World} (h : w.grownBy w' none) : Kept S w w' := ⟨h.os, h.tape, h.output, h.size, fun k hk _ => h.block k hk (by simp)⟩
theorem kept_grownD {w w' : World} {g : Nat} (h : w.grownBy w' (some g)) : Kept [g] w w' := ⟨h.os, h.tape, h.output, h.size, fun k hk hn => h.block k hk (fun e => hn (by simpa using e))⟩
theorem Kept.cellD {S : List Nat} {a b : World} (h : Kept S a b) {p : Addr} {v : Value} (hc : a.cell? p = some v) (hn : p.block ∉ S) : b.cell? p = some v := (World.cell?_of_block (h.block p.block (World.block_lt_of_cell? a _ hc) hn)).trans hc
theorem cell_grownD {w w' : World} {row : Option Nat} {p : Addr} {v : Value} (h : w.cell? p = some v) (hg : w.grownBy w' row) (hr : ∀ g, row = some g → p.block ≠ g) : w'.cell? p = some v := by
  have hb := hg.block p.block (World.block_lt_of_cell? w _ h) (fun e => hr _ e.symm rfl)
  rw [← h]
  exact World.cell?_of_block (w := w) hb
theorem own_blockD {w : World} {B d : Nat} {e : TypeId} {v : Value} {n : Nat} {xs : List Value} (h : w.ownsRow B e d v n xs) : v = .slice none 0 0 ∨ ∃ g cap cur, v = .slice (some ⟨g, 0, none⟩) n cap ∧ B ≤ g ∧ w.heap[g]? = some (.cells cur e (0, 0)) ∧ n ≤ cap ∧ cap ≤ maxLen ∧ cur.size = cap * d := by
  rcases h.2 with ⟨e1, _⟩ | ⟨g, cap, cur, h1, h2, h3, h4, h5, h6, _⟩
  · exact .inl e1
  · exact .inr ⟨g, cap, cur, h1, h2, h3, h4, h5, h6⟩
theorem own_of_blockD {w : World} {B d : Nat} {e : TypeId} {g n cap : Nat} {cur : Array Value} (hB : B ≤ g) (h : w.heap[g]? = some (.cells cur e (0, 0))) (hn : n ≤ cap) (hm : cap ≤ maxLen) (hs : cur.size = cap * d) : w.ownsRow B e d (.slice (some ⟨g, 0, none⟩) n cap) n (cur.toList.take (n * d)) :=
  ⟨by rw [List.length_take, Array.length_toList, hs]; exact Nat.min_eq_left (Nat.mul_le_mul_right d hn), .inr ⟨g, cap, cur, rfl, hB, h, hn, hm, hs, rfl⟩⟩
theorem there_blockD {w : World} {d : Nat} {e : TypeId} {g i cap : Nat} {cur : Array Value} (h : w.heap[g]? = some (.cells cur e (0, 0))) (hs : cur.size = cap * d) (hi : i < cap) : w.there g (i * d) d := fun j hj => by
  refine ⟨?_, frozen_of_row w g _ _ _ h⟩
  have hle : (i + 1) * d ≤ cap * d := Nat.mul_le_mul_right d hi
  rw [Nat.add_mul, Nat.one_mul] at hle
  have hlt : i * d + j < cur.size := by rw [hs]; omega
  rw [cell_of_row _ _ _ _ _ _ h, Array.getElem?_eq_getElem hlt]
  rfl
theorem set_cellsD {e : TypeId} {g : Nat} : ∀ (us : List Value) (o : Nat) (w : World) (cur : Array Value), w.heap[g]? = some (.cells cur e (0, 0)) → ∃ cur' : Array Value, (w.setCells g o us).heap[g]? = some (.cells cur' e (0, 0)) ∧ cur'.size = cur.size
  | [], _, _, cur, h => ⟨cur, h, rfl⟩
  | u :: us, o, w, cur, h => by
    obtain ⟨c, h1, h2⟩ := set_cellsD us (o + 1) (w.setCell ⟨g, o, none⟩ u) _ (heap_setCell_same w g o _ _ u h)
    exact ⟨c, h1, h2.trans (by simp)⟩
theorem Kept.setCellsD {S : List Nat} {g : Nat} (hg : g ∈ S) : ∀ (us : List Value) (o : Nat) {a w : World}, Kept S a w → Kept S a (w.setCells g o us)
  | [], _, _, _, h => h
  | u :: us, o, _, _, h => Kept.setCellsD hg us (o + 1) (h.setCell (p := ⟨g, o, none⟩) hg u)
theorem marks_newD (L : List Value) (T : TypeId) (w : World) : ∀ (j : Nat) (u : Value), L[j]? = some u → (w.alloc (.cells L.toArray T)).cell? ((⟨w.heap.size, 0, none⟩ : Addr).add j) = some u := fun j u hu => by
  rw [Addr.add_lit, cell_of_row _ _ _ _ _ _ (heap_alloc_new w _), Nat.zero_add]
  simpa using hu
end Go.Proofs.YtmdfjhnibhmdkafDoor
