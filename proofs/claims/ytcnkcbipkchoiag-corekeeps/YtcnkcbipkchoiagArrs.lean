import Derived.Test.YtcnkcbipkchoiagOwn
namespace Go.Proofs.Ytcnkcbipkchoiag
open Go.ChangeShapes Go.WideShapes Go.ChangeAt Go.RowKit

/-- Numbers that fill a block. -/
def ArrAt (k : IntKind) (T : TypeId) (w : World) (g : Nat) (L : List Int) : Prop := w.heap[g]? = some (.cells (L.map (Value.int k)).toArray T (0, 0))
theorem ArrAt.cell {k : IntKind} {T : TypeId} {w : World} {g : Nat} {L : List Int} (h : ArrAt k T w g L) {j : Nat} (hj : j < L.length) : w.cell? ⟨g, j, none⟩ = some (.int k (L.getD j 0)) := by
  rw [cell_of_row w g j _ T (0, 0) h]
  simp [List.getD, hj]
theorem ArrAt.free {k : IntKind} {T : TypeId} {w : World} {g : Nat} {L : List Int} (h : ArrAt k T w g L) (j : Nat) : w.frozen? ⟨g, j, none⟩ = false := frozen_of_row w g j _ T h
theorem ArrAt.set {k : IntKind} {T : TypeId} {w : World} {g : Nat} {L : List Int} (h : ArrAt k T w g L) (j : Nat) (x : Int) : ArrAt k T (w.setCell ⟨g, j, none⟩ (.int k x)) g (L.set j x) := by
  unfold ArrAt
  rw [heap_setCell_same w g j _ T _ h, List.map_set]
  simp
theorem ArrAt.other {k : IntKind} {T : TypeId} {w : World} {g : Nat} {L : List Int} (h : ArrAt k T w g L) (p : Addr) (v : Value) (hp : g ≠ p.block) : ArrAt k T (w.setCell p v) g L := by
  unfold ArrAt
  rw [heap_setCell_other w p g v hp]
  exact h
theorem ArrAt.below {k : IntKind} {T : TypeId} {w w' : World} {g B : Nat} {L : List Int} (h : ArrAt k T w g L) (hb : Below B w w') (hg : g < B) : ArrAt k T w' g L := (hb.block g hg).trans h
theorem ArrAt.lt {k : IntKind} {T : TypeId} {w : World} {g : Nat} {L : List Int} (h : ArrAt k T w g L) : g < w.heap.size := by
  rcases Nat.lt_or_ge g w.heap.size with e | e
  · exact e
  · have : w.heap[g]? = none := Array.getElem?_eq_none e
    unfold ArrAt at h
    rw [this] at h; cases h
theorem ArrAt.alloc {k : IntKind} {T : TypeId} {w : World} {g : Nat} {L : List Int} (h : ArrAt k T w g L) (o : Obj) : ArrAt k T (w.alloc o) g L := (Below.heap_alloc w o g h.lt).trans h
theorem ArrAt.rd {k : IntKind} {T : TypeId} {w : World} {g : Nat} {A x Z : List Int} (h : ArrAt k T w g (A ++ x ++ Z)) {o : Nat} (ho : o = A.length) : Rd k w (some ⟨g, o, none⟩) x := by
  subst ho
  intro _
  refine ⟨g, A.length, rfl, fun j hj => ?_⟩
  rw [h.cell (by simp; omega)]
  have e : (A ++ x ++ Z).getD (A.length + j) 0 = x.getD j 0 := by
    unfold List.getD
    rw [List.append_assoc, List.getElem?_append_right (by omega), Nat.add_sub_cancel_left, List.getElem?_append_left hj]
  rw [e]
theorem arr_new (k : IntKind) (T : TypeId) (w : World) (L : List Int) : ArrAt k T (w.alloc (.cells (L.map (Value.int k)).toArray T)) w.heap.size L := heap_alloc_new w _
theorem Own.arr {w : World} {B g N : Nat} {L : List Int} (h : Own w B (.slice (some ⟨g, 0, none⟩) N N) L) : ArrAt .u8 5 w g L ∧ B ≤ g ∧ N ≤ maxLen := by
  have hl := h.len
  rcases h.2 with ⟨h', _⟩ | ⟨g', cap, cur, h', hB, hg, _, hm, hcs, ht⟩
  · simp at h'
  · simp only [Value.slice.injEq, Option.some.injEq, Addr.mk.injEq, and_true] at h'
    obtain ⟨rfl, _, rfl⟩ := h'
    refine ⟨?_, hB, hm⟩
    unfold ArrAt
    rw [hg, ← ht, List.take_of_length_le (by simp; omega)]
theorem own_of_arr {w : World} {B g N : Nat} {L : List Int} (hg : ArrAt .u8 5 w g L) (hB : B ≤ g) (hl : L.length = N) (hm : N ≤ maxLen) : Own w B (.slice (some ⟨g, 0, none⟩) N N) L := by
  subst hl
  exact ⟨by simp, .inr ⟨g, _, _, rfl, hB, hg, Nat.le_refl _, hm, by simp, List.take_of_length_le (by simp)⟩⟩

/-- But for the blocks of S the world is as it was. -/
structure Kept (S : List Nat) (w w' : World) : Prop where
  os : w'.os = w.os
  tape : w'.tape = w.tape
  output : w'.output = w.output
  size : w.heap.size ≤ w'.heap.size
  block : ∀ k, k < w.heap.size → k ∉ S → w'.heap[k]? = w.heap[k]?
theorem Kept.refl (S : List Nat) (w : World) : Kept S w w := ⟨rfl, rfl, rfl, Nat.le_refl _, fun _ _ _ => rfl⟩
theorem Kept.trans {S : List Nat} {a b c : World} (h : Kept S a b) (k : Kept S b c) : Kept S a c :=
  ⟨k.os.trans h.os, k.tape.trans h.tape, k.output.trans h.output, Nat.le_trans h.size k.size, fun i hi hn => (k.block i (Nat.lt_of_lt_of_le hi h.size) hn).trans (h.block i hi hn)⟩
theorem Kept.wider {S S' : List Nat} {a b : World} (h : Kept S a b) (hs : ∀ x ∈ S, x ∈ S') : Kept S' a b := ⟨h.os, h.tape, h.output, h.size, fun i hi hn => h.block i hi (fun e => hn (hs i e))⟩
theorem Kept.drew {S : List Nat} {a w : World} (h : Kept S a w) : Kept S a w.drew := ⟨h.os, h.tape, h.output, h.size, h.block⟩
theorem Kept.drewN {S : List Nat} {a w : World} (h : Kept S a w) (n : Nat) : Kept S a (w.drewN n) := ⟨h.os, h.tape, h.output, h.size, h.block⟩
theorem Kept.setCell {S : List Nat} {a w : World} (h : Kept S a w) {p : Addr} (hp : p.block ∈ S) (u : Value) : Kept S a (w.setCell p u) :=
  h.trans ⟨rfl, rfl, rfl, by simp [World.setCell], fun k _ hk => Below.heap_setCell _ _ _ _ (fun e => hk (e ▸ hp))⟩
theorem Kept.alloc {S : List Nat} {a w : World} (h : Kept S a w) (o : Obj) : Kept S a (w.alloc o) := h.trans ⟨rfl, rfl, rfl, by simp, fun k hk _ => Below.heap_alloc _ _ _ hk⟩
theorem Kept.of_below {S : List Nat} {a b : World} (h : Below a.heap.size a b) : Kept S a b := ⟨h.os, h.tape, h.output, h.size, fun k hk _ => h.block k hk⟩
theorem Kept.below {S : List Nat} {a b : World} (h : Kept S a b) {B : Nat} (hB : B ≤ a.heap.size) (hs : ∀ x ∈ S, B ≤ x) : Below B a b := ⟨h.os, h.tape, h.output, h.size, fun k hk => h.block k (by omega) (fun e => by have := hs k e; omega)⟩
theorem Kept.rd {S : List Nat} {a b : World} (h : Kept S a b) {k : IntKind} {ad : Option Addr} {zs : List Int} (hr : Rd k a ad zs) (hs : ∀ g o, ad = some ⟨g, o, none⟩ → g ∉ S) : Rd k b ad zs := by
  intro hne
  obtain ⟨g, o, rfl, hc⟩ := hr hne
  refine ⟨g, o, rfl, fun j hj => ?_⟩
  have hlt := World.block_lt_of_cell? a _ (hc j hj)
  rw [← hc j hj]
  have := h.block g hlt (hs g o rfl)
  simp only [World.cell?, this]
theorem ArrAt.kept {k : IntKind} {T : TypeId} {S : List Nat} {w w' : World} {g : Nat} {L : List Int} (h : ArrAt k T w g L) (hk : Kept S w w') (hg : g ∉ S) : ArrAt k T w' g L := (hk.block g h.lt hg).trans h

end Go.Proofs.Ytcnkcbipkchoiag
