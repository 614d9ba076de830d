import Derived.Test.YtiiobeelmnjffabDoorEnc
namespace Go.Proofs.YtiiobeelmnjffabDoor
open Go.ChangeShapes Go.WideShapes Go.ChangeAt Go.RowKit

/-- An array of numbers that lies in a block. -/
def ArrAt (k : IntKind) (T : TypeId) (w : World) (g : Nat) (L : List Int) : Prop := w.heap[g]? = some (.cells (L.map (Value.int k)).toArray T (0, 0))

theorem ArrAt.cell {k : IntKind} {T : TypeId} {w : World} {g : Nat} {L : List Int} (h : ArrAt k T w g L) {j : Nat} (hj : j < L.length) : w.cell? ⟨g, j, none⟩ = some (.int k (L.getD j 0)) := by
  rw [cell_of_row w g j _ T (0, 0) h]
  simp [List.getD, hj]
theorem ArrAt.free {k : IntKind} {T : TypeId} {w : World} {g : Nat} {L : List Int} (h : ArrAt k T w g L) (j : Nat) : w.frozen? ⟨g, j, none⟩ = false := frozen_of_row w g j _ T h
theorem ArrAt.set {k : IntKind} {T : TypeId} {w : World} {g : Nat} {L : List Int} (h : ArrAt k T w g L) (j : Nat) (x : Int) : ArrAt k T (w.setCell ⟨g, j, none⟩ (.int k x)) g (L.set j x) := by
  unfold ArrAt
  rw [heap_setCell_same w g j _ T _ h, List.map_set]
  simp
theorem ArrAt.other {k : IntKind} {T : TypeId} {w : World} {g : Nat} {L : List Int} (h : ArrAt k T w g L) (p : Addr) (v : Value) (hp : g ≠ p.block) : ArrAt k T (w.setCell p v) g L := by
  unfold ArrAt
  rw [heap_setCell_other w p g v hp]
  exact h
theorem ArrAt.below {k : IntKind} {T : TypeId} {w w' : World} {g B : Nat} {L : List Int} (h : ArrAt k T w g L) (hb : Below B w w') (hg : g < B) : ArrAt k T w' g L := (hb.block g hg).trans h
theorem ArrAt.lt {k : IntKind} {T : TypeId} {w : World} {g : Nat} {L : List Int} (h : ArrAt k T w g L) : g < w.heap.size := by
  rcases Nat.lt_or_ge g w.heap.size with e | e
  · exact e
  · have : w.heap[g]? = none := Array.getElem?_eq_none e
    unfold ArrAt at h
    rw [this] at h; cases h
theorem ArrAt.alloc {k : IntKind} {T : TypeId} {w : World} {g : Nat} {L : List Int} (h : ArrAt k T w g L) (o : Obj) : ArrAt k T (w.alloc o) g L := (Below.heap_alloc w o g h.lt).trans h
theorem arr_new (k : IntKind) (T : TypeId) (w : World) (L : List Int) : ArrAt k T (w.alloc (.cells (L.map (Value.int k)).toArray T)) w.heap.size L := heap_alloc_new w _
theorem below_setRow {B : Nat} {a w : World} (h : Below B a w) {g : Nat} (hg : B ≤ g) (cs : Array Value) : Below B a (w.setRow g cs) :=
  h.trans ⟨rfl, rfl, rfl, by simp, fun k hk => setRow_other w g k cs (by omega)⟩

def wordsTo (n : Nat) : List Int := (List.range 64).map fun S => if S < n then wordI (2 * (S : Int)) else 0
theorem wordsTo_length (n : Nat) : (wordsTo n).length = 64 := by simp [wordsTo]
theorem wordsTo_set (n : Nat) : (wordsTo n).set n (wordI (2 * (n : Int))) = wordsTo (n + 1) := by
  refine List.ext_getElem (by simp [wordsTo]) fun j h1 h2 => ?_
  rw [List.getElem_set]
  simp only [wordsTo, List.getElem_map, List.getElem_range]
  by_cases hj : n = j
  · subst hj; simp
  · rw [if_neg hj]
    by_cases h : j < n
    · rw [if_pos h, if_pos (by omega)]
    · rw [if_neg h, if_neg (by omega)]
theorem wordsTo_at (S : Nat) (h : S < 64) : (wordsTo 64).getD S 0 = wordI (2 * (S : Int)) := by simp [wordsTo, List.getD, h]

set_option maxRecDepth 100000 in
set_option maxHeartbeats 1000000 in
theorem words_any (w : World) (hT : Taps w) :
    Calls Tryd.prog 25 #[] w fun e w' => e = .returned (.agg ((wordsTo 64).map (Value.int .u64)).toArray) ∧ Below w.heap.size w w' := by
  go_enter Tryd.func25, Tryd.ntmps25
  go_wp2
  have hsz : w.heap.size < w.heap.size + 1 := by omega
  go_loopw [3] (fun q wr => ∃ S : Nat, S ≤ 64 ∧ q = .int .i64 S ∧ ArrAt .u64 57 wr w.heap.size (List.replicate 64 0) ∧ ArrAt .u64 57 wr (w.heap.size + 1) (wordsTo S) ∧ Below w.heap.size w wr) (fun q _ => 64 - (intOf q).toNat)
  case atStart =>
    refine ⟨0, by omega, rfl, ?_, ?_, ?_⟩
    · exact (Below.heap_alloc _ _ w.heap.size (by simp)).trans (heap_alloc_new w _)
    · have := heap_alloc_new (w.alloc (.cells ((List.replicate 64 (0 : Int)).map (Value.int .u64)).toArray 57)) (.cells ((List.replicate 64 (0 : Int)).map (Value.int .u64)).toArray 57)
      have e : (w.alloc (.cells ((List.replicate 64 (0 : Int)).map (Value.int .u64)).toArray 57)).heap.size = w.heap.size + 1 := by simp
      rw [e] at this
      exact this
    · exact (((Below.refl _ _).alloc (Nat.le_refl _) _).alloc (by simp) _)
  case round =>
    obtain ⟨S, hS, rfl, hA, hB, hbel⟩ := hrel
    by_cases hlt : S < 64
    · have hc := hB.cell (j := S) (by rw [wordsTo_length]; exact hlt)
      have hf := hB.free S
      have hT' := hT.below hbel
      have hset := hB.set S (wordI (2 * (S : Int)))
      rw [wordsTo_set] at hset
      have hA' := hA.other ⟨w.heap.size + 1, S, none⟩ (.int .u64 (wordI (2 * (S : Int)))) (by show w.heap.size ≠ w.heap.size + 1; omega)
      have hbel' := hbel.setCell (p := ⟨w.heap.size + 1, S, none⟩) (by show w.heap.size ≤ w.heap.size + 1; omega) (.int .u64 (wordI (2 * (S : Int))))
      clear hA hB hbel
      have hw := wordI_bd (2 * (S : Int))
      have HE1 := hid (show (S : Int) * 2 = ((2 * S : Nat) : Int) by omega)
      have HE2 := hid (show ((2 * S : Nat) : Int) = 2 * (S : Int) by omega)
      go_wp2_with (first | (go_at_call 20; rw [HE1.out]; refine (word_any (2 * S) (by omega) _ hT').mono ?_; rintro e w' ⟨rfl, rfl⟩; rw [HE2.out]))
      go_roundw
      case rel => exact ⟨S + 1, by omega, by go_num, hA', hset, hbel'⟩
      case measure => simp [intOf]; omega
    · obtain rfl : S = 64 := by omega
      go_wp2_with (first | (refine wpList_load_row rfl 57 (.tmp 1) rfl (w.heap.size + 1) rfl 57 _ (0, 0) _ hB Tryd.underlying57 rfl (by kernel_rfl) ?_) | (refine wpList_store_row rfl 57 (.tmp 0) (.tmp 13) rfl w.heap.size 57 _ _ rfl rfl hA (by kernel_rfl) (by simp [wordsTo]) (by kernel_rfl) ?_))
      refine bodyPost_ret (results_cell_row (p := 0) (ty := 57) (by kernel_rfl) _ _ w.heap.size 57 _ (0, 0) _ rfl (setRow_heap _ _ _ _ _ _ hA) Tryd.underlying57 rfl (by kernel_rfl)) rfl ?_
      exact ⟨rfl, below_setRow hbel (Nat.le_refl _) _⟩
end Go.Proofs.YtiiobeelmnjffabDoor
