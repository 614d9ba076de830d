import Derived.Test.YtplkmkbambbemaeGreatDoorM08
import Derived.Test.YtplkmkbambbemaeGreatDoorM09
import Derived.Deep.RegionHeld3
import Derived.Test.YtplkmkbambbemaeGreatDoorM02
import Derived.Test.YtplkmkbambbemaeGreatDoorM01
namespace Go.Proofs.YtplkmkbambbemaeGreatDoor
theorem map_set_at {β : Type} (f g : Nat → β) (N S : Nat) (h : ∀ u, u ≠ S → f u = g u) (x : β) (hx : x = g S) : ((List.range N).map f).set S x = (List.range N).map g := by
  refine List.ext_getElem (by simp) fun j h1 h2 => ?_
  rw [List.getElem_set]
  simp only [List.getElem_map, List.getElem_range]
  by_cases hj : S = j
  · subst hj; rw [if_pos rfl, hx]
  · rw [if_neg hj, h j (fun e => hj e.symm)]
def bestL (l : List Int) (n k : Nat) : List Int := (List.range 64).map (val l n k)
theorem bestL_length (l : List Int) (n k : Nat) : (bestL l n k).length = 64 := by simp [bestL]
theorem bestL_at (l : List Int) (n k S : Nat) (h : S < 64) : (bestL l n k).getD S 0 = val l n k S := by simp [bestL, List.getD, h]
theorem bestL_zero (l : List Int) (n : Nat) : bestL l n 0 = List.replicate 64 0 := by
  refine List.ext_getElem (by simp [bestL]) fun j h1 h2 => ?_
  rw [List.getElem_replicate]
  simp [bestL, val]
def hereS (l : List Int) (n k S : Nat) : List Int := (List.range 64).map fun u => if u < S then val l n (k + 1) u else 0
theorem hereS_length (l : List Int) (n k S : Nat) : (hereS l n k S).length = 64 := by simp [hereS]
theorem hereS_zero (l : List Int) (n k : Nat) : hereS l n k 0 = List.replicate 64 0 := by
  refine List.ext_getElem (by simp [hereS]) fun j h1 h2 => ?_
  rw [List.getElem_replicate]
  simp [hereS]
theorem hereS_all (l : List Int) (n k : Nat) : hereS l n k 64 = bestL l n (k + 1) := by
  refine List.ext_getElem (by simp [hereS, bestL]) fun j h1 h2 => ?_
  have : j < 64 := by simpa [hereS] using h1
  simp [hereS, bestL, this]
theorem hereS_set (l : List Int) (n k S : Nat) (x : Int) (hx : x = val l n (k + 1) S) : (hereS l n k S).set S x = hereS l n k (S + 1) := by
  refine map_set_at _ _ 64 S (fun u hu => ?_) x (by rw [if_pos (by omega), hx])
  by_cases h : u < S
  · rw [if_pos h, if_pos (by omega)]
  · rw [if_neg h, if_neg (by omega)]
def onesK (l : List Int) (n m : Nat) : List Int := (List.range n).map fun j => if m ≤ j then (marks l n (n + 5 - j) 64 : Int) else 0
theorem onesK_length (l : List Int) (n m : Nat) : (onesK l n m).length = n := by simp [onesK]
theorem onesK_first (l : List Int) (n m : Nat) (h : n ≤ m) : onesK l n m = List.replicate n 0 := by
  refine List.ext_getElem (by simp [onesK]) fun j h1 h2 => ?_
  have : j < n := by simpa [onesK] using h1
  simp [onesK, show ¬ m ≤ j by omega]
theorem onesK_at (l : List Int) (n j : Nat) (h : j < n) : (onesK l n 0).getD j 0 = (marks l n (n + 5 - j) 64 : Int) := by simp [onesK, List.getD, h]
/-- The marks, those of the place i being made. -/
def onesS (l : List Int) (n i S : Nat) : List Int := (onesK l n (i + 1)).set i (marks l n (n + 5 - i) S : Int)
theorem onesS_length (l : List Int) (n i S : Nat) : (onesS l n i S).length = n := by simp [onesS, onesK_length]
theorem onesS_zero (l : List Int) (n i : Nat) : onesS l n i 0 = onesK l n (i + 1) := by
  refine List.ext_getElem (by simp [onesS]) fun j h1 h2 => ?_
  simp only [onesS, List.getElem_set, onesK, List.getElem_map, List.getElem_range]
  split
  · rename_i e; subst e; rw [if_neg (by omega)]; rfl
  · rfl
theorem onesS_all (l : List Int) (n i : Nat) : onesS l n i 64 = onesK l n i := by
  refine map_set_at _ _ n i (fun u hu => ?_) _ (by rw [if_pos (Nat.le_refl _)])
  by_cases h : i ≤ u
  · rw [if_pos h, if_pos (by omega)]
  · rw [if_neg h, if_neg (by omega)]
theorem onesS_late (l : List Int) (n i S S' : Nat) (h : n ≤ i) : onesS l n i S = onesS l n i S' := by
  unfold onesS
  rw [List.set_eq_of_length_le (by rw [onesK_length]; exact h), List.set_eq_of_length_le (by rw [onesK_length]; exact h)]
theorem onesS_at (l : List Int) (n i S : Nat) (h : i < n) : (onesS l n i S).getD i 0 = (marks l n (n + 5 - i) S : Int) := by
  simp [onesS, List.getD, onesK_length, h]
theorem onesS_set (l : List Int) (n i S : Nat) (x : Int) (hx : x = (marks l n (n + 5 - i) (S + 1) : Int)) : (onesS l n i S).set i x = onesS l n i (S + 1) := by
  unfold onesS
  rw [List.set_set, hx]
theorem onesS_same (l : List Int) (n i S : Nat) (h : one l n (n + 5 - i) S = false) : onesS l n i (S + 1) = onesS l n i S := by
  unfold onesS
  rw [marks, h]
  simp
theorem gw_bd (l : List Int) (h : ∀ k, -100000 ≤ l.getD k 0 ∧ l.getD k 0 ≤ 100000) (i : Nat) (w : Int) : -300000 ≤ gw l i w ∧ gw l i w ≤ 300000 := by
  have h0 := h (3 * i)
  have h1 := h (3 * i + 1)
  have h2 := h (3 * i + 2)
  unfold gw sgn
  split <;> split <;> split <;> omega
theorem val_bd (l : List Int) (n : Nat) (h : ∀ k, -100000 ≤ l.getD k 0 ∧ l.getD k 0 ≤ 100000) : ∀ (k S : Nat), -(300000 * (k : Int)) ≤ val l n k S ∧ val l n k S ≤ 300000 * (k : Int)
  | 0, S => by simp [val]
  | k + 1, S => by
    have a := val_bd l n h k (2 * S % 64)
    have b := val_bd l n h k (2 * S % 64 + 1)
    have c := gw_bd l h (n + 6 - (k + 1)) (wordI (2 * (S : Int)))
    have d := gw_bd l h (n + 6 - (k + 1)) (7 - wordI (2 * (S : Int)))
    rw [val]
    split
    · omega
    · split <;> omega
/-- One step, at the place i. -/
theorem val_step (l : List Int) (n i k S : Nat) (hi : i + (k + 1) = n + 6) :
    val l n (k + 1) S = if k < 6 then gw l i (wordI (2 * (S : Int))) + val l n k (2 * S % 64) else
      if gw l i (wordI (2 * (S : Int))) + val l n k (2 * S % 64) < gw l i (7 - wordI (2 * (S : Int))) + val l n k (2 * S % 64 + 1) then gw l i (7 - wordI (2 * (S : Int))) + val l n k (2 * S % 64 + 1) else gw l i (wordI (2 * (S : Int))) + val l n k (2 * S % 64) := by
  rw [val, show n + 6 - (k + 1) = i by omega]
theorem one_step (l : List Int) (n i k S : Nat) (hi : i + (k + 1) = n + 6) : one l n k S = decide (gw l i (wordI (2 * (S : Int))) + val l n k (2 * S % 64) < gw l i (7 - wordI (2 * (S : Int))) + val l n k (2 * S % 64 + 1)) := by
  unfold one
  rw [show n + 6 - (k + 1) = i by omega]
end Go.Proofs.YtplkmkbambbemaeGreatDoor
namespace Go.Proofs.YtplkmkbambbemaeGreatDoor
open Go.ChangeShapes Go.WideShapes Go.ChangeAt Go.RowKit
theorem Tryz.info121 : (Tryz.prog.info? 121).map (fun i => (i.zero, i.size, i.bytes)) = some (some (.int .u64 0), 1, 8) := by kernel_rfl
/-- 'make([]uint64, N)'. -/
theorem wpList_makeU64 {w : World} {ops : Array Oper} {rest : List Oper} {o : Oper} {a : Act} {Q : Exit → Act → World → Prop} (B : Nat) (w00 : World) (N : Nat) (hgd : o.guard = none) (l c : Operand)
    (ho : o.op = Op.makeSlice 118 l c) (x y : Int) (hl : a.eval l = .int .i64 x) (hc : a.eval c = .int .i64 y) (hx : x = (N : Int)) (hy : y = (N : Int)) (hN : N ≤ 70368744177) (hbel : Below B w00 w) (hB : B ≤ w.heap.size)
    (h : ∀ w', ArrAt .u64 121 w' w.heap.size (List.replicate N 0) → Below B w00 w' → Below w.heap.size w w' → wpList Tryz.prog ops Q rest (a.put o.dst (.slice (some ⟨w.heap.size, 0, none⟩) N N)) w') :
    wpList Tryz.prog ops Q (o :: rest) a w := by
  obtain ⟨i0, hi, hz0, hz1, hz2⟩ := info_parts Tryz.info121
  refine wpList_make_full w hgd l c 118 ho w.heap.size 121 i0 (.int .u64 0) 1 Tryz.underlying118 hi hz0 hz1 .i64 .i64 x y N hl hc hx hy (by rw [hz2]; omega) (by unfold maxLen; omega) (Nat.le_refl _) fun w' h1 h2 => ?_
  have e : (madeCells (Value.cells (.int .u64 0)) (N * 1)).toList = List.replicate N (.int .u64 0) := by
    rw [Nat.mul_one]; exact toList_madeCells_one _ _
  rw [e] at h1
  refine h w' ?_ (hbel.grown h2 hB (by intro k hk; cases hk)) ((Below.refl _ _).grown h2 (Nat.le_refl _) (by intro k hk; cases hk))
  rcases h1.2 with ⟨h', _⟩ | ⟨g', cap, cur, h', hB', hg, _, hm, hcs, ht⟩
  · simp at h'
  · simp only [Value.slice.injEq, Option.some.injEq, Addr.mk.injEq, and_true] at h'
    obtain ⟨rfl, _, rfl⟩ := h'
    unfold ArrAt
    rw [hg, List.map_replicate, ← ht, List.take_of_length_le (by simp; omega)]
theorem sub_rd {w : World} {b o : Nat} {l : List Int} (h : ∀ j, j < l.length → w.cell? ⟨b, o + j, none⟩ = some (.int .i64 (l.getD j 0))) (i : Nat) (hi : 3 * i + 2 < l.length) :
    Rd .i64 w (some ⟨b, o + 3 * i, none⟩) [l.getD (3 * i) 0, l.getD (3 * i + 1) 0, l.getD (3 * i + 2) 0] := by
  intro _
  refine ⟨b, o + 3 * i, rfl, fun j hj => ?_⟩
  have hj' : j < 3 := by simpa using hj
  rcases (show j = 0 ∨ j = 1 ∨ j = 2 by omega) with rfl | rfl | rfl
  · rw [Nat.add_zero]; exact h (3 * i) (by omega)
  · rw [Nat.add_assoc]; exact h (3 * i + 1) (by omega)
  · rw [Nat.add_assoc]; exact h (3 * i + 2) (by omega)
theorem all_one (k : IntKind) (L : List Int) : ((L.map (Value.int k)).toArray).all (·.oneCell') = true := by
  rw [Array.all_eq_true_iff_forall_mem]
  intro v hv
  simp at hv
  obtain ⟨x, _, rfl⟩ := hv
  rfl
theorem size_of (k : IntKind) (L : List Int) (n : Nat) (h : L.length = n) : ((L.map (Value.int k)).toArray).size = n := by simp [h]
theorem Tryz.size130 : (Tryz.prog.info? 130).map (·.size) = some 64 := by kernel_rfl
theorem Tryz.size132 : (Tryz.prog.info? 132).map (·.size) = some 64 := by kernel_rfl
theorem Tryz.size111 : (Tryz.prog.info? 111).map (·.size) = some 8 := by kernel_rfl
theorem heap2 {w : World} {g : Nat} {X : Obj} (h : w.heap[g]? = some X) (hlt : g < w.heap.size) (o1 o2 : Obj) : ((w.alloc o1).alloc o2).heap[g]? = some X :=
  (Below.heap_alloc _ o2 g (by simp; omega)).trans ((Below.heap_alloc w o1 g hlt).trans h)
theorem ArrAt.drewN {k : IntKind} {T : TypeId} {w : World} {g : Nat} {L : List Int} (h : ArrAt k T w g L) (n : Nat) : ArrAt k T (w.drewN n) g L := by
  unfold ArrAt
  rw [show (w.drewN n).heap = w.heap by simp]
  exact h
theorem ArrAt.rowOther {k : IntKind} {T : TypeId} {w : World} {g : Nat} {L : List Int} (h : ArrAt k T w g L) (g' : Nat) (cs : Array Value) (hne : g ≠ g') : ArrAt k T (w.setRow g' cs) g L := (setRow_other w g' g cs hne).trans h
theorem ArrAt.rowSame {k : IntKind} {T : TypeId} {w : World} {g : Nat} {L : List Int} (h : ArrAt k T w g L) (L' : List Int) : ArrAt k T (w.setRow g (L'.map (Value.int k)).toArray) g L' := setRow_heap w g _ _ T (0, 0) h
theorem xor7 : ∀ x : Fin 8, bits .xor .u64 (x.val : Int) 7 = ((7 - x.val : Nat) : Int) := by decide +kernel
set_option maxRecDepth 100000 in
set_option maxHeartbeats 1000000 in
theorem weigh_any (l : List Int) (n : Nat) (a : Option Addr) (c : Nat) (w : World) (ha : Rd .i64 w a l) (hl : l.length = 3 * (n + 6)) (hn : n ≤ 400) (hsoft : ∀ k, -100000 ≤ l.getD k 0 ∧ l.getD k 0 ≤ 100000) (hcap : l.length ≤ c) (hT : Taps w) :
    Calls Tryz.prog 76 #[.slice a l.length c, .int .i64 n] w fun e w' => ∃ g, e = .returned (.tuple #[.slice (some ⟨g, 0, none⟩) n n, .int .i64 (val l n (n + 6) 0)]) ∧ ArrAt .u64 121 w' g (onesK l n 0) ∧ w.heap.size ≤ g ∧ Below w.heap.size w w' := by
  obtain ⟨b1, o1, rfl, hc1⟩ := ha.at (i := 0) (by omega)
  have hb1 : b1 < w.heap.size := World.block_lt_of_cell? w _ (hc1 0 (by omega))
  have HC := hid hc1
  have HS := hid hsoft
  have HL := hid hl
  clear hc1 hsoft
  obtain ⟨L3, hL3⟩ : ∃ L3, L3 = l.length := ⟨_, rfl⟩
  rw [← hL3] at hl hcap ⊢
  have HL3 := hid hL3
  clear hL3
  have hL3b : L3 ≤ 1218 := by omega
  obtain ⟨WL, hWL⟩ : ∃ WL, WL = wordsTo 64 := ⟨_, rfl⟩
  have HWL := hid hWL
  have hWLl : WL.length = 64 := by rw [hWL, wordsTo_length]
  have HWLl := hid hWLl
  clear hWL hWLl
  go_enter Tryz.func76, Tryz.ntmps76
  go_wp2_with (first
    | (go_at_call 86; refine (words_any _ hT).mono ?_; rintro e w1 ⟨rfl, hbel1⟩; rw [← HWL.out])
    | (refine wpList_store_row rfl 130 (.tmp 6) (.tmp 15) rfl w1.heap.size 130 _ _ rfl rfl (heap_alloc_new w1 _) (by rw [size_of _ _ _ HWLl.out]; exact Tryz.size130) (by rw [size_of _ _ _ HWLl.out]; rfl) (all_one _ _) ?_; rw [World.setRow_alloc_new])
    | (at_make; refine wpList_makeU64 w.heap.size w n rfl _ _ rfl _ _ rfl rfl rfl rfl (by omega) (hbel1.alloc hbel1.size _) (by have := hbel1.size; simp; omega) ?_))
  intro w2 hO hbel2 hnew2
  have hW := (arr_new .u64 130 w1 WL).below hnew2 (by simp)
  obtain ⟨gW, hgW⟩ : ∃ gW, gW = w1.heap.size := ⟨_, rfl⟩
  obtain ⟨gO, hgO⟩ : ∃ gO, gO = w1.heap.size + 1 := ⟨_, rfl⟩
  have hWO : gW < gO := by omega
  have hBW : w.heap.size ≤ gW := by rw [hgW]; exact hbel1.size
  rw [← hgO] at hO ⊢
  rw [← hgW] at hW ⊢
  have hOB := hO.lt
  rw [← onesK_first l n (n + 6) (by omega)] at hO
  clear hgO hgW hnew2 hbel1
  go_wp2
  obtain ⟨gB, hgB⟩ : ∃ gB, gB = w2.heap.size := ⟨_, rfl⟩
  have hB := arr_new .i64 132 w2 (List.replicate 64 0)
  rw [← bestL_zero l n] at hB
  rw [← hgB] at hOB hB ⊢
  have hbel3 := hbel2.alloc hbel2.size (.cells ((bestL l n 0).map (Value.int .i64)).toArray 132)
  have hW3 := hW.alloc (.cells ((bestL l n 0).map (Value.int .i64)).toArray 132)
  have hO3 := hO.alloc (.cells ((bestL l n 0).map (Value.int .i64)).toArray 132)
  have HZ := hid (bestL_zero l n)
  clear hW hO hbel2 hgB
  go_loopw [8] (fun q wr => ∃ m : Nat, m ≤ n + 6 ∧ q = .int .i64 ((m : Int) - 1) ∧ ArrAt .u64 130 wr gW WL ∧ ArrAt .u64 121 wr gO (onesK l n m) ∧ ArrAt .i64 132 wr gB (bestL l n (n + 6 - m)) ∧ Below w.heap.size w wr) (fun q _ => (intOf q + 1).toNat)
  case atStart =>
    refine ⟨n + 6, Nat.le_refl _, ?_, ?_⟩
    · go_num
    · rw [Nat.sub_self]
      rw [HZ.out] at hB hW3 hO3 hbel3 ⊢
      exact ⟨hW3, hO3, hB, hbel3⟩
  case round =>
    clear hB hW3 hO3 hbel3 HZ
    obtain ⟨m, hm, rfl, hW, hO, hB, hbel⟩ := hrel
    by_cases hm0 : m = 0
    · subst hm0
      have c0 := hB.cell (j := 0) (by rw [bestL_length]; omega)
      rw [bestL_at _ _ _ _ (by omega), Nat.sub_zero] at c0
      go_wp2_with fail
      go_quiet (fail)
      go_wp2
      go_ret2
      exact ⟨gO, rfl, hO, by omega, below_drewN hbel _⟩
    · obtain ⟨i, rfl⟩ : ∃ i, m = i + 1 := ⟨m - 1, by omega⟩
      obtain ⟨k, hk⟩ : ∃ k, i + (k + 1) = n + 6 := ⟨n + 5 - i, by omega⟩
      rw [show n + 6 - (i + 1) = k by omega] at hB
      rw [show (((i + 1 : Nat) : Int) - 1) = (i : Int) by omega]
      have h3 : 3 * i + 3 ≤ L3 := by omega
      have hsub := sub_rd (w := wr) (b := b1) (o := o1) (l := l) (fun j hj => (hbel.cell (p := ⟨b1, o1 + j, none⟩) hb1).trans (HC.out j hj)) i (by rw [← HL3.out]; omega)
      have hWl := hW.lt
      have hOl := hO.lt
      have hBl := hB.lt
      clear hm0
      obtain ⟨GL, hGL⟩ : ∃ GL, GL = gainsTo [l.getD (3 * i) 0, l.getD (3 * i + 1) 0, l.getD (3 * i + 2) 0] 8 0 := ⟨_, rfl⟩
      have HGL := hid hGL
      have hGLl : GL.length = 8 := by rw [hGL, gainsTo_length]
      have HGLl := hid hGLl
      clear hGL hGLl
      have H33 := hid (show 3 * (i + 1) - 3 * i = 3 by omega)
      go_wp2_with (first
        | (go_at_call 87; rw [H33.out]; refine (gains_any [l.getD (3 * i) 0, l.getD (3 * i + 1) 0, l.getD (3 * i + 2) 0] _ _ _ hsub rfl (fun j => by
            rcases j with _ | _ | _ | j
            · exact HS.out (3 * i)
            · exact HS.out (3 * i + 1)
            · exact HS.out (3 * i + 2)
            · simp)).mono ?_; rintro e w4 ⟨rfl, hbel4⟩; rw [← HGL.out]; have hW4 := hW.below hbel4 hWl; have hWl4 := hW4.lt)
        | (refine wpList_store_row rfl 111 (.tmp 9) (.tmp 32) rfl w4.heap.size 111 _ _ rfl rfl (heap_alloc_new w4 _) (by rw [size_of _ _ _ HGLl.out]; exact Tryz.size111) (by rw [size_of _ _ _ HGLl.out]; rfl) (all_one _ _) ?_; rw [World.setRow_alloc_new])
        | (refine wpList_load_row rfl 130 (.tmp 6) rfl gW rfl 130 ((WL.map (Value.int .u64)).toArray) (0, 0) _ (heap2 hW4 hWl4 _ _) Tryz.underlying130 rfl (by rw [size_of _ _ _ HWLl.out]; exact Tryz.size130) ?_))
      have hW5 := (hW4.alloc (.cells ((GL.map (Value.int .i64)).toArray) 111)).alloc (.cells (((List.replicate 64 (0 : Int)).map (Value.int .i64)).toArray) 132)
      have hO5 := ((hO.below hbel4 hOl).alloc (.cells ((GL.map (Value.int .i64)).toArray) 111)).alloc (.cells (((List.replicate 64 (0 : Int)).map (Value.int .i64)).toArray) 132)
      have hB5 := ((hB.below hbel4 hBl).alloc (.cells ((GL.map (Value.int .i64)).toArray) 111)).alloc (.cells (((List.replicate 64 (0 : Int)).map (Value.int .i64)).toArray) 132)
      have hG5 := (arr_new .i64 111 w4 GL).alloc (.cells (((List.replicate 64 (0 : Int)).map (Value.int .i64)).toArray) 132)
      have hH5 := arr_new .i64 132 (w4.alloc (.cells ((GL.map (Value.int .i64)).toArray) 111)) (List.replicate 64 0)
      have hb4 := bthen hbel hbel4
      have hbel5 := (hb4.alloc hb4.size (.cells ((GL.map (Value.int .i64)).toArray) 111)).alloc (by have := hb4.size; simp; omega) (.cells (((List.replicate 64 (0 : Int)).map (Value.int .i64)).toArray) 132)
      have esz : (w4.alloc (.cells ((GL.map (Value.int .i64)).toArray) 111)).heap.size = w4.heap.size + 1 := by simp
      rw [esz] at hH5
      obtain ⟨gG, hgG⟩ : ∃ gG, gG = w4.heap.size := ⟨_, rfl⟩
      have hBG : gB < gG := by have := (hB.below hbel4 hBl).lt; omega
      rw [← hgG] at hG5 hH5 ⊢
      rw [← onesS_zero] at hO5
      rw [← hereS_zero l n k] at hH5
      have HZ := hid (hereS_zero l n k)
      clear hgG esz hb4 hbel4 hW4 hWl4 hW hO hB hbel hsub hWl hOl hBl
      go_loopw [34] (fun q wr => ∃ S : Nat, S ≤ 64 ∧ q = .int .i64 S ∧ ArrAt .u64 130 wr gW WL ∧ ArrAt .u64 121 wr gO (onesS l n i S) ∧ ArrAt .i64 132 wr gB (bestL l n k) ∧ ArrAt .i64 111 wr gG GL ∧ ArrAt .i64 132 wr (gG + 1) (hereS l n k S) ∧ Below w.heap.size w wr) (fun q _ => 64 - (intOf q).toNat)
      case atStart => exact ⟨0, by omega, rfl, hW5, hO5, hB5, hG5, by rw [HZ.out] at hH5 ⊢; exact hH5, hbel5⟩
      case round =>
        clear hW5 hO5 hB5 hG5 hH5 hbel5
        obtain ⟨S, hS, rfl, hW, hO, hB, hG, hH, hbel⟩ := hrel
        by_cases hlt : S < 64
        · obtain ⟨wv, hwv⟩ : ∃ wv : Nat, wordI (2 * (S : Int)) = (wv : Int) := Int.eq_ofNat_of_zero_le (wordI_bd _).1
          have hw8 := (wordI_bd (2 * (S : Int))).2
          rw [hwv] at hw8
          have hix : ((WL.map (Value.int .u64)).toArray)[S]? = some (.int .u64 (wv : Int)) := by
            have h1 : WL.getD S 0 = (wv : Int) := by rw [HWL.out, wordsTo_at S hlt, hwv]
            have h2 : S < WL.length := by rw [HWLl.out]; exact hlt
            simp [List.getD, h2] at h1
            simp [h2, h1]
          have HWV := hid hwv
          clear hwv
          have gc := hG.cell (j := wv) (by rw [HGLl.out]; omega)
          rw [HGL.out, gainsTo_all _ _ (by omega), psum_gw l i wv _ rfl rfl rfl, ← HWV.out] at gc
          have bc := hB.cell (j := 2 * S % 64) (by rw [bestL_length]; omega)
          rw [bestL_at _ _ _ _ (by omega)] at bc
          have hc := hH.cell (j := S) (by rw [hereS_length]; exact hlt)
          have hf := hH.free S
          obtain ⟨nx, hnx⟩ : ∃ nx, nx = 2 * S % 64 := ⟨_, rfl⟩
          rw [← hnx] at bc
          have hnx64 : nx < 64 := by omega
          have hnxe : nx + 1 < 64 := by omega
          have hrem : ((S : Int) * 2).tmod 64 = (nx : Int) := by rw [Int.tmod_eq_emod_of_nonneg (by omega)]; omega
          have hgb := gw_bd l HS.out i (wordI (2 * (S : Int)))
          have hvb := val_bd l n HS.out k (2 * S % 64)
          rw [← hnx] at hvb
          have HNX := hid hnx
          obtain ⟨G0, hG0⟩ : ∃ G0, G0 = gw l i (wordI (2 * (S : Int))) := ⟨_, rfl⟩
          obtain ⟨V0, hV0⟩ : ∃ V0, V0 = val l n k nx := ⟨_, rfl⟩
          rw [← hG0] at gc hgb
          rw [← hV0] at bc hvb
          have hk400 : k ≤ 406 := by omega
          have HG0 := hid hG0
          have HV0 := hid hV0
          clear hnx hG0 hV0
          go_wp2_with (first | (refine wpList_index rfl 130 (.tmp 33) (.tmp 34) rfl 103 _ 64 S (.int .u64 (wv : Int)) _ .i64 rfl rfl Tryz.underlying130 Tryz.underlying103 rfl (by kernel_rfl) hlt hix ?_))
          go_region
          have hW6 : ArrAt .u64 130 (wr.setCell ⟨gG + 1, S, none⟩ (.int .i64 (G0 + V0))).drew gW WL := hW.other _ _ (by show gW ≠ gG + 1; omega)
          have hO6 : ArrAt .u64 121 (wr.setCell ⟨gG + 1, S, none⟩ (.int .i64 (G0 + V0))).drew gO (onesS l n i S) := hO.other _ _ (by show gO ≠ gG + 1; omega)
          have hB6 : ArrAt .i64 132 (wr.setCell ⟨gG + 1, S, none⟩ (.int .i64 (G0 + V0))).drew gB (bestL l n k) := hB.other _ _ (by show gB ≠ gG + 1; omega)
          have hG6 : ArrAt .i64 111 (wr.setCell ⟨gG + 1, S, none⟩ (.int .i64 (G0 + V0))).drew gG GL := hG.other _ _ (by show gG ≠ gG + 1; omega)
          have hH6 : ArrAt .i64 132 (wr.setCell ⟨gG + 1, S, none⟩ (.int .i64 (G0 + V0))).drew (gG + 1) ((hereS l n k S).set S (G0 + V0)) := hH.set S _
          have hbel6 := (hbel.setCell (p := ⟨gG + 1, S, none⟩) (by show w.heap.size ≤ gG + 1; omega) (.int .i64 (G0 + V0))).drew
          clear hW hO hB hG hH hbel gc bc hc hf
          generalize (wr.setCell ⟨gG + 1, S, none⟩ (.int .i64 (G0 + V0))).drew = w6 at *
          have HST := hid (val_step l n i k S hk)
          have HON := hid (one_step l n i k S hk)
          have HKK := hid (show n + 5 - i = k by omega)
          by_cases hin : i < n
          · have gc := hG6.cell (j := 7 - wv) (by rw [HGLl.out]; omega)
            rw [HGL.out, gainsTo_all _ _ (by omega), psum_gw l i (7 - wv) _ rfl rfl rfl, show ((7 - wv : Nat) : Int) = 7 - wordI (2 * (S : Int)) by rw [HWV.out]; omega] at gc
            have bc := hB6.cell (j := 2 * S % 64 + 1) (by rw [bestL_length]; omega)
            rw [bestL_at _ _ _ _ (by omega), ← HNX.out] at bc
            have hgb1 := gw_bd l HS.out i (7 - wordI (2 * (S : Int)))
            have hvb1 := val_bd l n HS.out k (nx + 1)
            have hxor : bits .xor .u64 (wv : Int) 7 = ((7 - wv : Nat) : Int) := xor7 ⟨wv, by omega⟩
            have hc6 := hH6.cell (j := S) (by rw [List.length_set, hereS_length]; exact hlt)
            rw [show ((hereS l n k S).set S (G0 + V0)).getD S 0 = G0 + V0 by simp [List.getD, hereS_length, hlt]] at hc6
            obtain ⟨x7, hx7⟩ : ∃ x7, x7 = 7 - wv := ⟨_, rfl⟩
            have hx78 : x7 < 8 := by omega
            rw [← hx7] at gc hxor
            obtain ⟨G1, hG1⟩ : ∃ G1, G1 = gw l i (7 - wordI (2 * (S : Int))) := ⟨_, rfl⟩
            obtain ⟨V1, hV1⟩ : ∃ V1, V1 = val l n k (nx + 1) := ⟨_, rfl⟩
            rw [← hG1] at gc hgb1
            rw [← hV1] at bc hvb1
            have HG1 := hid hG1
            have HV1 := hid hV1
            clear hx7 hG1 hV1
            by_cases hgt : G0 + V0 < G1 + V1
            · have dgt : decide (G0 + V0 < G1 + V1) = true := decide_eq_true hgt
              have hf6 := hH6.free S
              go_wp2_with fail
              go_quiet (fail)
              go_wp2_with fail
              have hW7 : ArrAt .u64 130 ((w6.drewN nq).setCell ⟨gG + 1, S, none⟩ (.int .i64 (G1 + V1))) gW WL := (hW6.drewN nq).other _ _ (by show gW ≠ gG + 1; omega)
              have hO7 : ArrAt .u64 121 ((w6.drewN nq).setCell ⟨gG + 1, S, none⟩ (.int .i64 (G1 + V1))) gO (onesS l n i S) := (hO6.drewN nq).other _ _ (by show gO ≠ gG + 1; omega)
              have hB7 : ArrAt .i64 132 ((w6.drewN nq).setCell ⟨gG + 1, S, none⟩ (.int .i64 (G1 + V1))) gB (bestL l n k) := (hB6.drewN nq).other _ _ (by show gB ≠ gG + 1; omega)
              have hG7 : ArrAt .i64 111 ((w6.drewN nq).setCell ⟨gG + 1, S, none⟩ (.int .i64 (G1 + V1))) gG GL := (hG6.drewN nq).other _ _ (by show gG ≠ gG + 1; omega)
              have hH7 : ArrAt .i64 132 ((w6.drewN nq).setCell ⟨gG + 1, S, none⟩ (.int .i64 (G1 + V1))) (gG + 1) (((hereS l n k S).set S (G0 + V0)).set S (G1 + V1)) := (hH6.drewN nq).set S _
              have hbel7 := (below_drewN hbel6 nq).setCell (p := ⟨gG + 1, S, none⟩) (by show w.heap.size ≤ gG + 1; omega) (.int .i64 (G1 + V1))
              have hval : G1 + V1 = val l n (k + 1) S := by
                rw [HST.out, ← HG0.out, ← HNX.out, ← HV0.out, ← HG1.out, ← HV1.out, if_neg (show ¬ k < 6 by omega), if_pos hgt]
              rw [List.set_set, hereS_set l n k S _ hval] at hH7
              have hone : one l n (n + 5 - i) S = true := by
                rw [HKK.out, HON.out, ← HG0.out, ← HNX.out, ← HV0.out, ← HG1.out, ← HV1.out]; exact dgt
              have hmk : marks l n (n + 5 - i) (S + 1) = marks l n (n + 5 - i) S + 2 ^ S := by rw [marks, hone]; rfl
              have hmo := marks_or l n (n + 5 - i) S
              have hml := marks_lt l n (n + 5 - i) (S + 1)
              clear hval hone hW6 hO6 hB6 hG6 hH6 hbel6 hc6 hf6 gc bc
              generalize (w6.drewN nq).setCell ⟨gG + 1, S, none⟩ (.int .i64 (G1 + V1)) = w7 at *
              have oc := hO7.cell (j := i) (by rw [onesS_length]; exact hin)
              rw [onesS_at l n i S hin] at oc
              have of := hO7.free i
              have hp : (2 : Nat) ^ S < 18446744073709551616 := Nat.lt_of_lt_of_le (Nat.pow_lt_pow_right (by omega) hlt) (by decide)
              have hp2 : marks l n (n + 5 - i) S < 18446744073709551616 := Nat.lt_trans (marks_lt l n (n + 5 - i) S) hp
              have hor : bits .or .u64 ((marks l n (n + 5 - i) S : Nat) : Int) (IntKind.u64.wrap (2 ^ S)) = ((marks l n (n + 5 - i) (S + 1) : Nat) : Int) := by
                have e2 : (2 : Int) ^ S = ((2 ^ S : Nat) : Int) := by simp
                rw [e2, IntKind.wrap_u64, Int.emod_eq_of_lt (by omega) (by omega), u64_or_nat _ _ hp2 hp, hmo, hmk]
              have HOR := hid hor
              clear hp hp2 hor hmk hmo hml
              go_region
              rw [HOR.out]
              have hW8 : ArrAt .u64 130 (w7.setCell ⟨gO, i, none⟩ (.int .u64 ((marks l n (n + 5 - i) (S + 1) : Nat) : Int))).drew gW WL := hW7.other _ _ (by show gW ≠ gO; omega)
              have hO8 : ArrAt .u64 121 (w7.setCell ⟨gO, i, none⟩ (.int .u64 ((marks l n (n + 5 - i) (S + 1) : Nat) : Int))).drew gO ((onesS l n i S).set i ((marks l n (n + 5 - i) (S + 1) : Nat) : Int)) := hO7.set i _
              rw [onesS_set l n i S _ rfl] at hO8
              have hB8 : ArrAt .i64 132 (w7.setCell ⟨gO, i, none⟩ (.int .u64 ((marks l n (n + 5 - i) (S + 1) : Nat) : Int))).drew gB (bestL l n k) := hB7.other _ _ (by show gB ≠ gO; omega)
              have hG8 : ArrAt .i64 111 (w7.setCell ⟨gO, i, none⟩ (.int .u64 ((marks l n (n + 5 - i) (S + 1) : Nat) : Int))).drew gG GL := hG7.other _ _ (by show gG ≠ gO; omega)
              have hH8 : ArrAt .i64 132 (w7.setCell ⟨gO, i, none⟩ (.int .u64 ((marks l n (n + 5 - i) (S + 1) : Nat) : Int))).drew (gG + 1) (hereS l n k (S + 1)) := hH7.other _ _ (by show gG + 1 ≠ gO; omega)
              have hbel8 := (hbel7.setCell (p := ⟨gO, i, none⟩) (by show w.heap.size ≤ gO; omega) (.int .u64 ((marks l n (n + 5 - i) (S + 1) : Nat) : Int))).drew
              clear hW7 hO7 hB7 hG7 hH7 hbel7 oc of
              generalize (w7.setCell ⟨gO, i, none⟩ (.int .u64 ((marks l n (n + 5 - i) (S + 1) : Nat) : Int))).drew = w8 at *
              go_wp2
              go_roundw
              case rel => exact ⟨S + 1, by omega, by go_num, hW8, hO8, hB8, hG8, hH8, hbel8⟩
              case measure => simp [intOf]; omega
            · have dgt : decide (G0 + V0 < G1 + V1) = false := decide_eq_false hgt
              have hval : G0 + V0 = val l n (k + 1) S := by
                rw [HST.out, ← HG0.out, ← HNX.out, ← HV0.out, ← HG1.out, ← HV1.out, if_neg (show ¬ k < 6 by omega), if_neg hgt]
              rw [hereS_set l n k S _ hval] at hH6
              have hone : one l n (n + 5 - i) S = false := by
                rw [HKK.out, HON.out, ← HG0.out, ← HNX.out, ← HV0.out, ← HG1.out, ← HV1.out]; exact dgt
              rw [← onesS_same l n i S hone] at hO6
              clear hval hone
              go_wp2_with fail
              go_quiet (fail)
              go_wp2
              go_roundw
              case rel => exact ⟨S + 1, by omega, by go_num, hW6, hO6, hB6, hG6, hH6, below_drewN hbel6 _⟩
              case measure => simp [intOf]; omega
          · have hval : G0 + V0 = val l n (k + 1) S := by
              rw [HST.out, ← HG0.out, ← HNX.out, ← HV0.out, if_pos (show k < 6 by omega)]
            rw [hereS_set l n k S _ hval] at hH6
            rw [onesS_late l n i S (S + 1) (by omega)] at hO6
            clear hval
            go_wp2
            go_roundw
            case rel => exact ⟨S + 1, by omega, by go_num, hW6, hO6, hB6, hG6, hH6, hbel6⟩
            case measure => simp [intOf]; omega
        · obtain rfl : S = 64 := by omega
          rw [hereS_all] at hH
          rw [onesS_all] at hO
          have hW9 := hW.rowOther gB ((bestL l n (k + 1)).map (Value.int .i64)).toArray (by omega)
          have hO9 := hO.rowOther gB ((bestL l n (k + 1)).map (Value.int .i64)).toArray (by omega)
          have hB9 := hB.rowSame (bestL l n (k + 1))
          have hbel9 := below_setRow hbel (g := gB) (by omega) ((bestL l n (k + 1)).map (Value.int .i64)).toArray
          go_wp2_with (first
            | (refine wpList_load_row rfl 132 (.tmp 10) rfl (gG + 1) rfl 132 ((bestL l n (k + 1)).map (Value.int .i64)).toArray (0, 0) _ hH Tryz.underlying132 rfl (by rw [size_of _ _ _ (bestL_length l n (k + 1))]; exact Tryz.size132) ?_)
            | (refine wpList_store_row rfl 132 (.tmp 7) (.tmp 79) rfl gB 132 _ ((bestL l n (k + 1)).map (Value.int .i64)).toArray rfl rfl hB (by rw [size_of _ _ _ (bestL_length l n (k + 1))]; exact Tryz.size132) (by rw [size_of _ _ _ (bestL_length l n (k + 1)), size_of _ _ _ (bestL_length l n k)]) (all_one _ _) ?_))
          rw [show k + 1 = n + 6 - i by omega] at hB9 hW9 hO9 hbel9 ⊢
          go_roundw
          case rel => exact ⟨i, by omega, by go_num, hW9, hO9, hB9, hbel9⟩
          case measure => simp [intOf]
end Go.Proofs.YtplkmkbambbemaeGreatDoor
namespace Go.Proofs.YtplkmkbambbemaeGreatDoor
open Go.ChangeShapes Go.WideShapes Go.ChangeAt Go.RowKit
def softErr (l : List Int) : Int := if softOk l then 0 else 1
set_option maxHeartbeats 400000 in
theorem csoft_any (l : List Int) (a : Option Addr) (c : Nat) (w : World) (ha : Rd .i64 w a l) (hl : l.length ≤ maxLen) :
    Calls Tryz.prog 20 #[.slice a l.length c] w fun e w' => e = .returned (.int .i64 (softErr l)) ∧ w = w' := by
  unfold maxLen at hl
  go_enter Tryz.func20, Tryz.ntmps20
  go_wp2
  go_loop [7] (fun i => ∃ k : Nat, k ≤ l.length ∧ i = .int .i64 k ∧ Hid (SoftTo l k)) (fun i => l.length - (intOf i).toNat)
  case atStart => exact ⟨0, Nat.zero_le _, rfl, fun j hj => by omega⟩
  case round =>
    obtain ⟨k, hk, rfl, hok⟩ := hrel
    by_cases hlt : k < l.length
    · obtain ⟨b1, o1, rfl, hc1⟩ := ha.at hlt
      have g1 := hc1 k hlt
      clear hc1
      obtain ⟨x, hx⟩ : ∃ x, x = l.getD k 0 := ⟨_, rfl⟩
      rw [← hx] at g1
      have HX := hid hx
      clear hx
      by_cases h1 : x < -100000
      · go_wp2
        go_ret
        exact ⟨ret_int (by unfold softErr; rw [soft_bad (l := l) (k := k) (by rw [← HX.out]; omega)]; rfl), rfl⟩
      · have d1 : decide (x < -100000) = false := decide_eq_false h1
        by_cases h2 : 100000 < x
        · go_wp2
          go_ret
          exact ⟨ret_int (by unfold softErr; rw [soft_bad (l := l) (k := k) (by rw [← HX.out]; omega)]; rfl), rfl⟩
        · have d2 : decide (100000 < x) = false := decide_eq_false h2
          have hstep : Hid (SoftTo l (k + 1)) := fun j hj => by
            by_cases e : j = k
            · subst e; rw [← HX.out]; omega
            · exact hok.out j (by omega)
          go_wp2
          go_round
          case rel => exact ⟨k + 1, by omega, by go_num, hstep⟩
          case measure => simp [intOf]; omega
    · obtain rfl : k = l.length := by omega
      go_wp2
      go_ret
      exact ⟨ret_int (by unfold softErr; rw [soft_all hok.out]; rfl), rfl⟩
end Go.Proofs.YtplkmkbambbemaeGreatDoor
namespace Go.Proofs.YtplkmkbambbemaeGreatDoor
open Go.ChangeShapes Go.WideShapes Go.ChangeAt Go.RowKit
theorem or_state : ∀ S : Fin 64, ∀ y : Fin 2, bits .or .i64 ((S.val : Int) * 2) (y.val : Int) = ((2 * S.val + y.val : Nat) : Int) := by decide +kernel
theorem way_length (l : List Int) (r i : Nat) (s : Int) : (way l r i s).length = r := (way_best l r i s).len
theorem way_drop (l : List Int) (n i S : Nat) (hi : i < n) (hS : S < 64) (h : (way l n 0 0).drop i = way l (n - i) i (rev6 (S : Int))) :
    (way l n 0 0).getD i 0 = (if one l n (n + 5 - i) S then 1 else 0) ∧ (way l n 0 0).drop (i + 1) = way l (n - (i + 1)) (i + 1) (rev6 ((2 * S % 64 + (if one l n (n + 5 - i) S then 1 else 0) : Nat) : Int)) := by
  have hw := one_way l n (n - (i + 1)) S (by omega) hS
  rw [show n - (i + 1) + 1 = n - i by omega, show n - (n - i) = i by omega, show n - (i + 1) + 6 = n + 5 - i by omega, show n - (n - (i + 1)) = i + 1 by omega] at hw
  rw [hw] at h
  have hlen := way_length l n 0 0
  rw [List.drop_eq_getElem_cons (by omega)] at h
  have hg : (way l n 0 0).getD i 0 = (way l n 0 0)[i]'(by omega) := by simp [List.getD, show i < (way l n 0 0).length by omega]
  rw [hg]
  cases ho : one l n (n + 5 - i) S with
  | true =>
    rw [ho] at h
    simp only [if_true, List.cons.injEq] at h
    exact ⟨h.1, h.2⟩
  | false =>
    rw [ho] at h
    simp only [Bool.false_eq_true, if_false, List.cons.injEq] at h
    exact ⟨h.1, h.2⟩
theorem soft_of {l : List Int} (h : softErr l = 0) : softOk l = true := by
  unfold softErr at h
  split at h
  · assumption
  · cases h
set_option maxHeartbeats 1000000 in
theorem decode_good (l : List Int) (n : Nat) (a : Option Addr) (c : Nat) (w : World) (ha : Rd .i64 w a l) (hl : l.length = 3 * (n + 6)) (hn : n ≤ 400) (hs : softErr l = 0) (hcap : l.length ≤ c) (hT : Taps w) :
    Calls Tryz.prog 68 #[.slice a l.length c] w fun e w' => ∃ v, e = .returned (.tuple #[v, .int .i64 (top l n 0 0), .int .i64 0]) ∧ Own w' w.heap.size v (way l n 0 0) ∧ Below w.heap.size w w' := by
  have HV := hid (show val l n (n + 6) 0 = top l n 0 0 by
    have := val_top l n n (Nat.le_refl _) 0 (by omega)
    rw [Nat.sub_self] at this
    exact this)
  have HS := hid hs
  have HL := hid hl
  have hcap' := hid hcap
  have HDL := hid (way_length l n 0 0)
  have hq : (((3 * (n + 6) : Nat) : Int)).tdiv 3 = (n : Int) + 6 := by rw [Int.tdiv_eq_ediv_of_nonneg (by omega)]; omega
  have hr : (((3 * (n + 6) : Nat) : Int)).tmod 3 = 0 := by rw [Int.tmod_eq_emod_of_nonneg (by omega)]; omega
  obtain ⟨L3, hL3⟩ : ∃ L3, L3 = l.length := ⟨_, rfl⟩
  rw [← hL3] at hl hcap ⊢
  rw [← hl] at hq hr
  have HL3 := hid hL3
  have hL3b : L3 ≤ 1218 := by omega
  have HLL := hid hl
  clear hL3 hs hl hcap
  go_enter Tryz.func68, Tryz.ntmps68
  go_wp2_with (first
    | (go_at_call 20; rw [HL3.out]; refine (csoft_any l a c _ ha (by rw [← HL3.out]; unfold maxLen; omega)).mono ?_; rintro e w1 ⟨rfl, rfl⟩; rw [HS.out, ← HL3.out])
    | (go_at_call 76; rw [HL3.out]; refine (weigh_any l n a c _ ha HL.out hn (soft_at (soft_of HS.out)) hcap'.out hT).mono ?_; rintro e w1 ⟨gO, rfl, hO, hgO, hbel1⟩; rw [HV.out, ← HL3.out])
    | (at_make; refine wpList_makeBytes w1.heap.size w1 n rfl _ _ rfl _ _ rfl rfl rfl rfl (by omega) (Below.refl _ _) (Nat.le_refl _) ?_))
  intro w2 hown hbel2 hsz2
  have hO2 := hO.below hbel2 hO.lt
  have hb2 := bthen hbel1 hbel2
  have hown2 := hown.mono hbel1.size
  obtain ⟨g, hg⟩ : ∃ g, g = w1.heap.size := ⟨_, rfl⟩
  have hgO2 : gO < g := by have := hO.lt; omega
  have hBg : w.heap.size ≤ g := by have := hbel1.size; omega
  rw [← hg] at hown2 ⊢
  rw [show List.replicate n (0 : Int) = fillE (way l n 0 0) 0 by rw [fillE_zero, HDL.out]] at hown2
  clear hg hown hbel2 hsz2 hO
  go_wp2
  go_loopw [10, 43] (fun s q wr => ∃ i S : Nat, i ≤ n ∧ S < 64 ∧ q = .int .i64 i ∧ s = .int .i64 S ∧ ArrAt .u64 121 wr gO (onesK l n 0) ∧ Own wr w.heap.size (.slice (some ⟨g, 0, none⟩) n n) (fillE (way l n 0 0) i) ∧ Hid ((way l n 0 0).drop i = way l (n - i) i (rev6 (S : Int))) ∧ Below w.heap.size w wr) (fun _ q _ => n - (intOf q).toNat)
  case atStart => exact ⟨0, 0, by omega, by omega, rfl, rfl, hO2, hown2, rfl, hb2⟩
  case round =>
    clear hO2 hown2 hb2
    obtain ⟨i, S, hi, hS, rfl, rfl, hO, hown, HD, hbel⟩ := hrel
    by_cases hlt : i < n
    · have oc := hO.cell (j := i) (by rw [onesK_length]; exact hlt)
      rw [onesK_at l n i hlt] at oc
      obtain ⟨hd1, hd2⟩ := way_drop l n i S hlt hS HD.out
      have hbit := marks_bit l n (n + 5 - i) S hS
      have hM := marks_lt l n (n + 5 - i) 64
      obtain ⟨M, hMe⟩ : ∃ M, M = marks l n (n + 5 - i) 64 := ⟨_, rfl⟩
      rw [← hMe] at oc hbit hM
      obtain ⟨y, hy⟩ : ∃ y : Nat, y = if one l n (n + 5 - i) S then 1 else 0 := ⟨_, rfl⟩
      rw [← hy] at hd2 hbit
      have hy1 : y ≤ 1 := by rw [hy]; split <;> omega
      have hd1' : (y : Int) = (way l n 0 0).getD i 0 := by rw [hd1, hy]; split <;> rfl
      have hM64 : M < 18446744073709551616 := hM
      have hMd : M / 2 ^ S < 18446744073709551616 := Nat.lt_of_le_of_lt (Nat.div_le_self _ _) hM64
      have hand : bits .and .u64 ((M : Int) / 2 ^ S) 1 = (y : Int) := by
        have e2 : (M : Int) / 2 ^ S = ((M / 2 ^ S : Nat) : Int) := by simp
        have := u64_and_nat (M / 2 ^ S) 1 hMd (by omega)
        rw [e2, show (1 : Int) = ((1 : Nat) : Int) from rfl, this, nat_mask1, hbit]
      have hor : bits .or .i64 ((S : Int) * 2) (y : Int) = ((2 * S + y : Nat) : Int) := or_state ⟨S, hS⟩ ⟨y, by omega⟩
      have hfr := hown.free i
      have hcell := hown.cell (i := i) (by rw [fillE_length _ _ (by rw [HDL.out]; omega), HDL.out]; exact hlt)
      have hset := hown.set i (y : Int)
      rw [fillE_set _ i (by rw [HDL.out]; exact hlt) _ hd1'] at hset
      have hO' := hO.other ⟨g, i, none⟩ (.int .u8 (y : Int)) (by show gO ≠ g; omega)
      have hbel' := hbel.setCell (p := ⟨g, i, none⟩) hBg (.int .u8 (y : Int))
      have HD2 := hid hd2
      obtain ⟨T, hTe⟩ : ∃ T, T = 2 * S + y := ⟨_, rfl⟩
      rw [← hTe] at hor
      have hTl : T < 128 := by omega
      have HTE := hid hTe
      have hrem : (T : Int).tmod 64 = ((T % 64 : Nat) : Int) := by rw [Int.tmod_eq_emod_of_nonneg (by omega)]; omega
      clear hd1 hd2 hbit hM hMe hy hd1' hM64 hMd hO hown hbel hTe
      go_wp2
      go_roundw
      case rel => exact ⟨i + 1, T % 64, by omega, Nat.mod_lt _ (by omega), by go_num, by go_num, hO', hset, (by rw [show T % 64 = 2 * S % 64 + y by rw [HTE.out]; omega]; exact HD2.out), hbel'⟩
      case measure => simp [intOf]; omega
    · obtain rfl : i = n := by omega
      go_wp2
      go_ret3
      refine ⟨_, rfl, ?_, hbel⟩
      rw [show fillE (way l i 0 0) i = way l i 0 0 by rw [show i = (way l i 0 0).length from HDL.out.symm, HDL.out]; exact (by have := fillE_all (way l i 0 0); rw [HDL.out] at this; exact this)] at hown
      exact hown
end Go.Proofs.YtplkmkbambbemaeGreatDoor
