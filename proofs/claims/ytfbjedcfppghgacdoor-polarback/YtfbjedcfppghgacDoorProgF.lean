import Derived.Test.YtfbjedcfppghgacDoorProgP
import Derived.Test.YtfbjedcfppghgacDoorDocF
import Derived.Maps.Own
import Derived.Maps.OwnOps
import Derived.Maps.OwnSet
import Derived.Maps.Views
namespace Go.Proofs.YtfbjedcfppghgacDoor
open Go.ChangeShapes Go.WideShapes Go.ChangeAt Go.RowKit Go.Maps

/-! THE PROGRAM'S lesser, bit: the map of open places. -/

set_option maxHeartbeats 1000000 in
theorem lesser_any (x y : Int) (w : World) (hx : -4611686018427387904 ≤ x ∧ x ≤ 4611686018427387904) (hy : -4611686018427387904 ≤ y ∧ y ≤ 4611686018427387904) :
    Calls Tryd.prog 20 #[.int .i64 x, .int .i64 y] w fun e w' => e = .returned (.int .i64 (fI x y)) ∧ w' = w := by
  by_cases cx : x < 0
  · by_cases cy : y < 0
    · go_enter Tryd.func20, Tryd.ntmps20
      go_wp2
      go_ret
      exact ⟨ret_int (by unfold fI absI; (repeat' split) <;> omega), rfl⟩
    · go_enter Tryd.func20, Tryd.ntmps20
      go_wp2
      go_ret
      exact ⟨ret_int (by unfold fI absI; (repeat' split) <;> omega), rfl⟩
  · by_cases cy : y < 0
    · go_enter Tryd.func20, Tryd.ntmps20
      go_wp2
      go_ret
      exact ⟨ret_int (by unfold fI absI; (repeat' split) <;> omega), rfl⟩
    · go_enter Tryd.func20, Tryd.ntmps20
      go_wp2
      go_ret
      exact ⟨ret_int (by unfold fI absI; (repeat' split) <;> omega), rfl⟩

/-- The map of open places, as it is filled. -/
def dM (P : List Nat) : Nat → DataW Unit
  | 0 => .map []
  | i + 1 => (dM P i).put (.int .i64 (P.getD i 0 : Nat)) (.lit (.int .i64 i))
theorem dM_isMap (P : List Nat) : ∀ i, IsMap (dM P i)
  | 0 => isMap_empty
  | i + 1 => (dM_isMap P i).put _ _
theorem key_ne {a b : Nat} (h : a ≠ b) : (Lit.int .i64 (a : Int)) ≠ Lit.int .i64 (b : Int) := by
  intro e
  simp only [Lit.int.injEq, true_and] at e
  omega
theorem dM_has (P : List Nat) (p : Nat) : ∀ i, (∀ j, j < i → P.getD j 0 ≠ p) → Maps.has (dM P i) (.int .i64 (p : Int)) = false
  | 0, _ => rfl
  | i + 1, h => by
    rw [dM, has_put_other (key_ne (fun e => h i (by omega) e.symm))]
    exact dM_has P p i (fun j hj => h j (by omega))
theorem dM_at (P : List Nat) (hP : P.Pairwise (fun x y => x < y)) : ∀ i, i ≤ P.length → ∀ j, j < i → Maps.has (dM P i) (.int .i64 (P.getD j 0 : Nat)) = true ∧ ∀ z, (dM P i).atKey (.int .i64 (P.getD j 0 : Nat)) z = .lit (.int .i64 j)
  | 0, _, j, h => by omega
  | i + 1, hi, j, hj => by
    by_cases e : j = i
    · subst e
      rw [dM]
      have hkl : WideAt.IsKeyLit (.int .i64 (P.getD j 0 : Nat)) := trivial
      exact ⟨has_put_same (dM_isMap P j) hkl _, fun z => atKey_put_same (dM_isMap P j) hkl _ z⟩
    · have hne : P.getD j 0 ≠ P.getD i 0 := by
        have gi : P.getD i 0 = P[i] := by simp [List.getD, show i < P.length by omega]
        have gj : P.getD j 0 = P[j] := by simp [List.getD, show j < P.length by omega]
        have := (List.pairwise_iff_getElem.1 hP) j i (by omega) (by omega) (by omega)
        omega
      have ih := dM_at P hP i (by omega) j (by omega)
      rw [dM, has_put_other (key_ne hne)]
      exact ⟨ih.1, fun z => by rw [atKey_put_other (key_ne hne)]; exact ih.2 z⟩

theorem Tryd.law3 : Keyed Tryd.prog 3 := int_keyed Tryd.underlying3
theorem Tryd.zero3 (w : World) : (zeroValue 3).run Tryd.prog w = .ok (.int .i64 0) w := by kernel_rfl
/-- The map of open places lies in a block. -/
def MapAt (w : World) (b : Nat) (P : List Nat) (k : Nat) : Prop := w.ownsMap Tryd.prog 3 (plainElem Tryd.prog 3) b k (dM P k)
theorem MapAt.same {w w' : World} {b k : Nat} {P : List Nat} (h : MapAt w b P k) (e : w'.heap[b]? = w.heap[b]?) : MapAt w' b P k := by
  obtain ⟨es, clock, hb, r⟩ := h
  exact ⟨es, clock, e.trans hb, r⟩
theorem MapAt.kept {w w' : World} {b k : Nat} {P : List Nat} {S : List Nat} (h : MapAt w b P k) (hk : Kept S w w') (hS : b ∉ S) : MapAt w' b P k := h.same (hk.block b (World.ownsMap.lt h) hS)

/-- The finder: its map, what it has found. -/
def FinderAt (w : World) (gf bm gd k : Nat) : Prop := ∃ T, w.heap[gf]? = some (.cells #[.map (some bm), .slice (some ⟨gd, 0, none⟩) k k] T (0, 0))
theorem FinderAt.lt {w : World} {gf bm gd k : Nat} (h : FinderAt w gf bm gd k) : gf < w.heap.size := by
  obtain ⟨T, e⟩ := h
  rcases Nat.lt_or_ge gf w.heap.size with h | h
  · exact h
  · rw [Array.getElem?_eq_none h] at e; cases e
theorem FinderAt.kept {w w' : World} {gf bm gd k : Nat} {S : List Nat} (h : FinderAt w gf bm gd k) (hk : Kept S w w') (hS : gf ∉ S) : FinderAt w' gf bm gd k := by
  have hl := h.lt
  obtain ⟨T, e⟩ := h
  exact ⟨T, (hk.block gf hl hS).trans e⟩
theorem FinderAt.cells {w : World} {gf bm gd k : Nat} (h : FinderAt w gf bm gd k) : w.cell? ⟨gf, 0, none⟩ = some (.map (some bm)) ∧ w.cell? ⟨gf, 1, none⟩ = some (.slice (some ⟨gd, 0, none⟩) k k) := by
  obtain ⟨T, e⟩ := h
  constructor
  · rw [cell_of_row _ _ _ _ _ _ e]; rfl
  · rw [cell_of_row _ _ _ _ _ _ e]; rfl

theorem lit_inj {a b : Int} (h : (DataW.lit (.int .i64 a) : DataW Unit) = .lit (.int .i64 b)) : a = b := by
  simpa using h
/-- What is found at a place by its sight. -/
def bitM (q : Bool) (z : Int) : Int := if q && decide (z < 0) then 1 else 0

set_option maxRecDepth 100000 in
set_option maxHeartbeats 2000000 in
theorem bit_no (P : List Nat) (k p gf bm gd : Nat) (z : Int) (w : World) (hp : p ≤ 512) (hno : ∀ j, j < k → P.getD j 0 ≠ p) (hM : MapAt w bm P k) (hF : FinderAt w gf bm gd k) :
    Calls Tryd.prog 19 #[.pointer (some ⟨gf, 0, none⟩), .int .i64 p, .int .i64 z] w fun e w' => e = .returned (.int .u8 0) ∧ w' = w := by
  obtain ⟨f0, f1⟩ := hF.cells
  have hkey : keyOf Tryd.prog 3 (.int .i64 (p : Int)) = some (.int .i64 (p : Int)) := keyOf_int_mk Tryd.underlying3 (WalkArith.wf_i64 (by omega))
  have hh := dM_has P p k hno
  clear hF
  go_enter Tryd.func19, Tryd.ntmps19
  go_wp2_with (first
    | (at_lookup; refine wpList_lookup_own_ok_int _ rfl _ _ 39 rfl 3 3 .i64 Tryd.law3 Tryd.underlying39 Tryd.underlying3 (Tryd.zero3 _) bm k _ rfl hM _ _ rfl hkey ?_; intro c hat hwc; rw [hh]))
  go_ret
  exact ⟨rfl, rfl⟩

set_option maxRecDepth 100000 in
set_option maxHeartbeats 2000000 in
theorem bit_yes (P : List Nat) (hP : P.Pairwise (fun x y => x < y)) (k p i gf bm gd : Nat) (fd : List Int) (z : Int) (w : World) (hp : p ≤ 512) (hl : P.length = k) (hi : i < k) (hpi : P.getD i 0 = p) (hM : MapAt w bm P k) (hF : FinderAt w gf bm gd k) (hD : ArrAt .u8 5 w gd fd) (hfd : fd.length = k) :
    Calls Tryd.prog 19 #[.pointer (some ⟨gf, 0, none⟩), .int .i64 p, .int .i64 z] w fun e w' => e = .returned (.int .u8 (bitM true z)) ∧ ArrAt .u8 5 w' gd (if z < 0 then fd.set i 1 else fd) ∧ Kept [gd] w w' := by
  obtain ⟨f0, f1⟩ := hF.cells
  have hkey : keyOf Tryd.prog 3 (.int .i64 (p : Int)) = some (.int .i64 (p : Int)) := keyOf_int_mk Tryd.underlying3 (WalkArith.wf_i64 (by omega))
  have ha := dM_at P hP k (by omega) i hi
  rw [hpi] at ha
  obtain ⟨hh, hv⟩ := ha
  have HV := hid (hv (.lit (.int .i64 0)))
  clear hF hv
  by_cases hz : z < 0
  · have HB := hid (show bitM true z = 1 by simp [bitM, hz])
    rw [if_pos hz]
    have hset := hD.set i 1
    have hf := hD.free i
    have hc := hD.cell (j := i) (by omega)
    have hkept := (Kept.refl [gd] w).setCell (p := ⟨gd, i, none⟩) (by simp) (.int .u8 1)
    generalize fd.getD i 0 = old at *
    have HL := hid hl
    have HFD := hid hfd
    clear hl hfd hpi
    rw [HB.out]
    go_enter Tryd.func19, Tryd.ntmps19
    go_wp2_with (first
      | (at_lookup; refine wpList_lookup_own_ok_int _ rfl _ _ 39 rfl 3 3 .i64 Tryd.law3 Tryd.underlying39 Tryd.underlying3 (Tryd.zero3 _) bm k _ rfl hM _ _ rfl hkey ?_; intro c hat hwc; rw [hh]; obtain rfl : c = (i : Int) := lit_inj (hat.symm.trans HV.out)))
    go_ret
    exact ⟨rfl, hset, hkept⟩
  · have HB := hid (show bitM true z = 0 by simp [bitM, hz])
    rw [if_neg hz, HB.out]
    have HL := hid hl
    have HFD := hid hfd
    clear hl hfd hpi
    go_enter Tryd.func19, Tryd.ntmps19
    go_wp2_with (first
      | (at_lookup; refine wpList_lookup_own_ok_int _ rfl _ _ 39 rfl 3 3 .i64 Tryd.law3 Tryd.underlying39 Tryd.underlying3 (Tryd.zero3 _) bm k _ rfl hM _ _ rfl hkey ?_; intro c hat hwc; rw [hh]; obtain rfl : c = (i : Int) := lit_inj (hat.symm.trans HV.out)))
    go_ret
    exact ⟨rfl, hD, Kept.refl _ _⟩
end Go.Proofs.YtfbjedcfppghgacDoor
