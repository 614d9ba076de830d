import Derived.Test.YtdndeegpbjlibadGreatDoorK21
import Derived.Test.YtdndeegpbjlibadGreatDoorK19
import Derived.Maps.Own
import Derived.Maps.OwnOps
import Derived.Maps.OwnSet
import Derived.Maps.Views
namespace Go.Proofs.YtdndeegpbjlibadGreatDoor
open Go.ChangeShapes Go.WideShapes Go.ChangeAt Go.RowKit Go.Maps

/-! THE PROGRAM'S lesser, bit: the map of open places. -/

set_option maxRecDepth 100000 in
set_option maxHeartbeats 1000000 in
theorem lesser_any (x y : Int) (w : World) (hx : -4611686018427387904 ≤ x ∧ x ≤ 4611686018427387904) (hy : -4611686018427387904 ≤ y ∧ y ≤ 4611686018427387904) :
    Calls Tryz.prog 56 #[.int .i64 x, .int .i64 y] w fun e w' => e = .returned (.int .i64 (fI x y)) ∧ w' = w := by
  by_cases cx : x < 0
  · by_cases cy : y < 0
    · go_enter Tryz.func56, Tryz.ntmps56
      go_wp2
      go_ret
      exact ⟨ret_int (by unfold fI absI; (repeat' split) <;> omega), rfl⟩
    · go_enter Tryz.func56, Tryz.ntmps56
      go_wp2
      go_ret
      exact ⟨ret_int (by unfold fI absI; (repeat' split) <;> omega), rfl⟩
  · by_cases cy : y < 0
    · go_enter Tryz.func56, Tryz.ntmps56
      go_wp2
      go_ret
      exact ⟨ret_int (by unfold fI absI; (repeat' split) <;> omega), rfl⟩
    · go_enter Tryz.func56, Tryz.ntmps56
      go_wp2
      go_ret
      exact ⟨ret_int (by unfold fI absI; (repeat' split) <;> omega), rfl⟩

/-- The map of open places, as it is filled. -/
def dM (P : List Nat) : Nat → DataW Unit
  | 0 => .map []
  | i + 1 => (dM P i).put (.int .i64 (P.getD i 0 : Nat)) (.lit (.int .i64 i))
theorem dM_isMap (P : List Nat) : ∀ i, IsMap (dM P i)
  | 0 => isMap_empty
  | i + 1 => (dM_isMap P i).put _ _
theorem key_ne {a b : Nat} (h : a ≠ b) : (Lit.int .i64 (a : Int)) ≠ Lit.int .i64 (b : Int) := by
  intro e
  simp only [Lit.int.injEq, true_and] at e
  omega
theorem dM_has (P : List Nat) (p : Nat) : ∀ i, (∀ j, j < i → P.getD j 0 ≠ p) → Maps.has (dM P i) (.int .i64 (p : Int)) = false
  | 0, _ => rfl
  | i + 1, h => by
    rw [dM, has_put_other (key_ne (fun e => h i (by omega) e.symm))]
    exact dM_has P p i (fun j hj => h j (by omega))
theorem dM_at (P : List Nat) (hP : P.Pairwise (fun x y => x < y)) : ∀ i, i ≤ P.length → ∀ j, j < i → Maps.has (dM P i) (.int .i64 (P.getD j 0 : Nat)) = true ∧ ∀ z, (dM P i).atKey (.int .i64 (P.getD j 0 : Nat)) z = .lit (.int .i64 j)
  | 0, _, j, h => by omega
  | i + 1, hi, j, hj => by
    by_cases e : j = i
    · subst e
      rw [dM]
      have hkl : WideAt.IsKeyLit (.int .i64 (P.getD j 0 : Nat)) := trivial
      exact ⟨has_put_same (dM_isMap P j) hkl _, fun z => atKey_put_same (dM_isMap P j) hkl _ z⟩
    · have hne : P.getD j 0 ≠ P.getD i 0 := by
        have gi : P.getD i 0 = P[i] := by simp [List.getD, show i < P.length by omega]
        have gj : P.getD j 0 = P[j] := by simp [List.getD, show j < P.length by omega]
        have := (List.pairwise_iff_getElem.1 hP) j i (by omega) (by omega) (by omega)
        omega
      have ih := dM_at P hP i (by omega) j (by omega)
      rw [dM, has_put_other (key_ne hne)]
      exact ⟨ih.1, fun z => by rw [atKey_put_other (key_ne hne)]; exact ih.2 z⟩

theorem Tryz.law3 : Keyed Tryz.prog 3 := int_keyed Tryz.underlying3
theorem Tryz.zero3 (w : World) : (zeroValue 3).run Tryz.prog w = .ok (.int .i64 0) w := by kernel_rfl
/-- The map of open places lies in a block. -/
def MapAt (w : World) (b : Nat) (P : List Nat) (k : Nat) : Prop := w.ownsMap Tryz.prog 3 (plainElem Tryz.prog 3) b k (dM P k)
theorem MapAt.same {w w' : World} {b k : Nat} {P : List Nat} (h : MapAt w b P k) (e : w'.heap[b]? = w.heap[b]?) : MapAt w' b P k := by
  obtain ⟨es, clock, hb, r⟩ := h
  exact ⟨es, clock, e.trans hb, r⟩
theorem MapAt.kept {w w' : World} {b k : Nat} {P : List Nat} {S : List Nat} (h : MapAt w b P k) (hk : Kept S w w') (hS : b ∉ S) : MapAt w' b P k := h.same (hk.block b (World.ownsMap.lt h) hS)

/-- The finder: its map, what it has found. -/
def FinderAt (w : World) (gf bm gd k : Nat) : Prop := ∃ T, w.heap[gf]? = some (.cells #[.map (some bm), .slice (some ⟨gd, 0, none⟩) k k] T (0, 0))
theorem FinderAt.lt {w : World} {gf bm gd k : Nat} (h : FinderAt w gf bm gd k) : gf < w.heap.size := by
  obtain ⟨T, e⟩ := h
  rcases Nat.lt_or_ge gf w.heap.size with h | h
  · exact h
  · rw [Array.getElem?_eq_none h] at e; cases e
theorem FinderAt.kept {w w' : World} {gf bm gd k : Nat} {S : List Nat} (h : FinderAt w gf bm gd k) (hk : Kept S w w') (hS : gf ∉ S) : FinderAt w' gf bm gd k := by
  have hl := h.lt
  obtain ⟨T, e⟩ := h
  exact ⟨T, (hk.block gf hl hS).trans e⟩
theorem FinderAt.cells {w : World} {gf bm gd k : Nat} (h : FinderAt w gf bm gd k) : w.cell? ⟨gf, 0, none⟩ = some (.map (some bm)) ∧ w.cell? ⟨gf, 1, none⟩ = some (.slice (some ⟨gd, 0, none⟩) k k) := by
  obtain ⟨T, e⟩ := h
  constructor
  · rw [cell_of_row _ _ _ _ _ _ e]; rfl
  · rw [cell_of_row _ _ _ _ _ _ e]; rfl

theorem lit_inj {a b : Int} (h : (DataW.lit (.int .i64 a) : DataW Unit) = .lit (.int .i64 b)) : a = b := by
  simpa using h
/-- What is found at a place by its sight. -/
def bitM (q : Bool) (z : Int) : Int := if q && decide (z < 0) then 1 else 0

set_option maxRecDepth 100000 in
set_option maxHeartbeats 2000000 in
theorem bit_no (P : List Nat) (k p gf bm gd : Nat) (z : Int) (w : World) (hp : p ≤ 512) (hno : ∀ j, j < k → P.getD j 0 ≠ p) (hM : MapAt w bm P k) (hF : FinderAt w gf bm gd k) :
    Calls Tryz.prog 55 #[.pointer (some ⟨gf, 0, none⟩), .int .i64 p, .int .i64 z] w fun e w' => e = .returned (.int .u8 0) ∧ w' = w := by
  obtain ⟨f0, f1⟩ := hF.cells
  have hkey : keyOf Tryz.prog 3 (.int .i64 (p : Int)) = some (.int .i64 (p : Int)) := keyOf_int_mk Tryz.underlying3 (WalkArith.wf_i64 (by omega))
  have hh := dM_has P p k hno
  clear hF
  go_enter Tryz.func55, Tryz.ntmps55
  go_wp2_with (first
    | (at_lookup; refine wpList_lookup_own_ok_int _ rfl _ _ 72 rfl 3 3 .i64 Tryz.law3 Tryz.underlying72 Tryz.underlying3 (Tryz.zero3 _) bm k _ rfl hM _ _ rfl hkey ?_; intro c hat hwc; rw [hh]))
  go_ret
  exact ⟨rfl, rfl⟩

set_option maxRecDepth 100000 in
set_option maxHeartbeats 2000000 in
theorem bit_yes (P : List Nat) (hP : P.Pairwise (fun x y => x < y)) (k p i gf bm gd : Nat) (fd : List Int) (z : Int) (w : World) (hp : p ≤ 512) (hl : P.length = k) (hi : i < k) (hpi : P.getD i 0 = p) (hM : MapAt w bm P k) (hF : FinderAt w gf bm gd k) (hD : ArrAt .u8 5 w gd fd) (hfd : fd.length = k) :
    Calls Tryz.prog 55 #[.pointer (some ⟨gf, 0, none⟩), .int .i64 p, .int .i64 z] w fun e w' => e = .returned (.int .u8 (bitM true z)) ∧ ArrAt .u8 5 w' gd (if z < 0 then fd.set i 1 else fd) ∧ Kept [gd] w w' := by
  obtain ⟨f0, f1⟩ := hF.cells
  have hkey : keyOf Tryz.prog 3 (.int .i64 (p : Int)) = some (.int .i64 (p : Int)) := keyOf_int_mk Tryz.underlying3 (WalkArith.wf_i64 (by omega))
  have ha := dM_at P hP k (by omega) i hi
  rw [hpi] at ha
  obtain ⟨hh, hv⟩ := ha
  have HV := hid (hv (.lit (.int .i64 0)))
  clear hF hv
  by_cases hz : z < 0
  · have HB := hid (show bitM true z = 1 by simp [bitM, hz])
    rw [if_pos hz]
    have hset := hD.set i 1
    have hf := hD.free i
    have hc := hD.cell (j := i) (by omega)
    have hkept := (Kept.refl [gd] w).setCell (p := ⟨gd, i, none⟩) (by simp) (.int .u8 1)
    generalize fd.getD i 0 = old at *
    have HL := hid hl
    have HFD := hid hfd
    clear hl hfd hpi
    rw [HB.out]
    go_enter Tryz.func55, Tryz.ntmps55
    go_wp2_with (first
      | (at_lookup; refine wpList_lookup_own_ok_int _ rfl _ _ 72 rfl 3 3 .i64 Tryz.law3 Tryz.underlying72 Tryz.underlying3 (Tryz.zero3 _) bm k _ rfl hM _ _ rfl hkey ?_; intro c hat hwc; rw [hh]; obtain rfl : c = (i : Int) := lit_inj (hat.symm.trans HV.out)))
    go_ret
    exact ⟨rfl, hset, hkept⟩
  · have HB := hid (show bitM true z = 0 by simp [bitM, hz])
    rw [if_neg hz, HB.out]
    have HL := hid hl
    have HFD := hid hfd
    clear hl hfd hpi
    go_enter Tryz.func55, Tryz.ntmps55
    go_wp2_with (first
      | (at_lookup; refine wpList_lookup_own_ok_int _ rfl _ _ 72 rfl 3 3 .i64 Tryz.law3 Tryz.underlying72 Tryz.underlying3 (Tryz.zero3 _) bm k _ rfl hM _ _ rfl hkey ?_; intro c hat hwc; rw [hh]; obtain rfl : c = (i : Int) := lit_inj (hat.symm.trans HV.out)))
    go_ret
    exact ⟨rfl, hD, Kept.refl _ _⟩
end Go.Proofs.YtdndeegpbjlibadGreatDoor

namespace Go.Proofs.YtdndeegpbjlibadGreatDoor
open Go.ChangeShapes Go.WideShapes Go.ChangeAt Go.RowKit Go.Maps

/-! THE PROGRAM'S find: mathematics, and one place. -/

/-- Which of n places from first on are open. -/
def flagsM (P : List Nat) (first n : Nat) : List Bool := (List.range n).map fun j => decide (first + j ∈ P)
theorem flags_take (P : List Nat) (first h : Nat) : (flagsM P first (h + h)).take h = flagsM P first h := by
  unfold flagsM
  rw [← List.map_take, List.take_range, Nat.min_eq_left (by omega)]
theorem flags_drop (P : List Nat) (first h : Nat) : (flagsM P first (h + h)).drop h = flagsM P (first + h) h := by
  refine List.ext_getElem (by simp [flagsM]) fun j h1 h2 => ?_
  simp [flagsM, Nat.add_assoc]
theorem dec_step (m : Nat) (l : List Int) (P : List Nat) (first h : Nat) (eh : h = 2 ^ m) : decP (m + 1) l (flagsM P first (h + h)) =
    decP m (fL (l.take h) (l.drop h)) (flagsM P first h) ++ decP m (gL (turnM m (decP m (fL (l.take h) (l.drop h)) (flagsM P first h))) (l.take h) (l.drop h)) (flagsM P (first + h) h) := by
  subst eh
  rw [decP, flags_take, flags_drop]
theorem turn_halves (m : Nat) (u v : List Int) (hu : u.length = 2 ^ m) : turnM (m + 1) (u ++ v) = addL (turnM m u) (turnM m v) ++ turnM m v := by
  rw [turnM, List.take_left' hu, List.drop_left' hu]
theorem mem_at {P : List Nat} {p : Nat} (h : p ∈ P) : ∃ i, i < P.length ∧ P.getD i 0 = p := by
  obtain ⟨i, hi, rfl⟩ := List.getElem_of_mem h
  exact ⟨i, hi, by simp [List.getD, hi]⟩
theorem not_mem_at {P : List Nat} {p : Nat} (h : p ∉ P) {k : Nat} (hk : P.length = k) : ∀ j, j < k → P.getD j 0 ≠ p := fun j hj e => by
  have gj : P.getD j 0 = P[j] := by simp [List.getD, hk, hj]
  rw [gj] at e
  exact h (e ▸ List.getElem_mem _)

/-- What holds of the finder's memory. -/
structure Fm (P : List Nat) (k gf bm gd gt b1 : Nat) : Prop where
  sorted : P.Pairwise (fun x y => x < y)
  len : P.length = k
  fd : gf ≠ gd
  ft : gf ≠ gt
  md : bm ≠ gd
  mt : bm ≠ gt
  dt : gd ≠ gt
  hd : b1 ≠ gd
  ht : b1 ≠ gt

set_option maxRecDepth 100000 in
set_option maxHeartbeats 2000000 in
theorem find_one (P : List Nat) (k gf bm gd gt b1 o1 o c ct first : Nat) (l A x Z fd : List Int) (w : World) (H : Fm P k gf bm gd gt b1) (ha : Rd .i64 w (some ⟨b1, o1, none⟩) l) (hl : l.length = 1) (hr : ArrAt .u8 5 w gt (A ++ x ++ Z)) (hA : A.length = o) (hx : x.length = 1)
    (hM : MapAt w bm P k) (hF : FinderAt w gf bm gd k) (hD : ArrAt .u8 5 w gd fd) (hfd : fd.length = k) (h5 : first ≤ 512) :
    Calls Tryz.prog 36 #[.pointer (some ⟨gf, 0, none⟩), .slice (some ⟨b1, o1, none⟩) 1 c, .int .i64 first, .slice (some ⟨gt, o, none⟩) 1 ct] w fun e w' =>
      e = .returned (.tuple #[]) ∧ ArrAt .u8 5 w' gt (A ++ turnM 0 (decP 0 l (flagsM P first 1)) ++ Z) ∧ ArrAt .u8 5 w' gd (updM P fd first (decP 0 l (flagsM P first 1))) ∧ Kept [gt, gd] w w' := by
  obtain ⟨b, o', e, hc1⟩ := ha.at (i := 0) (by omega)
  simp only [Option.some.injEq, Addr.mk.injEq, and_true] at e
  obtain ⟨rfl, rfl⟩ := e
  have g1 := hc1 0 (by omega)
  rw [Nat.add_zero] at g1
  obtain ⟨z, ez⟩ : ∃ z, z = l.getD 0 0 := ⟨_, rfl⟩
  have hdec : decP 0 l (flagsM P first 1) = [bitM (decide (first ∈ P)) z] := by
    rw [ez]
    simp [decP, flagsM, bitM]
  rw [hdec, turnM]
  rw [← ez] at g1
  have hx1 : ∃ y, x = [y] := by
    match x, hx with
    | [y], _ => exact ⟨y, rfl⟩
  obtain ⟨y, rfl⟩ := hx1
  have hro : (A ++ [y] ++ Z).getD o 0 = y := by
    have := row_at (A := A) (x := [y]) (Z := Z) (o := o) (k := 0) hA (by simp)
    simpa using this
  have hso : ∀ v, (A ++ [y] ++ Z).set o v = A ++ [v] ++ Z := fun v => by
    have := row_set (A := A) (x := [y]) (Z := Z) (o := o) (k := 0) hA (by simp) v
    simpa using this
  have hlo : o < (A ++ [y] ++ Z).length := by simp; omega
  clear ha hl hc1 ez hdec hx
  by_cases hin : first ∈ P
  · obtain ⟨i, hi, hpi⟩ := mem_at hin
    rw [H.len] at hi
    have hb := bit_yes P H.sorted k first i gf bm gd fd z w h5 H.len hi hpi hM hF hD hfd
    rw [decide_eq_true hin]
    have HU : Hid ((if z < 0 then fd.set i 1 else fd) = updM P fd first [bitM true z]) := by
      unfold Hid
      by_cases hz : z < 0
      · have e : bitM true z = 1 := by simp [bitM, hz]
        rw [if_pos hz, e, ← hpi, upd_one P H.sorted fd (hfd.trans H.len.symm) i (by rw [H.len]; exact hi)]
      · have e : bitM true z = 0 := by simp [bitM, hz]
        rw [if_neg hz, upd_none P fd first _ e]
    rw [HU.out] at hb
    generalize bitM true z = v at *
    have HH := hid H
    have HA := hid hA
    have HS := hid hso
    have HO := hid hro
    clear hpi hin hA H HU hso hro hfd hD hM hF
    go_enter Tryz.func36, Tryz.ntmps36
    go_wp2_with fail
    refine hb.mono ?_
    rintro e w1 ⟨rfl, hD1, hk1⟩
    have hr1 := hr.kept hk1 (by simp; exact HH.out.dt.symm)
    have hcz := hr1.cell hlo
    have hf := hr1.free o
    have hset := hr1.set o v
    rw [HS.out] at hset
    rw [HO.out] at hcz
    go_wp2
    refine bodyPost_ret (results_none rfl _ _ _) rfl ?_
    refine ⟨rfl, hset, hD1.other _ _ HH.out.dt, (hk1.wider (by simp)).setCell (by simp) _⟩
  · have hb := bit_no P k first gf bm gd z w h5 (not_mem_at hin H.len) hM hF
    rw [decide_eq_false hin]
    have e0 : bitM false z = 0 := by simp [bitM]
    rw [e0, upd_none P fd first 0 rfl]
    have HS := hid hso
    have HH := hid H
    have hcz := hr.cell hlo
    have hf := hr.free o
    have hset := hr.set o 0
    rw [hro] at hcz
    rw [HS.out] at hset
    have HD := hid hD
    clear hin hA H hso hro hfd hM hF e0 hD
    go_enter Tryz.func36, Tryz.ntmps36
    go_wp2_with fail
    refine hb.mono ?_
    rintro e w1 ⟨rfl, rfl⟩
    go_wp2
    refine bodyPost_ret (results_none rfl _ _ _) rfl ?_
    exact ⟨rfl, hset, HD.out.other _ _ HH.out.dt, (Kept.refl _ _).setCell (by simp) _⟩
end Go.Proofs.YtdndeegpbjlibadGreatDoor
