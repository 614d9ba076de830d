import Derived.Test.YtplkmkbambbemaeGreatDoorM11
import Derived.Test.YtplkmkbambbemaeGreatDoorM06
import Derived.Maps.Own
import Derived.Maps.OwnOps
import Derived.Maps.OwnSet
import Derived.Maps.Views
import Derived.Test.YtplkmkbambbemaeGreatDoorM10
import Derived.Deep.CutRange
import Derived.Deep.OwnRows
namespace Go.Proofs.YtplkmkbambbemaeGreatDoor
open Go.ChangeShapes Go.WideShapes Go.ChangeAt Go.RowKit Go.Maps
set_option maxRecDepth 100000 in
set_option maxHeartbeats 1000000 in
theorem lesser_any (x y : Int) (w : World) (hx : -4611686018427387904 ≤ x ∧ x ≤ 4611686018427387904) (hy : -4611686018427387904 ≤ y ∧ y ≤ 4611686018427387904) :
    Calls Tryz.prog 85 #[.int .i64 x, .int .i64 y] w fun e w' => e = .returned (.int .i64 (fI x y)) ∧ w' = w := by
  by_cases cx : x < 0
  · by_cases cy : y < 0
    · go_enter Tryz.func85, Tryz.ntmps85
      go_wp2
      go_ret
      exact ⟨ret_int (by unfold fI absI; (repeat' split) <;> omega), rfl⟩
    · go_enter Tryz.func85, Tryz.ntmps85
      go_wp2
      go_ret
      exact ⟨ret_int (by unfold fI absI; (repeat' split) <;> omega), rfl⟩
  · by_cases cy : y < 0
    · go_enter Tryz.func85, Tryz.ntmps85
      go_wp2
      go_ret
      exact ⟨ret_int (by unfold fI absI; (repeat' split) <;> omega), rfl⟩
    · go_enter Tryz.func85, Tryz.ntmps85
      go_wp2
      go_ret
      exact ⟨ret_int (by unfold fI absI; (repeat' split) <;> omega), rfl⟩
/-- The map of open places, as it is filled. -/
def dM (P : List Nat) : Nat → DataW Unit
  | 0 => .map []
  | i + 1 => (dM P i).put (.int .i64 (P.getD i 0 : Nat)) (.lit (.int .i64 i))
theorem dM_isMap (P : List Nat) : ∀ i, IsMap (dM P i)
  | 0 => isMap_empty
  | i + 1 => (dM_isMap P i).put _ _
theorem key_ne {a b : Nat} (h : a ≠ b) : (Lit.int .i64 (a : Int)) ≠ Lit.int .i64 (b : Int) := by
  intro e
  simp only [Lit.int.injEq, true_and] at e
  omega
theorem dM_has (P : List Nat) (p : Nat) : ∀ i, (∀ j, j < i → P.getD j 0 ≠ p) → Maps.has (dM P i) (.int .i64 (p : Int)) = false
  | 0, _ => rfl
  | i + 1, h => by
    rw [dM, has_put_other (key_ne (fun e => h i (by omega) e.symm))]
    exact dM_has P p i (fun j hj => h j (by omega))
theorem dM_at (P : List Nat) (hP : P.Pairwise (fun x y => x < y)) : ∀ i, i ≤ P.length → ∀ j, j < i → Maps.has (dM P i) (.int .i64 (P.getD j 0 : Nat)) = true ∧ ∀ z, (dM P i).atKey (.int .i64 (P.getD j 0 : Nat)) z = .lit (.int .i64 j)
  | 0, _, j, h => by omega
  | i + 1, hi, j, hj => by
    by_cases e : j = i
    · subst e
      rw [dM]
      have hkl : WideAt.IsKeyLit (.int .i64 (P.getD j 0 : Nat)) := trivial
      exact ⟨has_put_same (dM_isMap P j) hkl _, fun z => atKey_put_same (dM_isMap P j) hkl _ z⟩
    · have hne : P.getD j 0 ≠ P.getD i 0 := by
        have gi : P.getD i 0 = P[i] := by simp [List.getD, show i < P.length by omega]
        have gj : P.getD j 0 = P[j] := by simp [List.getD, show j < P.length by omega]
        have := (List.pairwise_iff_getElem.1 hP) j i (by omega) (by omega) (by omega)
        omega
      have ih := dM_at P hP i (by omega) j (by omega)
      rw [dM, has_put_other (key_ne hne)]
      exact ⟨ih.1, fun z => by rw [atKey_put_other (key_ne hne)]; exact ih.2 z⟩
theorem Tryz.law3 : Keyed Tryz.prog 3 := int_keyed Tryz.underlying3
theorem Tryz.zero3 (w : World) : (zeroValue 3).run Tryz.prog w = .ok (.int .i64 0) w := by kernel_rfl
/-- The map of open places lies in a block. -/
def MapAt (w : World) (b : Nat) (P : List Nat) (k : Nat) : Prop := w.ownsMap Tryz.prog 3 (plainElem Tryz.prog 3) b k (dM P k)
theorem MapAt.same {w w' : World} {b k : Nat} {P : List Nat} (h : MapAt w b P k) (e : w'.heap[b]? = w.heap[b]?) : MapAt w' b P k := by
  obtain ⟨es, clock, hb, r⟩ := h
  exact ⟨es, clock, e.trans hb, r⟩
theorem MapAt.kept {w w' : World} {b k : Nat} {P : List Nat} {S : List Nat} (h : MapAt w b P k) (hk : Kept S w w') (hS : b ∉ S) : MapAt w' b P k := h.same (hk.block b (World.ownsMap.lt h) hS)
/-- The finder: its map, what it has found. -/
def FinderAt (w : World) (gf bm gd k : Nat) : Prop := ∃ T, w.heap[gf]? = some (.cells #[.map (some bm), .slice (some ⟨gd, 0, none⟩) k k] T (0, 0))
theorem FinderAt.lt {w : World} {gf bm gd k : Nat} (h : FinderAt w gf bm gd k) : gf < w.heap.size := by
  obtain ⟨T, e⟩ := h
  rcases Nat.lt_or_ge gf w.heap.size with h | h
  · exact h
  · rw [Array.getElem?_eq_none h] at e; cases e
theorem FinderAt.kept {w w' : World} {gf bm gd k : Nat} {S : List Nat} (h : FinderAt w gf bm gd k) (hk : Kept S w w') (hS : gf ∉ S) : FinderAt w' gf bm gd k := by
  have hl := h.lt
  obtain ⟨T, e⟩ := h
  exact ⟨T, (hk.block gf hl hS).trans e⟩
theorem FinderAt.cells {w : World} {gf bm gd k : Nat} (h : FinderAt w gf bm gd k) : w.cell? ⟨gf, 0, none⟩ = some (.map (some bm)) ∧ w.cell? ⟨gf, 1, none⟩ = some (.slice (some ⟨gd, 0, none⟩) k k) := by
  obtain ⟨T, e⟩ := h
  constructor
  · rw [cell_of_row _ _ _ _ _ _ e]; rfl
  · rw [cell_of_row _ _ _ _ _ _ e]; rfl
theorem lit_inj {a b : Int} (h : (DataW.lit (.int .i64 a) : DataW Unit) = .lit (.int .i64 b)) : a = b := by
  simpa using h
/-- What is found at a place by its sight. -/
def bitM (q : Bool) (z : Int) : Int := if q && decide (z < 0) then 1 else 0
set_option maxRecDepth 100000 in
set_option maxHeartbeats 2000000 in
theorem bit_no (P : List Nat) (k p gf bm gd : Nat) (z : Int) (w : World) (hp : p ≤ 512) (hno : ∀ j, j < k → P.getD j 0 ≠ p) (hM : MapAt w bm P k) (hF : FinderAt w gf bm gd k) :
    Calls Tryz.prog 84 #[.pointer (some ⟨gf, 0, none⟩), .int .i64 p, .int .i64 z] w fun e w' => e = .returned (.int .u8 0) ∧ w' = w := by
  obtain ⟨f0, f1⟩ := hF.cells
  have hkey : keyOf Tryz.prog 3 (.int .i64 (p : Int)) = some (.int .i64 (p : Int)) := keyOf_int_mk Tryz.underlying3 (WalkArith.wf_i64 (by omega))
  have hh := dM_has P p k hno
  clear hF
  go_enter Tryz.func84, Tryz.ntmps84
  go_wp2_with (first
    | (at_lookup; refine wpList_lookup_own_ok_int _ rfl _ _ 114 rfl 3 3 .i64 Tryz.law3 Tryz.underlying114 Tryz.underlying3 (Tryz.zero3 _) bm k _ rfl hM _ _ rfl hkey ?_; intro c hat hwc; rw [hh]))
  go_ret
  exact ⟨rfl, rfl⟩
set_option maxRecDepth 100000 in
set_option maxHeartbeats 2000000 in
theorem bit_yes (P : List Nat) (hP : P.Pairwise (fun x y => x < y)) (k p i gf bm gd : Nat) (fd : List Int) (z : Int) (w : World) (hp : p ≤ 512) (hl : P.length = k) (hi : i < k) (hpi : P.getD i 0 = p) (hM : MapAt w bm P k) (hF : FinderAt w gf bm gd k) (hD : ArrAt .u8 5 w gd fd) (hfd : fd.length = k) :
    Calls Tryz.prog 84 #[.pointer (some ⟨gf, 0, none⟩), .int .i64 p, .int .i64 z] w fun e w' => e = .returned (.int .u8 (bitM true z)) ∧ ArrAt .u8 5 w' gd (if z < 0 then fd.set i 1 else fd) ∧ Kept [gd] w w' := by
  obtain ⟨f0, f1⟩ := hF.cells
  have hkey : keyOf Tryz.prog 3 (.int .i64 (p : Int)) = some (.int .i64 (p : Int)) := keyOf_int_mk Tryz.underlying3 (WalkArith.wf_i64 (by omega))
  have ha := dM_at P hP k (by omega) i hi
  rw [hpi] at ha
  obtain ⟨hh, hv⟩ := ha
  have HV := hid (hv (.lit (.int .i64 0)))
  clear hF hv
  by_cases hz : z < 0
  · have HB := hid (show bitM true z = 1 by simp [bitM, hz])
    rw [if_pos hz]
    have hset := hD.set i 1
    have hf := hD.free i
    have hc := hD.cell (j := i) (by omega)
    have hkept := (Kept.refl [gd] w).setCell (p := ⟨gd, i, none⟩) (by simp) (.int .u8 1)
    generalize fd.getD i 0 = old at *
    have HL := hid hl
    have HFD := hid hfd
    clear hl hfd hpi
    rw [HB.out]
    go_enter Tryz.func84, Tryz.ntmps84
    go_wp2_with (first
      | (at_lookup; refine wpList_lookup_own_ok_int _ rfl _ _ 114 rfl 3 3 .i64 Tryz.law3 Tryz.underlying114 Tryz.underlying3 (Tryz.zero3 _) bm k _ rfl hM _ _ rfl hkey ?_; intro c hat hwc; rw [hh]; obtain rfl : c = (i : Int) := lit_inj (hat.symm.trans HV.out)))
    go_ret
    exact ⟨rfl, hset, hkept⟩
  · have HB := hid (show bitM true z = 0 by simp [bitM, hz])
    rw [if_neg hz, HB.out]
    have HL := hid hl
    have HFD := hid hfd
    clear hl hfd hpi
    go_enter Tryz.func84, Tryz.ntmps84
    go_wp2_with (first
      | (at_lookup; refine wpList_lookup_own_ok_int _ rfl _ _ 114 rfl 3 3 .i64 Tryz.law3 Tryz.underlying114 Tryz.underlying3 (Tryz.zero3 _) bm k _ rfl hM _ _ rfl hkey ?_; intro c hat hwc; rw [hh]; obtain rfl : c = (i : Int) := lit_inj (hat.symm.trans HV.out)))
    go_ret
    exact ⟨rfl, hD, Kept.refl _ _⟩
end Go.Proofs.YtplkmkbambbemaeGreatDoor
namespace Go.Proofs.YtplkmkbambbemaeGreatDoor
open Go.ChangeShapes Go.WideShapes Go.ChangeAt Go.RowKit Go.Maps
/-- Which of n places from first on are open. -/
def flagsM (P : List Nat) (first n : Nat) : List Bool := (List.range n).map fun j => decide (first + j ∈ P)
theorem flags_take (P : List Nat) (first h : Nat) : (flagsM P first (h + h)).take h = flagsM P first h := by
  unfold flagsM
  rw [← List.map_take, List.take_range, Nat.min_eq_left (by omega)]
theorem flags_drop (P : List Nat) (first h : Nat) : (flagsM P first (h + h)).drop h = flagsM P (first + h) h := by
  refine List.ext_getElem (by simp [flagsM]) fun j h1 h2 => ?_
  simp [flagsM, Nat.add_assoc]
theorem dec_step (m : Nat) (l : List Int) (P : List Nat) (first h : Nat) (eh : h = 2 ^ m) : decP (m + 1) l (flagsM P first (h + h)) =
    decP m (fL (l.take h) (l.drop h)) (flagsM P first h) ++ decP m (gL (turnM m (decP m (fL (l.take h) (l.drop h)) (flagsM P first h))) (l.take h) (l.drop h)) (flagsM P (first + h) h) := by
  subst eh
  rw [decP, flags_take, flags_drop]
theorem turn_halves (m : Nat) (u v : List Int) (hu : u.length = 2 ^ m) : turnM (m + 1) (u ++ v) = addL (turnM m u) (turnM m v) ++ turnM m v := by
  rw [turnM, List.take_left' hu, List.drop_left' hu]
theorem mem_at {P : List Nat} {p : Nat} (h : p ∈ P) : ∃ i, i < P.length ∧ P.getD i 0 = p := by
  obtain ⟨i, hi, rfl⟩ := List.getElem_of_mem h
  exact ⟨i, hi, by simp [List.getD, hi]⟩
theorem not_mem_at {P : List Nat} {p : Nat} (h : p ∉ P) {k : Nat} (hk : P.length = k) : ∀ j, j < k → P.getD j 0 ≠ p := fun j hj e => by
  have gj : P.getD j 0 = P[j] := by simp [List.getD, hk, hj]
  rw [gj] at e
  exact h (e ▸ List.getElem_mem _)
/-- What holds of the finder's memory. -/
structure Fm (P : List Nat) (k gf bm gd gt b1 : Nat) : Prop where
  sorted : P.Pairwise (fun x y => x < y)
  len : P.length = k
  fd : gf ≠ gd
  ft : gf ≠ gt
  md : bm ≠ gd
  mt : bm ≠ gt
  dt : gd ≠ gt
  hd : b1 ≠ gd
  ht : b1 ≠ gt
set_option maxRecDepth 100000 in
set_option maxHeartbeats 2000000 in
theorem find_one (P : List Nat) (k gf bm gd gt b1 o1 o c ct first : Nat) (l A x Z fd : List Int) (w : World) (H : Fm P k gf bm gd gt b1) (ha : Rd .i64 w (some ⟨b1, o1, none⟩) l) (hl : l.length = 1) (hr : ArrAt .u8 5 w gt (A ++ x ++ Z)) (hA : A.length = o) (hx : x.length = 1)
    (hM : MapAt w bm P k) (hF : FinderAt w gf bm gd k) (hD : ArrAt .u8 5 w gd fd) (hfd : fd.length = k) (h5 : first ≤ 512) :
    Calls Tryz.prog 75 #[.pointer (some ⟨gf, 0, none⟩), .slice (some ⟨b1, o1, none⟩) 1 c, .int .i64 first, .slice (some ⟨gt, o, none⟩) 1 ct] w fun e w' =>
      e = .returned (.tuple #[]) ∧ ArrAt .u8 5 w' gt (A ++ turnM 0 (decP 0 l (flagsM P first 1)) ++ Z) ∧ ArrAt .u8 5 w' gd (updM P fd first (decP 0 l (flagsM P first 1))) ∧ Kept [gt, gd] w w' := by
  obtain ⟨b, o', e, hc1⟩ := ha.at (i := 0) (by omega)
  simp only [Option.some.injEq, Addr.mk.injEq, and_true] at e
  obtain ⟨rfl, rfl⟩ := e
  have g1 := hc1 0 (by omega)
  rw [Nat.add_zero] at g1
  obtain ⟨z, ez⟩ : ∃ z, z = l.getD 0 0 := ⟨_, rfl⟩
  have hdec : decP 0 l (flagsM P first 1) = [bitM (decide (first ∈ P)) z] := by
    rw [ez]
    simp [decP, flagsM, bitM]
  rw [hdec, turnM]
  rw [← ez] at g1
  have hx1 : ∃ y, x = [y] := by
    match x, hx with
    | [y], _ => exact ⟨y, rfl⟩
  obtain ⟨y, rfl⟩ := hx1
  have hro : (A ++ [y] ++ Z).getD o 0 = y := by
    have := row_at (A := A) (x := [y]) (Z := Z) (o := o) (k := 0) hA (by simp)
    simpa using this
  have hso : ∀ v, (A ++ [y] ++ Z).set o v = A ++ [v] ++ Z := fun v => by
    have := row_set (A := A) (x := [y]) (Z := Z) (o := o) (k := 0) hA (by simp) v
    simpa using this
  have hlo : o < (A ++ [y] ++ Z).length := by simp; omega
  clear ha hl hc1 ez hdec hx
  by_cases hin : first ∈ P
  · obtain ⟨i, hi, hpi⟩ := mem_at hin
    rw [H.len] at hi
    have hb := bit_yes P H.sorted k first i gf bm gd fd z w h5 H.len hi hpi hM hF hD hfd
    rw [decide_eq_true hin]
    have HU : Hid ((if z < 0 then fd.set i 1 else fd) = updM P fd first [bitM true z]) := by
      unfold Hid
      by_cases hz : z < 0
      · have e : bitM true z = 1 := by simp [bitM, hz]
        rw [if_pos hz, e, ← hpi, upd_one P H.sorted fd (hfd.trans H.len.symm) i (by rw [H.len]; exact hi)]
      · have e : bitM true z = 0 := by simp [bitM, hz]
        rw [if_neg hz, upd_none P fd first _ e]
    rw [HU.out] at hb
    generalize bitM true z = v at *
    have HH := hid H
    have HA := hid hA
    have HS := hid hso
    have HO := hid hro
    clear hpi hin hA H HU hso hro hfd hD hM hF
    go_enter Tryz.func75, Tryz.ntmps75
    go_wp2_with fail
    refine hb.mono ?_
    rintro e w1 ⟨rfl, hD1, hk1⟩
    have hr1 := hr.kept hk1 (by simp; exact HH.out.dt.symm)
    have hcz := hr1.cell hlo
    have hf := hr1.free o
    have hset := hr1.set o v
    rw [HS.out] at hset
    rw [HO.out] at hcz
    go_wp2
    refine bodyPost_ret (results_none rfl _ _ _) rfl ?_
    refine ⟨rfl, hset, hD1.other _ _ HH.out.dt, (hk1.wider (by simp)).setCell (by simp) _⟩
  · have hb := bit_no P k first gf bm gd z w h5 (not_mem_at hin H.len) hM hF
    rw [decide_eq_false hin]
    have e0 : bitM false z = 0 := by simp [bitM]
    rw [e0, upd_none P fd first 0 rfl]
    have HS := hid hso
    have HH := hid H
    have hcz := hr.cell hlo
    have hf := hr.free o
    have hset := hr.set o 0
    rw [hro] at hcz
    rw [HS.out] at hset
    have HD := hid hD
    clear hin hA H hso hro hfd hM hF e0 hD
    go_enter Tryz.func75, Tryz.ntmps75
    go_wp2_with fail
    refine hb.mono ?_
    rintro e w1 ⟨rfl, rfl⟩
    go_wp2
    refine bodyPost_ret (results_none rfl _ _ _) rfl ?_
    exact ⟨rfl, hset, HD.out.other _ _ HH.out.dt, (Kept.refl _ _).setCell (by simp) _⟩
end Go.Proofs.YtplkmkbambbemaeGreatDoor
namespace Go.Proofs.YtplkmkbambbemaeGreatDoor
open Go.ChangeShapes Go.WideShapes Go.ChangeAt Go.RowKit Go.Maps
def FindOk (m : Nat) : Prop := ∀ (P : List Nat) (k gf bm gd gt b1 o1 o n c ct first K : Nat) (l A x Z fd : List Int) (w : World), Fm P k gf bm gd gt b1 → Rd .i64 w (some ⟨b1, o1, none⟩) l → l.length = n → n = 2 ^ m → n ≤ 512 → n ≤ c →
    ArrAt .u8 5 w gt (A ++ x ++ Z) → A.length = o → x.length = n → n ≤ ct → MapAt w bm P k → FinderAt w gf bm gd k → ArrAt .u8 5 w gd fd → fd.length = k → first + n ≤ 512 → Within l K → K * n ≤ 1152921504606846976 →
    Calls Tryz.prog 75 #[.pointer (some ⟨gf, 0, none⟩), .slice (some ⟨b1, o1, none⟩) n c, .int .i64 first, .slice (some ⟨gt, o, none⟩) n ct] w fun e w' =>
      e = .returned (.tuple #[]) ∧ ArrAt .u8 5 w' gt (A ++ turnM m (decP m l (flagsM P first n)) ++ Z) ∧ ArrAt .u8 5 w' gd (updM P fd first (decP m l (flagsM P first n))) ∧ Kept [gt, gd] w w'
/-- A row that is filled from its head on. -/
def fillF (F : List Int) (h i : Nat) : List Int := F.take i ++ List.replicate (h - i) 0
theorem fill_set {F : List Int} {h i : Nat} (hl : F.length = h) (hi : i < h) : (fillF F h i).set i (F.getD i 0) = fillF F h (i + 1) := by
  unfold fillF
  obtain ⟨m, hm⟩ : ∃ m, h - i = m + 1 := ⟨h - i - 1, by omega⟩
  rw [hm, set_fill _ i m _ (by rw [List.length_take]; omega), take_push (by omega) rfl, show h - (i + 1) = m by omega]
theorem fill_length {F : List Int} {h i : Nat} (hl : F.length = h) (hi : i ≤ h) : (fillF F h i).length = h := by simp [fillF, hl]; omega
theorem fill_all {F : List Int} {h : Nat} (hl : F.length = h) : fillF F h h = F := by simp [fillF, ← hl]
/-- A row that is written over from its head on. -/
def overTo (G F : List Int) (i : Nat) : List Int := G.take i ++ F.drop i
theorem over_set {G F : List Int} {h i : Nat} (hg : G.length = h) (hf : F.length = h) (hi : i < h) : (overTo G F i).set i (G.getD i 0) = overTo G F (i + 1) := by
  have ht : (G.take i).length = i := by rw [List.length_take]; omega
  unfold overTo
  rw [List.set_append_right _ _ (by omega), ht, Nat.sub_self, List.drop_eq_getElem_cons (by omega), List.set_cons_zero, ← take_push (L := G) (i := i) (x := G.getD i 0) (by omega) rfl, List.append_assoc]
  rfl
theorem over_length {G F : List Int} {h i : Nat} (hg : G.length = h) (hf : F.length = h) (hi : i ≤ h) : (overTo G F i).length = h := by simp [overTo, hg, hf]; omega
theorem over_all {G F : List Int} {h : Nat} (hg : G.length = h) (hf : F.length = h) : overTo G F h = G := by
  unfold overTo
  rw [List.take_of_length_le (by omega), List.drop_eq_nil_of_le (by omega), List.append_nil]
theorem cell_set_other {w : World} {p : Addr} {v x : Value} {a : Addr} (h : w.cell? a = some x) (hn : a.block ≠ p.block) : (w.setCell p v).cell? a = some x := by
  rw [← h]
  simp only [World.cell?, Below.heap_setCell _ _ _ _ hn]
theorem Rd.get {k : IntKind} {w : World} {b o : Nat} {l : List Int} (h : Rd k w (some ⟨b, o, none⟩) l) {j : Nat} (hj : j < l.length) : w.cell? ⟨b, o + j, none⟩ = some (.int k (l.getD j 0)) := by
  obtain ⟨b', o', e, hc⟩ := h.at hj
  simp only [Option.some.injEq, Addr.mk.injEq, and_true] at e
  obtain ⟨rfl, rfl⟩ := e
  exact hc j hj
set_option maxRecDepth 100000 in
set_option maxHeartbeats 4000000 in
theorem find_step (m : Nat) (ih : FindOk m) : FindOk (m + 1) := by
  intro P k gf bm gd gt b1 o1 o n c ct first K l A x Z fd w H ha hl hn h5 hc hr hA hx hct hM hF hD hfd hfn hK hKn
  obtain ⟨h, eh⟩ : ∃ h, h = 2 ^ m := ⟨_, rfl⟩
  have h0 : 1 ≤ h := by rw [eh]; exact Nat.one_le_two_pow
  have hnh : n = h + h := by rw [hn, eh, Nat.pow_succ]; omega
  obtain ⟨b, o', e, hc1⟩ := ha.at (i := 0) (by omega)
  simp only [Option.some.injEq, Addr.mk.injEq, and_true] at e
  obtain ⟨rfl, rfl⟩ := e
  have hK1 : K ≤ 1152921504606846976 := Nat.le_trans (Nat.le_mul_of_pos_right K (by omega)) hKn
  have hKh : K * h ≤ 1152921504606846976 := Nat.le_trans (Nat.mul_le_mul_left K (by omega)) hKn
  have hKh2 : 2 * K * h ≤ 1152921504606846976 := by
    have e : 2 * K * h = K * n := by rw [hnh, Nat.mul_add, Nat.mul_assoc]; omega
    rw [e]; exact hKn
  have l1 : (l.take h).length = h := by rw [List.length_take]; omega
  have l2 : (l.drop h).length = h := by rw [List.length_drop]; omega
  obtain ⟨F, eF⟩ : ∃ F, F = fL (l.take h) (l.drop h) := ⟨_, rfl⟩
  have LF := hid (show F.length = h by rw [eF]; exact fL_length l1 l2)
  have FA : Hid (∀ j, j < h → F.getD j 0 = fI (l.getD j 0) (l.getD (h + j) 0)) := by
    intro j hj
    rw [eF, fL_at l1 l2 hj, getD_take hj, getD_drop]
  have FW : Hid (Within F K) := by unfold Hid; rw [eF]; exact within_f l1 l2 (hK.take h) (hK.drop h)
  obtain ⟨U, eU⟩ : ∃ U, U = decP m F (flagsM P first h) := ⟨_, rfl⟩
  have LU := hid (show U.length = h by rw [eU, decP_length, eh])
  have BU : AllBits U := by rw [eU]; exact decP_bits m _ _
  obtain ⟨X, eX⟩ : ∃ X, X = turnM m U := ⟨_, rfl⟩
  have lX : X.length = h := by rw [eX, turn_length m U (LU.out.trans eh), eh]
  have LX := hid lX
  have BX : AllBits X := by rw [eX]; exact turn_bits m _ BU
  obtain ⟨G, eG⟩ : ∃ G, G = gL X (l.take h) (l.drop h) := ⟨_, rfl⟩
  have LG := hid (show G.length = h by rw [eG]; exact gL_length lX l1 l2)
  have GA : Hid (∀ j, j < h → G.getD j 0 = gI (X.getD j 0) (l.getD j 0) (l.getD (h + j) 0)) := by
    intro j hj
    rw [eG, gL_at lX l1 l2 hj, getD_take hj, getD_drop]
  have GW : Hid (Within G (2 * K)) := by unfold Hid; rw [eG]; exact within_g lX l1 l2 (hK.take h) (hK.drop h)
  obtain ⟨V, eV⟩ : ∃ V, V = decP m G (flagsM P (first + h) h) := ⟨_, rfl⟩
  have LV := hid (show V.length = h by rw [eV, decP_length, eh])
  have BV : AllBits V := by rw [eV]; exact decP_bits m _ _
  obtain ⟨Y, eY⟩ : ∃ Y, Y = turnM m V := ⟨_, rfl⟩
  have LY := hid (show Y.length = h by rw [eY, turn_length m V (LV.out.trans eh), eh])
  have BY : AllBits Y := by rw [eY]; exact turn_bits m _ BV
  have hdec : decP (m + 1) l (flagsM P first n) = U ++ V := by rw [hnh, dec_step m l P first h eh, ← eF, ← eU, ← eX, ← eG, ← eV]
  rw [hdec, turn_halves m U V (LU.out.trans eh), ← eX, ← eY]
  have hupd : updM P fd first (U ++ V) = updM P (updM P fd first U) (first + h) V := by rw [← LU.out, upd_append]
  rw [hupd]
  have x1 : (x.take h).length = h := by rw [List.length_take]; omega
  have x2 : (x.drop h).length = h := by rw [List.length_drop]; omega
  rw [show x = x.take h ++ x.drop h from (List.take_append_drop h x).symm] at hr
  generalize x.take h = xa at *
  generalize x.drop h = xb at *
  have HU := hid eU
  have HX := hid eX
  have HV := hid eV
  have HY := hid eY
  have HE := hid eh
  have HL := hid hl
  have HN := hid hnh
  have HNH := hid (show n - h = h by omega)
  have HA := hid hA
  have X1 := hid x1
  have X2 := hid x2
  have HFD := hid hfd
  have HH := hid H
  have lgf := hF.lt
  have lbm := World.ownsMap.lt hM
  have lgd := hD.lt
  have lgt := hr.lt
  have lb1 := World.block_lt_of_cell? w _ (hc1 0 (by omega))
  have hq : (n : Int).tdiv 2 = (h : Int) := by rw [Int.tdiv_eq_ediv_of_nonneg (by omega)]; omega
  have hn1 : ((n : Int) == 1) = false := by simp; omega
  have hle : h ≤ n := by omega
  have hlc : h ≤ c := by omega
  have hne : ¬ c = h := by omega
  have hlt' : h ≤ ct := by omega
  have hne' : ¬ ct = h := by omega
  clear hl hn hnh eh l1 l2 eF eU eX eG eV eY lX hdec hupd hA hx x1 x2 hfd H ha hKn
  go_enter Tryz.func75, Tryz.ntmps75
  go_wp2_with fail
  go_quiet (fail)
  rw [HNH.out]
  have hr0 : ArrAt .u8 5 (w.drewN nq) gt (A ++ (xa ++ xb) ++ Z) := hr
  have hM0 : MapAt (w.drewN nq) bm P k := hM
  have hF0 : FinderAt (w.drewN nq) gf bm gd k := hF
  have hD0 : ArrAt .u8 5 (w.drewN nq) gd fd := hD
  have hR0 : Rd .i64 (w.drewN nq) (some ⟨b1, o1, none⟩) l := fun _ => ⟨b1, o1, rfl, hc1⟩
  have hkq : Kept [gt, gd] w (w.drewN nq) := (Kept.refl _ _).drewN nq
  have HSQ := hid (show (w.drewN nq).heap.size = w.heap.size from rfl)
  generalize w.drewN nq = wq at *
  clear hr hM hF hD hc1
  rw [← HSQ.out] at lgf lbm lgd lgt lb1
  clear HSQ
  go_wp2_with (first
    | (refine wpList_makeInts wq.heap.size wq h rfl _ _ rfl _ _ rfl rfl rfl rfl (by omega) (Below.refl _ _) (Nat.le_refl _) ?_; intro w1 hown1 hbel1 hlt1 _hx1; obtain ⟨har1, -, -⟩ := hown1.arr; clear hown1 _hx1))
  have hk1 : Kept [gt, gd] wq w1 := Kept.of_below hbel1
  have hk1' : Kept [] wq w1 := Kept.of_below hbel1
  have hr1 := hr0.kept hk1' (by simp)
  have hM1 := hM0.kept hk1' (by simp)
  have hF1 := hF0.kept hk1' (by simp)
  have hD1 := hD0.kept hk1' (by simp)
  have hR1 := hk1'.rd hR0 (by simp)
  have hkw1 := hkq.trans hk1
  have hgw : w.heap.size ≤ wq.heap.size := hkq.size
  generalize wq.heap.size = gn at *
  clear hr0 hM0 hF0 hD0 hR0 hk1 hk1' hbel1 hkq
  go_loopw [38] (fun q wr => ∃ i : Nat, i ≤ h ∧ q = .int .i64 i ∧ ArrAt .i64 3 wr gn (fillF F h i) ∧ Kept [gn] w1 wr) (fun q _ => h - (intOf q).toNat)
  case atStart => exact ⟨0, Nat.zero_le _, rfl, by simpa [fillF] using har1, Kept.refl _ _⟩
  case round =>
    obtain ⟨i, hi, rfl, har, hkept⟩ := hrel
    have hRr := hkept.rd hR1 (by intro g o e; simp at e; simp; omega)
    by_cases hlt : i < h
    · have g1 := hRr.get (j := i) (by rw [HL.out, HN.out]; omega)
      have g2 := hRr.get (j := h + i) (by rw [HL.out, HN.out]; omega)
      rw [← Nat.add_assoc] at g2
      have hset := har.set i (F.getD i 0)
      rw [fill_set LF.out hlt, FA.out i hlt] at hset
      have hkept' := hkept.setCell (p := ⟨gn, i, none⟩) (by simp) (.int .i64 (F.getD i 0))
      rw [FA.out i hlt] at hkept'
      have hf := har.free i
      have hcz := har.cell (j := i) (by rw [fill_length LF.out hi]; exact hlt)
      have b1' := hK i
      have b2' := hK (h + i)
      generalize (fillF F h i).getD i 0 = z at *
      generalize l.getD i 0 = xx at *
      generalize l.getD (h + i) 0 = yy at *
      have i0 : (0 : Int) ≤ (i : Int) := by omega
      have ih' : (i : Int) < (h : Int) := by omega
      have bx : -4611686018427387904 ≤ xx ∧ xx ≤ 4611686018427387904 := by omega
      have bY : -4611686018427387904 ≤ yy ∧ yy ≤ 4611686018427387904 := by omega
      have kk1 := cell_set_other (p := ⟨gn, i, none⟩) (v := .int .i64 (fI xx yy)) g1 (by show b1 ≠ gn; omega)
      have kk2 := cell_set_other (p := ⟨gn, i, none⟩) (v := .int .i64 (fI xx yy)) g2 (by show b1 ≠ gn; omega)
      clear har hkept hRr
      go_wp2_with fail
      go_region_held3 (fun w' => w'.cell? ⟨b1, o1 + i, none⟩ = some (.int .i64 xx) ∧ w'.cell? ⟨b1, o1 + h + i, none⟩ = some (.int .i64 yy)) (first | exact ⟨g1, g2⟩ | exact ⟨kk1, kk2⟩) (first | (go_at_call 85; refine (lesser_any _ _ _ bx bY).mono ?_; rintro e w2 ⟨rfl, rfl⟩))
      all_goals
        go_wp2
        go_roundw
        case rel => exact ⟨i + 1, by omega, by go_num, hset, hkept'.drew⟩
        case measure => simp [intOf]; omega
    · obtain rfl : h = i := by omega
      rw [fill_all LF.out] at har
      have n1 : gt ≠ gn := by omega
      have n2 : gd ≠ gn := by omega
      have n3 : gf ≠ gn := by omega
      have n4 : bm ≠ gn := by omega
      have hr2 := hr1.kept hkept (by simpa using n1)
      have hM2 := hM1.kept hkept (by simpa using n4)
      have hF2 := hF1.kept hkept (by simpa using n3)
      have hD2 := hD1.kept hkept (by simpa using n2)
      have hN2 : Rd .i64 wr (some ⟨gn, 0, none⟩) F := ArrAt.rd (A := []) (Z := []) (x := F) (o := 0) (by simpa using har) rfl
      have H2 : Fm P k gf bm gd gt gn := ⟨HH.out.sorted, HH.out.len, HH.out.fd, HH.out.ft, HH.out.md, HH.out.mt, HH.out.dt, n2.symm, n1.symm⟩
      have e1 : A ++ (xa ++ xb) ++ Z = A ++ xa ++ (xb ++ Z) := by simp
      rw [e1] at hr2
      have hih := ih P k gf bm gd gt gn 0 o h h ct first K F A xa (xb ++ Z) fd wr H2 hN2 LF.out HE.out (by omega) (Nat.le_refl _) hr2 HA.out X1.out hlt' hM2 hF2 hD2 HFD.out (by omega) FW.out hKh
      rw [← HU.out, ← HX.out] at hih
      have hsr := hkept.size
      have hkr : ∀ wz, Kept [gt, gd] wr wz → Kept [gt, gd] w wz := fun wz hz => by
        refine ⟨(hz.os.trans hkept.os).trans hkw1.os, (hz.tape.trans hkept.tape).trans hkw1.tape, (hz.output.trans hkept.output).trans hkw1.output, Nat.le_trans hkw1.size (Nat.le_trans hsr hz.size), fun j hj hjn => ?_⟩
        have hjg : j < gn := by omega
        rw [hz.block j (by omega) hjn, hkept.block j (by omega) (by simp; omega)]
        exact hkw1.block j hj hjn
      have hR2 := hkept.rd hR1 (by intro g o e; simp at e; simp; omega)
      clear hr1 hM1 hF1 hD1 hR1 hN2 H2 hr2 e1 FA
      go_wp2_with fail
      refine hih.mono ?_
      rintro e w3 ⟨rfl, hr3, hD3, hk3⟩
      have hN3 := har.kept hk3 (by simp; exact ⟨n1.symm, n2.symm⟩)
      have hM3 := hM2.kept hk3 (by simp; exact ⟨HH.out.mt, HH.out.md⟩)
      have hF3 := hF2.kept hk3 (by simp; exact ⟨HH.out.ft, HH.out.fd⟩)
      have hR3 := hk3.rd hR2 (by intro g o e; simp at e; simp; rw [← e.1]; exact ⟨HH.out.ht, HH.out.hd⟩)
      have hkw3 := hkr w3 hk3
      have hs3 := hk3.size
      have hg3 : gn < w3.heap.size := by omega
      clear hM2 hF2 hD2 hR2 hkr hk3 hkept har hih hkw1 hsr
      go_wp2
      go_loopw [63] (fun q ws => ∃ j : Nat, j ≤ h ∧ q = .int .i64 j ∧ ArrAt .i64 3 ws gn (overTo G F j) ∧ Kept [gn] w3 ws) (fun q _ => h - (intOf q).toNat)
      case atStart => exact ⟨0, Nat.zero_le _, rfl, by simpa [overTo] using hN3, Kept.refl _ _⟩
      case round =>
        obtain ⟨j, hj, rfl, har, hkept⟩ := hrel
        have hRs := hkept.rd hR3 (by intro g o e; simp at e; simp; omega)
        have hrs := hr3.kept hkept (by simpa using n1)
        by_cases hltj : j < h
        · have g1 := hRs.get (j := j) (by rw [HL.out, HN.out]; omega)
          have g2 := hRs.get (j := h + j) (by rw [HL.out, HN.out]; omega)
          rw [← Nat.add_assoc] at g2
          have gT := hrs.cell (j := o + j) (by simp only [List.length_append, HA.out, LX.out]; omega)
          rw [row_at HA.out (by rw [LX.out]; exact hltj)] at gT
          have hf := har.free j
          have hcz := har.cell (j := j) (by rw [over_length LG.out LF.out hj]; exact hltj)
          have HG := hid (GA.out j hltj)
          have HO := hid (over_set LG.out LF.out hltj)
          have b1' := hK j
          have b2' := hK (h + j)
          have hltn : j < n := by omega
          generalize (overTo G F j).getD j 0 = z at *
          generalize l.getD j 0 = xx at *
          generalize l.getD (h + j) 0 = yy at *
          generalize X.getD j 0 = zx at *
          have j0 : (0 : Int) ≤ (j : Int) := by omega
          have jh : (j : Int) < (h : Int) := by omega
          have jn : (j : Int) < (n : Int) := by omega
          have hwa : IntKind.i64.wrap (yy + xx) = yy + xx := by rw [IntKind.wrap_i64]; omega
          have hws : IntKind.i64.wrap (yy - xx) = yy - xx := by rw [IntKind.wrap_i64]; omega
          have hset1 := har.set j (yy + xx)
          have hkept1 := hkept.setCell (p := ⟨gn, j, none⟩) (by simp) (.int .i64 (yy + xx))
          have nb : b1 ≠ gn := by omega
          have gT1 := cell_set_other (p := ⟨gn, j, none⟩) (v := .int .i64 (yy + xx)) gT n1
          have g11 := cell_set_other (p := ⟨gn, j, none⟩) (v := .int .i64 (yy + xx)) g1 nb
          have g21 := cell_set_other (p := ⟨gn, j, none⟩) (v := .int .i64 (yy + xx)) g2 nb
          have hf1 := hset1.free j
          have hcz1 := hset1.cell (j := j) (by rw [List.length_set, over_length LG.out LF.out hj]; exact hltj)
          have hset2 := hset1.set j (yy - xx)
          have hkept2 := hkept1.setCell (p := ⟨gn, j, none⟩) (by simp) (.int .i64 (yy - xx))
          rw [List.set_set] at hset2
          generalize ((overTo G F j).set j (yy + xx)).getD j 0 = z1 at *
          by_cases cz : zx = 1
          · have dz : (zx == 1) = true := by simpa using cz
            have e2 : G.getD j 0 = yy - xx := by rw [HG.out, gI, if_pos cz]
            rw [← e2, HO.out, e2] at hset2
            clear har hkept hRs hrs HG HO cz e2 hset1 hkept1
            go_wp2_with fail
            go_region
            all_goals
              go_wp2_with fail
              go_region
              all_goals
                go_wp2
                go_roundw
                case rel => exact ⟨j + 1, by omega, by go_num, hset2, hkept2.drew.drew⟩
                case measure => simp [intOf]; omega
          · have dz : (zx == 1) = false := by simpa using cz
            have e2 : G.getD j 0 = yy + xx := by rw [HG.out, gI, if_neg cz]
            rw [← e2, HO.out, e2] at hset1
            clear har hkept hRs hrs HG HO cz e2 hset2 hkept2
            go_wp2_with fail
            go_region
            all_goals
              go_wp2
              go_roundw
              case rel => exact ⟨j + 1, by omega, by go_num, hset1, hkept1.drew⟩
              case measure => simp [intOf]; omega
        · obtain rfl : h = j := by omega
          rw [over_all LG.out LF.out] at har
          have hM4 := hM3.kept hkept (by simpa using n4)
          have hF4 := hF3.kept hkept (by simpa using n3)
          have hD4 := hD3.kept hkept (by simpa using n2)
          have hN4 : Rd .i64 wr (some ⟨gn, 0, none⟩) G := ArrAt.rd (A := []) (Z := []) (x := G) (o := 0) (by simpa using har) rfl
          have H4 : Fm P k gf bm gd gt gn := ⟨HH.out.sorted, HH.out.len, HH.out.fd, HH.out.ft, HH.out.md, HH.out.mt, HH.out.dt, n2.symm, n1.symm⟩
          have e4 : A ++ X ++ (xb ++ Z) = (A ++ X) ++ xb ++ Z := by simp
          rw [e4] at hrs
          have hih := ih P k gf bm gd gt gn 0 (o + h) h h (ct - h) (first + h) (2 * K) G (A ++ X) xb Z (updM P fd first U) wr H4 hN4 LG.out HE.out (by omega) (Nat.le_refl _) hrs (by rw [List.length_append, HA.out, LX.out]) X2.out (by have := HN.out; omega) hM4 hF4 hD4 (by rw [upd_length, HFD.out]) (by have := HN.out; omega) GW.out hKh2
          rw [← HV.out, ← HY.out] at hih
          have hs4 := hkept.size
          have hkr : ∀ wz, Kept [gt, gd] wr wz → Kept [gt, gd] w wz := fun wz hz => by
            refine ⟨(hz.os.trans hkept.os).trans hkw3.os, (hz.tape.trans hkept.tape).trans hkw3.tape, (hz.output.trans hkept.output).trans hkw3.output, Nat.le_trans hkw3.size (Nat.le_trans hs4 hz.size), fun i hi' hin => ?_⟩
            rw [hz.block i (by omega) hin, hkept.block i (by omega) (by simp; omega)]
            exact hkw3.block i hi' hin
          have hfh : (first : Int) + (h : Int) = ((first + h : Nat) : Int) := by omega
          obtain ⟨fh, efh⟩ : ∃ fh, fh = first + h := ⟨_, rfl⟩
          have hwf : IntKind.i64.wrap ((first : Int) + (h : Int)) = (fh : Int) := by rw [IntKind.wrap_i64]; omega
          have HFH := hid efh
          rw [← efh] at hih
          have hjn := fun w' ha' => join_any A X Y Z gt o n ct h w' ha' HA.out LX.out LY.out HN.out h0 h5 hct BX BY
          clear hM4 hF4 hD4 hN4 H4 e4 hkept har hRs hrs hM3 hF3 hD3 hR3 hr3 hN3 hfh efh
          go_wp2_with fail
          rw [HNH.out]
          refine hih.mono ?_
          rintro e w5 ⟨rfl, hr5, hD5, hk5⟩
          have e5 : A ++ X ++ Y ++ Z = A ++ (X ++ Y) ++ Z := by simp
          rw [e5] at hr5
          rw [HFH.out] at hD5
          have hkw5 := hkr w5 hk5
          have hj5 := hjn w5 hr5
          clear hih hkr hjn hk5 e5 HFH hwf
          go_wp2_with fail
          refine hj5.mono ?_
          rintro e w6 ⟨rfl, hr6, hk6⟩
          go_wp2
          go_end0
          exact ⟨rfl, hr6, hD5.kept hk6 (by simpa using HH.out.dt), hkw5.trans (hk6.wider (by simp))⟩
theorem find_any : ∀ m, FindOk m
  | 0 => by
    intro P k gf bm gd gt b1 o1 o n c ct first K l A x Z fd w H ha hl hn h5 hc hr hA hx hct hM hF hD hfd hfn hK hKn
    obtain rfl : n = 1 := hn
    exact find_one P k gf bm gd gt b1 o1 o c ct first l A x Z fd w H ha hl hr hA hx hM hF hD hfd (by omega)
  | m + 1 => find_step m (find_any m)
end Go.Proofs.YtplkmkbambbemaeGreatDoor
namespace Go.Proofs.YtplkmkbambbemaeGreatDoor
open Go.ChangeShapes Go.WideShapes Go.ChangeAt Go.RowKit Go.Maps
theorem run_make_map (k : Int) (w : World) : (Instr.makeMap 114 (some (.int .i64 k))).run Tryz.prog w = .ok (.map (some w.heap.size)) (w.alloc (.map #[] 0)) := by
  simp [Instr.makeMap, run_underlying Tryz.underlying114, asInt, asIntOf, Result.andThen]
theorem run_make_bytes (n : Nat) (hn : n ≤ 512) (w : World) : (Instr.makeSlice 55 (.int .i64 (n : Int)) (.int .i64 (n : Int))).run Tryz.prog w = .ok (.slice (some ⟨w.heap.size, 0, none⟩) n n) (w.alloc (.cells ((List.replicate n (0 : Int)).map (Value.int .u8)).toArray 5)) := by
  have h := run_make_row' (P := Tryz.prog) 55 5 (.int .u8 0) 1 Tryz.underlying55 Tryz.info5 rfl .i64 .i64 n (by omega) (by omega) w
  have e : madeCells #[Value.int .u8 0] n = ((List.replicate n (0 : Int)).map (Value.int .u8)).toArray := by
    apply Array.ext'
    have := toList_madeCells_one (Value.int .u8 0) n
    rw [this]
    simp
  rw [e] at h
  exact h
theorem Kept.of_grown {w w' : World} {b : Nat} (h : w.grownBy w' (some b)) : Kept [b] w w' := ⟨h.os, h.tape, h.output, h.size, fun k hk hn => h.block k hk (fun e => hn (by simpa using e))⟩
theorem flags_open (n k : Nat) : flagsM (placesM n k) 0 n = openM n k := by
  unfold flagsM openM
  refine List.map_congr_left fun j hj => ?_
  have hj' : j < n := by simpa using hj
  rw [Nat.zero_add]
  unfold placesM
  cases h : isPlace n k j <;> simp [h, hj']
theorem within_soft {l : List Int} (h : softOk l = true) : Within l 100000 := fun j => by
  have := soft_at h j
  omega
/-- A new finder. -/
structure NewF (w wx : World) (k gf bm gd : Nat) : Prop where
  fin : FinderAt wx gf bm gd k
  map : wx.ownsMap Tryz.prog 3 (plainElem (H := Unit) Tryz.prog 3) bm 0 (.map [])
  arr : ArrAt .u8 5 wx gd (List.replicate k 0)
  gf0 : w.heap.size ≤ gf
  bm0 : w.heap.size ≤ bm
  gd0 : w.heap.size ≤ gd
  fd : gf ≠ gd
  fm : gf ≠ bm
  md : bm ≠ gd
  bel : Below w.heap.size w wx
theorem three0 (w : World) (x y z : Obj) : (((w.alloc x).alloc y).alloc z).drew.heap[w.heap.size]? = some x := by
  show (((w.alloc x).alloc y).alloc z).heap[w.heap.size]? = some x
  rw [Below.heap_alloc _ _ _ (by simp; omega), Below.heap_alloc _ _ _ (by simp)]
  exact heap_alloc_new w x
theorem three1 (w : World) (x y z : Obj) : (((w.alloc x).alloc y).alloc z).drew.heap[w.heap.size + 1]? = some y := by
  show (((w.alloc x).alloc y).alloc z).heap[w.heap.size + 1]? = some y
  rw [Below.heap_alloc _ _ _ (by simp)]
  have := heap_alloc_new (w.alloc x) y
  simpa using this
theorem three2 (w : World) (x y z : Obj) : (((w.alloc x).alloc y).alloc z).drew.heap[w.heap.size + 1 + 1]? = some z := by
  show (((w.alloc x).alloc y).alloc z).heap[w.heap.size + 1 + 1]? = some z
  have := heap_alloc_new ((w.alloc x).alloc y) z
  simpa using this
theorem threeB (w : World) (x y z : Obj) : Below w.heap.size w (((w.alloc x).alloc y).alloc z).drew :=
  ((((Below.refl _ w).alloc (Nat.le_refl _) x).alloc (by simp) y).alloc (by simp; omega) z).drew
theorem mkF {w W : World} {k gf bm gd : Nat} (hf : W.heap[gf]? = some (.cells #[.map (some bm), .slice (some ⟨gd, 0, none⟩) k k] 116 (0, 0))) (hb : W.heap[bm]? = some (.map #[] 0)) (hd : W.heap[gd]? = some (.cells (Array.replicate k (.int .u8 0)) 5 (0, 0)))
    (bel : Below w.heap.size w W) (h0 : w.heap.size ≤ gf) (h1 : w.heap.size ≤ bm) (h2 : w.heap.size ≤ gd) (n1 : gf ≠ gd) (n2 : gf ≠ bm) (n3 : bm ≠ gd) : NewF w W k gf bm gd := by
  refine ⟨⟨_, hf⟩, ?_, ?_, h0, h1, h2, n1, n2, n3, bel⟩
  · obtain ⟨es, clock, e, r⟩ := World.ownsMap_made w Tryz.prog 3 (plainElem (H := Unit) Tryz.prog 3)
    have e' := (heap_alloc_new w (.map #[] 0)).symm.trans e
    simp only [Option.some.injEq, Obj.map.injEq] at e'
    obtain ⟨rfl, rfl⟩ := e'
    exact ⟨_, _, hb, r⟩
  · unfold ArrAt
    rw [hd]
    simp
set_option maxRecDepth 100000 in
set_option maxHeartbeats 4000000 in
theorem pdecode_any (m : Nat) (l : List Int) (b1 o1 n k c : Nat) (w : World) (ha : Rd .i64 w (some ⟨b1, o1, none⟩) l) (hl : l.length = n) (hm : m ≤ 9) (hn : n = 2 ^ m) (hnc : n ≤ c) (hk : k ≤ n) (hs : softOk l = true) (hW : Wor w) :
    Calls Tryz.prog 67 #[.slice (some ⟨b1, o1, none⟩) n c, .int .i64 k] w fun e w' => ∃ g, e = .returned (.tuple #[.slice (some ⟨g, 0, none⟩) k k, .int .i64 0]) ∧ Own w' w.heap.size (.slice (some ⟨g, 0, none⟩) k k) (readM (placesM n k) (decP m l (openM n k))) ∧ Below w.heap.size w w' := by
  have h5 : n ≤ 512 := by rw [hn]; exact Nat.pow_le_pow_right (by omega) hm
  have h1 : 1 ≤ n := by rw [hn]; exact Nat.one_le_two_pow
  have hck := csoft_any l (some ⟨b1, o1, none⟩) c w ha (by unfold maxLen; omega)
  rw [hl, show softErr l = 0 by unfold softErr; rw [hs]; rfl] at hck
  have hpl := pplaces_any m n k w hm hn hk hW
  have HPL := hid (places_length hk)
  have HPI := hid ((ints_length (placesM n k)).trans HPL.out)
  have HL := hid hl
  have HN := hid hn
  have HSF := hid hs
  have lb1 := World.block_lt_of_cell? w _ (ha.get (j := 0) (by omega))
  have hmm := run_make_map (k : Int)
  have hmb := run_make_bytes k (by omega)
  clear hl hn hs
  go_enter Tryz.func67, Tryz.ntmps67
  go_upto_region 7 with (first | (go_at_call 20; refine hck.mono ?_; rintro e w1 ⟨rfl, rfl⟩) | (go_at_call 61; refine hpl.mono ?_; rintro e w1 ⟨gp, rfl, harP, hgp, hbel1⟩))
  go_cut [9] from 27 to 31 (fun t9 wx => ∃ gf bm gd, t9 = .pointer (some ⟨gf, 0, none⟩) ∧ NewF w1 wx k gf bm gd)
  case first =>
    go_region
    all_goals
      go_wp2_with fail
      go_meet
      first
        | exact ⟨_, _, _, rfl, mkF (three0 _ _ _ _) (three1 _ _ _ _) (three2 _ _ _ _) (threeB _ _ _ _) (by omega) (by omega) (by omega) (by omega) (by omega) (by omega)⟩
        | exact ⟨_, _, _, rfl, mkF (three0 _ _ _ _) (three2 _ _ _ _) (three1 _ _ _ _) (threeB _ _ _ _) (by omega) (by omega) (by omega) (by omega) (by omega) (by omega)⟩
        | exact ⟨_, _, _, rfl, mkF (three1 _ _ _ _) (three0 _ _ _ _) (three2 _ _ _ _) (threeB _ _ _ _) (by omega) (by omega) (by omega) (by omega) (by omega) (by omega)⟩
        | exact ⟨_, _, _, rfl, mkF (three1 _ _ _ _) (three2 _ _ _ _) (three0 _ _ _ _) (threeB _ _ _ _) (by omega) (by omega) (by omega) (by omega) (by omega) (by omega)⟩
        | exact ⟨_, _, _, rfl, mkF (three2 _ _ _ _) (three0 _ _ _ _) (three1 _ _ _ _) (threeB _ _ _ _) (by omega) (by omega) (by omega) (by omega) (by omega) (by omega)⟩
        | exact ⟨_, _, _, rfl, mkF (three2 _ _ _ _) (three1 _ _ _ _) (three0 _ _ _ _) (threeB _ _ _ _) (by omega) (by omega) (by omega) (by omega) (by omega) (by omega)⟩
  case rest =>
    obtain ⟨gf, bm, gd, rfl, NF⟩ := hcut
    have hs1 := hbel1.size
    have hgpl := harP.lt
    have hsc := NF.bel.size
    have harP1 := harP.below NF.bel hgpl
    have n1 := NF.fd
    have n2 := NF.fm
    have n3 := NF.md
    have q1 := NF.gf0
    have q2 := NF.bm0
    have q3 := NF.gd0
    have hbc := hbel1.trans (NF.bel.mono hs1)
    have hM0 : MapAt wc bm (placesM n k) 0 := NF.map
    have hF0 := NF.fin
    have hD0 := NF.arr
    have lbm := World.ownsMap.lt hM0
    have lgf := hF0.lt
    have lgd := hD0.lt
    clear NF hck hpl hmm hmb harP
    go_wp2
    go_loopw [34] (fun q wr => ∃ i : Nat, i ≤ k ∧ q = .int .i64 i ∧ wr.ownsMap Tryz.prog 3 (plainElem (H := Unit) Tryz.prog 3) bm i (dM (placesM n k) i) ∧ Kept [bm] wc wr) (fun q _ => k - (intOf q).toNat)
    case atStart => exact ⟨0, Nat.zero_le _, rfl, hM0, Kept.refl _ _⟩
    case round =>
      obtain ⟨i, hi, rfl, hM, hkept⟩ := hrel
      have hFr := hF0.kept hkept (by simpa using n2)
      by_cases hlt : i < k
      · obtain ⟨f0, f1⟩ := hFr.cells
        have g2 := (harP1.kept hkept (by simp; omega)).cell (j := i) (by rw [HPI.out]; exact hlt)
        rw [ints_at] at g2
        have hplt := places_at hk hlt
        have HDM := hid (show dM (placesM n k) (i + 1) = (dM (placesM n k) i).put (.int .i64 ((placesM n k).getD i 0 : Nat)) (.lit (.int .i64 i)) from rfl)
        generalize (placesM n k).getD i 0 = p at *
        have hkey : keyOf Tryz.prog 3 (.int .i64 (p : Int)) = some (.int .i64 (p : Int)) := keyOf_int_mk Tryz.underlying3 (WalkArith.wf_i64 (by omega))
        clear hFr
        go_wp2_with (first
          | (at_mapUpdate; refine wpList_mapUpdate_own _ rfl _ _ _ 114 rfl 3 3 Tryz.law3 Tryz.underlying114 _ bm i _ rfl hM (by unfold maxLen; omega) _ _ _ rfl rfl hkey _ [] (plainElem_int Tryz.underlying3 (WalkArith.wf_i64 (by omega))) ?_; intro w3 hM3 hg3))
        go_roundw
        case rel => exact ⟨i + 1, by omega, by go_num, HDM.out.symm ▸ hM3, hkept.trans (Kept.of_grown hg3)⟩
        case measure => simp [intOf]; omega
      · obtain rfl : k = i := by omega
        have hDr := hD0.kept hkept (by simpa using n3.symm)
        have hMr : MapAt wr bm (placesM n k) k := hM
        have hbr := hbc.trans (hkept.below (B := w.heap.size) (by omega) (by simp; omega))
        have hsr := hkept.size
        clear hM hM0 hF0 hD0 harP1 hkept
        go_wp2_with (first | (refine wpList_makeBytes wr.heap.size wr n rfl _ _ rfl _ _ rfl rfl rfl rfl (by omega) (Below.refl _ _) (Nat.le_refl _) ?_; intro w4 hown4 hbel4 hlt4; obtain ⟨har4, -, -⟩ := hown4.arr; clear hown4) | fail)
        have hk4 : Kept [] wr w4 := Kept.of_below hbel4
        have hM4 := hMr.kept hk4 (by simp)
        have hF4 := hFr.kept hk4 (by simp)
        have hD4 := hDr.kept hk4 (by simp)
        have hb4 := hbr.trans (hbel4.mono (by omega))
        have hFm : Fm (placesM n k) k gf bm gd wr.heap.size b1 := ⟨places_sorted n k, HPL.out, n1, by omega, n3, by omega, by omega, by omega, by omega⟩
        have hfi := find_any m (placesM n k) k gf bm gd wr.heap.size b1 o1 0 n c n 0 100000 l [] (List.replicate n 0) [] (List.replicate k 0) w4 hFm (ha.below hb4) HL.out HN.out h5 hnc (by simpa using har4) rfl (by simp) (Nat.le_refl _) hM4 hF4 hD4 (by simp) (by omega) (within_soft HSF.out) (by omega)
        rw [flags_open] at hfi
        have HUP := hid (upd_all (placesM n k) k HPL.out (decP m l (openM n k)) (decP_bits m l (openM n k)).at (fun x hx => by rw [decP_length, ← HN.out]; exact places_lt hx))
        rw [HUP.out] at hfi
        have HRL := hid (show (readM (placesM n k) (decP m l (openM n k))).length = k by simp [readM, HPL.out])
        obtain ⟨R, eR⟩ : ∃ R, R = readM (placesM n k) (decP m l (openM n k)) := ⟨_, rfl⟩
        rw [← eR] at hfi
        have HER := hid eR
        clear eR
        clear hM4 hD4 har4 hMr hDr hFr HUP
        refine hfi.mono ?_
        rintro e w5 ⟨rfl, hr5, hD5, hk5⟩
        have hF5 := hF4.kept hk5 (by simp; omega)
        obtain ⟨f0, f1⟩ := hF5.cells
        clear hfi hF4 hF5
        go_wp2
        go_ret2
        rw [HER.out] at hD5
        exact ⟨gd, rfl, own_of_arr hD5 (by omega) HRL.out (by unfold maxLen; omega), hb4.trans (hk5.below (B := w.heap.size) (by omega) (by simp; omega))⟩
end Go.Proofs.YtplkmkbambbemaeGreatDoor
