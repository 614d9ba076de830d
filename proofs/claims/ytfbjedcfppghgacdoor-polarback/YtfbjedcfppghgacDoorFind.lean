import Derived.Test.YtfbjedcfppghgacDoorProgF
namespace Go.Proofs.YtfbjedcfppghgacDoor
open Go.ChangeShapes Go.WideShapes Go.ChangeAt Go.RowKit Go.Maps

/-! THE PROGRAM'S find: mathematics, and one place. -/

/-- Which of n places from first on are open. -/
def flagsM (P : List Nat) (first n : Nat) : List Bool := (List.range n).map fun j => decide (first + j ∈ P)
theorem flags_take (P : List Nat) (first h : Nat) : (flagsM P first (h + h)).take h = flagsM P first h := by
  unfold flagsM
  rw [← List.map_take, List.take_range, Nat.min_eq_left (by omega)]
theorem flags_drop (P : List Nat) (first h : Nat) : (flagsM P first (h + h)).drop h = flagsM P (first + h) h := by
  refine List.ext_getElem (by simp [flagsM]) fun j h1 h2 => ?_
  simp [flagsM, Nat.add_assoc]
theorem dec_step (m : Nat) (l : List Int) (P : List Nat) (first h : Nat) (eh : h = 2 ^ m) : decP (m + 1) l (flagsM P first (h + h)) =
    decP m (fL (l.take h) (l.drop h)) (flagsM P first h) ++ decP m (gL (turnM m (decP m (fL (l.take h) (l.drop h)) (flagsM P first h))) (l.take h) (l.drop h)) (flagsM P (first + h) h) := by
  subst eh
  rw [decP, flags_take, flags_drop]
theorem turn_halves (m : Nat) (u v : List Int) (hu : u.length = 2 ^ m) : turnM (m + 1) (u ++ v) = addL (turnM m u) (turnM m v) ++ turnM m v := by
  rw [turnM, List.take_left' hu, List.drop_left' hu]
theorem mem_at {P : List Nat} {p : Nat} (h : p ∈ P) : ∃ i, i < P.length ∧ P.getD i 0 = p := by
  obtain ⟨i, hi, rfl⟩ := List.getElem_of_mem h
  exact ⟨i, hi, by simp [List.getD, hi]⟩
theorem not_mem_at {P : List Nat} {p : Nat} (h : p ∉ P) {k : Nat} (hk : P.length = k) : ∀ j, j < k → P.getD j 0 ≠ p := fun j hj e => by
  have gj : P.getD j 0 = P[j] := by simp [List.getD, hk, hj]
  rw [gj] at e
  exact h (e ▸ List.getElem_mem _)

/-- What holds of the finder's memory. -/
structure Fm (P : List Nat) (k gf bm gd gt b1 : Nat) : Prop where
  sorted : P.Pairwise (fun x y => x < y)
  len : P.length = k
  fd : gf ≠ gd
  ft : gf ≠ gt
  md : bm ≠ gd
  mt : bm ≠ gt
  dt : gd ≠ gt
  hd : b1 ≠ gd
  ht : b1 ≠ gt

set_option maxRecDepth 100000 in
set_option maxHeartbeats 2000000 in
theorem find_one (P : List Nat) (k gf bm gd gt b1 o1 o c ct first : Nat) (l A x Z fd : List Int) (w : World) (H : Fm P k gf bm gd gt b1) (ha : Rd .i64 w (some ⟨b1, o1, none⟩) l) (hl : l.length = 1) (hr : ArrAt .u8 5 w gt (A ++ x ++ Z)) (hA : A.length = o) (hx : x.length = 1)
    (hM : MapAt w bm P k) (hF : FinderAt w gf bm gd k) (hD : ArrAt .u8 5 w gd fd) (hfd : fd.length = k) (h5 : first ≤ 512) :
    Calls Tryd.prog 14 #[.pointer (some ⟨gf, 0, none⟩), .slice (some ⟨b1, o1, none⟩) 1 c, .int .i64 first, .slice (some ⟨gt, o, none⟩) 1 ct] w fun e w' =>
      e = .returned (.tuple #[]) ∧ ArrAt .u8 5 w' gt (A ++ turnM 0 (decP 0 l (flagsM P first 1)) ++ Z) ∧ ArrAt .u8 5 w' gd (updM P fd first (decP 0 l (flagsM P first 1))) ∧ Kept [gt, gd] w w' := by
  obtain ⟨b, o', e, hc1⟩ := ha.at (i := 0) (by omega)
  simp only [Option.some.injEq, Addr.mk.injEq, and_true] at e
  obtain ⟨rfl, rfl⟩ := e
  have g1 := hc1 0 (by omega)
  rw [Nat.add_zero] at g1
  obtain ⟨z, ez⟩ : ∃ z, z = l.getD 0 0 := ⟨_, rfl⟩
  have hdec : decP 0 l (flagsM P first 1) = [bitM (decide (first ∈ P)) z] := by
    rw [ez]
    simp [decP, flagsM, bitM]
  rw [hdec, turnM]
  rw [← ez] at g1
  have hx1 : ∃ y, x = [y] := by
    match x, hx with
    | [y], _ => exact ⟨y, rfl⟩
  obtain ⟨y, rfl⟩ := hx1
  have hro : (A ++ [y] ++ Z).getD o 0 = y := by
    have := row_at (A := A) (x := [y]) (Z := Z) (o := o) (k := 0) hA (by simp)
    simpa using this
  have hso : ∀ v, (A ++ [y] ++ Z).set o v = A ++ [v] ++ Z := fun v => by
    have := row_set (A := A) (x := [y]) (Z := Z) (o := o) (k := 0) hA (by simp) v
    simpa using this
  have hlo : o < (A ++ [y] ++ Z).length := by simp; omega
  clear ha hl hc1 ez hdec hx
  by_cases hin : first ∈ P
  · obtain ⟨i, hi, hpi⟩ := mem_at hin
    rw [H.len] at hi
    have hb := bit_yes P H.sorted k first i gf bm gd fd z w h5 H.len hi hpi hM hF hD hfd
    rw [decide_eq_true hin]
    have HU : Hid ((if z < 0 then fd.set i 1 else fd) = updM P fd first [bitM true z]) := by
      unfold Hid
      by_cases hz : z < 0
      · have e : bitM true z = 1 := by simp [bitM, hz]
        rw [if_pos hz, e, ← hpi, upd_one P H.sorted fd (hfd.trans H.len.symm) i (by rw [H.len]; exact hi)]
      · have e : bitM true z = 0 := by simp [bitM, hz]
        rw [if_neg hz, upd_none P fd first _ e]
    rw [HU.out] at hb
    generalize bitM true z = v at *
    have HH := hid H
    have HA := hid hA
    have HS := hid hso
    have HO := hid hro
    clear hpi hin hA H HU hso hro hfd hD hM hF
    go_enter Tryd.func14, Tryd.ntmps14
    go_wp2_with fail
    refine hb.mono ?_
    rintro e w1 ⟨rfl, hD1, hk1⟩
    have hr1 := hr.kept hk1 (by simp; exact HH.out.dt.symm)
    have hcz := hr1.cell hlo
    have hf := hr1.free o
    have hset := hr1.set o v
    rw [HS.out] at hset
    rw [HO.out] at hcz
    go_wp2
    refine bodyPost_ret (results_none rfl _ _ _) rfl ?_
    refine ⟨rfl, hset, hD1.other _ _ HH.out.dt, (hk1.wider (by simp)).setCell (by simp) _⟩
  · have hb := bit_no P k first gf bm gd z w h5 (not_mem_at hin H.len) hM hF
    rw [decide_eq_false hin]
    have e0 : bitM false z = 0 := by simp [bitM]
    rw [e0, upd_none P fd first 0 rfl]
    have HS := hid hso
    have HH := hid H
    have hcz := hr.cell hlo
    have hf := hr.free o
    have hset := hr.set o 0
    rw [hro] at hcz
    rw [HS.out] at hset
    have HD := hid hD
    clear hin hA H hso hro hfd hM hF e0 hD
    go_enter Tryd.func14, Tryd.ntmps14
    go_wp2_with fail
    refine hb.mono ?_
    rintro e w1 ⟨rfl, rfl⟩
    go_wp2
    refine bodyPost_ret (results_none rfl _ _ _) rfl ?_
    exact ⟨rfl, hset, HD.out.other _ _ HH.out.dt, (Kept.refl _ _).setCell (by simp) _⟩
end Go.Proofs.YtfbjedcfppghgacDoor
