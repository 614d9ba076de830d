import Derived.Test.YtcnkcbipkchoiagK12
namespace Go.Proofs.Ytcnkcbipkchoiag
open Go.ChangeShapes Go.WideShapes Go.ChangeAt Go.RowKit
theorem updPe_self (pe : Nat → PeP) (k : Nat) : updPe pe k (pe k) = pe := by
  funext j
  unfold updPe
  split
  · rename_i e; rw [e]
  · rfl
theorem updPe_again (pe : Nat → PeP) (k : Nat) (x y : PeP) : updPe (updPe pe k x) k y = updPe pe k y := by
  funext j
  unfold updPe
  split <;> rfl
theorem FnA.field {T : TypeId} {w : World} {r k f : Nat} {u : Int} {pe : Nat → PeP} {lv v : Value} {x0 x : PeP} (h : FnA T 87 w r (rcF u (updPe pe k x0) lv)) (hk : k < 17) (hf : f < 5) (hv : x.v f = v) (ho : ∀ f', f' < 5 → f' ≠ f → x.v f' = x0.v f') : FnA T 87 (w.setCell ⟨r, 1 + k * 5 + f, none⟩ v) r (rcF u (updPe pe k x) lv) := by
  have := FnA.set h (rcF_set u (updPe pe k x0) lv (x := x) hk hf hv (fun f' h1 h2 => by rw [ho f' h1 h2]; unfold updPe; rw [if_pos rfl]))
  rwa [updPe_again] at this
theorem PeP.fields {x y : PeP} {f : Nat} (h0 : f ≠ 0 → x.jo = y.jo) (h1 : f ≠ 1 → x.he = y.he) (h2 : f ≠ 2 → x.sl = y.sl) (h3 : f ≠ 3 → x.ce = y.ce) (h4 : f ≠ 4 → x.qu = y.qu) : ∀ f', f' < 5 → f' ≠ f → x.v f' = y.v f' := fun f' hl hn => by
  unfold PeP.v
  rcases (show f' = 0 ∨ f' = 1 ∨ f' = 2 ∨ f' = 3 ∨ f' = 4 by omega) with rfl | rfl | rfl | rfl | rfl
  · simp [h0 hn.symm]
  · simp [h1 hn.symm]
  · simp [h2 hn.symm]
  · simp [h3 hn.symm]
  · simp [h4 hn.symm]
/-- What is known of a person, by its state. -/
theorem PeOk.st {p : PrM} {x : PeP} (h : PeOk (some p) x) (h2 : p.st ≤ 2) : (p.st = 0 ∧ x.jo = true ∧ x.he = false ∧ x.qu = (p.quota : Int)) ∨ (p.st = 1 ∧ x.jo = true ∧ x.he = true ∧ x.sl = false ∧ x.ce = (p.cell : Int) ∧ x.qu = (p.quota : Int)) ∨ (p.st = 2 ∧ x.jo = true ∧ x.he = true ∧ x.sl = true ∧ x.ce = (p.cell : Int) ∧ x.qu = (p.quota : Int)) := by
  obtain ⟨a, b, c, d⟩ := h
  rcases (show p.st = 0 ∨ p.st = 1 ∨ p.st = 2 by omega) with e | e | e
  · left
    exact ⟨e, a, by rw [b, e]; rfl, c⟩
  · right; left
    obtain ⟨d1, d2⟩ := d (by omega)
    exact ⟨e, a, by rw [b, e]; rfl, by rw [d1, e]; rfl, d2, c⟩
  · right; right
    obtain ⟨d1, d2⟩ := d (by omega)
    exact ⟨e, a, by rw [b, e]; rfl, by rw [d1, e]; rfl, d2, c⟩
/-- A person is written anew, and that is all. -/
theorem StepR.person {w w' : World} {r : Nat} {la : Option Addr} {lc : Nat} {m : CoM} {pe : Nat → PeP} {n : Nat} {q : CoR} {k : Nat} {x : PeP} {p : PrM} (h : PRef w r la lc m pe n) (hk : Kept [r] w w') (hd : FnA 67 87 w' r (rcF (m.unit : Int) (updPe pe k x) (.slice la m.loans.length lc))) (hq : q = ⟨m.put (k : Int) p, 0⟩) (hx : PeOk (some p) x) (ok : q.m.Ok n) : StepR w r (rfF r la) q n (.returned (.int .i64 0)) w' := by
  subst hq
  exact ⟨rfl, hk.wider (by simpa using rfF_r r la), _, ⟨la, lc, _, rfl, h.person hk hd rfl hx ok⟩, fun _ hx => .inl hx⟩
set_option maxRecDepth 100000 in
set_option maxHeartbeats 1000000 in
theorem rjoin_any {w : World} {r : Nat} {F : List Nat} {m : CoM} {n : Nat} {k : Int} (q : Int) (h : RCo w r F m n) : Calls Try.prog 65 #[ptrV r, .int .i64 k, .int .i64 q] w (StepR w r F (m.join k q) n) := by
  obtain ⟨la, lc, pe, rfl, h⟩ := h
  by_cases hc : 1 ≤ k ∧ k ≤ 16 ∧ 0 ≤ q ∧ q ≤ 1000000000
  · obtain ⟨kn, ek⟩ : ∃ kn : Nat, k = (kn : Int) := ⟨k.toNat, by omega⟩
    have hk17 : kn < 17 := by omega
    have hC := h.pec hk17
    have hr := h.rl kn (by omega) (by omega)
    cases hp : m.per k with
    | some p =>
      have hj : m.join k q = ⟨m, 10⟩ := by unfold CoM.join CoM.joinErr; rw [if_pos hc, hp]; rfl
      rw [hj]
      rw [← ek, hp] at hr
      have c0 := hC.c0
      rw [hr.1] at c0
      have HP := hid (StepR.bad (E := 10) h (Kept.refl _ w))
      obtain ⟨g1, g2, g3, g4⟩ := hc
      generalize StepR w r (rfF r la) ⟨m, 10⟩ n = P at *
      subst ek
      clear h hC hr hp hj
      unfold ptrV at *
      go_enter Try.func65, Try.ntmps65
      go_wp2
      exact HP.out
    | none =>
      have he : m.joinErr k q = 0 := by unfold CoM.joinErr; rw [if_pos hc, hp]
      have hj : m.join k q = ⟨m.put (kn : Int) ⟨q.toNat, 0, 0⟩, 0⟩ := by unfold CoM.join; rw [if_pos he, ek]
      have hok := h.ok.join k q
      rw [← ek, hp] at hr
      have hr : (pe kn).jo = false := hr
      have hd := h.hd
      rw [← updPe_self pe kn] at hd
      have d0 := hd.field (f := 0) (v := .bool true) (x := ⟨true, (pe kn).he, (pe kn).sl, (pe kn).ce, (pe kn).qu⟩) hk17 (by omega) rfl (PeP.fields (by simp) (by simp) (by simp) (by simp) (by simp))
      have d1 := d0.field (f := 1) (v := .bool false) (x := ⟨true, false, (pe kn).sl, (pe kn).ce, (pe kn).qu⟩) hk17 (by omega) rfl (PeP.fields (by simp) (by simp) (by simp) (by simp) (by simp))
      have d2 := d1.field (f := 2) (v := .bool false) (x := ⟨true, false, false, (pe kn).ce, (pe kn).qu⟩) hk17 (by omega) rfl (PeP.fields (by simp) (by simp) (by simp) (by simp) (by simp))
      have d3 := d2.field (f := 3) (v := .int .i64 0) (x := ⟨true, false, false, 0, (pe kn).qu⟩) hk17 (by omega) rfl (PeP.fields (by simp) (by simp) (by simp) (by simp) (by simp))
      have d4 := d3.field (f := 4) (v := .int .i64 q) (x := ⟨true, false, false, 0, q⟩) hk17 (by omega) rfl (PeP.fields (by simp) (by simp) (by simp) (by simp) (by simp))
      have HP : Hid (StepR w r (rfF r la) (m.join k q) n (.returned (.int .i64 0)) (((((w.setCell ⟨r, 1 + kn * 5, none⟩ (.bool true)).setCell ⟨r, 1 + kn * 5 + 1, none⟩ (.bool false)).setCell ⟨r, 1 + kn * 5 + 2, none⟩ (.bool false)).setCell ⟨r, 1 + kn * 5 + 3, none⟩ (.int .i64 0)).setCell ⟨r, 1 + kn * 5 + 4, none⟩ (.int .i64 q))) := hid (by
        refine StepR.person h ((((((Kept.refl _ w).setCell (by simp) _).setCell (by simp) _).setCell (by simp) _).setCell (by simp) _).setCell (by simp) _) d4 hj ⟨rfl, rfl, ?_, fun h => absurd rfl h⟩ hok
        show q = ((q.toNat : Nat) : Int)
        omega)
      have c0 := hC.c0
      have c1 := hC.c1
      have c2 := hC.c2
      have c3 := hC.c3
      have c4 := hC.c4
      rw [hr] at c0
      have f0 := hC.fr (1 + kn * 5)
      have f1 := hC.fr (1 + kn * 5 + 1)
      have f2 := hC.fr (1 + kn * 5 + 2)
      have f3 := hC.fr (1 + kn * 5 + 3)
      have f4 := hC.fr (1 + kn * 5 + 4)
      obtain ⟨g1, g2, g3, g4⟩ := hc
      generalize StepR w r (rfF r la) (m.join k q) n = P at *
      generalize pe kn = x at *
      subst ek
      clear h hC hr hp hj he hok hd d0 d1 d2 d3 d4
      unfold ptrV at *
      go_enter Try.func65, Try.ntmps65
      go_wp2
      exact HP.out
  · have hj : m.join k q = ⟨m, 1⟩ := by unfold CoM.join CoM.joinErr; rw [if_neg hc]; rfl
    rw [hj]
    have HP := hid (StepR.bad (E := 1) h (Kept.refl _ w))
    generalize StepR w r (rfF r la) ⟨m, 1⟩ n = P at *
    clear h hj
    unfold ptrV at *
    by_cases g1 : k < 1
    · clear hc
      go_enter Try.func65, Try.ntmps65
      go_wp2
      exact HP.out
    · by_cases g2 : 16 < k
      · clear hc
        go_enter Try.func65, Try.ntmps65
        go_wp2
        exact HP.out
      · by_cases g3 : q < 0
        · clear hc
          go_enter Try.func65, Try.ntmps65
          go_wp2
          exact HP.out
        · have g4 : 1000000000 < q := by omega
          clear hc
          go_enter Try.func65, Try.ntmps65
          go_wp2
          exact HP.out
set_option maxRecDepth 100000 in
set_option maxHeartbeats 8000000 in
theorem rattach_any {w : World} {r : Nat} {F : List Nat} {m : CoM} {n : Nat} {k : Int} (x : Int) (h : RCo w r F m n) : Calls Try.prog 66 #[ptrV r, .int .i64 k, .int .i64 x] w (StepR w r F (m.attach k x) n) := by
  obtain ⟨la, lc, pe, rfl, h⟩ := h
  have hkn := rknows_any h k
  have hcx := rcell_any x w
  cases hp : m.per k with
  | none =>
    rw [hp] at hkn
    have hj : (m.attach k x) = ⟨m, 12⟩ := by unfold CoM.attach CoM.move; rw [hp]
    rw [hj]
    have HP := hid (StepR.bad (E := 12) h (Kept.refl _ w))
    generalize StepR w r (rfF r la) ⟨m, 12⟩ n = P at *
    clear h hp hj hcx
    unfold ptrV at *
    go_enter Try.func66, Try.ntmps66
    go_wp2_with (go_at_call 76; refine hkn.mono ?_; rintro e w1 ⟨rfl, rfl⟩)
    exact HP.out
  | some p =>
    rw [hp] at hkn
    obtain ⟨q1, q2, q3, q4, q5, q6, q7⟩ := h.ok.pr k p hp
    obtain ⟨kn, ek⟩ : ∃ kn : Nat, k = (kn : Int) := ⟨k.toNat, by omega⟩
    have hk17 : kn < 17 := by omega
    have hC := h.pec hk17
    have hr := h.rl kn (by omega) (by omega)
    rw [← ek, hp] at hr
    have c0 := hC.c0
    have c1 := hC.c1
    have c2 := hC.c2
    have c3 := hC.c3
    have c4 := hC.c4
    cases hqx : okCell x with
    | false =>
      have hj : (m.attach k x) = ⟨m, 1⟩ := by unfold CoM.attach CoM.move; rw [hp]; simp [hqx]
      rw [hj]
      have HP := hid (StepR.bad (E := 1) h (Kept.refl _ w))
      generalize StepR w r (rfF r la) ⟨m, 1⟩ n = P at *
      rw [hqx] at hcx
      subst ek
      clear h hp hj hC hr
      unfold ptrV at *
      go_enter Try.func66, Try.ntmps66
      go_wp2_with (first
        | (go_at_call 76; refine hkn.mono ?_; rintro e w1 ⟨rfl, rfl⟩)
        | (go_at_call 117; refine hcx.mono ?_; rintro e w1 ⟨rfl, rfl⟩))
      exact HP.out
    | true =>
      rw [hqx] at hcx
      rcases hr.st q4 with ⟨s0, t0, t1, t4⟩ | ⟨s0, t0, t1, t2, t3, t4⟩ | ⟨s0, t0, t1, t2, t3, t4⟩
      · have hd := h.hd
        rw [← updPe_self pe kn] at hd
        have d0 := hd.field (f := 1) (v := .bool true) (x := ⟨(pe kn).jo, true, (pe kn).sl, (pe kn).ce, (pe kn).qu⟩) hk17 (by omega) rfl (PeP.fields (by simp) (by simp) (by simp) (by simp) (by simp))
        have d1 := d0.field (f := 2) (v := .bool false) (x := ⟨(pe kn).jo, true, false, (pe kn).ce, (pe kn).qu⟩) hk17 (by omega) rfl (PeP.fields (by simp) (by simp) (by simp) (by simp) (by simp))
        have d2 := d1.field (f := 3) (v := .int .i64 x) (x := ⟨(pe kn).jo, true, false, x, (pe kn).qu⟩) hk17 (by omega) rfl (PeP.fields (by simp) (by simp) (by simp) (by simp) (by simp))
        have hok := h.ok.attach k x
        have hj : (m.attach k x) = ⟨m.put (kn : Int) ⟨p.quota, 1, x.toNat⟩, 0⟩ := by unfold CoM.attach CoM.move; rw [hp]; simp [tIs, s0, hqx]; rw [ek]
        have HP : Hid (StepR w r (rfF r la) (m.attach k x) n (.returned (.int .i64 0)) (((w.setCell ⟨r, 1 + kn * 5 + 1, none⟩ (.bool true)).setCell ⟨r, 1 + kn * 5 + 2, none⟩ (.bool false)).setCell ⟨r, 1 + kn * 5 + 3, none⟩ (.int .i64 x)).drew) := hid (StepR.person h ((((Kept.refl _ w).setCell (by simp) _).setCell (by simp) _).setCell (by simp) _).drew (At.kept (S := []) d2 (Kept.refl _ _).drew (by simp)) hj ⟨t0, rfl, t4, fun _ => ⟨rfl, by have := okCell_iff.1 hqx; show x = ((x.toNat : Nat) : Int); omega⟩⟩ hok)
        have f1 := hC.fr (1 + kn * 5 + 1)
        have f2 := hC.fr (1 + kn * 5 + 2)
        have f3 := hC.fr (1 + kn * 5 + 3)
        generalize StepR w r (rfF r la) (m.attach k x) n = P at *
        rw [t0] at c0
        rw [t1] at c1
        generalize pe kn = x at *
        subst ek
        clear h hC hr hp hj hok hd d0 d1 d2
        unfold ptrV at *
        go_enter Try.func66, Try.ntmps66
        go_upto_region 7 with (first
          | (go_at_call 76; refine hkn.mono ?_; rintro e w1 ⟨rfl, rfl⟩)
          | (go_at_call 117; refine hcx.mono ?_; rintro e w1 ⟨rfl, rfl⟩))
        go_region
        go_wp2_with fail
        exact HP.out
      · have hj : (m.attach k x) = ⟨m, 9⟩ := by unfold CoM.attach CoM.move; rw [hp]; simp [tIs, s0, hqx]
        rw [hj]
        have HP := hid (StepR.bad (E := 9) h (Kept.refl _ w))
        generalize StepR w r (rfF r la) ⟨m, 9⟩ n = P at *
        rw [t0] at c0
        rw [t1] at c1
        rw [t2] at c2
        rw [t3] at c3
        subst ek
        clear h hp hj hC hr
        unfold ptrV at *
        go_enter Try.func66, Try.ntmps66
        go_wp2_with (first
          | (go_at_call 76; refine hkn.mono ?_; rintro e w1 ⟨rfl, rfl⟩)
          | (go_at_call 117; refine hcx.mono ?_; rintro e w1 ⟨rfl, rfl⟩))
        exact HP.out
      · have hj : (m.attach k x) = ⟨m, 9⟩ := by unfold CoM.attach CoM.move; rw [hp]; simp [tIs, s0, hqx]
        rw [hj]
        have HP := hid (StepR.bad (E := 9) h (Kept.refl _ w))
        generalize StepR w r (rfF r la) ⟨m, 9⟩ n = P at *
        rw [t0] at c0
        rw [t1] at c1
        rw [t2] at c2
        rw [t3] at c3
        subst ek
        clear h hp hj hC hr
        unfold ptrV at *
        go_enter Try.func66, Try.ntmps66
        go_wp2_with (first
          | (go_at_call 76; refine hkn.mono ?_; rintro e w1 ⟨rfl, rfl⟩)
          | (go_at_call 117; refine hcx.mono ?_; rintro e w1 ⟨rfl, rfl⟩))
        exact HP.out
set_option maxRecDepth 100000 in
set_option maxHeartbeats 8000000 in
theorem rwake_any {w : World} {r : Nat} {F : List Nat} {m : CoM} {n : Nat} {k : Int} (x : Int) (h : RCo w r F m n) : Calls Try.prog 70 #[ptrV r, .int .i64 k, .int .i64 x] w (StepR w r F (m.wake k x) n) := by
  obtain ⟨la, lc, pe, rfl, h⟩ := h
  have hkn := rknows_any h k
  have hcx := rcell_any x w
  cases hp : m.per k with
  | none =>
    rw [hp] at hkn
    have hj : (m.wake k x) = ⟨m, 12⟩ := by unfold CoM.wake CoM.move; rw [hp]
    rw [hj]
    have HP := hid (StepR.bad (E := 12) h (Kept.refl _ w))
    generalize StepR w r (rfF r la) ⟨m, 12⟩ n = P at *
    clear h hp hj hcx
    unfold ptrV at *
    go_enter Try.func70, Try.ntmps70
    go_wp2_with (go_at_call 76; refine hkn.mono ?_; rintro e w1 ⟨rfl, rfl⟩)
    exact HP.out
  | some p =>
    rw [hp] at hkn
    obtain ⟨q1, q2, q3, q4, q5, q6, q7⟩ := h.ok.pr k p hp
    obtain ⟨kn, ek⟩ : ∃ kn : Nat, k = (kn : Int) := ⟨k.toNat, by omega⟩
    have hk17 : kn < 17 := by omega
    have hC := h.pec hk17
    have hr := h.rl kn (by omega) (by omega)
    rw [← ek, hp] at hr
    have c0 := hC.c0
    have c1 := hC.c1
    have c2 := hC.c2
    have c3 := hC.c3
    have c4 := hC.c4
    cases hqx : okCell x with
    | false =>
      have hj : (m.wake k x) = ⟨m, 1⟩ := by unfold CoM.wake CoM.move; rw [hp]; simp [hqx]
      rw [hj]
      have HP := hid (StepR.bad (E := 1) h (Kept.refl _ w))
      generalize StepR w r (rfF r la) ⟨m, 1⟩ n = P at *
      rw [hqx] at hcx
      subst ek
      clear h hp hj hC hr
      unfold ptrV at *
      go_enter Try.func70, Try.ntmps70
      go_wp2_with (first
        | (go_at_call 76; refine hkn.mono ?_; rintro e w1 ⟨rfl, rfl⟩)
        | (go_at_call 117; refine hcx.mono ?_; rintro e w1 ⟨rfl, rfl⟩))
      exact HP.out
    | true =>
      rw [hqx] at hcx
      rcases hr.st q4 with ⟨s0, t0, t1, t4⟩ | ⟨s0, t0, t1, t2, t3, t4⟩ | ⟨s0, t0, t1, t2, t3, t4⟩
      · have hj : (m.wake k x) = ⟨m, 9⟩ := by unfold CoM.wake CoM.move; rw [hp]; simp [tIs, s0, hqx]
        rw [hj]
        have HP := hid (StepR.bad (E := 9) h (Kept.refl _ w))
        generalize StepR w r (rfF r la) ⟨m, 9⟩ n = P at *
        rw [t0] at c0
        rw [t1] at c1
        subst ek
        clear h hp hj hC hr
        unfold ptrV at *
        go_enter Try.func70, Try.ntmps70
        go_wp2_with (first
          | (go_at_call 76; refine hkn.mono ?_; rintro e w1 ⟨rfl, rfl⟩)
          | (go_at_call 117; refine hcx.mono ?_; rintro e w1 ⟨rfl, rfl⟩))
        exact HP.out
      · have hj : (m.wake k x) = ⟨m, 9⟩ := by unfold CoM.wake CoM.move; rw [hp]; simp [tIs, s0, hqx]
        rw [hj]
        have HP := hid (StepR.bad (E := 9) h (Kept.refl _ w))
        generalize StepR w r (rfF r la) ⟨m, 9⟩ n = P at *
        rw [t0] at c0
        rw [t1] at c1
        rw [t2] at c2
        rw [t3] at c3
        subst ek
        clear h hp hj hC hr
        unfold ptrV at *
        go_enter Try.func70, Try.ntmps70
        go_wp2_with (first
          | (go_at_call 76; refine hkn.mono ?_; rintro e w1 ⟨rfl, rfl⟩)
          | (go_at_call 117; refine hcx.mono ?_; rintro e w1 ⟨rfl, rfl⟩))
        exact HP.out
      · have hd := h.hd
        rw [← updPe_self pe kn] at hd
        have d0 := hd.field (f := 2) (v := .bool false) (x := ⟨(pe kn).jo, (pe kn).he, false, (pe kn).ce, (pe kn).qu⟩) hk17 (by omega) rfl (PeP.fields (by simp) (by simp) (by simp) (by simp) (by simp))
        have d1 := d0.field (f := 3) (v := .int .i64 x) (x := ⟨(pe kn).jo, (pe kn).he, false, x, (pe kn).qu⟩) hk17 (by omega) rfl (PeP.fields (by simp) (by simp) (by simp) (by simp) (by simp))
        have hok := h.ok.wake k x
        have hj : (m.wake k x) = ⟨m.put (kn : Int) ⟨p.quota, 1, x.toNat⟩, 0⟩ := by unfold CoM.wake CoM.move; rw [hp]; simp [tIs, s0, hqx]; rw [ek]
        have HP : Hid (StepR w r (rfF r la) (m.wake k x) n (.returned (.int .i64 0)) ((w.setCell ⟨r, 1 + kn * 5 + 2, none⟩ (.bool false)).setCell ⟨r, 1 + kn * 5 + 3, none⟩ (.int .i64 x)).drew) := hid (StepR.person h (((Kept.refl _ w).setCell (by simp) _).setCell (by simp) _).drew (At.kept (S := []) d1 (Kept.refl _ _).drew (by simp)) hj ⟨t0, by show (pe kn).he = true; exact t1, t4, fun _ => ⟨rfl, by have := okCell_iff.1 hqx; show x = ((x.toNat : Nat) : Int); omega⟩⟩ hok)
        have f1 := hC.fr (1 + kn * 5 + 1)
        have f2 := hC.fr (1 + kn * 5 + 2)
        have f3 := hC.fr (1 + kn * 5 + 3)
        generalize StepR w r (rfF r la) (m.wake k x) n = P at *
        rw [t0] at c0
        rw [t1] at c1
        rw [t2] at c2
        rw [t3] at c3
        generalize pe kn = x at *
        subst ek
        clear h hC hr hp hj hok hd d0 d1
        unfold ptrV at *
        go_enter Try.func70, Try.ntmps70
        go_upto_region 7 with (first
          | (go_at_call 76; refine hkn.mono ?_; rintro e w1 ⟨rfl, rfl⟩)
          | (go_at_call 117; refine hcx.mono ?_; rintro e w1 ⟨rfl, rfl⟩))
        go_region
        go_wp2_with fail
        exact HP.out
set_option maxRecDepth 100000 in
set_option maxHeartbeats 8000000 in
theorem rsleep_any {w : World} {r : Nat} {F : List Nat} {m : CoM} {n : Nat} {k : Int} (h : RCo w r F m n) : Calls Try.prog 68 #[ptrV r, .int .i64 k] w (StepR w r F (m.sleep k) n) := by
  obtain ⟨la, lc, pe, rfl, h⟩ := h
  have hkn := rknows_any h k
  cases hp : m.per k with
  | none =>
    rw [hp] at hkn
    have hj : (m.sleep k) = ⟨m, 12⟩ := by unfold CoM.sleep CoM.move; rw [hp]
    rw [hj]
    have HP := hid (StepR.bad (E := 12) h (Kept.refl _ w))
    generalize StepR w r (rfF r la) ⟨m, 12⟩ n = P at *
    clear h hp hj
    unfold ptrV at *
    go_enter Try.func68, Try.ntmps68
    go_wp2_with (go_at_call 76; refine hkn.mono ?_; rintro e w1 ⟨rfl, rfl⟩)
    exact HP.out
  | some p =>
    rw [hp] at hkn
    obtain ⟨q1, q2, q3, q4, q5, q6, q7⟩ := h.ok.pr k p hp
    obtain ⟨kn, ek⟩ : ∃ kn : Nat, k = (kn : Int) := ⟨k.toNat, by omega⟩
    have hk17 : kn < 17 := by omega
    have hC := h.pec hk17
    have hr := h.rl kn (by omega) (by omega)
    rw [← ek, hp] at hr
    have c0 := hC.c0
    have c1 := hC.c1
    have c2 := hC.c2
    have c3 := hC.c3
    have c4 := hC.c4
    rcases hr.st q4 with ⟨s0, t0, t1, t4⟩ | ⟨s0, t0, t1, t2, t3, t4⟩ | ⟨s0, t0, t1, t2, t3, t4⟩
    · have hj : (m.sleep k) = ⟨m, 9⟩ := by unfold CoM.sleep CoM.move; rw [hp]; simp [tIs, s0]
      rw [hj]
      have HP := hid (StepR.bad (E := 9) h (Kept.refl _ w))
      generalize StepR w r (rfF r la) ⟨m, 9⟩ n = P at *
      rw [t0] at c0
      rw [t1] at c1
      subst ek
      clear h hp hj hC hr
      unfold ptrV at *
      go_enter Try.func68, Try.ntmps68
      go_wp2_with (first
        | (go_at_call 76; refine hkn.mono ?_; rintro e w1 ⟨rfl, rfl⟩))
      exact HP.out
    · have hd := h.hd
      rw [← updPe_self pe kn] at hd
      have d0 := hd.field (f := 2) (v := .bool true) (x := ⟨(pe kn).jo, (pe kn).he, true, (pe kn).ce, (pe kn).qu⟩) hk17 (by omega) rfl (PeP.fields (by simp) (by simp) (by simp) (by simp) (by simp))
      have hok := h.ok.sleep k
      have hj : (m.sleep k) = ⟨m.put (kn : Int) ⟨p.quota, 2, p.cell⟩, 0⟩ := by unfold CoM.sleep CoM.move; rw [hp]; simp [tIs, s0]; rw [ek]
      have HP : Hid (StepR w r (rfF r la) (m.sleep k) n (.returned (.int .i64 0)) (w.setCell ⟨r, 1 + kn * 5 + 2, none⟩ (.bool true))) := hid (StepR.person h ((Kept.refl _ w).setCell (by simp) _) d0 hj ⟨t0, by show (pe kn).he = true; exact t1, t4, fun _ => ⟨rfl, t3⟩⟩ hok)
      have f1 := hC.fr (1 + kn * 5 + 1)
      have f2 := hC.fr (1 + kn * 5 + 2)
      have f3 := hC.fr (1 + kn * 5 + 3)
      generalize StepR w r (rfF r la) (m.sleep k) n = P at *
      rw [t0] at c0
      rw [t1] at c1
      rw [t2] at c2
      rw [t3] at c3
      generalize pe kn = x at *
      subst ek
      clear h hC hr hp hj hok hd d0
      unfold ptrV at *
      go_enter Try.func68, Try.ntmps68
      go_wp2_with (first
        | (go_at_call 76; refine hkn.mono ?_; rintro e w1 ⟨rfl, rfl⟩))
      exact HP.out
    · have hj : (m.sleep k) = ⟨m, 9⟩ := by unfold CoM.sleep CoM.move; rw [hp]; simp [tIs, s0]
      rw [hj]
      have HP := hid (StepR.bad (E := 9) h (Kept.refl _ w))
      generalize StepR w r (rfF r la) ⟨m, 9⟩ n = P at *
      rw [t0] at c0
      rw [t1] at c1
      rw [t2] at c2
      rw [t3] at c3
      subst ek
      clear h hp hj hC hr
      unfold ptrV at *
      go_enter Try.func68, Try.ntmps68
      go_wp2_with (first
        | (go_at_call 76; refine hkn.mono ?_; rintro e w1 ⟨rfl, rfl⟩))
      exact HP.out
set_option maxRecDepth 100000 in
set_option maxHeartbeats 8000000 in
theorem rhand_any {w : World} {r : Nat} {F : List Nat} {m : CoM} {n : Nat} {k : Int} (a : Int) (b : Int) (h : RCo w r F m n) : Calls Try.prog 72 #[ptrV r, .int .i64 k, .int .i64 a, .int .i64 b] w (StepR w r F (m.hand k a b) n) := by
  obtain ⟨la, lc, pe, rfl, h⟩ := h
  have hkn := rknows_any h k
  have hca := rcell_any a w
  have hcb := rcell_any b w
  cases hp : m.per k with
  | none =>
    rw [hp] at hkn
    have hj : (m.hand k a b) = ⟨m, 12⟩ := by unfold CoM.hand CoM.move; rw [hp]
    rw [hj]
    have HP := hid (StepR.bad (E := 12) h (Kept.refl _ w))
    generalize StepR w r (rfF r la) ⟨m, 12⟩ n = P at *
    clear h hp hj hca hcb
    unfold ptrV at *
    go_enter Try.func72, Try.ntmps72
    go_wp2_with (go_at_call 76; refine hkn.mono ?_; rintro e w1 ⟨rfl, rfl⟩)
    exact HP.out
  | some p =>
    rw [hp] at hkn
    obtain ⟨q1, q2, q3, q4, q5, q6, q7⟩ := h.ok.pr k p hp
    obtain ⟨kn, ek⟩ : ∃ kn : Nat, k = (kn : Int) := ⟨k.toNat, by omega⟩
    have hk17 : kn < 17 := by omega
    have hC := h.pec hk17
    have hr := h.rl kn (by omega) (by omega)
    rw [← ek, hp] at hr
    have c0 := hC.c0
    have c1 := hC.c1
    have c2 := hC.c2
    have c3 := hC.c3
    have c4 := hC.c4
    cases hqa : okCell a with
    | false =>
      have hj : (m.hand k a b) = ⟨m, 1⟩ := by unfold CoM.hand CoM.move; rw [hp]; simp [hqa]
      rw [hj]
      have HP := hid (StepR.bad (E := 1) h (Kept.refl _ w))
      generalize StepR w r (rfF r la) ⟨m, 1⟩ n = P at *
      rw [hqa] at hca
      subst ek
      clear h hp hj hC hr
      unfold ptrV at *
      go_enter Try.func72, Try.ntmps72
      go_wp2_with (first
        | (go_at_call 76; refine hkn.mono ?_; rintro e w1 ⟨rfl, rfl⟩)
        | (go_at_call 117; refine hca.mono ?_; rintro e w1 ⟨rfl, rfl⟩)
        | (go_at_call 117; refine hcb.mono ?_; rintro e w1 ⟨rfl, rfl⟩))
      exact HP.out
    | true =>
      rw [hqa] at hca
      cases hqb : okCell b with
      | false =>
        have hj : (m.hand k a b) = ⟨m, 1⟩ := by unfold CoM.hand CoM.move; rw [hp]; simp [hqa, hqb]
        rw [hj]
        have HP := hid (StepR.bad (E := 1) h (Kept.refl _ w))
        generalize StepR w r (rfF r la) ⟨m, 1⟩ n = P at *
        rw [hqb] at hcb
        subst ek
        clear h hp hj hC hr
        unfold ptrV at *
        go_enter Try.func72, Try.ntmps72
        go_wp2_with (first
          | (go_at_call 76; refine hkn.mono ?_; rintro e w1 ⟨rfl, rfl⟩)
          | (go_at_call 117; refine hca.mono ?_; rintro e w1 ⟨rfl, rfl⟩)
          | (go_at_call 117; refine hcb.mono ?_; rintro e w1 ⟨rfl, rfl⟩))
        exact HP.out
      | true =>
        rw [hqb] at hcb
        rcases hr.st q4 with ⟨s0, t0, t1, t4⟩ | ⟨s0, t0, t1, t2, t3, t4⟩ | ⟨s0, t0, t1, t2, t3, t4⟩
        · have hj : (m.hand k a b) = ⟨m, 9⟩ := by unfold CoM.hand CoM.move; rw [hp]; simp [tAt, s0, hqa, hqb]
          rw [hj]
          have HP := hid (StepR.bad (E := 9) h (Kept.refl _ w))
          generalize StepR w r (rfF r la) ⟨m, 9⟩ n = P at *
          rw [t0] at c0
          rw [t1] at c1
          subst ek
          clear h hp hj hC hr
          unfold ptrV at *
          go_enter Try.func72, Try.ntmps72
          go_wp2_with (first
            | (go_at_call 76; refine hkn.mono ?_; rintro e w1 ⟨rfl, rfl⟩)
            | (go_at_call 117; refine hca.mono ?_; rintro e w1 ⟨rfl, rfl⟩)
            | (go_at_call 117; refine hcb.mono ?_; rintro e w1 ⟨rfl, rfl⟩))
          exact HP.out
        · by_cases hce : (p.cell : Int) = a
          · have hd := h.hd
            rw [← updPe_self pe kn] at hd
            have d0 := hd.field (f := 3) (v := .int .i64 b) (x := ⟨(pe kn).jo, (pe kn).he, (pe kn).sl, b, (pe kn).qu⟩) hk17 (by omega) rfl (PeP.fields (by simp) (by simp) (by simp) (by simp) (by simp))
            have hok := h.ok.hand k a b
            have hj : (m.hand k a b) = ⟨m.put (kn : Int) ⟨p.quota, p.st, b.toNat⟩, 0⟩ := by unfold CoM.hand CoM.move; rw [hp]; simp [tAt, s0, hce, hqa, hqb]; rw [ek]
            have HP : Hid (StepR w r (rfF r la) (m.hand k a b) n (.returned (.int .i64 0)) (w.setCell ⟨r, 1 + kn * 5 + 3, none⟩ (.int .i64 b))) := hid (StepR.person h ((Kept.refl _ w).setCell (by simp) _) d0 hj ⟨t0, by show (pe kn).he = (p.st != 0); rw [t1, s0]; rfl, t4, fun _ => ⟨by show (pe kn).sl = (p.st == 2); rw [t2, s0]; rfl, by have := okCell_iff.1 hqb; show b = ((b.toNat : Nat) : Int); omega⟩⟩ hok)
            have f1 := hC.fr (1 + kn * 5 + 1)
            have f2 := hC.fr (1 + kn * 5 + 2)
            have f3 := hC.fr (1 + kn * 5 + 3)
            generalize StepR w r (rfF r la) (m.hand k a b) n = P at *
            rw [t0] at c0
            rw [t1] at c1
            rw [t2] at c2
            rw [t3] at c3
            rw [hce] at c3
            generalize pe kn = x at *
            subst ek
            clear h hC hr hp hj hok hd d0
            unfold ptrV at *
            go_enter Try.func72, Try.ntmps72
            go_wp2_with (first
              | (go_at_call 76; refine hkn.mono ?_; rintro e w1 ⟨rfl, rfl⟩)
              | (go_at_call 117; refine hca.mono ?_; rintro e w1 ⟨rfl, rfl⟩)
              | (go_at_call 117; refine hcb.mono ?_; rintro e w1 ⟨rfl, rfl⟩))
            exact HP.out
          · have hj : (m.hand k a b) = ⟨m, 9⟩ := by unfold CoM.hand CoM.move; rw [hp]; simp [tAt, s0, hce, hqa, hqb]
            rw [hj]
            have HP := hid (StepR.bad (E := 9) h (Kept.refl _ w))
            generalize StepR w r (rfF r la) ⟨m, 9⟩ n = P at *
            rw [t0] at c0
            rw [t1] at c1
            rw [t2] at c2
            rw [t3] at c3
            subst ek
            clear h hp hj hC hr
            unfold ptrV at *
            go_enter Try.func72, Try.ntmps72
            go_wp2_with (first
              | (go_at_call 76; refine hkn.mono ?_; rintro e w1 ⟨rfl, rfl⟩)
              | (go_at_call 117; refine hca.mono ?_; rintro e w1 ⟨rfl, rfl⟩)
              | (go_at_call 117; refine hcb.mono ?_; rintro e w1 ⟨rfl, rfl⟩))
            exact HP.out
        · have hj : (m.hand k a b) = ⟨m, 9⟩ := by unfold CoM.hand CoM.move; rw [hp]; simp [tAt, s0, hqa, hqb]
          rw [hj]
          have HP := hid (StepR.bad (E := 9) h (Kept.refl _ w))
          generalize StepR w r (rfF r la) ⟨m, 9⟩ n = P at *
          rw [t0] at c0
          rw [t1] at c1
          rw [t2] at c2
          rw [t3] at c3
          subst ek
          clear h hp hj hC hr
          unfold ptrV at *
          go_enter Try.func72, Try.ntmps72
          go_wp2_with (first
            | (go_at_call 76; refine hkn.mono ?_; rintro e w1 ⟨rfl, rfl⟩)
            | (go_at_call 117; refine hca.mono ?_; rintro e w1 ⟨rfl, rfl⟩)
            | (go_at_call 117; refine hcb.mono ?_; rintro e w1 ⟨rfl, rfl⟩))
          exact HP.out
end Go.Proofs.Ytcnkcbipkchoiag
