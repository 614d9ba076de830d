import Derived.Test.YtcnkcbipkchoiagCoS
namespace Go.Proofs.Ytcnkcbipkchoiag
open Go.ChangeShapes Go.WideShapes Go.ChangeAt Go.RowKit Go.Maps

/-! THE PROGRAM'S Report, taken. -/

set_option maxRecDepth 100000 in
set_option maxHeartbeats 2000000 in
theorem creport_good {w : World} {c : Nat} {F : List Nat} {m : CoM} {n : Nat} {g t b : Int} {f : Bool} (h : PCo w c F m n) (ht : In64 t) (hb : In64 b) (hn : n < manyN) (he : m.repErr g t b = 0) : Calls Try.prog 34 #[ptrV c, usageV g t b f] w (StepC w c F (m.report g t b f) (n + 1)) := by
  obtain ⟨N, rfl, h⟩ := h
  have hR : m.report g t b f = ⟨m.rep g b f, 0⟩ := by unfold CoM.report; rw [if_pos he]
  have hlen := h.ok.len
  have hn' : n < 8796093022208 := hn
  have hc := CoM.rep_ok he
  have hg1 := hc.g1
  have hg2 := hc.g2
  obtain ⟨i, ei⟩ : ∃ i : Nat, g = (i : Int) + 1 := ⟨g.toNat - 1, by omega⟩
  have hi : i < m.loans.length := by omega
  obtain ⟨gb, cur, hga, hcur, -, hcl, hlc, -, g0, g1⟩ := h.grant hi
  have eat : m.loans.getD i .zero = m.at g := by unfold CoM.at; rw [show g.toNat - 1 = i by omega]
  rw [eat] at g0 g1
  obtain ⟨⟨p, hp⟩, hub, hby, htn⟩ := h.ok.ln (m.at g) (CoM.at_mem ⟨hg1, hg2⟩)
  obtain ⟨q1, q2, q3, q4, q5, q6, q7⟩ := h.ok.pr _ p hp
  have hgi : In64 g := by unfold In64; omega
  obtain ⟨a1, a2, a3⟩ := h.apart
  obtain ⟨b1, b2, b3, b4, b5, b6⟩ := a3 _ p hp
  obtain ⟨bg1, bg2⟩ := b5 _ hga
  have bg1 : N.ub (m.at g).who ≠ gb := bg1
  have bg2 : N.mb (m.at g).who ≠ gb := bg2
  have bum := b6 _ p hp
  obtain ⟨hRN, hhas⟩ := RepN.of h.ok he hp f
  obtain ⟨W, eW⟩ : ∃ W, W = w.alloc (.cells #[.int .i64 g, .int .i64 t, .int .i64 b, .bool f] 70) := ⟨_, rfl⟩
  have hkW : Kept [] w W := by rw [eW]; exact (Kept.refl _ w).alloc _
  have hUW : At W w.heap.size 70 [.int .i64 g, .int .i64 t, .int .i64 b, .bool f] := by rw [eW]; exact at_alloc w _ [.int .i64 g, .int .i64 t, .int .i64 b, .bool f]
  have hbW : Below w.heap.size w W.drew.drew := by rw [eW]; exact ((Below.refl _ w).alloc (Nat.le_refl _) _).drew.drew
  have u0 : W.cell? ⟨w.heap.size, 0, none⟩ = some (.int .i64 g) := hUW.cell 0
  have u1 : W.cell? ⟨w.heap.size, 1, none⟩ = some (.int .i64 t) := hUW.cell 1
  have u2 : W.cell? ⟨w.heap.size, 2, none⟩ = some (.int .i64 b) := hUW.cell 2
  have u3 : W.cell? ⟨w.heap.size, 3, none⟩ = some (.bool f) := hUW.cell 3
  have hW := h.kept hkW (by simp)
  have c2 := hW.head.2.2
  rw [hga] at c2
  have hW2 := hW.kept (T := []) (Kept.refl _ W).drew.drew (by simp)
  have hck := ccheck_any (f := f) hW2 hi ei hga hgi ht hb (by unfold manyN; omega)
  rw [he] at hck
  have hus : w.heap.size ≠ gb ∧ w.heap.size ≠ N.ub (m.at g).who ∧ w.heap.size ≠ N.mb (m.at g).who := by
    have l1 := hcur.lt
    have l2 := (h.ur _ p hp).lt
    have l3 := (h.op _ p hp).lt
    omega
  have HC : Hid (∀ w3, Below W.drew.drew.heap.size W.drew.drew w3 → w3.cell? ⟨gb, i * 2 + 1, none⟩ = some (.int .i64 ((m.at g).turn : Nat)) ∧ w3.frozen? ⟨gb, i * 2 + 1, none⟩ = false ∧ w3.cell? ⟨gb, i * 2, none⟩ = some (ptrV (N.ub (m.at g).who)) ∧ w3.cell? ⟨w.heap.size, 0, none⟩ = some (.int .i64 g) ∧ w3.cell? ⟨w.heap.size, 1, none⟩ = some (.int .i64 t) ∧ w3.cell? ⟨w.heap.size, 2, none⟩ = some (.int .i64 b) ∧ w3.cell? ⟨w.heap.size, 3, none⟩ = some (.bool f) ∧
      ∀ wz, Kept [] (w3.setCell ⟨gb, i * 2 + 1, none⟩ (.int .i64 t)) wz → Calls Try.prog 83 #[ptrV (N.ub (m.at g).who), usageV g t b f] wz fun e w5 => e = .returned (.tuple #[]) ∧ w5.cell? ⟨gb, i * 2, none⟩ = some (ptrV (N.ub (m.at g).who)) ∧ w5.cell? ⟨w.heap.size, 0, none⟩ = some (.int .i64 g) ∧ w5.cell? ⟨w.heap.size, 3, none⟩ = some (.bool f) ∧
        (f = false → ∀ wy, Kept [] w5 wy → StepC w c (coF c N m) (m.report g t b f) (n + 1) (.returned (.int .i64 0)) wy) ∧
        (f = true → ∀ wy, Kept [] w5 wy → Calls Try.prog 84 #[ptrV (N.ub (m.at g).who), .int .i64 g] wy fun e w6 => e = .returned (.tuple #[]) ∧ ∀ wx, Kept [] w6 wx → StepC w c (coF c N m) (m.report g t b f) (n + 1) (.returned (.int .i64 0)) wx)) := hid fun w3 hb3 => by
    have hb' := bthen hbW hb3
    have hk3 : Kept [] w w3 := Kept.of_below hb'
    have h3 := h.kept hk3 (by simp)
    have hU3 : At w3 w.heap.size 70 _ := (hUW.kept (S := []) (Kept.refl _ W).drew.drew (by simp)).kept (Kept.of_below (S := []) hb3) (by simp)
    have hc3 := hcur.kept hk3 (by simp)
    refine ⟨keptCellQ hk3 g1 (by simp), hc3.free _, keptCellQ hk3 g0 (by simp), hU3.cell 0, hU3.cell 1, hU3.cell 2, hU3.cell 3, fun wz hkz => ?_⟩
    have hkS : Kept [gb] w3 (w3.setCell ⟨gb, i * 2 + 1, none⟩ (.int .i64 t)) := (Kept.refl _ w3).setCell (by simp) _
    have hkz3 : Kept [gb] w3 wz := hkS.trans (hkz.wider (by simp))
    have hGz : At wz gb 156 (cur.set (i * 2 + 1) (.int .i64 t)) := (hc3.setCell (o := i * 2 + 1) (.int .i64 t)).kept hkz (by simp)
    have hAz := (h3.ur _ p hp).kept hkz3 (by simpa using bg1)
    have hIz := (h3.op _ p hp).kept hkz3 (by simpa using bg2)
    have hUz := hU3.kept hkz3 (by simpa using hus.1)
    have hopv := opV_at (ls := m.loans) hi ei
    rw [eat, hc.op, if_neg (by simp)] at hopv
    have hbb : 0 ≤ b ∧ b ≤ (((m.at g).bytes - (m.at g).used : Nat) : Int) := ⟨hc.b0, hc.b1⟩
    refine (ccharge_any hAz hIz hgi hopv hbb (by omega) (by omega) (by omega) (by unfold maxLen; omega)).mono ?_
    rintro e w5 ⟨rfl, hA5, hI5, hk5⟩
    have hG5 := hGz.kept hk5 (by simpa using ⟨fun e => bg1 e.symm, fun e => bg2 e.symm⟩)
    have hU5 := hUz.kept hk5 (by simpa using ⟨hus.2.1, hus.2.2⟩)
    have hk35 : Kept [gb, N.ub (m.at g).who, N.mb (m.at g).who] w3 w5 := (hkz3.wider (by simp)).trans (hk5.wider (by simp))
    have hcell : w5.cell? ⟨gb, i * 2, none⟩ = some (ptrV (N.ub (m.at g).who)) := by
      rw [hG5.cell, List.getElem?_set_ne (by omega), ← hcur.cell]
      exact g0
    refine ⟨rfl, hcell, hU5.cell 0, hU5.cell 3, fun hf wy hky => ?_, fun hf wy hky => ?_⟩
    · subst hf
      simp only [Bool.false_eq_true, if_false] at hRN
      obtain ⟨r1, r2, r3⟩ := h3.reports he hp hi ei hga hc3 (hk35.trans (hky.wider (by simp))) (hG5.kept hky (by simp)) hRN (hA5.kept hky (by simp)) (by
        have := hI5.kept hky (by simp)
        simpa using this)
      rw [hR]
      refine ⟨rfl, (hk3.wider (by simp)).trans r3, _, ⟨N, rfl, r1⟩, fun x hx => ?_⟩
      rcases r2 x hx with r | r
      · exact .inl r
      · exact .inr (Nat.le_trans hk3.size r)
    · subst hf
      simp only [if_true] at hRN
      have hAy := hA5.kept hky (by simp)
      have hIy := hI5.kept hky (by simp)
      have hl0 : (0 : Int) ≤ (m.left (m.at g).who p : Nat) ∧ ((m.left (m.at g).who p : Nat) : Int) ≤ 1000000000 := by unfold CoM.left; omega
      refine (cclose_any hAy hIy hgi (updI_same _ _ _) ⟨by omega, by omega⟩ hl0 (by omega)).mono ?_
      rintro e w6 ⟨rfl, hA6, hI6, hk6⟩
      refine ⟨rfl, fun wx hkx => ?_⟩
      have hk36 : Kept [gb, N.ub (m.at g).who, N.mb (m.at g).who] w3 wx := ((hk35.trans (hky.wider (by simp))).trans (hk6.wider (by simp))).trans (hkx.wider (by simp))
      obtain ⟨r1, r2, r3⟩ := h3.reports he hp hi ei hga hc3 hk36 (((hG5.kept hky (by simp)).kept hk6 (by simpa using ⟨fun e => bg1 e.symm, fun e => bg2 e.symm⟩)).kept hkx (by simp)) hRN (hA6.kept hkx (by simp)) (by
        refine (hI6.kept hkx (by simp)).congr fun j => ?_
        simp only [if_true]
        unfold updI
        by_cases ej : j = g
        · simp [ej]
        · simp [ej])
      rw [hR]
      refine ⟨rfl, (hk3.wider (by simp)).trans r3, _, ⟨N, rfl, r1⟩, fun x hx => ?_⟩
      rcases r2 x hx with r | r
      · exact .inl r
      · exact .inr (Nat.le_trans hk3.size r)
  have hgbs : ¬ gb = w.heap.size := fun e => hus.1 e.symm
  generalize StepC w c (coF c N m) (m.report g t b f) (n + 1) = P at *
  generalize m.loans.length = LL at *
  generalize N.ub (m.at g).who = ub at *
  generalize N.mb (m.at g).who = mb at *
  generalize (m.at g).turn = T at *
  have e1 : ¬ g < 1 := by omega
  have e2 : ¬ (LL : Int) < g := by omega
  have e3 : g - 1 = (i : Int) := by omega
  clear h hR hUW hW hW2 hga hb ht hRN hc hp eat ei a1 a2 a3 b1 b2 b3 b4 b5 b6 he hcur hub hby htn q1 q2 q3 q4 q5 q6 q7 hhas g0 g1 hus
  unfold ptrV usageV at *
  cases f with
  | false =>
    go_enter Try.func34, Try.ntmps34
    go_upto_region 1 with fail
    rw [← eW]
    clear eW
    go_region
    go_upto_region 3 with fail
    go_region
    go_upto_region 8 with (go_at_call 82; refine hck.mono ?_; rintro e w3 ⟨rfl, hb3⟩; obtain ⟨k1, k2, k3, k4, k5, k6, k7, hG⟩ := HC.out w3 hb3)
    go_region_with (go_at_call 83; refine (hG _ (by first | exact Kept.refl _ _ | exact (Kept.refl _ _).drew | exact (Kept.refl _ _).drewN _)).mono ?_; rintro e' w5 ⟨rfl, n0, n1, n2, hP, -⟩)
    all_goals
      go_wp2_with fail
      exact hP (by trivial) _ (by first | exact Kept.refl _ _ | exact (Kept.refl _ _).drew | exact (Kept.refl _ _).drewN _)
  | true =>
    go_enter Try.func34, Try.ntmps34
    go_upto_region 1 with fail
    rw [← eW]
    clear eW
    go_region
    go_upto_region 3 with fail
    go_region
    go_upto_region 8 with (go_at_call 82; refine hck.mono ?_; rintro e w3 ⟨rfl, hb3⟩; obtain ⟨k1, k2, k3, k4, k5, k6, k7, hG⟩ := HC.out w3 hb3)
    go_region_with (go_at_call 83; refine (hG _ (by first | exact Kept.refl _ _ | exact (Kept.refl _ _).drew | exact (Kept.refl _ _).drewN _)).mono ?_; rintro e' w5 ⟨rfl, n0, n1, n2, -, hP⟩)
    all_goals
      go_upto_region 10 with fail
      go_region_with (go_at_call 84; refine (hP (by trivial) _ (by first | exact Kept.refl _ _ | exact (Kept.refl _ _).drew | exact (Kept.refl _ _).drewN _)).mono ?_; rintro e'' w6 ⟨rfl, hP6⟩)
      all_goals
        go_wp2_with fail
        first | exact Kept.refl _ _ | exact (Kept.refl _ _).drew | exact (Kept.refl _ _).drewN _
theorem StepC.mono {w w' : World} {c : Nat} {F : List Nat} {r : CoR} {n n' : Nat} {e : Ending} (h : StepC w c F r n e w') (hn : n ≤ n') : StepC w c F r n' e w' := by
  obtain ⟨h1, h2, F', ⟨N, h3, h4⟩, h5⟩ := h
  exact ⟨h1, h2, F', ⟨N, h3, h4.mono hn⟩, h5⟩
theorem creport_any {w : World} {c : Nat} {F : List Nat} {m : CoM} {n : Nat} (n' : Nat) {g t b : Int} {f : Bool} (h : PCo w c F m n) (hg : In64 g) (ht : In64 t) (hb : In64 b) (hn : n < manyN) (h0 : n ≤ n') (h1 : m.repErr g t b = 0 → n + 1 ≤ n') : Calls Try.prog 34 #[ptrV c, usageV g t b f] w (StepC w c F (m.report g t b f) n') := by
  by_cases hr : 1 ≤ g ∧ g ≤ (m.loans.length : Int)
  · by_cases he : m.repErr g t b = 0
    · exact (creport_good h ht hb hn he).mono fun e w' hs => hs.mono (h1 he)
    · exact (creport_bad h ht hb hn hr he).mono fun e w' hs => hs.mono h0
  · exact (creport_absent h hg hr).mono fun e w' hs => hs.mono h0
end Go.Proofs.Ytcnkcbipkchoiag
