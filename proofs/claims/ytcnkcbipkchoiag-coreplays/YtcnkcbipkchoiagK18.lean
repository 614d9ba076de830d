import Derived.Test.YtcnkcbipkchoiagK17
namespace Go.Proofs.Ytcnkcbipkchoiag
open Go.ChangeShapes Go.WideShapes Go.ChangeAt Go.RowKit Go.Maps
def CoM.lendG (m : CoM) (k : Int) : Nat := if m.lendErr k = 0 then m.loans.length + 1 else 0
def CoM.lendX (m : CoM) (k : Int) : Nat := if m.lendErr k = 0 then m.lendN k else 0
def CoM.lent' (m : CoM) (k : Int) : CoM := if m.lendErr k = 0 then m.lend k else m
def LendPost (w : World) (c : Nat) (F : List Nat) (m : CoM) (k : Int) (n : Nat) : Ending → World → Prop := fun e w' => e = .returned (.tuple #[.int .i64 (m.lendG k : Nat), .int .i64 (m.lendX k : Nat), .int .i64 (m.lendErr k)]) ∧ Kept F w w' ∧ ∃ F', PCo w' c F' (m.lent' k) n ∧ Grown w.heap.size F F'
theorem LendPost.bad {w w' : World} {c : Nat} {N : CoN} {m : CoM} {n : Nat} {k : Int} (h : PCore w c N m n) (he : m.lendErr k ≠ 0) (hb : Below w.heap.size w w') : LendPost w c (coF c N m) m k (n + 1) (.returned (.tuple #[.int .i64 0, .int .i64 0, .int .i64 (m.lendErr k)])) w' := by
  unfold LendPost CoM.lendG CoM.lendX CoM.lent'
  rw [if_neg he, if_neg he, if_neg he]
  exact ⟨rfl, Kept.of_below hb, _, ⟨N, rfl, (h.kept (Kept.of_below (S := []) hb) (by simp)).mono (by omega)⟩, fun x hx => .inl hx⟩
set_option maxRecDepth 100000 in
set_option maxHeartbeats 2000000 in
theorem clend_any {w : World} {c : Nat} {F : List Nat} {m : CoM} {n : Nat} {k : Int} (h : PCo w c F m n) (hk : In64 k) (hn : n < manyN) : Calls Try.prog 33 #[ptrV c, .int .i64 k] w (LendPost w c F m k (n + 1)) := by
  obtain ⟨N, rfl, h⟩ := h
  have hi := cis_any 1 w
  have hb2 : Below w.heap.size w (w.alloc (.cells #[.int .i64 1] 141)) := (Below.refl _ w).alloc (Nat.le_refl _) _
  have hr : Rd .i64 (w.alloc (.cells #[.int .i64 1] 141)) none [] := Rd.nil _ _ _
  have hc0 : (w.alloc (.cells #[.int .i64 1] 141)).cell? ⟨w.heap.size, 0, none⟩ = some (.int .i64 ((1 : Nat) : Int)) := cell_oneC w _ 1
  have h2 := h.kept (Kept.of_below (S := []) hb2) (by simp)
  have ha := caskIs (cc := 0) h2 hk (asks_is (s := 1) hc0) hr (by simp)
  by_cases hE : m.askErr k (tIs 1) [] = 0
  · obtain ⟨p, hp, hcs, ht⟩ := CoM.ask_some hE
    have hst : p.st = 1 := by simpa [tIs] using ht
    have hV : askV N m k (tIs 1) [] = ptrV (N.ub k) := by unfold askV; rw [if_pos hE]
    rw [hV, hE] at ha
    obtain ⟨q1, q2, q3, q4, q5, q6, q7⟩ := h.ok.pr k p hp
    have hq8 : m.left k p ≤ 1000000000 := by unfold CoM.left; omega
    have hq9 : m.left k p + m.lent k ≤ 1000000000 := by unfold CoM.left; omega
    have hu1 := h.ok.u1
    have HU : Hid (∀ w3, Below (w.alloc (.cells #[.int .i64 1] 141)).heap.size (w.alloc (.cells #[.int .i64 1] 141)) w3 → w3.cell? ⟨N.ub k, 0, none⟩ = some (.int .i64 (m.left k p : Nat)) ∧ w3.cell? ⟨c, 0, none⟩ = some (.int .i64 (m.unit : Nat)) ∧ Below w.heap.size w w3) := hid fun w3 hb3 => by
      have hb := bthen hb2 hb3
      have h3 := h.kept (Kept.of_below (S := []) hb) (by simp)
      exact ⟨(h3.ur k p hp).cell 0, h3.head.1, hb⟩
    by_cases hL : m.left k p = 0
    · have hle : m.lendErr k = 11 := by unfold CoM.lendErr; rw [hp]; simp [hst, hL]
      have HP : Hid (∀ w3, Below w.heap.size w w3 → LendPost w c (coF c N m) m k (n + 1) (.returned (.tuple #[.int .i64 0, .int .i64 0, .int .i64 11])) w3) := hid fun w3 hb3 => by
        have := LendPost.bad h (by rw [hle]; simp) hb3
        rwa [hle] at this
      rw [hL] at HU
      generalize LendPost w c (coF c N m) m k (n + 1) = P at *
      generalize N.ub k = ub at *
      clear h h2 hr hc0 hE hp hcs ht hV hle hL hq8 hq9
      unfold ptrV AskV at *
      go_enter Try.func33, Try.ntmps33
      go_wp2_with (first
        | (go_at_call 80; refine hi.mono ?_; rintro e w1 ⟨rfl, rfl⟩)
        | (go_at_call 77; refine ha.mono ?_; rintro e w3 ⟨rfl, hb3⟩; obtain ⟨u0, v0, hb4⟩ := HU.out w3 hb3))
      go_ret3
      exact HP.out w3 hb4
    · have hle : m.lendErr k = 0 := by unfold CoM.lendErr; rw [hp]; simp [hst, hL]
      obtain ⟨X, eX⟩ : ∃ X, X = m.lendN k := ⟨_, rfl⟩
      have hX : X = min m.unit (m.left k p) := by rw [eX, CoM.lend_some hp]
      have HNUM : Hid (∀ w3 wz, Below w.heap.size w w3 → Kept [] w3 wz → Calls Try.prog 81 #[ptrV c, ptrV (N.ub k)] wz fun e w' => e = .returned (.int .i64 ((m.loans.length + 1 : Nat) : Int)) ∧ w'.cell? ⟨N.ub k, 0, none⟩ = some (.int .i64 (m.left k p : Nat)) ∧ w'.cell? ⟨c, 0, none⟩ = some (.int .i64 (m.unit : Nat)) ∧
          (∀ wy, Kept [] w' wy → wy.cell? ⟨N.ub k, 0, none⟩ = some (.int .i64 (m.left k p : Nat)) ∧ wy.cell? ⟨N.ub k, 1, none⟩ = some (.int .i64 (m.lent k : Nat)) ∧ wy.cell? ⟨N.ub k, 5, none⟩ = some (.map (some (N.mb k))) ∧ wy.frozen? ⟨N.ub k, 0, none⟩ = false ∧ wy.frozen? ⟨N.ub k, 1, none⟩ = false ∧
          ∃ w6, (Instr.mapUpdate 84 (.map (some (N.mb k))) (.int .i64 ((m.loans.length : Int) + 1)) (.int .i64 (X : Int))).run Try.prog ((wy.setCell ⟨N.ub k, 0, none⟩ (.int .i64 ((m.left k p : Nat) - (X : Int)))).setCell ⟨N.ub k, 1, none⟩ (.int .i64 ((m.lent k : Nat) + (X : Int)))) = .ok () w6 ∧ LendPost w c (coF c N m) m k (n + 1) (.returned (.tuple #[.int .i64 ((m.loans.length : Int) + 1), .int .i64 (X : Int), .int .i64 0])) w6)) := hid fun w3 wz hb3 hkz => by
        have h3 := h.kept (Kept.of_below (S := []) hb3) (by simp)
        have hz := h3.kept hkz (by simp)
        refine (cnumber_any (ub := N.ub k) hz hn).mono ?_
        rintro e w' ⟨rfl, ga, gc, hnp⟩
        obtain ⟨a1, a2, a3⟩ := hz.apart
        obtain ⟨b1, b2, b3, b4, b5, b6⟩ := a3 k p hp
        have hgS : ∀ y ∈ c :: gaF N, y ≠ N.ub k ∧ y ≠ N.mb k := fun y hy => by
          rw [List.mem_cons] at hy
          rcases hy with rfl | hy
          · exact ⟨fun e => b1 e.symm, fun e => b3 e.symm⟩
          · unfold gaF at hy
            cases hg : N.ga with
            | none => rw [hg] at hy; simp at hy
            | some z =>
              rw [hg] at hy
              have hy : y = z.block := by simpa using hy
              rw [hy]
              exact ⟨fun e => (b5 z hg).1 e.symm, fun e => (b5 z hg).2 e.symm⟩
        have hA' := (hz.ur k p hp).kept hnp.kp (fun hy => (hgS _ hy).1 rfl)
        have hI' := (hz.op k p hp).kept hnp.kp (fun hy => (hgS _ hy).2 rfl)
        refine ⟨rfl, hA'.cell 0, hnp.hd.cell 0, fun wy hky => ?_⟩
        have hAy := hA'.kept hky (by simp)
        have hIy := hI'.kept hky (by simp)
        have hA2 := (hAy.setCell (o := 0) (.int .i64 ((m.left k p : Nat) - (X : Int)))).setCell (o := 1) (.int .i64 ((m.lent k : Nat) + (X : Int)))
        have hk2 : Kept [N.ub k, N.mb k] wy ((wy.setCell ⟨N.ub k, 0, none⟩ (.int .i64 ((m.left k p : Nat) - (X : Int)))).setCell ⟨N.ub k, 1, none⟩ (.int .i64 ((m.lent k : Nat) + (X : Int)))) := ((Kept.refl _ wy).setCell (by simp) _).setCell (by simp) _
        have hI2 := hIy.kept (S := [N.ub k]) (((Kept.refl _ wy).setCell (p := ⟨N.ub k, 0, none⟩) (by simp) (.int .i64 ((m.left k p : Nat) - (X : Int)))).setCell (p := ⟨N.ub k, 1, none⟩) (by simp) (.int .i64 ((m.lent k : Nat) + (X : Int)))) (by simpa using fun e => b6 k p hp e.symm)
        have hlen := h.ok.len
        obtain ⟨w6, hrun, hI6, hk6⟩ := hI2.put (by unfold maxLen; unfold manyN at hn; omega) (k := (m.loans.length : Int) + 1) (by unfold In64; unfold manyN at hn; omega) Try.underlying84 (.int .i64 (X : Int)) (n + 1) (by split <;> omega)
        refine ⟨hAy.cell 0, hAy.cell 1, hAy.cell 5, hAy.free 0, hAy.free 1, w6, hrun, ?_⟩
        have hkk : Kept [N.ub k, N.mb k] w' w6 := ((hky.wider (by simp)).trans hk2).trans (hk6.wider (by simp))
        have hA6 := hA2.kept hk6 (by simpa using b6 k p hp)
        obtain ⟨r1, r2, r3⟩ := h3.lends hp hle eX hkz hnp hkk hA6 hI6
        unfold LendPost CoM.lendG CoM.lendX CoM.lent'
        rw [if_pos hle, if_pos hle, if_pos hle, hle, ← eX]
        refine ⟨?_, (Kept.of_below hb3).trans r3, _, ⟨_, rfl, r1⟩, fun x hx => ?_⟩
        · rw [show ((m.loans.length + 1 : Nat) : Int) = (m.loans.length : Int) + 1 by omega]
        · rcases r2 x hx with r | r
          · exact .inl r
          · exact .inr (Nat.le_trans hb3.size r)
      have hmin : min (m.unit : Int) ((m.left k p : Nat) : Int) = (X : Int) := by rw [hX]; omega
      have hXl : (X : Int) ≤ ((m.left k p : Nat) : Int) := by omega
      have hll := h.ok.len
      unfold manyN at hn
      generalize LendPost w c (coF c N m) m k (n + 1) = P at *
      generalize hub : N.ub k = ub at *
      generalize hmb : N.mb k = mb at *
      generalize m.left k p = A0 at *
      generalize m.lent k = A1 at *
      generalize m.unit = U at *
      generalize m.loans.length = LL at *
      clear h h2 hr hc0 hE hp hcs ht hV hle hX eX hub hmb q7 q6
      unfold ptrV AskV at *
      rw [show ((LL + 1 : Nat) : Int) = (LL : Int) + 1 by omega] at HNUM
      have hLL : (LL : Int) ≤ 8796093022208 := by omega
      by_cases hUA : (U : Int) ≤ (A0 : Int)
      · obtain rfl : X = U := by omega
        go_enter Try.func33, Try.ntmps33
        go_upto_region 6 with (first
          | (go_at_call 80; refine hi.mono ?_; rintro e w1 ⟨rfl, rfl⟩)
          | (go_at_call 77; refine ha.mono ?_; rintro e w3 ⟨rfl, hb3⟩; obtain ⟨u0, v0, hb4⟩ := HU.out w3 hb3))
        clear hi ha HU hb2
        go_region_with (go_at_call 81; refine (HNUM.out _ _ hb4 (by first | exact Kept.refl _ _ | exact (Kept.refl _ _).drew | exact (Kept.refl _ _).drewN _)).mono ?_; rintro e' w5 ⟨rfl, n0, n1, hG⟩)
        all_goals
          obtain ⟨p0, p1, p5, g0, g1, w6, hrun, hP⟩ := hG _ (by first | exact Kept.refl _ _ | exact (Kept.refl _ _).drew | exact (Kept.refl _ _).drewN _)
          go_wp2_with fail
          go_ret3
          exact hP
      · obtain rfl : X = A0 := by omega
        go_enter Try.func33, Try.ntmps33
        go_upto_region 6 with (first
          | (go_at_call 80; refine hi.mono ?_; rintro e w1 ⟨rfl, rfl⟩)
          | (go_at_call 77; refine ha.mono ?_; rintro e w3 ⟨rfl, hb3⟩; obtain ⟨u0, v0, hb4⟩ := HU.out w3 hb3))
        clear hi ha HU hb2
        go_region_with (go_at_call 81; refine (HNUM.out _ _ hb4 (by first | exact Kept.refl _ _ | exact (Kept.refl _ _).drew | exact (Kept.refl _ _).drewN _)).mono ?_; rintro e' w5 ⟨rfl, n0, n1, hG⟩)
        all_goals
          obtain ⟨p0, p1, p5, g0, g1, w6, hrun, hP⟩ := hG _ (by first | exact Kept.refl _ _ | exact (Kept.refl _ _).drew | exact (Kept.refl _ _).drewN _)
          rw [Int.sub_self] at hrun
          go_wp2_with fail
          go_ret3
          exact hP
  · have hV : askV N m k (tIs 1) [] = .pointer none := by unfold askV; rw [if_neg hE]
    have hle : m.lendErr k = m.askErr k (tIs 1) [] := by
      unfold CoM.lendErr
      unfold CoM.askErr at hE ⊢
      cases hp : m.per k with
      | none => rfl
      | some p =>
        rw [hp] at hE
        by_cases e : p.st = 1
        · simp [tIs, e] at hE
        · simp [tIs, e]
    rw [hV] at ha
    have HF : Hid (∀ w3, Below (w.alloc (.cells #[.int .i64 1] 141)).heap.size (w.alloc (.cells #[.int .i64 1] 141)) w3 → LendPost w c (coF c N m) m k (n + 1) (.returned (.tuple #[.int .i64 0, .int .i64 0, .int .i64 (m.askErr k (tIs 1) [])])) w3) := hid fun w3 hb3 => by
      have := LendPost.bad h (by rw [hle]; exact hE) (bthen hb2 hb3)
      rwa [hle] at this
    generalize LendPost w c (coF c N m) m k (n + 1) = P at *
    generalize m.askErr k (tIs 1) [] = E at *
    clear h h2 hr hc0 hV hle
    unfold ptrV AskV at *
    go_enter Try.func33, Try.ntmps33
    go_wp2_with (first
      | (go_at_call 80; refine hi.mono ?_; rintro e w1 ⟨rfl, rfl⟩)
      | (go_at_call 77; refine ha.mono ?_; rintro e w3 ⟨rfl, hb3⟩))
    go_ret3
    exact HF.out w3 hb3
end Go.Proofs.Ytcnkcbipkchoiag
namespace Go.Proofs.Ytcnkcbipkchoiag
open Go.ChangeShapes Go.WideShapes Go.ChangeAt Go.RowKit Go.Maps
def usageV (g t b : Int) (f : Bool) : Value := .agg #[.int .i64 g, .int .i64 t, .int .i64 b, .bool f]
set_option maxRecDepth 100000 in
set_option maxHeartbeats 2000000 in
theorem ccharge_any {w : World} {ub mb n : Nat} {L0 L1 L2 H g t b : Int} {f : Bool} {v3 v4 : Value} {M : Int → Option Value} (hA : At w ub 145 [.int .i64 L0, .int .i64 L1, .int .i64 L2, v3, v4, .map (some mb)]) (hI : IMap w mb n M) (hg : In64 g) (hM : M g = some (.int .i64 H)) (hb : 0 ≤ b ∧ b ≤ H) (hH : H ≤ L1) (h1 : L1 ≤ 1000000000) (h2 : 0 ≤ L2 ∧ L2 ≤ 1000000000) (hn : n < maxLen) :
    Calls Try.prog 83 #[ptrV ub, usageV g t b f] w fun e w' => e = .returned (.tuple #[]) ∧ At w' ub 145 [.int .i64 L0, .int .i64 (L1 - b), .int .i64 (L2 + b), v3, v4, .map (some mb)] ∧ IMap w' mb n (updI M g (some (.int .i64 (H - b)))) ∧ Kept [ub, mb] w w' := by
  obtain ⟨W, eW⟩ : ∃ W, W = w.alloc (.cells #[.int .i64 g, .int .i64 t, .int .i64 b, .bool f] 70) := ⟨_, rfl⟩
  have hkW : Kept [] w W := by rw [eW]; exact (Kept.refl _ w).alloc _
  have hAW := hA.kept hkW (by simp)
  have hIW := hI.kept hkW (by simp)
  have hUW : At W w.heap.size 70 [.int .i64 g, .int .i64 t, .int .i64 b, .bool f] := by rw [eW]; exact at_alloc w _ [.int .i64 g, .int .i64 t, .int .i64 b, .bool f]
  have hID := hIW.kept (S := []) (Kept.refl _ W).drew (by simp)
  have hlk := hID.look hg Try.underlying84 (Try.zeroMI W.drew) (x := .int .i64 H) (by rw [hM]; rfl) rfl false
  simp only [if_false, Bool.false_eq_true] at hlk
  obtain ⟨w2, hrun, hI2, hk2⟩ := hID.put hn hg Try.underlying84 (.int .i64 (H - b)) n (by rw [hM]; simp)
  have c5 : W.cell? ⟨ub, 5, none⟩ = some (.map (some mb)) := hAW.cell 5
  have u0 : W.cell? ⟨w.heap.size, 0, none⟩ = some (.int .i64 g) := hUW.cell 0
  have u2 : W.cell? ⟨w.heap.size, 2, none⟩ = some (.int .i64 b) := hUW.cell 2
  unfold ptrV usageV at *
  go_enter Try.func83, Try.ntmps83
  go_upto_region 1 with fail
  rw [← eW]
  have HW := hid eW
  clear eW
  go_region
  have hne : ub ≠ mb := fun e => hIW.cells (by rw [← e]; exact hAW)
  have hml := hI.lt
  have hA2 : At w2 ub 145 _ := (hAW.kept (S := []) (Kept.refl _ W).drew (by simp)).kept hk2 (by simpa using hne)
  have hU2 := (hUW.kept (S := []) (Kept.refl _ W).drew (by simp)).kept hk2 (by simp; omega)
  have hK2 : Kept [ub, mb] w w2 := (hkW.wider (by simp)).trans ((Kept.refl _ W).drew.trans (hk2.wider (by simp)))
  have k1 : w2.cell? ⟨ub, 1, none⟩ = some (.int .i64 L1) := hA2.cell 1
  have k2 : w2.cell? ⟨ub, 2, none⟩ = some (.int .i64 L2) := hA2.cell 2
  have y2 : w2.cell? ⟨w.heap.size, 2, none⟩ = some (.int .i64 b) := hU2.cell 2
  have f1 := hA2.free 1
  have f2 := hA2.free 2
  have hul := hA.lt
  have hsu : ¬ w.heap.size = ub := by omega
  have HF : Hid (At ((w2.setCell ⟨ub, 1, none⟩ (.int .i64 (L1 - b))).setCell ⟨ub, 2, none⟩ (.int .i64 (L2 + b))) ub 145 [.int .i64 L0, .int .i64 (L1 - b), .int .i64 (L2 + b), v3, v4, .map (some mb)] ∧ IMap ((w2.setCell ⟨ub, 1, none⟩ (.int .i64 (L1 - b))).setCell ⟨ub, 2, none⟩ (.int .i64 (L2 + b))) mb n (updI M g (some (.int .i64 (H - b)))) ∧ Kept [ub, mb] w ((w2.setCell ⟨ub, 1, none⟩ (.int .i64 (L1 - b))).setCell ⟨ub, 2, none⟩ (.int .i64 (L2 + b)))) :=
    hid ⟨(hA2.setCell (o := 1) (.int .i64 (L1 - b))).setCell (o := 2) (.int .i64 (L2 + b)), hI2.kept (S := [ub]) (((Kept.refl _ w2).setCell (by simp) _).setCell (by simp) _) (by simpa using fun e => hne e.symm), (hK2.setCell (by simp) _).setCell (by simp) _⟩
  clear hA hI hAW hIW hUW hID hlk hrun hA2 hU2 hK2 hI2 hk2 hkW c5 u0 u2 HW hne
  go_upto_region 2 with fail
  go_region
  go_upto_region 3 with fail
  go_region
  first | go_end0 | skip
  obtain ⟨r1, r2, r3⟩ := HF.out
  exact ⟨rfl, r1.kept (S := []) (Kept.refl _ _).drew.drew (by simp), r2.kept (S := []) (Kept.refl _ _).drew.drew (by simp), r3.drew.drew⟩
set_option maxRecDepth 100000 in
set_option maxHeartbeats 2000000 in
theorem cclose_any {w : World} {ub mb n : Nat} {L0 L1 H g : Int} {v2 v3 v4 : Value} {M : Int → Option Value} (hA : At w ub 145 [.int .i64 L0, .int .i64 L1, v2, v3, v4, .map (some mb)]) (hI : IMap w mb n M) (hg : In64 g) (hM : M g = some (.int .i64 H)) (hH : 0 ≤ H ∧ H ≤ L1) (h0 : 0 ≤ L0 ∧ L0 ≤ 1000000000) (h1 : L1 ≤ 1000000000) :
    Calls Try.prog 84 #[ptrV ub, .int .i64 g] w fun e w' => e = .returned (.tuple #[]) ∧ At w' ub 145 [.int .i64 (L0 + H), .int .i64 (L1 - H), v2, v3, v4, .map (some mb)] ∧ IMap w' mb n (updI M g none) ∧ Kept [ub, mb] w w' := by
  have hgv := cgive_any hA h0 (x := H) ⟨by omega, h1⟩ hH
  have hlk := hI.look hg Try.underlying84 (Try.zeroMI w) (x := .int .i64 H) (by rw [hM]; rfl) rfl false
  simp only [if_false, Bool.false_eq_true] at hlk
  have c5 : w.cell? ⟨ub, 5, none⟩ = some (.map (some mb)) := hA.cell 5
  have hne : ub ≠ mb := fun e => hI.cells (by rw [← e]; exact hA)
  have HF : Hid (∀ w1, At w1 ub 145 [.int .i64 (L0 + H), .int .i64 (L1 - H), v2, v3, v4, .map (some mb)] → Kept [ub] w w1 → w1.cell? ⟨ub, 5, none⟩ = some (.map (some mb)) ∧ ∃ w2, (∀ ty, (Builtin.delete_ #[84, 3] ty #[.map (some mb), .int .i64 g]).run Try.prog w1 = .ok (.tuple #[]) w2) ∧ At w2 ub 145 [.int .i64 (L0 + H), .int .i64 (L1 - H), v2, v3, v4, .map (some mb)] ∧ IMap w2 mb n (updI M g none) ∧ Kept [ub, mb] w w2) := hid fun w1 hA1 hk1 => by
    have hI1 := hI.kept hk1 (by simpa using fun e => hne e.symm)
    obtain ⟨w2, hrun, hI2, hk2⟩ := hI1.del hg Try.underlying84 0
    refine ⟨hA1.cell 5, w2, fun ty => ?_, hA1.kept hk2 (by simpa using hne), hI2, (hk1.wider (by simp)).trans (hk2.wider (by simp))⟩
    rw [← hrun]
    rfl
  clear hA hI
  unfold ptrV at *
  go_enter Try.func84, Try.ntmps84
  go_wp2_with (go_at_call 122; refine hgv.mono ?_; rintro e w1 ⟨rfl, hA1, hk1⟩; obtain ⟨d5, w2, hrun, hP⟩ := HF.out w1 hA1 hk1; have hr0 := hrun 0)
  first | go_end0 | skip
  exact ⟨rfl, hP⟩
end Go.Proofs.Ytcnkcbipkchoiag
