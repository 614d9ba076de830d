import Derived.Test.YtcnkcbipkchoiagK08
namespace Go.Proofs.Ytcnkcbipkchoiag
open Go.ChangeShapes Go.WideShapes Go.ChangeAt Go.RowKit Go.Maps
def askV (N : CoN) (m : CoM) (k : Int) (t : PrM → Bool) (cs : List Int) : Value := if m.askErr k t cs = 0 then ptrV (N.ub k) else .pointer none
set_option maxRecDepth 100000 in
set_option maxHeartbeats 1000000 in
theorem caskIs {w : World} {c : Nat} {N : CoN} {m : CoM} {n : Nat} {k : Int} {g : Nat} {t : PrM → Bool} {a : Option Addr} {cs : List Int} {cc : Nat} (h : PCore w c N m n) (hk : In64 k) (hq : Asks 121 g t w) (hr : Rd .i64 w a cs) (hl : cs.length ≤ 16) :
    Calls Try.prog 77 #[ptrV c, .int .i64 k, AskV 121 g, .slice a cs.length cc] w fun e w' => e = .returned (.tuple #[askV N m k t cs, .int .i64 (m.askErr k t cs)]) ∧ Below w.heap.size w w' := by
  have hc := ccells_any (cc := cc) hr hl
  cases hp : m.per k with
  | none =>
    have hf := cfind_none h hk hp
    have E1 : m.askErr k t cs = 12 := by unfold CoM.askErr; rw [hp]
    have E2 : askV N m k t cs = .pointer none := by unfold askV; rw [E1]; rfl
    have HE1 := hid E1
    have HE2 := hid E2
    generalize askV N m k t cs = V at *
    generalize m.askErr k t cs = E at *
    unfold ptrV AskV at *
    clear E1 E2 hq hc hp h hr
    go_enter Try.func77, Try.ntmps77
    go_wp2_with (go_at_call 75; refine hf.mono ?_; rintro e w1 ⟨rfl, rfl⟩)
    go_ret2
    exact ⟨by rw [HE1.out, HE2.out]; rfl, Below.refl _ _⟩
  | some p =>
    have hf := cfind_some h hk hp
    have hR := h.ur k p hp
    have c3 : w.cell? ⟨N.ub k, 3, none⟩ = some (.int .i64 (p.st : Nat)) := hR.cell 3
    have c4 : w.cell? ⟨N.ub k, 4, none⟩ = some (.int .i64 (p.cell : Nat)) := hR.cell 4
    have hqq := hq w p (Below.refl _ _)
    by_cases ha : cs.all okCell = true
    · rw [if_pos ha] at hc
      cases ht : t p with
      | false =>
        have E1 : m.askErr k t cs = 9 := by unfold CoM.askErr; rw [hp]; simp [ha, ht]
        have E2 : askV N m k t cs = .pointer none := by unfold askV; rw [E1]; rfl
        have HE1 := hid E1
        have HE2 := hid E2
        rw [ht] at hqq
        generalize askV N m k t cs = V at *
        generalize m.askErr k t cs = E at *
        generalize N.ub k = ub at *
        unfold ptrV AskV placeV at *
        clear E1 E2 hq hp h hr ha hR
        go_enter Try.func77, Try.ntmps77
        go_wp2_with (first
          | (go_at_call 75; refine hf.mono ?_; rintro e w1 ⟨rfl, rfl⟩)
          | (go_at_call 119; refine hc.mono ?_; rintro e w1 ⟨rfl, rfl⟩)
          | (go_at_call 121; refine hqq.mono ?_; rintro e w1 ⟨rfl, hb1⟩))
        go_ret2
        exact ⟨by rw [HE1.out, HE2.out]; rfl, hb1⟩
      | true =>
        have E1 : m.askErr k t cs = 0 := by unfold CoM.askErr; rw [hp]; simp [ha, ht]
        have E2 : askV N m k t cs = ptrV (N.ub k) := by unfold askV; rw [E1]; rfl
        have HE1 := hid E1
        have HE2 := hid E2
        rw [ht] at hqq
        generalize askV N m k t cs = V at *
        generalize m.askErr k t cs = E at *
        generalize N.ub k = ub at *
        unfold ptrV AskV placeV at *
        clear E1 E2 hq hp h hr ha hR
        go_enter Try.func77, Try.ntmps77
        go_wp2_with (first
          | (go_at_call 75; refine hf.mono ?_; rintro e w1 ⟨rfl, rfl⟩)
          | (go_at_call 119; refine hc.mono ?_; rintro e w1 ⟨rfl, rfl⟩)
          | (go_at_call 121; refine hqq.mono ?_; rintro e w1 ⟨rfl, hb1⟩))
        go_ret2
        exact ⟨by rw [HE1.out, HE2.out]; rfl, hb1⟩
    · rw [if_neg ha] at hc
      have E1 : m.askErr k t cs = 1 := by unfold CoM.askErr; rw [hp]; simp [ha]
      have E2 : askV N m k t cs = .pointer none := by unfold askV; rw [E1]; rfl
      have HE1 := hid E1
      have HE2 := hid E2
      generalize askV N m k t cs = V at *
      generalize m.askErr k t cs = E at *
      generalize N.ub k = ub at *
      unfold ptrV AskV placeV at *
      clear E1 E2 hq hp h hr ha hR hqq
      go_enter Try.func77, Try.ntmps77
      go_wp2_with (first
        | (go_at_call 75; refine hf.mono ?_; rintro e w1 ⟨rfl, rfl⟩)
        | (go_at_call 119; refine hc.mono ?_; rintro e w1 ⟨rfl, rfl⟩))
      go_ret2
      exact ⟨by rw [HE1.out, HE2.out]; rfl, Below.refl _ _⟩
set_option maxRecDepth 100000 in
set_option maxHeartbeats 1000000 in
theorem caskNot {w : World} {c : Nat} {N : CoN} {m : CoM} {n : Nat} {k : Int} {g : Nat} {t : PrM → Bool} {a : Option Addr} {cs : List Int} {cc : Nat} (h : PCore w c N m n) (hk : In64 k) (hq : Asks 120 g t w) (hr : Rd .i64 w a cs) (hl : cs.length ≤ 16) :
    Calls Try.prog 77 #[ptrV c, .int .i64 k, AskV 120 g, .slice a cs.length cc] w fun e w' => e = .returned (.tuple #[askV N m k t cs, .int .i64 (m.askErr k t cs)]) ∧ Below w.heap.size w w' := by
  have hc := ccells_any (cc := cc) hr hl
  cases hp : m.per k with
  | none =>
    have hf := cfind_none h hk hp
    have E1 : m.askErr k t cs = 12 := by unfold CoM.askErr; rw [hp]
    have E2 : askV N m k t cs = .pointer none := by unfold askV; rw [E1]; rfl
    have HE1 := hid E1
    have HE2 := hid E2
    generalize askV N m k t cs = V at *
    generalize m.askErr k t cs = E at *
    unfold ptrV AskV at *
    clear E1 E2 hq hc hp h hr
    go_enter Try.func77, Try.ntmps77
    go_wp2_with (go_at_call 75; refine hf.mono ?_; rintro e w1 ⟨rfl, rfl⟩)
    go_ret2
    exact ⟨by rw [HE1.out, HE2.out]; rfl, Below.refl _ _⟩
  | some p =>
    have hf := cfind_some h hk hp
    have hR := h.ur k p hp
    have c3 : w.cell? ⟨N.ub k, 3, none⟩ = some (.int .i64 (p.st : Nat)) := hR.cell 3
    have c4 : w.cell? ⟨N.ub k, 4, none⟩ = some (.int .i64 (p.cell : Nat)) := hR.cell 4
    have hqq := hq w p (Below.refl _ _)
    by_cases ha : cs.all okCell = true
    · rw [if_pos ha] at hc
      cases ht : t p with
      | false =>
        have E1 : m.askErr k t cs = 9 := by unfold CoM.askErr; rw [hp]; simp [ha, ht]
        have E2 : askV N m k t cs = .pointer none := by unfold askV; rw [E1]; rfl
        have HE1 := hid E1
        have HE2 := hid E2
        rw [ht] at hqq
        generalize askV N m k t cs = V at *
        generalize m.askErr k t cs = E at *
        generalize N.ub k = ub at *
        unfold ptrV AskV placeV at *
        clear E1 E2 hq hp h hr ha hR
        go_enter Try.func77, Try.ntmps77
        go_wp2_with (first
          | (go_at_call 75; refine hf.mono ?_; rintro e w1 ⟨rfl, rfl⟩)
          | (go_at_call 119; refine hc.mono ?_; rintro e w1 ⟨rfl, rfl⟩)
          | (go_at_call 120; refine hqq.mono ?_; rintro e w1 ⟨rfl, hb1⟩))
        go_ret2
        exact ⟨by rw [HE1.out, HE2.out]; rfl, hb1⟩
      | true =>
        have E1 : m.askErr k t cs = 0 := by unfold CoM.askErr; rw [hp]; simp [ha, ht]
        have E2 : askV N m k t cs = ptrV (N.ub k) := by unfold askV; rw [E1]; rfl
        have HE1 := hid E1
        have HE2 := hid E2
        rw [ht] at hqq
        generalize askV N m k t cs = V at *
        generalize m.askErr k t cs = E at *
        generalize N.ub k = ub at *
        unfold ptrV AskV placeV at *
        clear E1 E2 hq hp h hr ha hR
        go_enter Try.func77, Try.ntmps77
        go_wp2_with (first
          | (go_at_call 75; refine hf.mono ?_; rintro e w1 ⟨rfl, rfl⟩)
          | (go_at_call 119; refine hc.mono ?_; rintro e w1 ⟨rfl, rfl⟩)
          | (go_at_call 120; refine hqq.mono ?_; rintro e w1 ⟨rfl, hb1⟩))
        go_ret2
        exact ⟨by rw [HE1.out, HE2.out]; rfl, hb1⟩
    · rw [if_neg ha] at hc
      have E1 : m.askErr k t cs = 1 := by unfold CoM.askErr; rw [hp]; simp [ha]
      have E2 : askV N m k t cs = .pointer none := by unfold askV; rw [E1]; rfl
      have HE1 := hid E1
      have HE2 := hid E2
      generalize askV N m k t cs = V at *
      generalize m.askErr k t cs = E at *
      generalize N.ub k = ub at *
      unfold ptrV AskV placeV at *
      clear E1 E2 hq hp h hr ha hR hqq
      go_enter Try.func77, Try.ntmps77
      go_wp2_with (first
        | (go_at_call 75; refine hf.mono ?_; rintro e w1 ⟨rfl, rfl⟩)
        | (go_at_call 119; refine hc.mono ?_; rintro e w1 ⟨rfl, rfl⟩))
      go_ret2
      exact ⟨by rw [HE1.out, HE2.out]; rfl, Below.refl _ _⟩
set_option maxRecDepth 100000 in
set_option maxHeartbeats 1000000 in
theorem caskAt {w : World} {c : Nat} {N : CoN} {m : CoM} {n : Nat} {k : Int} {g : Nat} {t : PrM → Bool} {a : Option Addr} {cs : List Int} {cc : Nat} (h : PCore w c N m n) (hk : In64 k) (hq : Asks 143 g t w) (hr : Rd .i64 w a cs) (hl : cs.length ≤ 16) :
    Calls Try.prog 77 #[ptrV c, .int .i64 k, AskV 143 g, .slice a cs.length cc] w fun e w' => e = .returned (.tuple #[askV N m k t cs, .int .i64 (m.askErr k t cs)]) ∧ Below w.heap.size w w' := by
  have hc := ccells_any (cc := cc) hr hl
  cases hp : m.per k with
  | none =>
    have hf := cfind_none h hk hp
    have E1 : m.askErr k t cs = 12 := by unfold CoM.askErr; rw [hp]
    have E2 : askV N m k t cs = .pointer none := by unfold askV; rw [E1]; rfl
    have HE1 := hid E1
    have HE2 := hid E2
    generalize askV N m k t cs = V at *
    generalize m.askErr k t cs = E at *
    unfold ptrV AskV at *
    clear E1 E2 hq hc hp h hr
    go_enter Try.func77, Try.ntmps77
    go_wp2_with (go_at_call 75; refine hf.mono ?_; rintro e w1 ⟨rfl, rfl⟩)
    go_ret2
    exact ⟨by rw [HE1.out, HE2.out]; rfl, Below.refl _ _⟩
  | some p =>
    have hf := cfind_some h hk hp
    have hR := h.ur k p hp
    have c3 : w.cell? ⟨N.ub k, 3, none⟩ = some (.int .i64 (p.st : Nat)) := hR.cell 3
    have c4 : w.cell? ⟨N.ub k, 4, none⟩ = some (.int .i64 (p.cell : Nat)) := hR.cell 4
    have hqq := hq w p (Below.refl _ _)
    by_cases ha : cs.all okCell = true
    · rw [if_pos ha] at hc
      cases ht : t p with
      | false =>
        have E1 : m.askErr k t cs = 9 := by unfold CoM.askErr; rw [hp]; simp [ha, ht]
        have E2 : askV N m k t cs = .pointer none := by unfold askV; rw [E1]; rfl
        have HE1 := hid E1
        have HE2 := hid E2
        rw [ht] at hqq
        generalize askV N m k t cs = V at *
        generalize m.askErr k t cs = E at *
        generalize N.ub k = ub at *
        unfold ptrV AskV placeV at *
        clear E1 E2 hq hp h hr ha hR
        go_enter Try.func77, Try.ntmps77
        go_wp2_with (first
          | (go_at_call 75; refine hf.mono ?_; rintro e w1 ⟨rfl, rfl⟩)
          | (go_at_call 119; refine hc.mono ?_; rintro e w1 ⟨rfl, rfl⟩)
          | (go_at_call 143; refine hqq.mono ?_; rintro e w1 ⟨rfl, hb1⟩))
        go_ret2
        exact ⟨by rw [HE1.out, HE2.out]; rfl, hb1⟩
      | true =>
        have E1 : m.askErr k t cs = 0 := by unfold CoM.askErr; rw [hp]; simp [ha, ht]
        have E2 : askV N m k t cs = ptrV (N.ub k) := by unfold askV; rw [E1]; rfl
        have HE1 := hid E1
        have HE2 := hid E2
        rw [ht] at hqq
        generalize askV N m k t cs = V at *
        generalize m.askErr k t cs = E at *
        generalize N.ub k = ub at *
        unfold ptrV AskV placeV at *
        clear E1 E2 hq hp h hr ha hR
        go_enter Try.func77, Try.ntmps77
        go_wp2_with (first
          | (go_at_call 75; refine hf.mono ?_; rintro e w1 ⟨rfl, rfl⟩)
          | (go_at_call 119; refine hc.mono ?_; rintro e w1 ⟨rfl, rfl⟩)
          | (go_at_call 143; refine hqq.mono ?_; rintro e w1 ⟨rfl, hb1⟩))
        go_ret2
        exact ⟨by rw [HE1.out, HE2.out]; rfl, hb1⟩
    · rw [if_neg ha] at hc
      have E1 : m.askErr k t cs = 1 := by unfold CoM.askErr; rw [hp]; simp [ha]
      have E2 : askV N m k t cs = .pointer none := by unfold askV; rw [E1]; rfl
      have HE1 := hid E1
      have HE2 := hid E2
      generalize askV N m k t cs = V at *
      generalize m.askErr k t cs = E at *
      generalize N.ub k = ub at *
      unfold ptrV AskV placeV at *
      clear E1 E2 hq hp h hr ha hR hqq
      go_enter Try.func77, Try.ntmps77
      go_wp2_with (first
        | (go_at_call 75; refine hf.mono ?_; rintro e w1 ⟨rfl, rfl⟩)
        | (go_at_call 119; refine hc.mono ?_; rintro e w1 ⟨rfl, rfl⟩))
      go_ret2
      exact ⟨by rw [HE1.out, HE2.out]; rfl, Below.refl _ _⟩
theorem CoM.ask_some {m : CoM} {k : Int} {t : PrM → Bool} {cs : List Int} (h : m.askErr k t cs = 0) : ∃ p, m.per k = some p ∧ cs.all okCell = true ∧ t p = true := by
  unfold CoM.askErr at h
  cases hp : m.per k with
  | none => rw [hp] at h; simp at h
  | some p =>
    rw [hp] at h
    refine ⟨p, rfl, ?_⟩
    by_cases ha : cs.all okCell = true
    · by_cases ht : t p = true
      · exact ⟨ha, ht⟩
      · simp [ha, ht] at h
    · simp [ha] at h
theorem CoM.move_err (m : CoM) (k : Int) (t : PrM → Bool) (cs : List Int) (f : PrM → PrM) : (m.move k t cs f).err = m.askErr k t cs := by
  unfold CoM.move CoM.askErr
  cases m.per k with
  | none => rfl
  | some p =>
    by_cases ha : cs.all okCell = true
    · by_cases ht : t p = true
      · simp [ha, ht]
      · simp [ha, ht]
    · simp [ha]
theorem CoM.move_bad {m : CoM} {k : Int} {t : PrM → Bool} {cs : List Int} {f : PrM → PrM} (h : m.askErr k t cs ≠ 0) : (m.move k t cs f).m = m := by
  unfold CoM.move
  unfold CoM.askErr at h
  cases hp : m.per k with
  | none => rfl
  | some p =>
    rw [hp] at h
    by_cases ha : cs.all okCell = true
    · by_cases ht : t p = true
      · simp [ha, ht] at h
      · simp [ha, ht]
    · simp [ha]
theorem CoM.move_good {m : CoM} {k : Int} {t : PrM → Bool} {cs : List Int} {f : PrM → PrM} {p : PrM} (hp : m.per k = some p) (ha : cs.all okCell = true) (ht : t p = true) : (m.move k t cs f).m = m.put k (f p) := by
  unfold CoM.move
  rw [hp]
  simp [ha, ht]
/-- Somebody goes elsewhere. -/
theorem PCore.place {w w' : World} {c : Nat} {N : CoN} {m : CoM} {n : Nat} {k : Int} {p p' : PrM} (h : PCore w c N m n) (hp : m.per k = some p) (hk : Kept [N.ub k] w w') (hA : At w' (N.ub k) 145 (userRow N m k p')) (ok : (m.put k p').Ok n) : PCore w' c N (m.put k p') n := by
  obtain ⟨a1, a2, a3⟩ := h.apart
  obtain ⟨b1, b2, b3, b4, b5, b6⟩ := a3 k p hp
  refine h.next hp hk (fun x hx => .inr (.inr (.inl (by simpa using hx)))) rfl rfl (fun _ _ => rfl) (.inl rfl) (fun j => rfl) (fun j _ => ⟨rfl, rfl, rfl⟩) (h.hd.kept hk (by simpa using fun e => b1 e.symm)) ?_ ((h.op k p hp).kept hk (by simpa using fun e => b6 k p hp e.symm)) (keptRow h.gr hk (fun g hg => ?_)) ok (Nat.le_refl _)
  · have : userRow N (m.put k p') k p' = userRow N m k p' := rfl
    rw [this]
    exact hA
  · cases hgq : N.ga with
    | none => rw [hgq] at hg; simp [Value.ownBlock] at hg
    | some y =>
      obtain ⟨cur, he, -⟩ := h.gblock hgq
      rw [hgq, he] at hg
      simp [Value.ownBlock] at hg
      have := (b5 y hgq).1
      rw [← hg]
      simpa using fun e => this e.symm
def MovePost (w : World) (c : Nat) (N : CoN) (r : CoR) (n : Nat) (F : List Nat) : Ending → World → Prop := fun e w' => e = .returned (.int .i64 r.err) ∧ PCore w' c N r.m n ∧ Kept F w w'
end Go.Proofs.Ytcnkcbipkchoiag
