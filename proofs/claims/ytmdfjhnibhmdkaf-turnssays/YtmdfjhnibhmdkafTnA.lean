import Derived.Test.YtmdfjhnibhmdkafFrame
namespace Go.Proofs.Ytmdfjhnibhmdkaf

/-! WHOSE TURN IT IS (P24): mathematics. -/

def upd (f : Nat → Int) (a : Nat) (x : Int) : Nat → Int := fun b => if b = a then x else f b
theorem upd_at (f : Nat → Int) (a : Nat) (x : Int) : upd f a x a = x := if_pos rfl
theorem upd_ne (f : Nat → Int) {a b : Nat} (x : Int) (h : b ≠ a) : upd f a x b = f b := if_neg h
/-- A Slot under way: who was visited last, whether that visit is open, credits, what waits, whose the blocks are so far. -/
structure SlM where
  last : Nat
  opn : Bool
  cr : Nat → Int
  bw : Nat → Int
  out : List Int
/-- One block for the one who is visited. -/
def SlM.give (fits : Nat → Int) (s : SlM) : SlM := ⟨s.last, s.opn, upd s.cr s.last (s.cr s.last - fits s.last), upd s.bw s.last (max (s.bw s.last - fits s.last) 0), s.out ++ [(s.last : Int)]⟩
/-- Blocks for the one who is visited, as long as that may be. -/
def serveM (fits : Nat → Int) (blocks : Nat) : Nat → SlM → SlM
  | 0, s => s
  | f + 1, s => if 0 < s.bw s.last ∧ fits s.last ≤ s.cr s.last then (if s.out.length = blocks then { s with opn := true } else serveM fits blocks f (s.give fits)) else s
def nextWho (last : Nat) : Nat := if 16 < last + 1 then 1 else last + 1
/-- A visit begins. -/
def SlM.come (s : SlM) : SlM := ⟨if s.opn = true then s.last else nextWho s.last, false, s.cr, s.bw, s.out⟩
def SlM.gain (q : Int) (gains : Bool) (s : SlM) : SlM := if gains = true then { s with cr := upd s.cr s.last (s.cr s.last + q) } else s
def SlM.lose (s : SlM) : SlM := { s with cr := upd s.cr s.last 0 }
def SlM.leave (s : SlM) : SlM := if s.bw s.last = 0 then s.lose else s
def visitM (q : Int) (fits : Nat → Int) (blocks : Nat) (s : SlM) : SlM := if 0 < s.come.bw s.come.last then (serveM fits blocks (blocks + 1) (s.come.gain q (!s.opn))).leave else s.come.lose
def anyB (bw : Nat → Int) : Bool := (List.range 16).any fun a => decide (0 < bw (a + 1))
/-- The least of those who wait. -/
def firstW (bw : Nat → Int) : Nat := (((List.range 16).find? fun a => decide (0 < bw (a + 1))).getD 0) + 1
theorem firstW_spec {bw : Nat → Int} (h : anyB bw = true) : 1 ≤ firstW bw ∧ firstW bw ≤ 16 ∧ 0 < bw (firstW bw) := by
  unfold anyB at h
  unfold firstW
  cases hf : (List.range 16).find? fun a => decide (0 < bw (a + 1)) with
  | none =>
    rw [List.find?_eq_none] at hf
    rw [List.any_eq_true] at h
    obtain ⟨a, ha, hb⟩ := h
    exact absurd hb (hf a ha)
  | some a =>
    have h1 := List.find?_some hf
    have h2 := List.mem_range.1 (List.mem_of_find?_eq_some hf)
    simp only [Option.getD_some]
    exact ⟨by omega, by omega, by simpa using h1⟩
/-- How many visits it is to somebody. -/
def wayTo (last a : Nat) : Nat := if last < a then a - last else a + 16 - last
/-- What falls with each visit. -/
def SlM.mu (blocks : Nat) (s : SlM) : Nat := (blocks - s.out.length) * 400000 + (10000 - s.cr (firstW s.bw)).toNat * 17 + (if s.opn = true then 17 else wayTo s.last (firstW s.bw))
structure SlM.Ok (blocks : Nat) (s : SlM) : Prop where
  last : s.last ≤ 16
  opn : s.opn = true → 1 ≤ s.last
  cr : ∀ a, 0 ≤ s.cr a
  bw : ∀ a, 0 ≤ s.bw a
  out : s.out.length ≤ blocks
structure FitOk (fits bw : Nat → Int) : Prop where
  pos : ∀ a, 0 < bw a → 1 ≤ fits a ∧ fits a ≤ 10000
theorem FitOk.less {fits bw bw' : Nat → Int} (h : FitOk fits bw) (hl : ∀ a, 0 < bw' a → 0 < bw a) : FitOk fits bw' := ⟨fun a ha => h.pos a (hl a ha)⟩
theorem give_ok {fits : Nat → Int} {blocks : Nat} {s : SlM} (h : s.Ok blocks) (hc : fits s.last ≤ s.cr s.last) (ho : s.out.length < blocks) : (s.give fits).Ok blocks := by
  refine ⟨h.last, h.opn, fun a => ?_, fun a => ?_, ?_⟩
  · show 0 ≤ upd s.cr s.last (s.cr s.last - fits s.last) a
    by_cases e : a = s.last
    · rw [e, upd_at]; omega
    · rw [upd_ne _ _ e]; exact h.cr a
  · show 0 ≤ upd s.bw s.last (max (s.bw s.last - fits s.last) 0) a
    by_cases e : a = s.last
    · rw [e, upd_at]; omega
    · rw [upd_ne _ _ e]; exact h.bw a
  · show (s.out ++ [(s.last : Int)]).length ≤ blocks
    simp; omega
/-- What holds of those blocks. -/
theorem serve_spec (fits : Nat → Int) (blocks : Nat) : ∀ (f : Nat) (s : SlM), s.Ok blocks → FitOk fits s.bw → (serveM fits blocks f s).last = s.last ∧ (serveM fits blocks f s).Ok (blocks) ∨ s.last = 0
  | 0, s, h, _ => .inl ⟨rfl, h⟩
  | f + 1, s, h, hf => by
    by_cases h0 : s.last = 0
    · exact .inr h0
    · left
      unfold serveM
      by_cases hc : 0 < s.bw s.last ∧ fits s.last ≤ s.cr s.last
      · rw [if_pos hc]
        by_cases ho : s.out.length = blocks
        · rw [if_pos ho]
          exact ⟨rfl, h.last, fun _ => by show 1 ≤ s.last; omega, h.cr, h.bw, h.out⟩
        · rw [if_neg ho]
          have h2 := h.out
          have hfl : FitOk fits (s.give fits).bw := hf.less fun a ha => by
            have ha' : 0 < upd s.bw s.last (max (s.bw s.last - fits s.last) 0) a := ha
            by_cases e : a = s.last
            · rw [e]; exact hc.1
            · rwa [upd_ne _ _ e] at ha'
          rcases serve_spec fits blocks f (s.give fits) (give_ok h hc.2 (by omega)) hfl with h3 | h3
          · exact h3
          · exact absurd h3 h0
      · rw [if_neg hc]
        exact ⟨rfl, h⟩
theorem serve_len (fits : Nat → Int) (blocks : Nat) : ∀ (f : Nat) (s : SlM), s.out.length ≤ (serveM fits blocks f s).out.length
  | 0, s => Nat.le_refl _
  | f + 1, s => by
    unfold serveM
    split
    · split
      · exact Nat.le_refl _
      · refine Nat.le_trans ?_ (serve_len fits blocks f (s.give fits))
        show s.out.length ≤ (s.out ++ [(s.last : Int)]).length
        simp
    · exact Nat.le_refl _
theorem serve_stop {fits : Nat → Int} {blocks f : Nat} {s : SlM} (h : ¬ (0 < s.bw s.last ∧ fits s.last ≤ s.cr s.last)) : serveM fits blocks f s = s := by
  cases f with
  | zero => rfl
  | succ f => unfold serveM; rw [if_neg h]
theorem serve_full {fits : Nat → Int} {blocks f : Nat} {s : SlM} (h : 0 < s.bw s.last ∧ fits s.last ≤ s.cr s.last) (ho : s.out.length = blocks) : serveM fits blocks (f + 1) s = { s with opn := true } := by
  unfold serveM; rw [if_pos h, if_pos ho]
theorem serve_give {fits : Nat → Int} {blocks f : Nat} {s : SlM} (h : 0 < s.bw s.last ∧ fits s.last ≤ s.cr s.last) (ho : s.out.length ≠ blocks) : serveM fits blocks (f + 1) s = serveM fits blocks f (s.give fits) := by
  rw [serveM, if_pos h, if_neg ho]
theorem serve_more {fits : Nat → Int} {blocks f : Nat} {s : SlM} (h : 0 < s.bw s.last ∧ fits s.last ≤ s.cr s.last) (ho : s.out.length < blocks) : s.out.length + 1 ≤ (serveM fits blocks (f + 1) s).out.length := by
  rw [serve_give h (by omega)]
  refine Nat.le_trans ?_ (serve_len fits blocks f (s.give fits))
  show s.out.length + 1 ≤ (s.out ++ [(s.last : Int)]).length
  simp
theorem nextWho_le {last : Nat} (h : last ≤ 16) : 1 ≤ nextWho last ∧ nextWho last ≤ 16 := by unfold nextWho; split <;> omega
theorem come_last {blocks : Nat} {s : SlM} (h : s.Ok blocks) : 1 ≤ s.come.last ∧ s.come.last ≤ 16 := by
  show 1 ≤ (if s.opn = true then s.last else nextWho s.last) ∧ (if s.opn = true then s.last else nextWho s.last) ≤ 16
  by_cases e : s.opn = true
  · rw [if_pos e]; exact ⟨h.opn e, h.last⟩
  · rw [if_neg e]; exact nextWho_le h.last
theorem come_ok {blocks : Nat} {s : SlM} (h : s.Ok blocks) : s.come.Ok blocks := ⟨(come_last h).2, fun e => (by cases e), h.cr, h.bw, h.out⟩
theorem gain_ok {blocks : Nat} {q : Int} {s : SlM} (hq : 0 ≤ q) (g : Bool) (h : s.Ok blocks) : (s.gain q g).Ok blocks ∧ (s.gain q g).last = s.last ∧ (s.gain q g).bw = s.bw ∧ (s.gain q g).out = s.out ∧ (s.gain q g).opn = s.opn := by
  unfold SlM.gain
  by_cases e : g = true
  · rw [if_pos e]
    refine ⟨⟨h.last, h.opn, fun a => ?_, h.bw, h.out⟩, rfl, rfl, rfl, rfl⟩
    show 0 ≤ upd s.cr s.last (s.cr s.last + q) a
    have := h.cr s.last
    by_cases e : a = s.last
    · rw [e, upd_at]; omega
    · rw [upd_ne _ _ e]; exact h.cr a
  · rw [if_neg e]
    exact ⟨h, rfl, rfl, rfl, rfl⟩
theorem lose_ok {blocks : Nat} {s : SlM} (h : s.Ok blocks) : s.lose.Ok blocks := by
  refine ⟨h.last, h.opn, fun a => ?_, h.bw, h.out⟩
  show 0 ≤ upd s.cr s.last 0 a
  by_cases e : a = s.last
  · rw [e, upd_at]; omega
  · rw [upd_ne _ _ e]; exact h.cr a
theorem leave_ok {blocks : Nat} {s : SlM} (h : s.Ok blocks) : s.leave.Ok blocks := by
  unfold SlM.leave
  split
  · exact lose_ok h
  · exact h
theorem visit_ok {q : Int} {fits : Nat → Int} {blocks : Nat} {s : SlM} (hq : 0 ≤ q) (hf : FitOk fits s.bw) (h : s.Ok blocks) : (visitM q fits blocks s).Ok blocks := by
  unfold visitM
  split
  · obtain ⟨h1, h2, h3, _, _⟩ := gain_ok hq (!s.opn) (come_ok h)
    refine leave_ok ?_
    rcases serve_spec fits blocks (blocks + 1) _ h1 (by rw [h3]; exact hf) with h4 | h4
    · exact h4.2
    · rw [h2] at h4
      have := (come_last h).1
      omega
  · exact lose_ok (come_ok h)
end Go.Proofs.Ytmdfjhnibhmdkaf
