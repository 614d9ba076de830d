import Derived.Test.YtpeidccpplfbaaeDoorHqS
import Derived.Test.YtpeidccpplfbaaeDoorRegU
import Derived.Maps.OwnSet
import Derived.Maps.OwnOps
import Derived.Laws.ResultCell
import Derived.BigRegion
namespace Go.Proofs.YtpeidccpplfbaaeDoor
open Go.ChangeShapes Go.WideShapes Go.ChangeAt Go.RowKit

/-! WHAT A SENDER SAYS (P20): mathematics. -/

structure TryM where
  busy : Bool
  flag : Bool
  opn : Bool
  data : ByteArray
  tries : Nat
def TryM.zero : TryM := ⟨false, false, false, ByteArray.empty, 0⟩
/-- A block that is tried, as the program's map holds it. -/
def TryM.blk (t : TryM) : Value := .agg #[.string t.data, .int .i64 t.tries, .bool t.opn]
def TryM.cells (t : TryM) : List Value := [.bool t.busy, .bool t.flag, .bool t.opn, .string t.data, .int .i64 t.tries]
structure SendM where
  limit : Nat
  p : List TryM
def SendM.new (l : Nat) : SendM := ⟨l, List.replicate 8 TryM.zero⟩
def SendM.tat (m : SendM) (k : Nat) : TryM := m.p.getD k TryM.zero
def TryM.right (limit : Nat) (t : TryM) : Prop := t.busy = true → (t.opn = true → 1 ≤ t.tries ∧ t.tries ≤ limit) ∧ (t.opn = false → t.tries < limit)
structure SendM.Ok (m : SendM) : Prop where
  len : m.p.length = 8
  low : 1 ≤ m.limit
  high : m.limit ≤ 8
  each : ∀ k, k < 8 → (m.tat k).right m.limit
def SendM.set (m : SendM) (k : Nat) (t : TryM) : SendM := ⟨m.limit, m.p.set k t⟩
theorem SendM.tat_set {m : SendM} (h : m.p.length = 8) {k : Nat} (hk : k < 8) (t : TryM) (j : Nat) : (m.set k t).tat j = if j = k then t else m.tat j := by
  unfold SendM.tat SendM.set
  by_cases e : j = k
  · subst e
    simp [List.getD, h, hk]
  · have e' : k ≠ j := fun h => e h.symm
    simp [List.getD, e, e']
theorem SendM.Ok.set {m : SendM} (h : m.Ok) {k : Nat} (hk : k < 8) {t : TryM} (ht : t.right m.limit) : (m.set k t).Ok := by
  refine ⟨by simp [SendM.set, h.len], h.low, h.high, fun j hj => ?_⟩
  rw [SendM.tat_set h.len hk]
  split
  · exact ht
  · exact h.each j hj
theorem SendM.new_ok {l : Nat} (h1 : 1 ≤ l) (h8 : l ≤ 8) : (SendM.new l).Ok := by
  refine ⟨by simp [SendM.new], h1, h8, fun k hk => ?_⟩
  have e : (SendM.new l).tat k = TryM.zero := by
    simp only [SendM.tat, SendM.new, List.getD, List.getElem?_replicate]
    split <;> rfl
  rw [e]
  intro h
  cases h
/-- How many processes have a block. -/
def SendM.busyN (m : SendM) : Nat := m.p.countP (·.busy)
theorem SendM.busyN_le {m : SendM} (h : m.p.length = 8) : m.busyN ≤ 8 := by rw [← h]; exact List.countP_le_length
theorem SendM.busyN_set {m : SendM} (h : m.p.length = 8) {k : Nat} (hk : k < 8) (t : TryM) : (m.set k t).busyN + (if (m.tat k).busy then 1 else 0) = m.busyN + (if t.busy then 1 else 0) := by
  have hk' : k < m.p.length := by omega
  have e : m.tat k = m.p[k] := by simp [SendM.tat, List.getD, hk']
  rw [e]
  have hc := List.countP_set (p := fun x : TryM => x.busy) (l := m.p) (i := k) (a := t) hk'
  show List.countP _ (m.p.set k t) + _ = List.countP _ m.p + _
  rw [hc]
  have h1 : (if m.p[k].busy = true then 1 else 0) ≤ List.countP (fun x : TryM => x.busy) m.p := by
    split
    · rename_i hb
      exact List.countP_pos_iff.2 ⟨m.p[k], List.getElem_mem hk', hb⟩
    · omega
  omega
/-- The least process that is free; 8, if none is. -/
def SendM.least (m : SendM) : Nat := m.p.findIdx (fun t => !t.busy)
theorem SendM.least_le {m : SendM} (h : m.p.length = 8) : m.least ≤ 8 := by rw [← h]; exact List.findIdx_le_length
theorem SendM.least_free {m : SendM} (h : m.p.length = 8) (hl : m.least < 8) : (m.tat m.least).busy = false := by
  have hk : m.p.findIdx (fun t => !t.busy) < m.p.length := by rw [h]; exact hl
  have := List.findIdx_getElem (p := fun t : TryM => !t.busy) (xs := m.p) (w := hk)
  have e : m.tat m.least = m.p[m.least] := by simp [SendM.tat, List.getD, SendM.least, hk]
  rw [e]
  simpa [SendM.least] using this
theorem SendM.least_busy {m : SendM} (h : m.p.length = 8) {j : Nat} (hj : j < m.least) : (m.tat j).busy = true := by
  have h1 := List.not_of_lt_findIdx (p := fun t : TryM => !t.busy) (xs := m.p) (i := j) hj
  have hj8 : j < m.p.length := by have := SendM.least_le h; omega
  have e : m.tat j = m.p[j] := by simp [SendM.tat, List.getD, hj8]
  rw [e]
  simpa using h1
theorem SendM.least_eq {m : SendM} (h : m.p.length = 8) {k : Nat} (hk : k < 8) (hb : ∀ j, j < k → (m.tat j).busy = true) (hf : (m.tat k).busy = false) : m.least = k := by
  rcases Nat.lt_trichotomy m.least k with h1 | h1 | h1
  · have := SendM.least_free h (by omega)
    rw [hb _ h1] at this
    cases this
  · exact h1
  · have := SendM.least_busy h h1
    rw [hf] at this
    cases this
theorem SendM.least_none {m : SendM} (h : m.p.length = 8) (hb : ∀ j, j < 8 → (m.tat j).busy = true) : m.least = 8 := by
  have h8 := SendM.least_le h
  rcases Nat.lt_or_ge m.least 8 with h1 | h1
  · have := SendM.least_free h h1
    rw [hb _ h1] at this
    cases this
  · omega
/-- What is wrong with asking for the block of a process. -/
def SendM.findErr (m : SendM) (p : Int) : Int := if procErr p = 1 then 1 else if (m.tat p.toNat).busy then 0 else 6
def SendM.nextErr (m : SendM) (p : Int) : Int := if m.findErr p ≠ 0 then m.findErr p else if (m.tat p.toNat).opn then 9 else 0
def SendM.ansErr (m : SendM) (p : Int) : Int := if m.findErr p ≠ 0 then m.findErr p else if (m.tat p.toNat).opn then 0 else 9
def verAt (t : Nat) : Int := ([0, 2, 3, 1] : List Int).getD (t % 4) 0
def TryM.tried (t : TryM) : TryM := ⟨t.busy, t.flag, true, t.data, t.tries + 1⟩
def SendM.done (m : SendM) (k : Nat) (yes : Bool) : Bool := yes || decide (m.limit ≤ (m.tat k).tries)
def SendM.answered (m : SendM) (k : Nat) (yes : Bool) : TryM := ⟨!m.done k yes, (m.tat k).flag, false, (m.tat k).data, (m.tat k).tries⟩
def TryM.given (t : TryM) (d : ByteArray) : TryM := ⟨true, !t.flag, false, d, 0⟩
theorem tried_right {m : SendM} (h : m.Ok) {k : Nat} (hk : k < 8) (hb : (m.tat k).busy = true) (ho : (m.tat k).opn = false) : (m.tat k).tried.right m.limit := by
  have := (h.each k hk hb).2 ho
  intro _
  exact ⟨fun _ => ⟨by show 1 ≤ (m.tat k).tries + 1; omega, by show (m.tat k).tries + 1 ≤ _; omega⟩, fun e => by cases e⟩
theorem given_right {m : SendM} (h : m.Ok) (t : TryM) (d : ByteArray) : (t.given d).right m.limit := fun _ => ⟨fun e => (by cases e), fun _ => h.low⟩
theorem answered_right (m : SendM) (k : Nat) (yes : Bool) : (m.answered k yes).right m.limit := by
  intro hb
  refine ⟨fun e => (by cases e), fun _ => ?_⟩
  have h1 : (!m.done k yes) = true := hb
  unfold SendM.done at h1
  have h2 : ¬ m.limit ≤ (m.tat k).tries := by simp at h1; omega
  show (m.tat k).tries < m.limit
  omega
end Go.Proofs.YtpeidccpplfbaaeDoor
