import Derived.Test.YtcnkcbipkchoiagBase
namespace Go.Proofs.Ytcnkcbipkchoiag
open Go.RowKit

/-- Every number a byte. -/
def Bytes (zs : List Int) : Prop := ∀ n ∈ zs, 0 ≤ n ∧ n ≤ 255

/-- Only 0 and 1. -/
def Bits (zs : List Int) : Prop := ∀ k, 0 ≤ zs.getD k 0 ∧ zs.getD k 0 ≤ 1

/-- Only 0 and 1 up to place k. -/
def Okay (zs : List Int) (k : Nat) : Prop := ∀ j, j < k → zs.getD j 0 ≤ 1

/-- What is wrong with bits: 0, 1 (a byte that is none), 2 (too many). -/
def errOf (zs : List Int) : Int := if zs.all (fun x => decide (x ≤ 1)) then (if 4096 < zs.length then 2 else 0) else 1

theorem Bytes.at {zs : List Int} (h : Bytes zs) (k : Nat) : 0 ≤ zs.getD k 0 ∧ zs.getD k 0 ≤ 255 := by
  by_cases hk : k < zs.length
  · have : zs.getD k 0 = zs[k] := by simp [List.getD, hk]
    rw [this]; exact h _ (List.getElem_mem hk)
  · have : zs.getD k 0 = 0 := by simp [List.getD, Nat.le_of_not_lt hk]
    rw [this]; omega

theorem okay_all {zs : List Int} (h : Okay zs zs.length) : zs.all (fun x => decide (x ≤ 1)) = true := by
  rw [List.all_eq_true]
  intro x hx
  obtain ⟨k, hk, rfl⟩ := List.getElem_of_mem hx
  have := h k hk
  simpa [List.getD, hk] using this

theorem all_okay {zs : List Int} (h : zs.all (fun x => decide (x ≤ 1)) = true) (k : Nat) : zs.getD k 0 ≤ 1 := by
  rw [List.all_eq_true] at h
  by_cases hk : k < zs.length
  · have := h _ (List.getElem_mem hk)
    simpa [List.getD, hk] using this
  · simp [List.getD, Nat.le_of_not_lt hk]

theorem err_bad {zs : List Int} {k : Nat} (h : ¬ zs.getD k 0 ≤ 1) : errOf zs = 1 := by
  unfold errOf
  rw [if_neg]
  intro e
  exact h (all_okay e k)

theorem err_long {zs : List Int} (h : Okay zs zs.length) (hl : 4096 < zs.length) : errOf zs = 2 := by
  unfold errOf
  rw [if_pos (okay_all h), if_pos hl]

theorem err_none {zs : List Int} (h : Okay zs zs.length) (hl : ¬ 4096 < zs.length) : errOf zs = 0 := by
  unfold errOf
  rw [if_pos (okay_all h), if_neg hl]

theorem Okay.succ {zs : List Int} {k : Nat} (h : Okay zs k) (e : zs.getD k 0 ≤ 1) : Okay zs (k + 1) := fun j hj => by
  by_cases hjk : j = k
  · subst hjk; exact e
  · exact h j (by omega)

/-- Where nothing is wrong. -/
theorem err_zero {zs : List Int} (h : errOf zs = 0) : (∀ k, zs.getD k 0 ≤ 1) ∧ zs.length ≤ 4096 := by
  unfold errOf at h
  split at h
  · rename_i ha
    refine ⟨all_okay ha, ?_⟩
    split at h
    · simp at h
    · omega
  · simp at h

theorem err_cases (zs : List Int) : errOf zs = 0 ∨ errOf zs = 1 ∨ errOf zs = 2 := by
  unfold errOf
  split
  · split
    · exact .inr (.inr rfl)
    · exact .inl rfl
  · exact .inr (.inl rfl)

theorem ret_int {k : IntKind} {a b : Int} (h : a = b) : Ending.returned (.int k a) = .returned (.int k b) := by rw [h]

end Go.Proofs.Ytcnkcbipkchoiag
