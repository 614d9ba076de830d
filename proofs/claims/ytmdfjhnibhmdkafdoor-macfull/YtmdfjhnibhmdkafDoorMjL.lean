import Derived.Test.YtmdfjhnibhmdkafDoorMjF
namespace Go.Proofs.YtmdfjhnibhmdkafDoor
open Go.ChangeShapes Go.WideShapes Go.ChangeAt Go.RowKit

/-! THE LAW MacJoins, over what it asks of Join and Split. -/

structure MacLaws : Prop where
  join : ∀ (l : List ItemM) (size : Int) (a : Option Addr) (nl c : Nat) (w : World), Itms w a l → l.length = nl → nl ≤ maxLen → (itemsB l).length ≤ 1099511627776 → Calls Tryd.prog 5 #[.slice a nl c, .int .i64 size] w fun e w' => e = .returned (.tuple #[.string (joinM l size).text, .int .i64 (joinM l size).err]) ∧ Below w.heap.size w w'
  split : ∀ (s : ByteArray) (w : World), Calls Tryd.prog 6 #[.string s] w fun e w' => (splitM s = none ∧ e = .returned (.tuple #[.slice none 0 0, .int .i64 3]) ∨ ∃ l a c, splitM s = some l ∧ e = .returned (.tuple #[.slice a l.length c, .int .i64 0]) ∧ Itms w' a l) ∧ Below w.heap.size w w'

theorem Itms.below {w w' : World} {a : Option Addr} {l : List ItemM} (h : Itms w a l) (hb : Below w.heap.size w w') : Itms w' a l := by
  intro hne
  obtain ⟨b, o, rfl, hc⟩ := h hne
  exact ⟨b, o, rfl, fun i hi => ⟨cellOldJ hb (hc i hi).1, cellOldJ hb (hc i hi).2⟩⟩
theorem Itms.nilJ (w : World) (a : Option Addr) : Itms w a [] := fun h => absurd rfl h
/-- How long a list can be that a text is split to. -/
theorem split_few {s : ByteArray} {l : List ItemM} (h : splitM s = some l) : l.length ≤ 65535 := by
  unfold splitM at h
  by_cases hs : 65535 < s.size
  · rw [if_pos hs] at h; cases h
  · rw [if_neg hs] at h
    cases hp : parseM s (s.size + 1) 0 with
    | none => rw [hp] at h; cases h
    | some l' =>
      rw [hp] at h
      simp only at h
      by_cases hj : (joinM l' (s.size : Int)).err = 0 ∧ (joinM l' (s.size : Int)).text = s
      · rw [if_pos hj] at h
        injection h with h
        subst h
        have hle := items_len_le l'
        have hsz : ¬ ((s.size : Int) < 0 ∨ 65535 < (s.size : Int)) := by omega
        have h1 := hj.1
        unfold joinM at h1
        rw [if_neg hsz] at h1
        by_cases ha : l'.all ItemM.ok = false
        · rw [if_pos ha] at h1; cases h1
        · rw [if_neg ha] at h1
          by_cases hb : (s.size : Int) < ((itemsB l').length : Int)
          · rw [if_pos hb] at h1; cases h1
          · omega
      · rw [if_neg hj] at h; cases h
/-- Both Splits of a text say one thing. -/
def SplitSays (s : ByteArray) (n : Nat) (l : List ItemM) (er : Int) : Prop := (splitM s = none ∧ l = [] ∧ n = 0 ∧ er = 3) ∨ (splitM s = some l ∧ n = l.length ∧ er = 0)
theorem says_of (s : ByteArray) : ∃ n l er, SplitSays s n l er ∧ l.length = n ∧ n ≤ 65535 := by
  cases h : splitM s with
  | none => exact ⟨0, [], 3, .inl ⟨h, rfl, rfl, rfl⟩, rfl, by omega⟩
  | some l => exact ⟨l.length, l, 0, .inr ⟨h, rfl, rfl⟩, rfl, split_few h⟩
theorem says_calls {f : FuncId} {s : ByteArray} {w : World} {n : Nat} {l : List ItemM} {er : Int} (h : SplitSays s n l er)
    (hc : Calls Tryd.prog f #[.string s] w fun e w' => (splitM s = none ∧ e = .returned (.tuple #[.slice none 0 0, .int .i64 3]) ∨ ∃ l a c, splitM s = some l ∧ e = .returned (.tuple #[.slice a l.length c, .int .i64 0]) ∧ Itms w' a l) ∧ Below w.heap.size w w') :
    Calls Tryd.prog f #[.string s] w fun e w' => ∃ a c, e = .returned (.tuple #[.slice a n c, .int .i64 er]) ∧ Itms w' a l ∧ Below w.heap.size w w' := by
  refine hc.mono ?_
  rintro e w' ⟨hh, hb⟩
  rcases h with ⟨h1, rfl, rfl, rfl⟩ | ⟨h1, rfl, rfl⟩
  · rcases hh with ⟨_, rfl⟩ | ⟨l2, a, c, h2, _⟩
    · exact ⟨none, 0, rfl, Itms.nilJ _ _, hb⟩
    · rw [h1] at h2; cases h2
  · rcases hh with ⟨h2, _⟩ | ⟨l2, a, c, h2, rfl, hi⟩
    · rw [h1] at h2; cases h2
    · rw [h1] at h2
      injection h2 with h2
      subst h2
      exact ⟨a, c, rfl, hi, hb⟩

end Go.Proofs.YtmdfjhnibhmdkafDoor
