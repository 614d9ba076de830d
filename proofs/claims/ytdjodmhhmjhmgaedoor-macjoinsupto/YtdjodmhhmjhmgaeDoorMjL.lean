import Derived.Test.YtdjodmhhmjhmgaeDoorMjF
namespace Go.Proofs.YtdjodmhhmjhmgaeDoor
open Go.ChangeShapes Go.WideShapes Go.ChangeAt Go.RowKit

/-! THE LAW MacJoins, over what it asks of Join and Split. -/

structure MacLaws : Prop where
  join : ∀ (l : List ItemM) (size : Int) (a : Option Addr) (nl c : Nat) (w : World), Itms w a l → l.length = nl → nl ≤ maxLen → (itemsB l).length ≤ 1099511627776 → Calls Tryd.prog 18 #[.slice a nl c, .int .i64 size] w fun e w' => e = .returned (.tuple #[.string (joinM l size).text, .int .i64 (joinM l size).err]) ∧ Below w.heap.size w w'
  split : ∀ (s : ByteArray) (w : World), Calls Tryd.prog 20 #[.string s] w fun e w' => (splitM s = none ∧ e = .returned (.tuple #[.slice none 0 0, .int .i64 3]) ∨ ∃ l a c, splitM s = some l ∧ e = .returned (.tuple #[.slice a l.length c, .int .i64 0]) ∧ Itms w' a l) ∧ Below w.heap.size w w'

theorem Itms.below {w w' : World} {a : Option Addr} {l : List ItemM} (h : Itms w a l) (hb : Below w.heap.size w w') : Itms w' a l := by
  intro hne
  obtain ⟨b, o, rfl, hc⟩ := h hne
  exact ⟨b, o, rfl, fun i hi => ⟨cellOldJ hb (hc i hi).1, cellOldJ hb (hc i hi).2⟩⟩
theorem Itms.nilJ (w : World) (a : Option Addr) : Itms w a [] := fun h => absurd rfl h
/-- How long a list can be that a text is split to. -/
theorem split_few {s : ByteArray} {l : List ItemM} (h : splitM s = some l) : l.length ≤ 65535 := by
  unfold splitM at h
  by_cases hs : 65535 < s.size
  · rw [if_pos hs] at h; cases h
  · rw [if_neg hs] at h
    cases hp : parseM s (s.size + 1) 0 with
    | none => rw [hp] at h; cases h
    | some l' =>
      rw [hp] at h
      simp only at h
      by_cases hj : (joinM l' (s.size : Int)).err = 0 ∧ (joinM l' (s.size : Int)).text = s
      · rw [if_pos hj] at h
        injection h with h
        subst h
        have hle := items_len_le l'
        have hsz : ¬ ((s.size : Int) < 0 ∨ 65535 < (s.size : Int)) := by omega
        have h1 := hj.1
        unfold joinM at h1
        rw [if_neg hsz] at h1
        by_cases ha : l'.all ItemM.ok = false
        · rw [if_pos ha] at h1; cases h1
        · rw [if_neg ha] at h1
          by_cases hb : (s.size : Int) < ((itemsB l').length : Int)
          · rw [if_pos hb] at h1; cases h1
          · omega
      · rw [if_neg hj] at h; cases h
/-- Both Splits of a text say one thing. -/
def SplitSays (s : ByteArray) (n : Nat) (l : List ItemM) (er : Int) : Prop := (splitM s = none ∧ l = [] ∧ n = 0 ∧ er = 3) ∨ (splitM s = some l ∧ n = l.length ∧ er = 0)
theorem says_of (s : ByteArray) : ∃ n l er, SplitSays s n l er ∧ l.length = n ∧ n ≤ 65535 := by
  cases h : splitM s with
  | none => exact ⟨0, [], 3, .inl ⟨h, rfl, rfl, rfl⟩, rfl, by omega⟩
  | some l => exact ⟨l.length, l, 0, .inr ⟨h, rfl, rfl⟩, rfl, split_few h⟩
theorem says_calls {f : FuncId} {s : ByteArray} {w : World} {n : Nat} {l : List ItemM} {er : Int} (h : SplitSays s n l er)
    (hc : Calls Tryd.prog f #[.string s] w fun e w' => (splitM s = none ∧ e = .returned (.tuple #[.slice none 0 0, .int .i64 3]) ∨ ∃ l a c, splitM s = some l ∧ e = .returned (.tuple #[.slice a l.length c, .int .i64 0]) ∧ Itms w' a l) ∧ Below w.heap.size w w') :
    Calls Tryd.prog f #[.string s] w fun e w' => ∃ a c, e = .returned (.tuple #[.slice a n c, .int .i64 er]) ∧ Itms w' a l ∧ Below w.heap.size w w' := by
  refine hc.mono ?_
  rintro e w' ⟨hh, hb⟩
  rcases h with ⟨h1, rfl, rfl, rfl⟩ | ⟨h1, rfl, rfl⟩
  · rcases hh with ⟨_, rfl⟩ | ⟨l2, a, c, h2, _⟩
    · exact ⟨none, 0, rfl, Itms.nilJ _ _, hb⟩
    · rw [h1] at h2; cases h2
  · rcases hh with ⟨h2, _⟩ | ⟨l2, a, c, h2, rfl, hi⟩
    · rw [h1] at h2; cases h2
    · rw [h1] at h2
      injection h2 with h2
      subst h2
      exact ⟨a, c, rfl, hi, hb⟩

set_option maxRecDepth 100000 in
set_option maxHeartbeats 4000000 in
theorem macjoins_any (hL : MacLaws) (l : List ItemM) (size : Int) (text : ByteArray) (a : Option Addr) (nl c : Nat) (w : World) (hI : Itms w a l) (hnl : l.length = nl) (hm : nl ≤ maxLen) (hroom : (itemsB l).length ≤ 1099511627776) :
    Calls Tryd.prog 5 #[.slice a nl c, .int .i64 size, .string text] w fun e w' => e = .returned (.bool true) ∧ Below w.heap.size w w' := by
  have hj1 := fun (wz : World) (h : Itms wz a l) => hL.join l size a nl c wz h hnl hm hroom
  have hj2 := fun (wz : World) (h : Itms wz a l) => rjoin_any l size a nl c wz h hnl hm hroom
  obtain ⟨n1, l1, e1, hs1, hn1, hf1⟩ := says_of text
  have hp1 := fun wz => says_calls hs1 (hL.split text wz)
  have hp2 := fun wz => says_calls hs1 (rsplit_any text wz)
  have hsj := split_join (l := l) (size := size)
  obtain ⟨J, eJ⟩ : ∃ J, J = joinM l size := ⟨_, rfl⟩
  rw [← eJ] at hj1 hj2 hsj
  obtain ⟨jt, je⟩ := J
  dsimp only at hj1 hj2 hsj
  obtain ⟨n3, l3, e3, hs3, hn3, hf3⟩ := says_of jt
  have hp3 := fun wz => says_calls hs3 (hL.split jt wz)
  have hit1 := fun (wz : World) (a b : Option Addr) (ca cb : Nat) (ha : Itms wz a l1) (hb : Itms wz b l1) => items_same l1 a b n1 ca cb wz ha hb hn1 (by unfold maxLen; omega)
  have hit3 := fun (wz : World) (a' b : Option Addr) (ca cb : Nat) (ha : Itms wz a' l) (hb : Itms wz b l) => items_same l a' b nl ca cb wz ha hb hnl hm
  have H3 : Hid (je = 0 → l3 = l ∧ n3 = nl ∧ e3 = 0) := fun he => by
    have h4 := hsj he
    rcases hs3 with ⟨h5, _⟩ | ⟨h5, h6, h7⟩
    · rw [h4] at h5; cases h5
    · rw [h4] at h5
      injection h5 with h5
      exact ⟨h5.symm, by rw [h6, ← h5, hnl], h7⟩
  clear hsj hs1 hs3 eJ hL hroom
  by_cases he : je = 0
  · obtain ⟨rfl, rfl, rfl⟩ := H3.out he
    subst he
    clear H3 hn1 hn3 hnl
    go_enter Tryd.func5, Tryd.ntmps5
    go_wp2_with (first
      | (go_at_call 20; have hq := hi34; refine (hp3 _).mono ?_; rintro e w5 ⟨a5, c5, rfl, hi5, hb5⟩; clear hq; have hI5 := hI4.below hb5; have hB5 := hB4.trans (hb5.mono hB4.size))
      | (go_at_call 22; refine (hit3 _ _ _ _ _ hi56 hI6).mono ?_; rintro e w7 ⟨rfl, hb7⟩; have hB7 := hB6.trans (hb7.mono hB6.size))
      | (go_at_call 18; refine (hj1 _ hI).mono ?_; rintro e w1 ⟨rfl, hb1⟩; have hI1 := hI.below hb1)
      | (go_at_call 19; refine (hj2 _ hI1).mono ?_; rintro e w2 ⟨rfl, hb2⟩; have hI2 := hI1.below hb2; have hB2 := hb1.trans (hb2.mono hb1.size))
      | (go_at_call 21; refine (hp2 _).mono ?_; rintro e w4 ⟨a4, c4, rfl, hi4, hb4⟩; have hI4 := hI3.below hb4; have hi34 := hi3.below hb4; have hB4 := hB3.trans (hb4.mono hB3.size))
      | (go_at_call 22; refine (hit1 _ _ _ _ _ (hi34.below hb5) (hi4.below hb5)).mono ?_; rintro e w6 ⟨rfl, hb6⟩; have hB6 := hB5.trans (hb6.mono hB5.size); have hI6 := hI5.below hb6; have hi56 := hi5.below hb6)
      | (go_at_call 20; refine (hp1 _).mono ?_; rintro e w3 ⟨a3, c3, rfl, hi3, hb3⟩; have hI3 := hI2.below hb3; have hB3 := hB2.trans (hb3.mono hB2.size)))
    go_ret
    exact ⟨rfl, hB7⟩
  · have xe : (je != 0) = true := by simpa using he
    clear H3 hn1 hn3 hnl he
    go_enter Tryd.func5, Tryd.ntmps5
    go_wp2_with (first
      | (go_at_call 20; have hq := hi34; refine (hp3 _).mono ?_; rintro e w5 ⟨a5, c5, rfl, hi5, hb5⟩; clear hq; have hI5 := hI4.below hb5; have hB5 := hB4.trans (hb5.mono hB4.size))
      | (go_at_call 18; refine (hj1 _ hI).mono ?_; rintro e w1 ⟨rfl, hb1⟩; have hI1 := hI.below hb1)
      | (go_at_call 19; refine (hj2 _ hI1).mono ?_; rintro e w2 ⟨rfl, hb2⟩; have hI2 := hI1.below hb2; have hB2 := hb1.trans (hb2.mono hb1.size))
      | (go_at_call 21; refine (hp2 _).mono ?_; rintro e w4 ⟨a4, c4, rfl, hi4, hb4⟩; have hI4 := hI3.below hb4; have hi34 := hi3.below hb4; have hB4 := hB3.trans (hb4.mono hB3.size))
      | (go_at_call 22; refine (hit1 _ _ _ _ _ (hi34.below hb5) (hi4.below hb5)).mono ?_; rintro e w6 ⟨rfl, hb6⟩; have hB6 := hB5.trans (hb6.mono hB5.size))
      | (go_at_call 20; refine (hp1 _).mono ?_; rintro e w3 ⟨a3, c3, rfl, hi3, hb3⟩; have hI3 := hI2.below hb3; have hB3 := hB2.trans (hb3.mono hB2.size)))
    go_ret
    exact ⟨rfl, hB6⟩
end Go.Proofs.YtdjodmhhmjhmgaeDoor
