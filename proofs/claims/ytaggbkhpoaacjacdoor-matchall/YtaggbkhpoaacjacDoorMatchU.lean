import Derived.Test.YtaggbkhpoaacjacDoorMatchV
import Derived.Test.YtaggbkhpoaacjacDoorCSoft
import Derived.Test.YtaggbkhpoaacjacDoorCopyI
namespace Go.Proofs.YtaggbkhpoaacjacDoor
open Go.ChangeShapes Go.WideShapes Go.ChangeAt Go.RowKit

/-! THE LANDED BUFFER: a block that leads to its sums. -/

def BufP (w : World) (p : Addr) (S : List Nat) (s : List Int) : Prop :=
  ∃ b g, p = ⟨b, 0, none⟩ ∧ S = [b, g] ∧ b ≠ g ∧ Boxed w b 70 (.slice (some ⟨g, 0, none⟩) s.length s.length) ∧ ArrAt .i64 3 w g s

theorem BufP.lt {w : World} {p : Addr} {S : List Nat} {s : List Int} (h : BufP w p S s) : ∀ x ∈ S, x < w.heap.size := by
  obtain ⟨b, g, rfl, rfl, _, hb, hg⟩ := h
  intro x hx
  simp at hx
  rcases hx with rfl | rfl
  · exact hb.lt
  · exact hg.lt
theorem BufP.kept {w w' : World} {p : Addr} {S T : List Nat} {s : List Int} (h : BufP w p S s) (hk : Kept T w w') (hs : ∀ x ∈ S, x ∉ T) : BufP w' p S s := by
  obtain ⟨b, g, rfl, rfl, hne, hb, hg⟩ := h
  exact ⟨b, g, rfl, rfl, hne, (hk.block b hb.lt (hs b (by simp))).trans hb, hg.kept hk (hs g (by simp))⟩

set_option maxHeartbeats 1000000 in
theorem new_bad (n : Int) (w : World) (h : n < 1 ∨ 4096 < n) : Calls Tryd.prog 21 #[.int .i64 n] w fun e w' => e = .returned (.tuple #[.pointer none, .int .i64 1]) ∧ w = w' := by
  have hsz := checkSize_any n w
  rw [show sizeErr n = 1 by unfold sizeErr; rw [show sizeOk n = false from decide_eq_false (by omega)]; rfl] at hsz
  clear h
  go_enter Tryd.func21, Tryd.ntmps21
  go_wp2_with (first | (go_at_call 32; refine hsz.mono ?_; rintro e w1 ⟨rfl, rfl⟩))
  go_ret2
  exact ⟨rfl, rfl⟩

set_option maxHeartbeats 1000000 in
theorem new_any (n : Nat) (w : World) (h1 : 1 ≤ n) (hn : n ≤ 4096) : Calls Tryd.prog 21 #[.int .i64 n] w fun e w' => ∃ p S, e = .returned (.tuple #[.pointer (some p), .int .i64 0]) ∧ BufP w' p S (List.replicate n 0) ∧ (∀ x ∈ S, w.heap.size ≤ x) ∧ Below w.heap.size w w' := by
  have hsz := checkSize_any (n : Int) w
  rw [show sizeErr (n : Int) = 0 by unfold sizeErr; rw [show sizeOk (n : Int) = true from decide_eq_true (by omega)]; rfl] at hsz
  go_enter Tryd.func21, Tryd.ntmps21
  go_wp2_with (first | (go_at_call 32; refine hsz.mono ?_; rintro e w1 ⟨rfl, rfl⟩) | (refine wpList_makeInts w.heap.size w n rfl _ _ rfl _ _ rfl rfl rfl rfl (by omega) (Below.refl _ _) (Nat.le_refl _) ?_; intro w1 hown1 hbel1 hlt1 _hx1; obtain ⟨har1, -, -⟩ := hown1.arr; clear hown1 _hx1))
  go_ret2
  exact ⟨_, _, rfl, ⟨w1.heap.size, w.heap.size, rfl, rfl, by omega, by rw [List.length_replicate]; exact Boxed.new w1 _ _, har1.alloc _⟩, by simp; omega, hbel1.alloc (by omega) _⟩

set_option maxHeartbeats 1000000 in
theorem soft_get {w : World} {p : Addr} {S : List Nat} {s : List Int} (hB : BufP w p S s) (h1 : 1 ≤ s.length) (hn : s.length ≤ 4096) :
    Calls Tryd.prog 24 #[.pointer (some p)] w fun e w' => ∃ g', e = .returned (.slice (some ⟨g', 0, none⟩) s.length s.length) ∧ ArrAt .i64 3 w' g' s ∧ w.heap.size ≤ g' ∧ Below w.heap.size w w' := by
  obtain ⟨b, g, rfl, rfl, hne, hb, hg⟩ := hB
  have hc := hb.cell
  obtain ⟨n, en⟩ : ∃ n, n = s.length := ⟨_, rfl⟩
  have HN := hid en
  rw [← en] at h1 hn hc hb
  rw [← en]
  clear en
  go_enter Tryd.func24, Tryd.ntmps24
  go_wp2_with (first
    | (refine wpList_makeInts w.heap.size w n rfl _ _ rfl _ _ rfl rfl rfl rfl (by omega) (Below.refl _ _) (Nat.le_refl _) ?_; intro w1 hown1 hbel1 hlt1 _hx1; obtain ⟨har1, -, -⟩ := hown1.arr; clear hown1 _hx1; have hc1 := (hbel1.cell (World.block_lt_of_cell? w _ hc)).trans hc)
    | (refine wpList_copyInts har1 (by simp) (src_cells (hg.below hbel1 hg.lt) HN.out.symm) HN.out.symm (Nat.le_refl _) rfl _ _ rfl rfl rfl ?_; intro w2 har2 hk2))
  go_ret
  refine ⟨w.heap.size, rfl, ?_, Nat.le_refl _, hbel1.trans (hk2.below hbel1.size (by simp))⟩
  rwa [List.take_of_length_le (by rw [← HN.out]; exact Nat.le_refl _)] at har2

theorem soft_any {w : World} {p : Addr} {S : List Nat} {s : List Int} (hB : BufP w p S s) (h1 : 1 ≤ s.length) (hn : s.length ≤ 4096) :
    Calls Tryd.prog 24 #[.pointer (some p)] w fun e w' => ∃ u, e = .returned u ∧ OwnI w' w.heap.size u s ∧ Below w.heap.size w w' :=
  (soft_get hB h1 hn).mono fun e w' h => by
    obtain ⟨g', rfl, har, hle, hb⟩ := h
    exact ⟨_, rfl, ownI_of_arr har hle rfl (by unfold maxLen; omega), hb⟩

set_option maxHeartbeats 1000000 in
/-- 'Add' of what may not be told. -/
theorem add_bad {w : World} {p : Addr} (a : Option Addr) (c : Nat) (xs : List Int) (v : Int) (ha : Rd .i64 w a xs) (hz : xs.length ≤ maxLen) (ht : tellOk xs v = false) :
    Calls Tryd.prog 23 #[.pointer (some p), .slice a xs.length c, .int .i64 v] w fun e w' => e = .returned (.int .i64 1) ∧ Below w.heap.size w w' := by
  have hB0 : Below w.heap.size w (w.alloc (.cells #[.slice a xs.length c] 23)) := (Below.refl _ w).alloc (Nat.le_refl _) _
  have hck := csoft_any xs a c (w.alloc (.cells #[.slice a xs.length c] 23)) (ha.below hB0) hz
  have hvr := checkVersion_any v (w.alloc (.cells #[.slice a xs.length c] 23))
  have hz' : xs.length ≤ 9223372036854775807 := by unfold maxLen at hz; omega
  cases h1 : softOk xs with
  | false =>
    rw [show softErr xs = 1 by unfold softErr; rw [h1]; rfl] at hck
    clear hvr ht h1 hz
    go_enter Tryd.func23, Tryd.ntmps23
    go_wp2_with (first | (go_at_call 29; refine hck.mono ?_; rintro e w1 ⟨rfl, rfl⟩))
    go_ret
    exact ⟨rfl, hB0⟩
  | true =>
    rw [show softErr xs = 0 by unfold softErr; rw [h1]; rfl] at hck
    by_cases h2 : 4096 < xs.length
    · have d2 : decide ((4096 : Int) < (xs.length : Int)) = true := decide_eq_true (by omega)
      clear hvr ht h1 h2 hz
      go_enter Tryd.func23, Tryd.ntmps23
      go_wp2_with (first | (go_at_call 29; refine hck.mono ?_; rintro e w1 ⟨rfl, rfl⟩))
      go_ret
      exact ⟨rfl, hB0⟩
    · have d2 : decide ((4096 : Int) < (xs.length : Int)) = false := decide_eq_false (by omega)
      have h3 : verOk v = false := by
        cases h : verOk v with
        | false => rfl
        | true => unfold tellOk at ht; rw [h1, h, decide_eq_true (show xs.length ≤ 4096 by omega)] at ht; cases ht
      rw [show verErr v = 1 by unfold verErr; rw [h3]; rfl] at hvr
      clear ht h1 h2 h3 hz
      go_enter Tryd.func23, Tryd.ntmps23
      go_wp2_with (first | (go_at_call 29; refine hck.mono ?_; rintro e w1 ⟨rfl, rfl⟩) | (go_at_call 33; refine hvr.mono ?_; rintro e w1 ⟨rfl, rfl⟩))
      go_ret
      exact ⟨rfl, hB0⟩
end Go.Proofs.YtaggbkhpoaacjacDoor
