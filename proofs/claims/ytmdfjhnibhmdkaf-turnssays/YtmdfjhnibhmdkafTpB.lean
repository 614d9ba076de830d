import Derived.Test.YtmdfjhnibhmdkafTpA
namespace Go.Proofs.Ytmdfjhnibhmdkaf
open Go.ChangeShapes Go.WideShapes Go.ChangeAt Go.RowKit

/-! THE PROGRAM'S New, Credit; left, earned, begin, give. -/

set_option maxRecDepth 100000 in
set_option maxHeartbeats 1000000 in
theorem pnew_bad (q : Int) (w : World) (hq : q < 1 ∨ 10000 < q) : Calls Try.prog 5 #[.int .i64 q] w fun e w' => e = .returned (.tuple #[.pointer none, .int .i64 1]) ∧ w = w' := by
  by_cases h0 : q < 1
  · have d0 : decide (q < 1) = true := decide_eq_true h0
    clear h0 hq
    go_enter Try.func5, Try.ntmps5
    go_wp2
    go_ret2
    exact ⟨rfl, rfl⟩
  · have d0 : decide (q < 1) = false := decide_eq_false h0
    have d1 : decide (10000 < q) = true := decide_eq_true (by omega)
    clear h0 hq
    go_enter Try.func5, Try.ntmps5
    go_wp2
    go_ret2
    exact ⟨rfl, rfl⟩

theorem pturn_new (w : World) (q : Int) : PTurn (w.alloc (.cells #[.int .i64 q, .int .i64 0, .int .i64 0, .int .i64 0, .int .i64 0, .int .i64 0, .int .i64 0, .int .i64 0, .int .i64 0, .int .i64 0, .int .i64 0, .int .i64 0, .int .i64 0, .int .i64 0, .int .i64 0, .int .i64 0, .int .i64 0, .int .i64 0, .int .i64 0, .bool false] 44)) w.heap.size q 0 false (fun _ => 0) := heap_alloc_new w _

set_option maxRecDepth 100000 in
set_option maxHeartbeats 1000000 in
theorem pnew_good (q : Int) (w : World) (h1 : 1 ≤ q) (h2 : q ≤ 10000) : Calls Try.prog 5 #[.int .i64 q] w fun e w' => e = .returned (.tuple #[.pointer (some ⟨w.heap.size, 0, none⟩), .int .i64 0]) ∧ PTurn w' w.heap.size q 0 false (fun _ => 0) ∧ Below w.heap.size w w' := by
  have d0 : decide (q < 1) = false := decide_eq_false (by omega)
  have d1 : decide (10000 < q) = false := decide_eq_false (by omega)
  clear h1 h2
  go_enter Try.func5, Try.ntmps5
  go_wp2
  go_ret2
  exact ⟨rfl, pturn_new w q, (Below.refl _ w).alloc (Nat.le_refl _) _⟩

def credM (cr : Nat → Int) (who : Int) : Int := if 1 ≤ who ∧ who ≤ 16 then cr who.toNat else 0

set_option maxRecDepth 100000 in
set_option maxHeartbeats 1000000 in
theorem pcredit_any (who q : Int) (r last : Nat) (opn : Bool) (cr : Nat → Int) (w : World) (hP : PTurn w r q last opn cr) : Calls Try.prog 9 #[.pointer (some ⟨r, 0, none⟩), .int .i64 who] w fun e w' => e = .returned (.int .i64 (credM cr who)) ∧ w = w' := by
  by_cases h0 : who < 1
  · have e0 : credM cr who = 0 := if_neg (by omega)
    rw [e0]
    have d0 : decide (who < 1) = true := decide_eq_true h0
    clear h0 e0 hP
    go_enter Try.func9, Try.ntmps9
    go_wp2
    go_ret
    exact ⟨rfl, rfl⟩
  · have d0 : decide (who < 1) = false := decide_eq_false h0
    by_cases h1 : 16 < who
    · have e0 : credM cr who = 0 := if_neg (by omega)
      rw [e0]
      have d1 : decide (16 < who) = true := decide_eq_true h1
      clear h0 h1 e0 hP
      go_enter Try.func9, Try.ntmps9
      go_wp2
      go_ret
      exact ⟨rfl, rfl⟩
    · have d1 : decide (16 < who) = false := decide_eq_false h1
      obtain ⟨a, rfl⟩ : ∃ a : Nat, who = (a : Int) := ⟨who.toNat, by omega⟩
      have e0 : credM cr a = cr a := by unfold credM; rw [if_pos (by omega), Int.toNat_natCast]
      rw [e0]
      have hc := hP.credit (a := a) (by omega)
      have a0 : (0 : Int) ≤ (a : Int) := by omega
      have a1 : (a : Int) < 17 := by omega
      generalize cr a = z at *
      clear h0 h1 e0 hP
      go_enter Try.func9, Try.ntmps9
      go_wp2
      go_ret
      exact ⟨rfl, rfl⟩

set_option maxRecDepth 100000 in
set_option maxHeartbeats 1000000 in
theorem left_any (sb ob n g : Nat) (wf bw ft : Nat → Int) (wt : Int) (w : World) (hS : PSlot w sb wf bw ft wt ob n g) : Calls Try.prog 12 #[.pointer (some ⟨sb, 0, none⟩)] w fun e w' => e = .returned (.bool (decide (g < n))) ∧ Below w.heap.size w w' := by
  obtain ⟨-, h1, h2⟩ := hS.tail
  clear hS
  go_enter Try.func12, Try.ntmps12
  go_upto_region 1 with fail
  go_region
  go_wp2
  go_ret
  exact ⟨by first | rfl | simp, (Below.refl _ w).drew⟩

set_option maxRecDepth 100000 in
set_option maxHeartbeats 1000000 in
theorem earned_any (who byt fit q : Int) (r last : Nat) (opn : Bool) (cr : Nat → Int) (w : World) (hP : PTurn w r q last opn cr) (hw : 0 < byt → 0 ≤ who ∧ who ≤ 16) : Calls Try.prog 15 #[.pointer (some ⟨r, 0, none⟩), .agg #[.int .i64 who, .int .i64 byt, .int .i64 fit]] w fun e w' => e = .returned (.bool (decide (0 < byt ∧ fit ≤ cr who.toNat))) ∧ Below w.heap.size w w' := by
  have hbA : Below w.heap.size w (w.alloc (.cells #[.int .i64 who, .int .i64 byt, .int .i64 fit] 41)) := (Below.refl _ w).alloc (Nat.le_refl _) _
  by_cases h0 : 0 < byt
  · obtain ⟨a, rfl⟩ : ∃ a : Nat, who = (a : Int) := ⟨who.toNat, by have := hw h0; omega⟩
    have ha := hw h0
    have hc := PTurn.credit (FunAt.below hP hbA) (a := a) (by omega)
    rw [Int.toNat_natCast]
    have e0 : decide (0 < byt ∧ fit ≤ cr a) = decide (fit ≤ cr a) := by simp [h0]
    rw [e0]
    have a0 : (0 : Int) ≤ (a : Int) := by omega
    have a1 : (a : Int) < 17 := by omega
    have d0 : decide (0 < byt) = true := decide_eq_true h0
    have HB := hid hbA
    generalize cr a = z at *
    clear h0 hw e0 hP ha hbA
    go_enter Try.func15, Try.ntmps15
    go_upto_region 1 with fail
    go_region
    go_wp2
    go_ret
    exact ⟨rfl, HB.out.drew⟩
  · have e0 : decide (0 < byt ∧ fit ≤ cr who.toNat) = false := decide_eq_false fun h => h0 h.1
    rw [e0]
    have d0 : decide (0 < byt) = false := decide_eq_false h0
    have HB := hid hbA
    clear h0 hw e0 hP hbA
    go_enter Try.func15, Try.ntmps15
    go_upto_region 1 with fail
    go_region
    go_wp2
    go_ret
    exact ⟨rfl, HB.out.drew⟩

set_option maxRecDepth 100000 in
set_option maxHeartbeats 1000000 in
theorem begin_open (q : Int) (r last : Nat) (cr : Nat → Int) (w : World) (hP : PTurn w r q last true cr) : Calls Try.prog 14 #[.pointer (some ⟨r, 0, none⟩)] w fun e w' => e = .returned (.tuple #[]) ∧ w = w' := by
  obtain ⟨-, -, h2⟩ := hP.head
  clear hP
  go_enter Try.func14, Try.ntmps14
  go_wp2
  go_end0
  exact ⟨rfl, rfl⟩

theorem next_rem {last : Nat} (h : last ≤ 16) : last % 16 + 1 = nextWho last := by unfold nextWho; split <;> omega

set_option maxRecDepth 100000 in
set_option maxHeartbeats 2000000 in
theorem begin_next (q : Int) (r last : Nat) (cr : Nat → Int) (w : World) (hP : PTurn w r q last false cr) (hl : last ≤ 16) (hq : 0 ≤ q ∧ q ≤ 10000) (hc : 0 ≤ cr (nextWho last) ∧ cr (nextWho last) ≤ 1000000) : Calls Try.prog 14 #[.pointer (some ⟨r, 0, none⟩)] w fun e w' => e = .returned (.tuple #[]) ∧ PTurn w' r q (nextWho last) false (upd cr (nextWho last) (cr (nextWho last) + q)) ∧ Kept [r] w w' := by
  obtain ⟨-, h1, h2⟩ := hP.head
  have f1 := FunAt.free hP 18
  have hN := (nextWho_le hl).2
  have hP1 := PTurn.setLast hP (nextWho last)
  have hP2 := hP1.setCr hN (cr (nextWho last) + q)
  obtain ⟨g0, g1, -⟩ := hP1.head
  have gc := hP1.credit hN
  have gf := FunAt.free hP1 (1 + nextWho last)
  have HP2 := hid hP2
  have HK : Hid (Kept [r] w ((w.setCell ⟨r, 18, none⟩ (.int .i64 ((nextWho last : Nat) : Int))).setCell ⟨r, 1 + nextWho last, none⟩ (.int .i64 (cr (nextWho last) + q)))) := ((Kept.refl [r] w).setCell (by simp) _).setCell (by simp) _
  have e1 : ((last : Int) % 16 + 1) = ((nextWho last : Nat) : Int) := by
    rw [← next_rem hl]
    omega
  generalize nextWho last = A at *
  generalize cr A = z at *
  have a0 : (0 : Int) ≤ (A : Int) := by omega
  have a1 : (A : Int) < 17 := by omega
  obtain ⟨hq0, hq1⟩ := hq
  obtain ⟨hc0, hc1⟩ := hc
  clear hP hP1 hP2
  go_enter Try.func14, Try.ntmps14
  go_upto_region 2 with fail
  go_region
  go_wp2
  go_end0
  exact ⟨rfl, HP2.out, HK.out.drew⟩
end Go.Proofs.Ytmdfjhnibhmdkaf
