import Derived.Test.YtjpohfghibhkiadWaveP
import Derived.Test.YtjpohfghibhkiadSameB
namespace Go.Proofs.Ytjpohfghibhkiad
open Go.ChangeShapes Go.WideShapes Go.ChangeAt Go.RowKit

theorem take_extP {xs ys : List (Int × Int)} {k : Nat} (hl : ys.length = xs.length) (hk : k < xs.length) (h : xs.take k = ys.take k) (he : xs.getD k (0, 0) = ys.getD k (0, 0)) : xs.take (k + 1) = ys.take (k + 1) := by
  rw [List.take_succ_eq_append_getElem hk, List.take_succ_eq_append_getElem (by omega), h]
  simp only [List.getD, List.getElem?_eq_getElem hk, List.getElem?_eq_getElem (show k < ys.length by omega), Option.getD_some] at he
  rw [he]

theorem ret_boolQ {a b : Bool} (h : a = b) : Ending.returned (.bool a) = .returned (.bool b) := by rw [h]
theorem run_eqP (w : World) (p1 p2 q1 q2 : Int) : (Op.equalIn 10000 47 (.agg #[.int .i64 p1, .int .i64 p2]) (.agg #[.int .i64 q1, .int .i64 q2])).run Try.prog w = .ok (p1 == q1 && p2 == q2) w := by
  have hf : Try.prog.underlying 47 = some (.struct (Try.prog.fieldsOf 47)) := by kernel_rfl
  rw [run_equalIn_struct w 9999 47 _ _ hf (by kernel_rfl)]
  simp only [Program.fieldsOf, Try.underlying47]
  simp [Op.eqFields, go_sem]
  by_cases h1 : p1 = q1
  · by_cases h2 : p2 = q2
    · simp [h1, h2]
    · simp [h1, h2]
  · simp [h1]

set_option maxHeartbeats 1000000 in
theorem same_points (xs ys : List (Int × Int)) (a b : Option Addr) (ca cb : Nat) (w : World) (ha : Pts w a xs) (hb : Pts w b ys) (hx : xs.length ≤ maxLen) (hy : ys.length ≤ maxLen) :
    Calls Try.prog 14 #[.slice a xs.length ca, .slice b ys.length cb] w fun e w' => e = .returned (.bool (decide (xs = ys))) ∧ Below w.heap.size w w' := by
  unfold maxLen at hx hy
  by_cases hl : ys.length = xs.length
  · have hne : (((xs.length : Nat) : Int) != ((ys.length : Nat) : Int)) = false := by rw [hl]; simp
    rw [hl] at hne ⊢
    clear hy
    have HL : Hid (ys.length = xs.length) := hl
    clear hl
    go_enter Try.func14, Try.ntmps14
    go_wp2
    go_loopw [5] (fun i wr => ∃ k : Nat, k ≤ xs.length ∧ i = .int .i64 k ∧ Hid (xs.take k = ys.take k) ∧ Below w.heap.size w wr) (fun i _ => xs.length - (intOf i).toNat)
    case atStart => exact ⟨0, Nat.zero_le _, rfl, rfl, Below.refl _ _⟩
    case round =>
      obtain ⟨k, hk, rfl, htk, hbel⟩ := hrel
      by_cases hlt : k < xs.length
      · obtain ⟨b1, o1, rfl, hc1⟩ := (ha.below hbel).at hlt
        obtain ⟨b2, o2, rfl, hc2⟩ := (hb.below hbel).at (i := k) (by rw [HL.out]; exact hlt)
        obtain ⟨g1, g1'⟩ := hc1 k hlt
        obtain ⟨g2, g2'⟩ := hc2 k (by rw [HL.out]; exact hlt)
        have hm : Try.prog.eqGuardType Try.prog.depth 47 = false := by kernel_rfl
        have HX := hid (show xs.getD k (0, 0) = ys.getD k (0, 0) ↔ (xs.getD k (0, 0)).1 = (ys.getD k (0, 0)).1 ∧ (xs.getD k (0, 0)).2 = (ys.getD k (0, 0)).2 from Prod.ext_iff)
        have hq := fun w => run_eqP w (xs.getD k (0, 0)).1 (xs.getD k (0, 0)).2 (ys.getD k (0, 0)).1 (ys.getD k (0, 0)).2
        obtain ⟨p1, e1⟩ : ∃ p1, p1 = (xs.getD k (0, 0)).1 := ⟨_, rfl⟩
        obtain ⟨p2, e2⟩ : ∃ p2, p2 = (xs.getD k (0, 0)).2 := ⟨_, rfl⟩
        obtain ⟨q1, e3⟩ : ∃ q1, q1 = (ys.getD k (0, 0)).1 := ⟨_, rfl⟩
        obtain ⟨q2, e4⟩ : ∃ q2, q2 = (ys.getD k (0, 0)).2 := ⟨_, rfl⟩
        rw [← e1] at g1 HX; simp only [← e1] at hq
        rw [← e2] at g1' HX; simp only [← e2] at hq
        rw [← e3] at g2 HX; simp only [← e3] at hq
        rw [← e4] at g2' HX; simp only [← e4] at hq
        clear hc1 hc2 e1 e2 e3 e4
        by_cases hpq : p1 = q1 ∧ p2 = q2
        · have hqt : (p1 == q1 && p2 == q2) = true := by simp [hpq.1, hpq.2]
          simp only [hqt] at hq
          have HE := hid (HX.out.2 hpq)
          clear hqt hpq HX
          go_wp2_with fail
          go_quiet (fail)
          go_wp2
          go_roundw
          case rel => first | exact ⟨k + 1, by omega, by go_num, take_extP HL.out hlt htk.out HE.out, below_drewN hbel _⟩ | ((repeat apply Exists.intro); exact ⟨⟨k + 1, by omega, by go_num, take_extP HL.out hlt htk.out HE.out, below_drewN hbel _⟩, rfl⟩)
          case measure => simp [intOf]; omega
        · have hqt : (p1 == q1 && p2 == q2) = false := by simpa using hpq
          simp only [hqt] at hq
          have HD := hid (show decide (xs = ys) = false from decide_eq_false (fun h => hpq (HX.out.1 (by rw [h]))))
          clear hqt hpq HX
          go_wp2_with fail
          go_quiet (fail)
          go_wp2
          go_ret
          exact ⟨ret_boolQ HD.out.symm, below_drewN hbel _⟩
      · have HD := hid (show decide (xs = ys) = true from decide_eq_true (by
          have h1 : k = xs.length := by omega
          have := htk.out
          rw [h1, List.take_length, ← HL.out, List.take_length] at this
          exact this))
        go_wp2
        go_ret
        exact ⟨ret_boolQ HD.out.symm, hbel⟩
  · have hne : (((xs.length : Nat) : Int) != ((ys.length : Nat) : Int)) = true := by simp; omega
    have hd : decide (xs = ys) = false := by simp; intro h; subst h; exact hl rfl
    rw [hd]
    clear hl
    go_enter Try.func14, Try.ntmps14
    go_wp2
    go_ret
    exact ⟨rfl, Below.refl _ _⟩
end Go.Proofs.Ytjpohfghibhkiad
