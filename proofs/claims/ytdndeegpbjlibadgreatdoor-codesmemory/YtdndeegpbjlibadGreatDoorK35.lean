import Derived.Test.YtdndeegpbjlibadGreatDoorK34
namespace Go.Proofs.YtdndeegpbjlibadGreatDoor
open Go.ChangeShapes Go.WideShapes Go.ChangeAt Go.RowKit

/-! THE PROGRAM'S SMALL CALLS: orders, squares, levels, numbers. -/

def ordErr (order : Int) : Int := if ordOk5 order then 0 else 1
theorem ord_any (order : Int) (w : World) :
    Calls Tryz.prog 40 #[.int .i64 order] w fun e w' => e = .returned (.int .i64 (ordErr order)) ∧ w = w' := by
  by_cases o2 : order = 2
  · subst o2
    go_enter Tryz.func40, Tryz.ntmps40
    go_wp2
    go_ret
    exact ⟨rfl, rfl⟩
  · have q2 : (order == 2) = false := by simpa using o2
    by_cases o4 : order = 4
    · subst o4
      go_enter Tryz.func40, Tryz.ntmps40
      go_wp2
      go_ret
      exact ⟨rfl, rfl⟩
    · have q4 : (order == 4) = false := by simpa using o4
      by_cases o6 : order = 6
      · subst o6
        go_enter Tryz.func40, Tryz.ntmps40
        go_wp2
        go_ret
        exact ⟨rfl, rfl⟩
      · have q6 : (order == 6) = false := by simpa using o6
        have HV := hid (show (1 : Int) = ordErr order by unfold ordErr ordOk5; rw [decide_eq_false (by omega)]; rfl)
        clear o2 o4 o6
        go_enter Tryz.func40, Tryz.ntmps40
        go_wp2
        go_ret
        exact ⟨ret_int HV.out, rfl⟩

def farX (x : Int) : Bool := decide (x < -1000 ∨ 1000 < x)
theorem far_any (x : Int) (w : World) :
    Calls Tryz.prog 61 #[.int .i64 x] w fun e w' => e = .returned (.bool (farX x)) ∧ w = w' := by
  by_cases h1 : x < -1000
  · have HV := hid (show true = farX x from (decide_eq_true (Or.inl h1)).symm)
    go_enter Tryz.func61, Tryz.ntmps61
    go_wp2
    go_ret
    exact ⟨ret_boolQ HV.out, rfl⟩
  · have q1 : decide (x < -1000) = false := decide_eq_false h1
    have HV := hid (show decide (1000 < x) = farX x by unfold farX; simp [h1])
    go_enter Tryz.func61, Tryz.ntmps61
    go_wp2
    go_ret
    exact ⟨ret_boolQ HV.out, rfl⟩

theorem square_any (x : Int) (w : World) (hx : -3000 ≤ x ∧ x ≤ 3000) :
    Calls Tryz.prog 62 #[.int .i64 x] w fun e w' => e = .returned (.int .i64 (x * x)) ∧ w = w' := by
  have hsq : 0 ≤ x * x ∧ x * x ≤ 9000000 := by
    have h1 : x * x = (x.natAbs * x.natAbs : Nat) := by rw [Int.natAbs_mul_self]
    have h2 : x.natAbs * x.natAbs ≤ 3000 * 3000 := Nat.mul_le_mul (by omega) (by omega)
    omega
  go_enter Tryz.func62, Tryz.ntmps62
  go_wp2
  go_ret
  exact ⟨rfl, rfl⟩

theorem and1_8 : ∀ q : Fin 8, bits BinOp.and IntKind.i64 (q.val : Int) 1 = ((q.val % 2 : Nat) : Int) := by decide +kernel
theorem and1_at (p k : Nat) (hp : p < 8) : bits BinOp.and IntKind.i64 ((p : Int) / 2 ^ k) 1 = ((bitN p k : Nat) : Int) := by
  have hlt : p / 2 ^ k < 8 := Nat.lt_of_le_of_lt (Nat.div_le_self _ _) hp
  have := and1_8 ⟨p / 2 ^ k, hlt⟩
  unfold bitN
  rw [← this]
  simp

theorem lev_wrap (t y : Nat) (z : Int) (ht : t ≤ 2) (hy : y = 0 ∨ y = 1) (hz : -7 ≤ z ∧ z ≤ 7) : wrap64 ((1 - 2 * (y : Int)) * wrap64 (wrap64 (2 ^ t) - z)) = (1 - 2 * (y : Int)) * (((2 ^ t : Nat) : Int) - z) := by
  have h3 : t = 0 ∨ t = 1 ∨ t = 2 := by omega
  rcases h3 with rfl | rfl | rfl <;> rcases hy with rfl | rfl <;> simp [wrap64] <;> omega

set_option maxHeartbeats 1000000 in
theorem level_any (N h : Nat) (w : World) (hN : N < 8) (hh : h ≤ 3) :
    Calls Tryz.prog 60 #[.int .i64 N, .int .i64 h] w fun e w' => e = .returned (.int .i64 (levM N h)) ∧ w = w' := by
  go_enter Tryz.func60, Tryz.ntmps60
  go_wp2
  go_loop [5, 9] (fun l q => ∃ t : Nat, t ≤ h ∧ l = .int .i64 (levM N t) ∧ q = .int .i64 t) (fun _ q => h - (intOf q).toNat)
  case atStart => exact ⟨0, by omega, rfl, rfl⟩
  case round =>
    obtain ⟨t, ht, rfl, rfl⟩ := hrel
    by_cases hlt : t < h
    · have hA := and1_at N t hN
      have hb := bitN_or N t
      have hl := levM_bd N t (by omega)
      have HL := hid (show levM N (t + 1) = (1 - 2 * (bitN N t : Int)) * ((2 ^ t : Nat) - levM N t) from rfl)
      have HW := hid (lev_wrap t (bitN N t) (levM N t) (by omega) hb hl)
      generalize levM N t = z at *
      generalize bitN N t = y at *
      go_wp2
      go_round
      case rel => exact ⟨t + 1, by omega, by rw [HL.out, ← HW.out], by go_num⟩
      case measure => simp [intOf]; omega
    · obtain rfl : t = h := by omega
      go_wp2
      go_ret
      exact ⟨rfl, rfl⟩

theorem or1_8 : ∀ a : Fin 8, ∀ b : Fin 2, bits BinOp.or IntKind.i64 ((a.val : Int) * 2) (b.val : Int) = ((2 * a.val + b.val : Nat) : Int) := by decide +kernel
theorem numM_bd {c : List Int} (hb : ∀ j, c.getD j 0 = 0 ∨ c.getD j 0 = 1) (axis : Nat) : ∀ t, numM c axis t < 2 ^ t
  | 0 => by simp [numM]
  | t + 1 => by
    have h1 := numM_bd hb axis t
    have h2 := hb (axis + 2 * t)
    rw [numM, Nat.pow_succ]
    rcases h2 with h | h <;> rw [h] <;> simp <;> omega

set_option maxHeartbeats 1000000 in
theorem number_any (c : List Int) (axis h n : Nat) (a : Option Addr) (cap : Nat) (w : World) (hr : Rd .u8 w a c) (hl : c.length = n) (hn : n = 2 * h) (hh : h ≤ 3) (hx : axis ≤ 1) (hb : ∀ j, c.getD j 0 = 0 ∨ c.getD j 0 = 1) :
    Calls Tryz.prog 42 #[.slice a n cap, .int .i64 axis] w fun e w' => e = .returned (.int .i64 (numM c axis h)) ∧ w = w' := by
  have HL := hid hl
  have HN := hid hn
  have hn6 : n ≤ 6 := by omega
  clear hl hn
  go_enter Tryz.func42, Tryz.ntmps42
  go_wp2
  go_loop [5, 6] (fun l q => ∃ t p : Nat, t ≤ h ∧ Hid (p = axis + 2 * t) ∧ p ≤ 7 ∧ l = .int .i64 (numM c axis t) ∧ q = .int .i64 p) (fun _ q => 7 - (intOf q).toNat)
  case atStart => exact ⟨0, axis, by omega, by unfold Hid; omega, by omega, rfl, rfl⟩
  case round =>
    obtain ⟨t, p, ht, HP, hp7, rfl, rfl⟩ := hrel
    by_cases hlt : p < n
    · have hth : t < h := by have := HP.out; have := HN.out; omega
      obtain ⟨b1, o1, rfl, hc1⟩ := hr.at (i := p) (by rw [HL.out]; exact hlt)
      have g1 := hc1 p (by rw [HL.out]; exact hlt)
      have hbd := numM_bd hb axis t
      have hb8 : numM c axis t < 8 := Nat.lt_of_lt_of_le hbd (show 2 ^ t ≤ 2 ^ 3 from Nat.pow_le_pow_right (by omega) (by omega))
      have hbp := hb p
      have HS := hid (show numM c axis (t + 1) = 2 * numM c axis t + (c.getD p 0).toNat by rw [HP.out]; rfl)
      obtain ⟨x, ex⟩ : ∃ x : Nat, c.getD p 0 = (x : Int) := ⟨(c.getD p 0).toNat, by omega⟩
      rw [ex] at g1 hbp HS
      have hx1 : x ≤ 1 := by omega
      obtain ⟨N, eN⟩ : ∃ N, N = numM c axis t := ⟨_, rfl⟩
      rw [← eN] at hb8 HS
      rw [← eN]
      have HO := hid (or1_8 ⟨N, hb8⟩ ⟨x, by omega⟩)
      clear hc1 eN hbp hbd ex
      go_wp2
      go_round
      case rel => exact ⟨t + 1, p + 2, hth, by unfold Hid; have := HP.out; omega, by omega, by rw [HS.out, Int.toNat_natCast]; exact congrArg (Value.int .i64) HO.out, by go_num⟩
      case measure => simp [intOf]; omega
    · have hth : t = h := by have := HP.out; have := HN.out; omega
      subst hth
      go_wp2
      go_ret
      exact ⟨rfl, rfl⟩
end Go.Proofs.YtdndeegpbjlibadGreatDoor
