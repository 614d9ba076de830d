import Derived.Test.YtfbjedcfppghgabDoorPTurn
import Derived.Test.YtfbjedcfppghgabDoorAdded
import Derived.Test.YtfbjedcfppghgabDoorZeros
import Derived.Test.YtfbjedcfppghgabDoorInts
import Derived.Test.YtfbjedcfppghgabDoorSoft
import Derived.Test.YtfbjedcfppghgabDoorPlacesQ
namespace Go.Proofs.YtfbjedcfppghgabDoor
open Go.ChangeShapes Go.WideShapes Go.ChangeAt Go.RowKit

/-! THE DOCUMENT'S Power, Turn, Worth. -/

theorem addTo_addLN {xs ys : List Int} {n : Nat} (hx : xs.length = n) (hy : ys.length = n) : addTo xs ys n = addL xs ys := by
  refine List.ext_getElem (by simp [addTo, addL, hx, hy]) fun j h1 h2 => ?_
  have hj : j < n := by simpa [addTo] using h1
  simp [addTo, addL, List.getD, hx, hy, hj]


def noPow (n : Int) (j : Nat) : Prop := ∀ i, i < j → n ≠ ((2 ^ i : Nat) : Int)
theorem noPow_all {n : Int} (h : noPow n 10) : powI n = false := by
  cases hp : powI n with
  | false => rfl
  | true =>
    obtain ⟨m, hm, e⟩ := pow_of hp
    exact absurd e (h m (by omega))

set_option maxHeartbeats 400000 in
theorem rpower_any (n : Int) (w : World) :
    Calls Tryd.prog 21 #[.int .i64 n] w fun e w' => e = .returned (.bool (powI n)) ∧ w = w' := by
  go_enter Tryd.func21, Tryd.ntmps21
  go_wp2
  go_loop [3] (fun q => ∃ j p : Nat, j ≤ 10 ∧ Hid (p = 2 ^ j) ∧ p ≤ 1024 ∧ 1 ≤ p ∧ q = .int .i64 p ∧ Hid (noPow n j)) (fun q => 1025 - (intOf q).toNat)
  case atStart => exact ⟨0, 1, by omega, rfl, by omega, by omega, rfl, fun i hi => by omega⟩
  case round =>
    obtain ⟨j, p, hj, HP, hp, hp1, rfl, hno⟩ := hrel
    by_cases h5 : p ≤ 512
    · have hj9 : j ≤ 9 := by
        rcases Nat.lt_or_ge j 10 with h | h
        · omega
        · have : 2 ^ 10 ≤ p := by rw [HP.out]; exact Nat.pow_le_pow_right (by omega) h
          omega
      by_cases he : (p : Int) = n
      · have hb : ((p : Int) == n) = true := by simpa using he
        have HV := hid (show powI n = true by rw [← he, HP.out]; exact of_pow hj9)
        clear he
        go_wp2
        go_ret
        exact ⟨ret_bool HV.out.symm, rfl⟩
      · have hb : ((p : Int) == n) = false := by simpa using he
        have hno' : Hid (noPow n (j + 1)) := fun i hi => by
          by_cases e : i = j
          · subst e; rw [← HP.out]; exact fun h => he h.symm
          · exact hno.out i (by omega)
        have HP' : Hid (2 * p = 2 ^ (j + 1)) := by unfold Hid; rw [Nat.pow_succ, ← HP.out]; omega
        clear he
        go_wp2
        go_round
        case rel => exact ⟨j + 1, 2 * p, by omega, HP', by omega, by omega, by go_num, hno'⟩
        case measure => simp [intOf]; omega
    · have hj10 : j = 10 := by
        rcases Nat.lt_or_ge j 10 with h | h
        · have : p ≤ 2 ^ 9 := by rw [HP.out]; exact Nat.pow_le_pow_right (by omega) (by omega)
          omega
        · omega
      subst hj10
      go_wp2
      go_ret
      exact ⟨ret_bool (noPow_all hno.out).symm, rfl⟩

set_option maxHeartbeats 1000000 in
theorem rturn_any : ∀ (m : Nat) (x : List Int) (a : Option Addr) (n c : Nat) (w : World), Rd .u8 w a x → x.length = n → n = 2 ^ m → n ≤ 512 → n ≤ c → AllBits x →
    Calls Tryd.prog 22 #[.slice a n c] w fun e w' => ∃ v, e = .returned v ∧ Own w' w.heap.size v (turnM m x) ∧ Below w.heap.size w w'
  | 0, x, a, n, c, w, ha, hx, hn, hb, hc, bx => by
    obtain rfl : n = 1 := hn
    obtain ⟨b1, o1, rfl, hc1⟩ := ha.at (i := 0) (by omega)
    have g1 := hc1 0 (by omega)
    rw [Nat.add_zero] at g1
    have HX : Hid (x = [x.getD 0 0]) := by
      unfold Hid
      match x, hx with
      | [y], _ => rfl
    obtain ⟨y, ey⟩ : ∃ y, y = x.getD 0 0 := ⟨_, rfl⟩
    rw [← ey] at g1 HX
    clear hx hc1 ey
    go_enter Tryd.func22, Tryd.ntmps22
    go_wp2
    go_ret
    refine ⟨_, rfl, ?_, (Below.refl _ _).alloc (Nat.le_refl _) _⟩
    rw [turnM, HX.out]
    exact own_of_arr (arr_new .u8 5 w [y]) (Nat.le_refl _) rfl (by unfold maxLen; omega)
  | m + 1, x, a, n, c, w, ha, hx, hn, hb, hc, bx => by
    obtain ⟨h, eh⟩ : ∃ h, h = 2 ^ m := ⟨_, rfl⟩
    have h0 : 1 ≤ h := by rw [eh]; exact Nat.one_le_two_pow
    have hnh : n = h + h := by rw [hn, eh, Nat.pow_succ]; omega
    obtain ⟨b1, o1, rfl, hc1⟩ := ha.at (i := 0) (by omega)
    have l1 : (x.take h).length = h := by rw [List.length_take]; omega
    have l2 : (x.drop h).length = h := by rw [List.length_drop]; omega
    have b1' : AllBits (x.take h) := fun y hy => bx y (List.mem_of_mem_take hy)
    have b2' : AllBits (x.drop h) := fun y hy => bx y (List.mem_of_mem_drop hy)
    have hT : turnM (m + 1) x = addL (turnM m (x.take h)) (turnM m (x.drop h)) ++ turnM m (x.drop h) := by rw [turnM, eh]
    have t1 := turn_length m (x.take h) (l1.trans eh)
    have t2 := turn_length m (x.drop h) (l2.trans eh)
    rw [← eh] at t1 t2
    have c1 := turn_bits m _ b1'
    have c2 := turn_bits m _ b2'
    rw [hT]
    have r1 := Rd.take hc1 h
    have r2 := Rd.drop hc1 h
    have ih1 := fun w' hr => rturn_any m (x.take h) (some ⟨b1, o1, none⟩) h c w' hr l1 eh (by omega) (by omega) b1'
    have ih2 := fun w' hr => rturn_any m (x.drop h) (some ⟨b1, o1 + h, none⟩) h (c - h) w' hr l2 eh (by omega) (by omega) b2'
    generalize x.take h = x1 at *
    generalize x.drop h = x2 at *
    generalize turnM m x1 = y1 at *
    generalize turnM m x2 = y2 at *
    have HAD := hid (addTo_addLN t1 t2)
    have T1 := hid t1
    have T2 := hid t2
    have hq : (n : Int).tdiv 2 = (h : Int) := by rw [Int.tdiv_eq_ediv_of_nonneg (by omega)]; omega
    have hle : h ≤ n := by omega
    have hlc : h ≤ c := by omega
    have hne : ¬ c = h := by omega
    have hn1 : ((n : Int) == 1) = false := by simp; omega
    have HNH := hid (show n - h = h by omega)
    clear hn hnh hx eh hT l1 l2 t1 t2 hc1 ha
    have tok : True := trivial
    go_enter Tryd.func22, Tryd.ntmps22
    go_wp2_with fail
    refine (ih1 _ r1).mono ?_
    rintro e w1 ⟨v1, rfl, ho1, hb1⟩
    obtain ⟨a1, k1, rfl, -⟩ := ho1.shape
    rw [T1.out]
    go_wp2_with fail
    rw [HNH.out]
    refine (ih2 _ (r2.below hb1)).mono ?_
    rintro e w2 ⟨v2, rfl, ho2, hb2⟩
    obtain ⟨a2, k2, rfl, -⟩ := ho2.shape
    rw [T2.out]
    have hr1 := ho1.rd.below hb2
    have hr2 := ho2.rd
    have hb12 := bthen hb1 hb2
    have hadd := added_any y1 y2 a1 a2 k1 k2 h w2 hr1 hr2 c1.bits c2.bits T2.out (by rw [T1.out]; exact Nat.le_refl _) (by omega)
    rw [T1.out, HAD.out] at hadd
    clear ho1 ho2
    go_wp2_with fail
    refine hadd.mono ?_
    rintro e w3 ⟨v3, rfl, ho3, hb3⟩
    have LA := hid ((addL_length (T1.out.trans T2.out.symm)).trans T2.out)
    have hb13 := bthen hb12 hb3
    go_wp2_with (first | (refine wpList_cat w.heap.size w (ho3.mono hb12.size) (hr2.below hb3) rfl (.tmp 26) (.tmp 27) rfl rfl k2 (by rw [T2.out]; rfl) (by rw [LA.out, T2.out]; omega) hb13 hb13.size ?_; intro v4 w4 ho4 hb4))
    go_ret
    exact ⟨_, rfl, ho4, hb4⟩

theorem tab9 (k : Nat) (h : k < 9) : 1000 ≤ wTab.getD k 0 ∧ wTab.getD k 0 ≤ 4000 := by
  have : k = 0 ∨ k = 1 ∨ k = 2 ∨ k = 3 ∨ k = 4 ∨ k = 5 ∨ k = 6 ∨ k = 7 ∨ k = 8 := by omega
  rcases this with rfl | rfl | rfl | rfl | rfl | rfl | rfl | rfl | rfl <;> decide
theorem worthTo_bd (p : Nat) : ∀ k, k ≤ 9 → 0 ≤ worthTo p k ∧ worthTo p k ≤ 4000 * k
  | 0, _ => by simp [worthTo]
  | k + 1, h => by
    have ih := worthTo_bd p k (by omega)
    have t := tab9 k (by omega)
    rw [worthTo]
    split <;> omega
theorem worthI_bd (p : Nat) : 0 ≤ worthI p ∧ worthI p ≤ 36000 := worthTo_bd p 9 (Nat.le_refl _)

set_option maxHeartbeats 1000000 in
theorem rworth_any (p : Nat) (w : World) (hp : p < 4611686018427387904) :
    Calls Tryd.prog 40 #[.int .i64 p] w fun e w' => e = .returned (.int .i64 (worthI p)) ∧ Below w.heap.size w w' := by
  have harr := arr_new .i64 3 w wTab
  go_enter Tryd.func40, Tryd.ntmps40
  go_wp2
  go_loopw [0, 4, 5] (fun q0 q4 q5 wr => ∃ k r : Nat, k ≤ 9 ∧ Hid (r = p / 2 ^ k) ∧ r ≤ p ∧ q0 = .int .i64 r ∧ q4 = .int .i64 (worthTo p k) ∧ q5 = .int .i64 k ∧ ArrAt .i64 3 wr w.heap.size wTab ∧ Below w.heap.size w wr) (fun _ _ q5 _ => 9 - (intOf q5).toNat)
  case atStart => exact ⟨0, p, by omega, by unfold Hid; simp, Nat.le_refl _, rfl, rfl, rfl, harr, (Below.refl _ _).alloc (Nat.le_refl _) _⟩
  case round =>
    obtain ⟨k, r, hk, HR, hrp, rfl, rfl, rfl, ha, hbel⟩ := hrel
    by_cases hlt : k < 9
    · have g1 : wr.cell? ⟨w.heap.size, k, none⟩ = some (.int .i64 (wTab.getD k 0)) := ha.cell (by simpa [wTab] using hlt)
      have ht := tab9 k hlt
      have hwb := worthTo_bd p k hk
      have HW := hid (show worthTo p (k + 1) = worthTo p k + if r % 2 = 1 then wTab.getD k 0 else 0 by rw [worthTo, ← HR.out])
      have HR' : Hid (r / 2 = p / 2 ^ (k + 1)) := by unfold Hid; rw [HR.out, Nat.div_div_eq_div_mul, ← Nat.pow_succ]
      have hrem : (r : Int).tmod 2 = ((r % 2 : Nat) : Int) := by rw [Int.tmod_eq_emod_of_nonneg (by omega)]; simp
      have hquo : (r : Int).tdiv 2 = ((r / 2 : Nat) : Int) := by rw [Int.tdiv_eq_ediv_of_nonneg (by omega)]; simp
      generalize wTab.getD k 0 = y at *
      generalize worthTo p k = z at *
      by_cases h1 : r % 2 = 1
      · have HZ : Hid (z + y = worthTo p (k + 1)) := by unfold Hid; rw [HW.out, if_pos h1]
        have hd : (((r % 2 : Nat) : Int) == 1) = true := by rw [h1]; rfl
        clear HW h1 harr
        go_wp2
        go_roundw
        case rel => exact ⟨k + 1, r / 2, by omega, HR', by omega, by go_num, by rw [← HZ.out], by go_num, ha, hbel⟩
        case measure => simp [intOf]; omega
      · have HZ : Hid (z = worthTo p (k + 1)) := by unfold Hid; rw [HW.out, if_neg h1, Int.add_zero]
        have hd : (((r % 2 : Nat) : Int) == 1) = false := by simp; omega
        clear HW h1 harr
        go_wp2
        go_roundw
        case rel => exact ⟨k + 1, r / 2, by omega, HR', by omega, by go_num, by rw [← HZ.out], by go_num, ha, hbel⟩
        case measure => simp [intOf]; omega
    · obtain rfl : k = 9 := by omega
      go_wp2
      go_ret
      exact ⟨rfl, hbel⟩
end Go.Proofs.YtfbjedcfppghgabDoor
