import Derived.Test.YtmdfjhnibhmdkafDoorMjB
namespace Go.Proofs.YtmdfjhnibhmdkafDoor
open Go.ChangeShapes Go.WideShapes Go.ChangeAt Go.RowKit

/-! THE PROGRAM'S checkItem, checkJoin. -/

def ItemM.err (t : ItemM) : Int := if t.ok = true then 0 else 1
theorem ItemM.err_ok {t : ItemM} (h : t.ok = true) : t.err = 0 := if_pos h
theorem ItemM.err_bad {t : ItemM} (h : t.ok = false) : t.err = 1 := if_neg (by rw [h]; decide)

set_option maxHeartbeats 1000000 in
theorem citem_any (t : ItemM) (w : World) :
    Calls Tryd.prog 41 #[.agg #[.int .i64 t.ch, .string t.data]] w fun e w' => e = .returned (.int .i64 t.err) ∧ Below w.heap.size w w' := by
  by_cases h1 : t.ch < 1
  · have x1 : decide (t.ch < 1) = true := decide_eq_true h1
    have HX := hid (ItemM.err_bad (show t.ok = false from decide_eq_false (by omega)))
    clear h1
    go_enter Tryd.func41, Tryd.ntmps41
    go_wp2
    go_ret
    exact ⟨ret_int HX.out.symm, (Below.refl _ w).alloc (Nat.le_refl _) _⟩
  · have x1 : decide (t.ch < 1) = false := decide_eq_false h1
    by_cases h2 : 32 < t.ch
    · have x2 : decide (32 < t.ch) = true := decide_eq_true h2
      have HX := hid (ItemM.err_bad (show t.ok = false from decide_eq_false (by omega)))
      clear h1 h2
      go_enter Tryd.func41, Tryd.ntmps41
      go_wp2
      go_ret
      exact ⟨ret_int HX.out.symm, (Below.refl _ w).alloc (Nat.le_refl _) _⟩
    · have x2 : decide (32 < t.ch) = false := decide_eq_false h2
      by_cases h3 : 1500 < t.data.size
      · have x3 : decide ((1500 : Int) < (t.data.size : Int)) = true := decide_eq_true (by omega)
        have HX := hid (ItemM.err_bad (show t.ok = false from decide_eq_false (by omega)))
        clear h1 h2 h3
        go_enter Tryd.func41, Tryd.ntmps41
        go_wp2
        go_ret
        exact ⟨ret_int HX.out.symm, (Below.refl _ w).alloc (Nat.le_refl _) _⟩
      · have x3 : decide ((1500 : Int) < (t.data.size : Int)) = false := decide_eq_false (by omega)
        have HX := hid (ItemM.err_ok (show t.ok = true from decide_eq_true (by omega)))
        clear h1 h2 h3
        go_enter Tryd.func41, Tryd.ntmps41
        go_wp2
        go_ret
        exact ⟨ret_int HX.out.symm, (Below.refl _ w).alloc (Nat.le_refl _) _⟩

set_option maxHeartbeats 1000000 in
theorem cjoin_size (l : List ItemM) (size : Int) (v : Value) (w : World) (hs : size < 0 ∨ 65535 < size) :
    Calls Tryd.prog 28 #[v, .int .i64 size] w fun e w' => e = .returned (.int .i64 (joinM l size).err) ∧ w = w' := by
  unfold joinM
  rw [if_pos hs]
  by_cases h0 : size < 0
  · have d0 : decide (size < 0) = true := decide_eq_true h0
    clear h0 hs
    go_enter Tryd.func28, Tryd.ntmps28
    go_wp2
    go_ret
    exact ⟨rfl, rfl⟩
  · have d0 : decide (size < 0) = false := decide_eq_false h0
    have d1 : decide (65535 < size) = true := decide_eq_true (by omega)
    clear h0 hs
    go_enter Tryd.func28, Tryd.ntmps28
    go_wp2
    go_ret
    exact ⟨rfl, rfl⟩

set_option maxRecDepth 100000 in
set_option maxHeartbeats 4000000 in
theorem cjoin_good (l : List ItemM) (n : Nat) (a : Option Addr) (nl c : Nat) (w : World) (hI : Itms w a l) (hnl : l.length = nl) (hm : nl ≤ maxLen) (hn : n ≤ 65535) (hroom : nl ≤ 6000000000000) :
    Calls Tryd.prog 28 #[.slice a nl c, .int .i64 (n : Int)] w fun e w' => e = .returned (.int .i64 (joinM l (n : Int)).err) ∧ Below w.heap.size w w' := by
  have HI := hid hI
  have HNL := hid hnl
  have hm' : nl ≤ 9223372036854775807 := by unfold maxLen at hm; omega
  have d0 : decide ((n : Int) < 0) = false := decide_eq_false (by omega)
  have d1 : decide ((65535 : Int) < (n : Int)) = false := decide_eq_false (by omega)
  have hsz : ¬ ((n : Int) < 0 ∨ (65535 : Int) < (n : Int)) := by omega
  have HJ1 : Hid (l.all ItemM.ok = false → (joinM l (n : Int)).err = 1) := fun h => by unfold joinM; rw [if_neg hsz, if_pos h]
  have HJ2 : Hid (l.all ItemM.ok = true → n < (itemsB l).length → (joinM l (n : Int)).err = 2) := fun h h2 => by unfold joinM; rw [if_neg hsz, if_neg (by rw [h]; decide), if_pos (by omega)]
  have HJ3 : Hid (l.all ItemM.ok = true → (itemsB l).length ≤ n → (joinM l (n : Int)).err = 0) := fun h h2 => by unfold joinM; rw [if_neg hsz, if_neg (by rw [h]; decide), if_neg (by omega)]
  clear hI hnl hm hsz
  go_enter Tryd.func28, Tryd.ntmps28
  go_wp2_with fail
  go_loopw [5, 17] (fun v i wr => ∃ k m : Nat, k ≤ nl ∧ m ≤ 1503 * k ∧ i = .int .i64 k ∧ v = .int .i64 m ∧ Hid (m = (itemsB (l.take k)).length) ∧ (∀ j, j < k → (l.getD j .zero).ok = true) ∧ Below w.heap.size w wr) (fun _ i _ => nl - (intOf i).toNat)
  case atStart => exact ⟨0, 0, by omega, by omega, rfl, rfl, rfl, fun j hj => by omega, Below.refl _ w⟩
  case round =>
    obtain ⟨k, m, hk, hmm, rfl, rfl, HM, hoks, hb⟩ := hrel
    by_cases hlt : k < nl
    · obtain ⟨b, o, rfl, hC⟩ := HI.out.at (i := k) (by rw [HNL.out]; exact hlt)
      obtain ⟨q0, q1⟩ := hC k (by rw [HNL.out]; exact hlt)
      have hkl : k < l.length := by rw [HNL.out]; exact hlt
      have htk2 : (itemsB (l.take (k + 1))).length = m + (3 + (l.getD k .zero).data.size) := by
        rw [itemsB_take hkl, List.length_append, List.length_append, bytesI_length, HM.out]
        have e3 : (l.getD k .zero).head.length = 3 := rfl
        omega
      have HAF := hid (fun h => HJ1.out (all_false hkl h))
      have HOK := hid hoks
      obtain ⟨I, eI⟩ : ∃ I, I = l.getD k .zero := ⟨_, rfl⟩
      rw [← eI] at q0 q1 HAF htk2
      have HTK := hid htk2
      have q0 := cellOldJ hb q0
      have q1 := cellOldJ hb q1
      have HE := hid eI
      have hci := citem_any I
      clear hC eI hoks hkl htk2
      cases hok : I.ok with
      | false =>
        rw [ItemM.err_bad hok] at hci
        have HX := hid (HAF.out hok)
        clear hok
        go_wp2_with (go_at_call 41; refine (hci _).mono ?_; rintro e w1 ⟨rfl, hb1⟩)
        go_ret
        exact ⟨ret_int HX.out.symm, (hb.alloc hb.size _).trans (hb1.mono (by have := hb.size; simp; omega))⟩
      | true =>
        rw [ItemM.err_ok hok] at hci
        have HKO := hid hok
        have hsz := (of_decide_eq_true hok).2.2
        have hmx : m + (3 + I.data.size) ≤ 1503 * (k + 1) := by omega
        have hmy : m + (3 + I.data.size) ≤ 9100000000000000 := by omega
        have hq3 := fun (T : TypeId) (w1 : World) (h1 : Below (wr.alloc (.cells #[.int .i64 I.ch, .string I.data] T)).heap.size (wr.alloc (.cells #[.int .i64 I.ch, .string I.data] T)) w1) => cellOldJ h1 (show (wr.alloc (.cells #[.int .i64 I.ch, .string I.data] T)).cell? ⟨wr.heap.size, 1, none⟩ = some (.string I.data) by rw [cell_of_row _ _ _ _ _ _ (heap_alloc_new wr _)]; rfl)
        clear hok
        go_wp2_with (go_at_call 41; refine (hci _).mono ?_; rintro e w1 ⟨rfl, hb1⟩; have q3 := hq3 _ _ hb1)
        go_roundw
        case rel => exact ⟨k + 1, m + (3 + I.data.size), by omega, hmx, by go_num, by go_num, HTK.out.symm, fun j hj => by
          by_cases e : j = k
          · rw [e, ← HE.out]; exact HKO.out
          · exact HOK.out j (by omega), (hb.alloc hb.size _).trans (hb1.mono (by have := hb.size; simp; omega))⟩
        case measure => simp [intOf]; omega
    · have e : k = nl := by omega
      subst e
      have hall := all_true (l := l) (fun j hj => hoks j (by rw [← HNL.out]; exact hj))
      have htk : l.take k = l := List.take_of_length_le (by rw [HNL.out]; exact Nat.le_refl _)
      have hme := HM.out
      rw [htk] at hme
      by_cases hgt : n < m
      · have y1 : decide (n < m) = true := decide_eq_true hgt
        have HX := hid (HJ2.out hall (by rw [← hme]; exact hgt))
        clear hall htk hoks hme
        go_wp2_with fail
        go_ret
        exact ⟨ret_int HX.out.symm, hb⟩
      · have y1 : decide (n < m) = false := decide_eq_false hgt
        have HX := hid (HJ3.out hall (by rw [← hme]; omega))
        clear hall htk hoks hme
        go_wp2_with fail
        go_ret
        exact ⟨ret_int HX.out.symm, hb⟩
theorem cjoin_any (l : List ItemM) (size : Int) (a : Option Addr) (nl c : Nat) (w : World) (hI : Itms w a l) (hnl : l.length = nl) (hm : nl ≤ maxLen) (hroom : nl ≤ 6000000000000) :
    Calls Tryd.prog 28 #[.slice a nl c, .int .i64 size] w fun e w' => e = .returned (.int .i64 (joinM l size).err) ∧ Below w.heap.size w w' := by
  by_cases hs : size < 0 ∨ 65535 < size
  · refine (cjoin_size l size _ w hs).mono ?_
    rintro e w' ⟨rfl, rfl⟩
    exact ⟨rfl, Below.refl _ _⟩
  · obtain ⟨n, rfl⟩ : ∃ n : Nat, size = (n : Int) := ⟨size.toNat, by omega⟩
    exact cjoin_good l n a nl c w hI hnl hm (by omega) hroom
end Go.Proofs.YtmdfjhnibhmdkafDoor
