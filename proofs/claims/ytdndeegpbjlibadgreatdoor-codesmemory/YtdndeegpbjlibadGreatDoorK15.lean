import Derived.Test.YtdndeegpbjlibadGreatDoorK06
import Derived.Test.YtdndeegpbjlibadGreatDoorK02
import Derived.Test.YtdndeegpbjlibadGreatDoorK14
namespace Go.Proofs.YtdndeegpbjlibadGreatDoor
open Go.ChangeShapes Go.WideShapes Go.ChangeAt Go.RowKit

def softErr (l : List Int) : Int := if softOk l then 0 else 1

set_option maxHeartbeats 400000 in
theorem csoft_any (l : List Int) (a : Option Addr) (c : Nat) (w : World) (ha : Rd .i64 w a l) (hl : l.length ≤ maxLen) :
    Calls Tryz.prog 31 #[.slice a l.length c] w fun e w' => e = .returned (.int .i64 (softErr l)) ∧ w = w' := by
  unfold maxLen at hl
  go_enter Tryz.func31, Tryz.ntmps31
  go_wp2
  go_loop [7] (fun i => ∃ k : Nat, k ≤ l.length ∧ i = .int .i64 k ∧ Hid (SoftTo l k)) (fun i => l.length - (intOf i).toNat)
  case atStart => exact ⟨0, Nat.zero_le _, rfl, fun j hj => by omega⟩
  case round =>
    obtain ⟨k, hk, rfl, hok⟩ := hrel
    by_cases hlt : k < l.length
    · obtain ⟨b1, o1, rfl, hc1⟩ := ha.at hlt
      have g1 := hc1 k hlt
      clear hc1
      obtain ⟨x, hx⟩ : ∃ x, x = l.getD k 0 := ⟨_, rfl⟩
      rw [← hx] at g1
      have HX := hid hx
      clear hx
      by_cases h1 : x < -100000
      · go_wp2
        go_ret
        exact ⟨ret_int (by unfold softErr; rw [soft_bad (l := l) (k := k) (by rw [← HX.out]; omega)]; rfl), rfl⟩
      · have d1 : decide (x < -100000) = false := decide_eq_false h1
        by_cases h2 : 100000 < x
        · go_wp2
          go_ret
          exact ⟨ret_int (by unfold softErr; rw [soft_bad (l := l) (k := k) (by rw [← HX.out]; omega)]; rfl), rfl⟩
        · have d2 : decide (100000 < x) = false := decide_eq_false h2
          have hstep : Hid (SoftTo l (k + 1)) := fun j hj => by
            by_cases e : j = k
            · subst e; rw [← HX.out]; omega
            · exact hok.out j (by omega)
          go_wp2
          go_round
          case rel => exact ⟨k + 1, by omega, by go_num, hstep⟩
          case measure => simp [intOf]; omega
    · obtain rfl : k = l.length := by omega
      go_wp2
      go_ret
      exact ⟨ret_int (by unfold softErr; rw [soft_all hok.out]; rfl), rfl⟩
end Go.Proofs.YtdndeegpbjlibadGreatDoor

namespace Go.Proofs.YtdndeegpbjlibadGreatDoor
open Go.ChangeShapes Go.WideShapes Go.ChangeAt Go.RowKit

/-- May it be decoded? -/
def decOk (l : List Int) : Prop := softErr l = 0 ∧ l.length % 3 = 0 ∧ 18 ≤ l.length ∧ l.length ≤ 1218
theorem decOk_len {l : List Int} (h : decOk l) : ∃ n, l.length = 3 * (n + 6) ∧ n ≤ 400 := by
  obtain ⟨_, h1, h2, h3⟩ := h
  exact ⟨l.length / 3 - 6, by omega, by omega⟩

theorem or_state : ∀ S : Fin 64, ∀ y : Fin 2, bits .or .i64 ((S.val : Int) * 2) (y.val : Int) = ((2 * S.val + y.val : Nat) : Int) := by decide +kernel

theorem way_length (l : List Int) (r i : Nat) (s : Int) : (way l r i s).length = r := (way_best l r i s).len

theorem way_drop (l : List Int) (n i S : Nat) (hi : i < n) (hS : S < 64) (h : (way l n 0 0).drop i = way l (n - i) i (rev6 (S : Int))) :
    (way l n 0 0).getD i 0 = (if one l n (n + 5 - i) S then 1 else 0) ∧ (way l n 0 0).drop (i + 1) = way l (n - (i + 1)) (i + 1) (rev6 ((2 * S % 64 + (if one l n (n + 5 - i) S then 1 else 0) : Nat) : Int)) := by
  have hw := one_way l n (n - (i + 1)) S (by omega) hS
  rw [show n - (i + 1) + 1 = n - i by omega, show n - (n - i) = i by omega, show n - (i + 1) + 6 = n + 5 - i by omega, show n - (n - (i + 1)) = i + 1 by omega] at hw
  rw [hw] at h
  have hlen := way_length l n 0 0
  rw [List.drop_eq_getElem_cons (by omega)] at h
  have hg : (way l n 0 0).getD i 0 = (way l n 0 0)[i]'(by omega) := by simp [List.getD, show i < (way l n 0 0).length by omega]
  rw [hg]
  cases ho : one l n (n + 5 - i) S with
  | true =>
    rw [ho] at h
    simp only [if_true, List.cons.injEq] at h
    exact ⟨h.1, h.2⟩
  | false =>
    rw [ho] at h
    simp only [Bool.false_eq_true, if_false, List.cons.injEq] at h
    exact ⟨h.1, h.2⟩

set_option maxRecDepth 100000 in
theorem softErr_cases (l : List Int) : softErr l = 0 ∨ softErr l = 1 := by unfold softErr; split <;> simp
theorem soft_of {l : List Int} (h : softErr l = 0) : softOk l = true := by
  unfold softErr at h
  split at h
  · assumption
  · cases h

set_option maxHeartbeats 1000000 in
theorem decode_good (l : List Int) (n : Nat) (a : Option Addr) (c : Nat) (w : World) (ha : Rd .i64 w a l) (hl : l.length = 3 * (n + 6)) (hn : n ≤ 400) (hs : softErr l = 0) (hcap : l.length ≤ c) (hT : Taps w) :
    Calls Tryz.prog 12 #[.slice a l.length c] w fun e w' => ∃ v, e = .returned (.tuple #[v, .int .i64 (top l n 0 0), .int .i64 0]) ∧ Own w' w.heap.size v (way l n 0 0) ∧ Below w.heap.size w w' := by
  have HV := hid (show val l n (n + 6) 0 = top l n 0 0 by
    have := val_top l n n (Nat.le_refl _) 0 (by omega)
    rw [Nat.sub_self] at this
    exact this)
  have HS := hid hs
  have HL := hid hl
  have hcap' := hid hcap
  have HDL := hid (way_length l n 0 0)
  have hq : (((3 * (n + 6) : Nat) : Int)).tdiv 3 = (n : Int) + 6 := by rw [Int.tdiv_eq_ediv_of_nonneg (by omega)]; omega
  have hr : (((3 * (n + 6) : Nat) : Int)).tmod 3 = 0 := by rw [Int.tmod_eq_emod_of_nonneg (by omega)]; omega
  obtain ⟨L3, hL3⟩ : ∃ L3, L3 = l.length := ⟨_, rfl⟩
  rw [← hL3] at hl hcap ⊢
  rw [← hl] at hq hr
  have HL3 := hid hL3
  have hL3b : L3 ≤ 1218 := by omega
  have HLL := hid hl
  clear hL3 hs hl hcap
  go_enter Tryz.func12, Tryz.ntmps12
  go_wp2_with (first
    | (go_at_call 31; rw [HL3.out]; refine (csoft_any l a c _ ha (by rw [← HL3.out]; unfold maxLen; omega)).mono ?_; rintro e w1 ⟨rfl, rfl⟩; rw [HS.out, ← HL3.out])
    | (go_at_call 32; rw [HL3.out]; refine (weigh_any l n a c _ ha HL.out hn (soft_at (soft_of HS.out)) hcap'.out hT).mono ?_; rintro e w1 ⟨gO, rfl, hO, hgO, hbel1⟩; rw [HV.out, ← HL3.out])
    | (at_make; refine wpList_makeBytes w1.heap.size w1 n rfl _ _ rfl _ _ rfl rfl rfl rfl (by omega) (Below.refl _ _) (Nat.le_refl _) ?_))
  intro w2 hown hbel2 hsz2
  have hO2 := hO.below hbel2 hO.lt
  have hb2 := bthen hbel1 hbel2
  have hown2 := hown.mono hbel1.size
  obtain ⟨g, hg⟩ : ∃ g, g = w1.heap.size := ⟨_, rfl⟩
  have hgO2 : gO < g := by have := hO.lt; omega
  have hBg : w.heap.size ≤ g := by have := hbel1.size; omega
  rw [← hg] at hown2 ⊢
  rw [show List.replicate n (0 : Int) = fillE (way l n 0 0) 0 by rw [fillE_zero, HDL.out]] at hown2
  clear hg hown hbel2 hsz2 hO
  go_wp2
  go_loopw [10, 43] (fun s q wr => ∃ i S : Nat, i ≤ n ∧ S < 64 ∧ q = .int .i64 i ∧ s = .int .i64 S ∧ ArrAt .u64 68 wr gO (onesK l n 0) ∧ Own wr w.heap.size (.slice (some ⟨g, 0, none⟩) n n) (fillE (way l n 0 0) i) ∧ Hid ((way l n 0 0).drop i = way l (n - i) i (rev6 (S : Int))) ∧ Below w.heap.size w wr) (fun _ q _ => n - (intOf q).toNat)
  case atStart => exact ⟨0, 0, by omega, by omega, rfl, rfl, hO2, hown2, rfl, hb2⟩
  case round =>
    clear hO2 hown2 hb2
    obtain ⟨i, S, hi, hS, rfl, rfl, hO, hown, HD, hbel⟩ := hrel
    by_cases hlt : i < n
    · have oc := hO.cell (j := i) (by rw [onesK_length]; exact hlt)
      rw [onesK_at l n i hlt] at oc
      obtain ⟨hd1, hd2⟩ := way_drop l n i S hlt hS HD.out
      have hbit := marks_bit l n (n + 5 - i) S hS
      have hM := marks_lt l n (n + 5 - i) 64
      obtain ⟨M, hMe⟩ : ∃ M, M = marks l n (n + 5 - i) 64 := ⟨_, rfl⟩
      rw [← hMe] at oc hbit hM
      obtain ⟨y, hy⟩ : ∃ y : Nat, y = if one l n (n + 5 - i) S then 1 else 0 := ⟨_, rfl⟩
      rw [← hy] at hd2 hbit
      have hy1 : y ≤ 1 := by rw [hy]; split <;> omega
      have hd1' : (y : Int) = (way l n 0 0).getD i 0 := by rw [hd1, hy]; split <;> rfl
      have hM64 : M < 18446744073709551616 := hM
      have hMd : M / 2 ^ S < 18446744073709551616 := Nat.lt_of_le_of_lt (Nat.div_le_self _ _) hM64
      have hand : bits .and .u64 ((M : Int) / 2 ^ S) 1 = (y : Int) := by
        have e2 : (M : Int) / 2 ^ S = ((M / 2 ^ S : Nat) : Int) := by simp
        have := u64_and_nat (M / 2 ^ S) 1 hMd (by omega)
        rw [e2, show (1 : Int) = ((1 : Nat) : Int) from rfl, this, nat_mask1, hbit]
      have hor : bits .or .i64 ((S : Int) * 2) (y : Int) = ((2 * S + y : Nat) : Int) := or_state ⟨S, hS⟩ ⟨y, by omega⟩
      have hfr := hown.free i
      have hcell := hown.cell (i := i) (by rw [fillE_length _ _ (by rw [HDL.out]; omega), HDL.out]; exact hlt)
      have hset := hown.set i (y : Int)
      rw [fillE_set _ i (by rw [HDL.out]; exact hlt) _ hd1'] at hset
      have hO' := hO.other ⟨g, i, none⟩ (.int .u8 (y : Int)) (by show gO ≠ g; omega)
      have hbel' := hbel.setCell (p := ⟨g, i, none⟩) hBg (.int .u8 (y : Int))
      have HD2 := hid hd2
      obtain ⟨T, hTe⟩ : ∃ T, T = 2 * S + y := ⟨_, rfl⟩
      rw [← hTe] at hor
      have hTl : T < 128 := by omega
      have HTE := hid hTe
      have hrem : (T : Int).tmod 64 = ((T % 64 : Nat) : Int) := by rw [Int.tmod_eq_emod_of_nonneg (by omega)]; omega
      clear hd1 hd2 hbit hM hMe hy hd1' hM64 hMd hO hown hbel hTe
      go_wp2
      go_roundw
      case rel => exact ⟨i + 1, T % 64, by omega, Nat.mod_lt _ (by omega), by go_num, by go_num, hO', hset, (by rw [show T % 64 = 2 * S % 64 + y by rw [HTE.out]; omega]; exact HD2.out), hbel'⟩
      case measure => simp [intOf]; omega
    · obtain rfl : i = n := by omega
      go_wp2
      go_ret3
      refine ⟨_, rfl, ?_, hbel⟩
      rw [show fillE (way l i 0 0) i = way l i 0 0 by rw [show i = (way l i 0 0).length from HDL.out.symm, HDL.out]; exact (by have := fillE_all (way l i 0 0); rw [HDL.out] at this; exact this)] at hown
      exact hown

set_option maxHeartbeats 1000000 in
theorem decode_bad (l : List Int) (a : Option Addr) (c : Nat) (w : World) (ha : Rd .i64 w a l) (hl : l.length ≤ maxLen) (h : ¬ decOk l) :
    Calls Tryz.prog 12 #[.slice a l.length c] w fun e w' => ∃ v, e = .returned (.tuple #[v, .int .i64 0, .int .i64 1]) ∧ Own w' w.heap.size v [] ∧ Below w.heap.size w w' := by
  have HLM := hid hl
  unfold maxLen at hl
  by_cases h0 : softErr l = 0
  · have H0 := hid h0
    have hq : ((l.length : Nat) : Int).tdiv 3 = ((l.length / 3 : Nat) : Int) := by rw [Int.tdiv_eq_ediv_of_nonneg (by omega)]; omega
    have hr : ((l.length : Nat) : Int).tmod 3 = ((l.length % 3 : Nat) : Int) := by rw [Int.tmod_eq_emod_of_nonneg (by omega)]; omega
    have hcase : l.length % 3 ≠ 0 ∨ l.length / 3 < 6 ∨ 406 < l.length / 3 := by
      by_cases e1 : l.length % 3 = 0
      · by_cases e2 : l.length / 3 < 6
        · exact .inr (.inl e2)
        · refine .inr (.inr ?_)
          rcases Nat.lt_or_ge 406 (l.length / 3) with e3 | e3
          · exact e3
          · exact absurd ⟨h0, e1, by omega, by omega⟩ h
      · exact .inl e1
    obtain ⟨Q3, hQ3⟩ : ∃ Q3, Q3 = l.length / 3 := ⟨_, rfl⟩
    obtain ⟨R3, hR3⟩ : ∃ R3, R3 = l.length % 3 := ⟨_, rfl⟩
    have hQb : Q3 ≤ 9223372036854775807 := by omega
    rw [← hQ3] at hq hcase
    rw [← hR3] at hr hcase
    clear h0 h hQ3 hR3
    by_cases e1 : R3 = 0
    · have d1 : ((R3 : Int) != 0) = false := by simp [e1]
      by_cases e2 : Q3 < 6
      · have d2 : decide ((Q3 : Int) - 6 < 0) = true := decide_eq_true (by omega)
        clear e1 hcase
        go_enter Tryz.func12, Tryz.ntmps12
        go_wp2_with (go_at_call 31; refine (csoft_any l a c _ ha HLM.out).mono ?_; rintro e w1 ⟨rfl, rfl⟩; rw [H0.out])
        go_ret3
        exact ⟨_, rfl, Own.nil _ _, Below.refl _ _⟩
      · have e3 : 406 < Q3 := by omega
        have d2 : decide ((Q3 : Int) - 6 < 0) = false := decide_eq_false (by omega)
        have d3 : decide (400 < (Q3 : Int) - 6) = true := decide_eq_true (by omega)
        clear e1 hcase
        go_enter Tryz.func12, Tryz.ntmps12
        go_wp2_with (go_at_call 31; refine (csoft_any l a c _ ha HLM.out).mono ?_; rintro e w1 ⟨rfl, rfl⟩; rw [H0.out])
        go_ret3
        exact ⟨_, rfl, Own.nil _ _, Below.refl _ _⟩
    · have d1 : ((R3 : Int) != 0) = true := by simp; omega
      clear e1 hcase
      go_enter Tryz.func12, Tryz.ntmps12
      go_wp2_with (go_at_call 31; refine (csoft_any l a c _ ha HLM.out).mono ?_; rintro e w1 ⟨rfl, rfl⟩; rw [H0.out])
      go_ret3
      exact ⟨_, rfl, Own.nil _ _, Below.refl _ _⟩
  · have H1 := hid (show softErr l = 1 by rcases softErr_cases l with h | h <;> omega)
    clear h0 h
    go_enter Tryz.func12, Tryz.ntmps12
    go_wp2_with (go_at_call 31; refine (csoft_any l a c _ ha HLM.out).mono ?_; rintro e w1 ⟨rfl, rfl⟩; rw [H1.out])
    go_ret3
    exact ⟨_, rfl, Own.nil _ _, Below.refl _ _⟩
end Go.Proofs.YtdndeegpbjlibadGreatDoor
