import Derived.Test.YtdndeegpbjlibadGreatDoorK47
import Derived.Test.YtdndeegpbjlibadGreatDoorK45
import Derived.Test.YtdndeegpbjlibadGreatDoorK09
import Derived.Test.YtdndeegpbjlibadGreatDoorK10
import Derived.Test.YtdndeegpbjlibadGreatDoorK15
import Derived.Test.YtdndeegpbjlibadGreatDoorK24
import Derived.Test.YtdndeegpbjlibadGreatDoorK33
import Derived.Test.YtdndeegpbjlibadGreatDoorK02
namespace Go.Proofs.YtdndeegpbjlibadGreatDoor
open Go.ChangeShapes Go.WideShapes Go.ChangeAt Go.RowKit Go.Shelf

/-! EACH CALL OF THE LAW CodesMemory: whatever comes, what comes out is the caller's. -/

def sealE (zs : List Int) : Int := if errSum zs 0 = 0 then (if zs.length + kW 0 ≤ 4096 then 0 else 2) else errSum zs 0
def sealL (zs : List Int) : List Int := if errSum zs 0 = 0 then (if zs.length + kW 0 ≤ 4096 then zs ++ ksum zs 0 else []) else []
theorem sealL_length (zs : List Int) : (sealL zs).length ≤ 4096 := by
  unfold sealL
  split
  · split
    · rw [List.length_append]; unfold ksum; rw [sumL_length]; assumption
    · simp
  · simp
theorem sealL_bytes {zs : List Int} (hy : Bytes zs) : Bytes (sealL zs) := by
  unfold sealL
  split
  · split
    · intro v hv
      rcases List.mem_append.1 hv with h | h
      · exact hy v h
      · exact sum_bytes _ _ _ v h
    · intro v hv; simp at hv
  · intro v hv; simp at hv
theorem seal_uni (zs : List Int) (n : Nat) (hl : zs.length = n) (a : Option Addr) (c : Nat) (w : World) (ha : Rd .u8 w a zs) (hz : n ≤ maxLen) (hy : Bytes zs) :
    Calls Tryz.prog 7 #[.slice a n c, .int .i64 0] w fun e w' => ∃ v, e = .returned (.tuple #[v, .int .i64 (sealE zs)]) ∧ Own w' w.heap.size v (sealL zs) ∧ Below w.heap.size w w' := by
  subst hl
  by_cases h : errSum zs 0 = 0
  · by_cases h2 : zs.length + kW 0 ≤ 4096
    · refine (seal_ok zs 0 a c w ha hy h h2).mono fun e w' ⟨v, he, ho, hb⟩ => ⟨v, ?_, ?_, hb⟩
      · rw [he]; unfold sealE; rw [if_pos h, if_pos h2]
      · unfold sealL; rw [if_pos h, if_pos h2]; exact ho
    · refine (seal_long zs 0 a c w ha h (by omega)).mono fun e w' ⟨he, hb⟩ => ⟨.slice none 0 0, ?_, ?_, hb⟩
      · rw [he]; unfold sealE; rw [if_pos h, if_neg h2]
      · unfold sealL; rw [if_pos h, if_neg h2]; exact Own.nil _ _
  · refine (seal_err zs 0 a c w ha hz h).mono fun e w' ⟨he, hb⟩ => ⟨.slice none 0 0, ?_, ?_, hb⟩
    · rw [he]; unfold sealE; rw [if_neg h]
    · unfold sealL; rw [if_neg h]; exact Own.nil _ _

theorem open_uni (cs : List Int) (n : Nat) (hl : cs.length = n) (a : Option Addr) (c : Nat) (w : World) (ha : Rd .u8 w a cs) (hnc : n ≤ c) (hcm : c ≤ maxLen) (hy : Bytes cs) :
    Calls Tryz.prog 9 #[.slice a n c, .int .i64 0] w fun e w' => ∃ v b E L, e = .returned (.tuple #[v, .bool b, .int .i64 E]) ∧ Own w' w.heap.size v L ∧ L.length ≤ 10000 ∧ Below w.heap.size w w' := by
  subst hl
  by_cases h : errSum cs 0 = 0
  · by_cases h2 : cs.length < kW 0
    · exact (open_short cs 0 a c w ha h h2).mono fun e w' ⟨he, hb⟩ => ⟨_, _, _, [], he, Own.nil _ _, by simp, hb⟩
    · have hk : cs.length = (cs.length - kW 0) + kW 0 := by omega
      have h4 := (err_zero (errSum_ok h).1).2
      by_cases h3 : ksum (cs.take (cs.length - kW 0)) 0 = cs.drop (cs.length - kW 0)
      · exact (open_ok cs 0 a c w ha hnc hcm hy h _ hk h3).mono fun e w' ⟨v, he, ho, hb⟩ => ⟨v, _, _, _, he, ho, by rw [List.length_take]; omega, hb⟩
      · exact (open_diff cs 0 a c w ha hnc hcm hy h _ hk h3).mono fun e w' ⟨he, hb⟩ => ⟨_, _, _, [], he, Own.nil _ _, by simp, hb⟩
  · exact (open_err cs 0 a c w ha (Nat.le_trans hnc hcm) h).mono fun e w' ⟨he, hb⟩ => ⟨_, _, _, [], he, Own.nil _ _, by simp, hb⟩

theorem cover_uni (zs : List Int) (n : Nat) (hl : zs.length = n) (a : Option Addr) (c : Nat) (w : World) (ha : Rd .u8 w a zs) (hz : n ≤ maxLen) (hy : Bytes zs) :
    Calls Tryz.prog 10 #[.slice a n c, .int .i64 5] w fun e w' => ∃ v E L, e = .returned (.tuple #[v, .int .i64 E]) ∧ Own w' w.heap.size v L ∧ L.length ≤ 10000 ∧ Below w.heap.size w w' := by
  subst hl
  by_cases h : errOf zs = 0
  · have h4 := (err_zero h).2
    exact (cover_ok zs 5 a c w ha (fun j => ⟨(hy.at j).1, (err_zero h).1 j⟩) h (by omega)).mono fun e w' ⟨v, he, ho, hb⟩ => ⟨v, _, _, he, ho, by rw [addTo_length]; omega, hb⟩
  · exact (cover_bits zs 5 a c w ha hz h).mono fun e w' ⟨he, hb⟩ => ⟨_, _, [], he, Own.nil _ _, by simp, by subst hb; exact Below.refl _ _⟩

theorem encode_uni (zs : List Int) (n : Nat) (hl : zs.length = n) (a : Option Addr) (c : Nat) (w : World) (ha : Rd .u8 w a zs) (hz : n ≤ maxLen) (hy : Bytes zs) (hT : Taps w) :
    Calls Tryz.prog 11 #[.slice a n c] w fun e w' => ∃ v E L, e = .returned (.tuple #[v, .int .i64 E]) ∧ Own w' w.heap.size v L ∧ L.length ≤ 10000 ∧ Below w.heap.size w w' := by
  subst hl
  refine (encode_any zs a c w ha hz hy hT).mono fun e w' ⟨v, he, ho, hb⟩ => ⟨v, _, _, he, ho, ?_, hb⟩
  unfold encL
  split
  · rename_i h
    rw [codedTo_length]
    unfold encErr at h
    split at h
    · split at h
      · cases h
      · omega
    · rename_i h'; exact absurd h h'
  · simp

theorem decode_uniC (l : List Int) (n : Nat) (hl : l.length = n) (a : Option Addr) (c : Nat) (w : World) (ha : Rd .i64 w a l) (hnc : n ≤ c) (hz : n ≤ maxLen) (hT : Taps w) :
    Calls Tryz.prog 12 #[.slice a n c] w fun e w' => ∃ v S E L, e = .returned (.tuple #[v, .int .i64 S, .int .i64 E]) ∧ Own w' w.heap.size v L ∧ L.length ≤ 10000 ∧ Below w.heap.size w w' := by
  subst hl
  by_cases h : decOk l
  · obtain ⟨h1, h2, h3, h4⟩ := h
    exact (decode_good l (l.length / 3 - 6) a c w ha (by omega) (by omega) h1 hnc hT).mono fun e w' ⟨v, he, ho, hb⟩ => ⟨v, _, _, _, he, ho, by rw [way_length]; omega, hb⟩
  · exact (decode_bad l a c w ha hz h).mono fun e w' ⟨v, he, ho, hb⟩ => ⟨v, _, _, _, he, ho, by simp, hb⟩

theorem turn_uniM (zs : List Int) (n : Nat) (hl : zs.length = n) (a : Option Addr) (c : Nat) (w : World) (ha : Rd .u8 w a zs) (hz : n ≤ maxLen) (hy : Bytes zs) :
    Calls Tryz.prog 13 #[.slice a n c] w fun e w' => ∃ v E L, e = .returned (.tuple #[v, .int .i64 E]) ∧ Own w' w.heap.size v L ∧ L.length ≤ 10000 ∧ Below w.heap.size w w' := by
  subst hl
  by_cases h : turnErr zs = 0
  · obtain ⟨h0, -, hb, m, hm, e⟩ := turn_ok hy h
    have h4 := (err_zero h0).2
    exact (pturn_any m zs a zs.length c w ha rfl e hm hb).mono fun x w' ⟨g, he, ho, hbel⟩ => ⟨_, _, _, he, ho, by rw [turn_length m zs e]; omega, hbel⟩
  · exact (pturn_bad zs a c w ha hz h).mono fun x w' ⟨he, hb⟩ => ⟨_, _, [], he, Own.nil _ _, by simp, by subst hb; exact Below.refl _ _⟩

theorem decode_uniP (l : List Int) (n : Nat) (hl : l.length = n) (a : Option Addr) (c : Nat) (w : World) (ha : Rd .i64 w a l) (hnc : n ≤ c) (hz : n ≤ maxLen) (hW : Wor w) :
    Calls Tryz.prog 14 #[.slice a n c, .int .i64 1] w fun e w' => ∃ v E L, e = .returned (.tuple #[v, .int .i64 E]) ∧ Own w' w.heap.size v L ∧ L.length ≤ 10000 ∧ Below w.heap.size w w' := by
  subst hl
  cases h : softOk l && placesOk l.length 1 with
  | false => exact (pdecode_bad l 1 a c w ha hz h).mono fun x w' ⟨he, hb⟩ => ⟨_, _, [], he, Own.nil _ _, by simp, by subst hb; exact Below.refl _ _⟩
  | true =>
    have h' : softOk l = true ∧ placesOk l.length 1 = true := by simpa using h
    obtain ⟨hs, hp0⟩ := h'
    obtain ⟨hp, h0, h1⟩ := places_ok hp0
    obtain ⟨m, hm, e⟩ := pow_of hp
    have el : l.length = 2 ^ m := by omega
    have h1p : 1 ≤ 2 ^ m := Nat.one_le_two_pow
    obtain ⟨b1, o1, rfl, hc1⟩ := ha.at (i := 0) (by omega)
    exact (pdecode_any m l b1 o1 l.length 1 c w ha rfl hm el hnc (by omega) hs hW).mono fun x w' ⟨g, he, ho, hbel⟩ => ⟨_, _, _, he, ho, by rw [ho.len]; omega, hbel⟩

theorem pick_uni (zs : List Int) (n : Nat) (hl : zs.length = n) (a : Option Addr) (c : Nat) (w : World) (ha : Rd .u8 w a zs) (hz : n ≤ maxLen) (hC : Col w) :
    Calls Tryz.prog 15 #[.slice a n c, .int .i64 0, .int .i64 9] w fun e w' => ∃ v E L, e = .returned (.tuple #[v, .int .i64 E]) ∧ Own w' w.heap.size v L ∧ L.length ≤ 10000 ∧ Below w.heap.size w w' := by
  subst hl
  refine (pick_own zs a c 0 9 w hC ha hz).mono fun e w' ⟨a', k', c', he, hb, h0, h1⟩ => ?_
  by_cases h : pickErr zs 0 9 = 0
  · exact ⟨_, _, _, he, (h0 h).2, by rw [pickedM_length]; decide, hb⟩
  · obtain ⟨rfl, rfl, rfl⟩ := h1 h
    exact ⟨_, _, [], he, Own.nil _ _, by simp, hb⟩

theorem send_uni (zs : List Int) (n : Nat) (hl : zs.length = n) (order : Int) (a : Option Addr) (c : Nat) (w : World) (ha : Rd .u8 w a zs) (hnc : n ≤ c) (hcm : c ≤ maxLen) (hy : Bytes zs) :
    Calls Tryz.prog 16 #[.slice a n c, .int .i64 order] w fun e w' => ∃ v E m xs, e = .returned (.tuple #[v, .int .i64 E]) ∧ w'.ownsRow w.heap.size 29 2 v m xs ∧ m ≤ 10000 ∧ Below w.heap.size w w' := by
  subst hl
  have hnil : ∀ w' : World, w'.ownsRow w.heap.size 29 2 (.slice none 0 0) 0 [] := fun w' => World.ownsRow_nil _ _ _ _
  by_cases h0 : errOf zs = 0
  · cases ho : ordOk5 order with
    | false => exact (send_order zs order a c w ha (Nat.le_trans hnc hcm) h0 ho).mono fun e w' ⟨he, hb⟩ => ⟨_, _, 0, [], he, hnil w', by omega, hb⟩
    | true =>
      obtain ⟨m, rfl⟩ : ∃ m : Nat, order = (m : Int) := ⟨order.toNat, by have := of_decide_eq_true ho; omega⟩
      by_cases hr0 : zs.length % m = 0
      · have hm := of_decide_eq_true ho
        have hbl : zs.length = zs.length / m * m := by have := Nat.div_add_mod zs.length m; rw [hr0, Nat.mul_comm] at this; omega
        have g4 := err_zero h0
        have hbt : ∀ v ∈ zs, v = 0 ∨ v = 1 := fun v hv => by
          obtain ⟨i, hi, rfl⟩ := List.getElem_of_mem hv
          have h1 := g4.1 i
          have h2 := hy zs[i] hv
          simp only [List.getD, List.getElem?_eq_getElem hi, Option.getD_some] at h1
          omega
        have hq : zs.length / m ≤ 4096 := Nat.le_trans (Nat.div_le_self _ _) g4.2
        exact (send_good zs (m / 2) m (zs.length / m) a c w ha hnc hcm h0 (by omega) (by omega) (by omega) hbl hq hbt).mono fun e w' ⟨g, he, hP, hg, hb⟩ => ⟨_, _, _, _, he, hP.owns hg (sentA_length (Nat.le_refl _)) (by unfold maxLen; omega), by omega, hb⟩
      · exact (send_rest zs m a c w ha (Nat.le_trans hnc hcm) h0 ho hr0).mono fun e w' ⟨he, hb⟩ => ⟨_, _, 0, [], he, hnil w', by omega, hb⟩
  · exact (send_bits zs order a c w ha (Nat.le_trans hnc hcm) h0).mono fun e w' ⟨he, hb⟩ => ⟨_, _, 0, [], he, hnil w', by omega, hb⟩

theorem hear_uni (ps : List (Int × Int)) (n : Nat) (hl : ps.length = n) (order : Int) (a : Option Addr) (c : Nat) (w : World) (hp : Pts w a ps) (hz : n ≤ 8796093022208) :
    Calls Tryz.prog 18 #[.slice a n c, .int .i64 order] w fun e w' => ∃ v E L, e = .returned (.tuple #[v, .int .i64 E]) ∧ OwnI w' w.heap.size v L ∧ L.length ≤ 10000 ∧ Below w.heap.size w w' := by
  subst hl
  cases hok : hearsOk ps order with
  | false => exact (hear_bad ps order a c w hp hz hok).mono fun e w' ⟨he, hb⟩ => ⟨_, _, [], he, OwnI.nil _ _, by simp, hb⟩
  | true =>
    obtain ⟨h, h1, hh, rfl, h4⟩ := hears_nums hok
    exact (hear_good ps h (2 * h) ps.length (ps.length * (2 * h)) a c w hp h1 hh rfl rfl rfl h4 hok).mono fun e w' ⟨g, he, hO, hb⟩ => ⟨_, _, _, he, hO, by rw [hO.len]; omega, hb⟩

def nearL (ps : List (Int × Int)) (order : Int) : List Int := if hearsOk ps order then pairsAll (nearB (order.toNat / 2)) (order.toNat / 2) ps ps.length else []
theorem near_uni (ps : List (Int × Int)) (n : Nat) (hl : ps.length = n) (order : Int) (a : Option Addr) (c : Nat) (w : World) (hp : Pts w a ps) (hz : n ≤ 8796093022208) :
    Calls Tryz.prog 20 #[.slice a n c, .int .i64 order] w fun e w' => ∃ v, e = .returned (.tuple #[v, .int .i64 (chErr ps order)]) ∧ Own w' w.heap.size v (nearL ps order) ∧ (nearL ps order).length ≤ 10000 ∧ Below w.heap.size w w' := by
  subst hl
  cases hok : hearsOk ps order with
  | false =>
    have e1 : nearL ps order = [] := by unfold nearL; rw [hok]; rfl
    rw [e1]
    refine (near_bad ps order a c w hp hz hok).mono fun e w' ⟨he, hb⟩ => ⟨.slice none 0 0, ?_, Own.nil _ _, by simp, hb⟩
    rw [he]; unfold chErr; rw [hok]; rfl
  | true =>
    obtain ⟨h, h1, hh, rfl, h4⟩ := hears_nums hok
    have e1 : nearL ps ((2 * h : Nat) : Int) = pairsAll (nearB h) h ps ps.length := by unfold nearL; rw [hok, Int.toNat_natCast, show 2 * h / 2 = h by omega]; rfl
    rw [e1]
    refine (near_good ps h (2 * h) ps.length (ps.length * (2 * h)) a c w hp h1 hh rfl rfl rfl h4 hok).mono fun e w' ⟨g, he, hO, hb⟩ => ⟨.slice (some ⟨g, 0, none⟩) (ps.length * (2 * h)) (ps.length * (2 * h)), ?_, hO, by rw [hO.len]; omega, hb⟩
    rw [he]; unfold chErr; rw [hok]; rfl
end Go.Proofs.YtdndeegpbjlibadGreatDoor
