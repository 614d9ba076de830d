import Derived.Test.YtbmdjfolfmgmmagLong
import Derived.Test.YtbmdjfolfmgmmagDivR
import Derived.Test.YtbmdjfolfmgmmagSums
namespace Go.Proofs.Ytbmdjfolfmgmmag
open Go.ChangeShapes Go.WideShapes Go.ChangeAt Go.RowKit

theorem kind_places {k : Int} (h : isKind k = true) : Places' (kW k) (kP k) (kD k) ∧ (kD k).getD 0 0 = (kW k : Int) ∧ 0 < (kD k).length ∧ (kD k).length ≤ 14 := by
  rcases kind_cases h with rfl | rfl | rfl | rfl
  all_goals refine ⟨⟨by decide, by decide, ?_⟩, by decide, by decide, by decide⟩
  all_goals (intro p hp; revert p; decide)

theorem getD_mem {L : List Int} {m : Nat} (h : m < L.length) : L.getD m 0 ∈ L := by
  have : L.getD m 0 = L[m] := by simp [List.getD, h]
  rw [this]; exact List.getElem_mem h

theorem ret_slice {a : Option Addr} {n m c : Nat} (h : n = m) : Ending.returned (.slice a n c) = .returned (.slice a m c) := by rw [h]

theorem xor_one (b : Bool) : bits .xor .u8 (b2i b) 1 = 1 - b2i b := by cases b <;> decide

set_option maxHeartbeats 2000000 in
theorem rsum_any (zs : List Int) (k : Int) (a : Option Addr) (c : Nat) (w : World) (ha : Rd .u8 w a zs) (hb : Bits zs) (hz : zs.length ≤ 4096) (hk : isKind k = true) :
    Calls Try.prog 45 #[.slice a zs.length c, .int .i64 k] w fun e w' => ∃ b off cp, e = .returned (.slice (some ⟨b, off, none⟩) (kW k) cp) ∧ Rd .u8 w' (some ⟨b, off, none⟩) (ksum zs k) ∧ Below w.heap.size w w' := by
  obtain ⟨hD, hW1, hW, hR⟩ := kind_div hk
  obtain ⟨hP, hD0, hDl, hDu⟩ := kind_places hk
  have HK : Hid (isKind k = true) := hk
  clear hk hR
  go_enter Try.func45, Try.ntmps45
  go_wp2_with fail
  refine (rdivisor_yes k _ HK.out).mono ?_
  rintro e w1 ⟨rfl, hg1, hb1⟩
  have hrd1 : Rd .i64 w1 (some ⟨w.heap.size, 0, none⟩) (kD k) := rd_block hg1
  have hsz1 : w.heap.size < w1.heap.size := lt_of_block hg1
  obtain ⟨b0, o0, he0, hcD⟩ := hrd1.at hDl
  simp only [Option.some.injEq, Addr.mk.injEq, and_true] at he0
  obtain ⟨rfl, rfl⟩ := he0
  have hc0 := hcD 0 hDl
  rw [hD0] at hc0
  have ha1 := ha.below hb1
  have HD0 := hid hD0
  clear hg1 hD0 hrd1
  go_wp2_with (first | (at_builtin; refine wpList_cat w1.heap.size w1 (Own.nil w1 w1.heap.size) ha1 rfl (.const (.slice none 0 0)) (.tmp 15) rfl rfl c rfl (by simp; omega) (Below.refl _ _) (Nat.le_refl _) ?_))
  intro v2 w2 hown2 hbel2
  go_wp2_with (first | (at_builtin; refine wpList_zeros w1.heap.size w1 (kW k) hown2 rfl (.tmp 16) (.tmp 17) rfl rfl rfl (by omega) (by omega) hbel2 hbel2.size ?_))
  intro v3 w3 hown3 hbel3
  clear hown2 hbel2
  rw [← lrow_zero (P := kP k) hb] at hown3
  have hl3 := lrow_length (kW k) (kP k) zs 0
  obtain ⟨a3, c3, rfl, hne3, hlc3, hcm3⟩ := hown3.shape
  obtain ⟨g, rfl⟩ := hne3 (by intro e; rw [e] at hl3; simp at hl3; omega)
  obtain ⟨N, hN⟩ : ∃ N, N = (lrow (kW k) (kP k) zs 0).length := ⟨_, rfl⟩
  rw [← hN] at hown3 hlc3 ⊢
  have hNW : N = zs.length + kW k := by omega
  have HN := hid hNW
  have hN1 : zs.length + kW k ≤ N := by omega
  have hN2 : N ≤ zs.length + kW k := by omega
  clear hN hl3 hNW hne3
  unfold maxLen at hcm3
  go_wp2
  go_loopw [8] (fun i wr => ∃ q : Nat, q ≤ zs.length ∧ i = .int .i64 q ∧ Own wr w1.heap.size (.slice (some ⟨g, 0, none⟩) N c3) (lrow (kW k) (kP k) zs q) ∧ Below w1.heap.size w1 wr) (fun i _ => zs.length - (intOf i).toNat)
  case atStart => exact ⟨0, Nat.zero_le _, rfl, hown3, hbel3⟩
  case round =>
    clear hown3 hbel3
    obtain ⟨q, hq, rfl, hown, hbel⟩ := hrel
    by_cases hlt : q < zs.length
    · have hc := hown.cell (i := q) (by rw [hown.len]; omega)
      rw [lrow_getD _ _ _ _ _ (by omega)] at hc
      cases ht : cellB (kW k) (kP k) zs q q with
      | false =>
        rw [ht] at hc
        rw [lrow_same hD hb hlt ht] at hown
        have hb0 : b2i false = 0 := rfl
        rw [hb0] at hc
        clear hb0 ht
        go_wp2
        go_roundw
        case rel => exact ⟨q + 1, by omega, by go_num, hown, hbel⟩
        case measure => simp [intOf]; omega
      | true =>
        rw [ht] at hc
        have hb0 : b2i true = 1 := rfl
        rw [hb0] at hc
        have HT := hid ht
        rw [← mrow_zero (kW k) (kP k) (kD k) zs q] at hown
        clear hb0 ht
        obtain ⟨wo, rfl⟩ : ∃ wo : World, wo = wr := ⟨_, rfl⟩
        go_wp2
        go_loopw [9] (fun i wr => ∃ m : Nat, m ≤ (kD k).length ∧ i = .int .i64 m ∧ Own wr w1.heap.size (.slice (some ⟨g, 0, none⟩) N c3) (mrow (kW k) (kP k) (kD k) zs q m) ∧ Below w1.heap.size w1 wr) (fun i _ => (kD k).length - (intOf i).toNat)
        case atStart => exact ⟨0, Nat.zero_le _, rfl, hown, hbel⟩
        case round =>
          clear hown hbel hc
          obtain ⟨m, hm, rfl, hown, hbel⟩ := hrel
          by_cases hmlt : m < (kD k).length
          · have hcd := (hbel.cell (p := ⟨w.heap.size, 0 + m, none⟩) hsz1).trans (hcD m hmlt)
            rw [Nat.zero_add] at hcd
            obtain ⟨x, hx⟩ : ∃ x, x = (kD k).getD m 0 := ⟨_, rfl⟩
            have hxb : 0 ≤ x ∧ x ≤ (kW k : Int) := by rw [hx]; exact hP.bd _ (getD_mem hmlt)
            rw [← hx] at hcd
            have HX := hid hx
            clear hx
            have hj0 : 0 ≤ (q : Int) + (kW k : Int) - x := by omega
            have hj1 : (q : Int) + (kW k : Int) - x < (N : Int) := by omega
            have hcl := hown.cell (i := ((q : Int) + (kW k : Int) - x).toNat) (by rw [hown.len]; omega)
            have hfr := hown.free ((q : Int) + (kW k : Int) - x).toNat
            rw [mrow_getD _ _ _ _ _ _ _ (by omega)] at hcl
            obtain ⟨y, hy⟩ : ∃ y, y = (cellB (kW k) (kP k) zs q ((q : Int) + (kW k : Int) - x).toNat ^^ turned (kW k) (kD k) q m ((q : Int) + (kW k : Int) - x).toNat) := ⟨_, rfl⟩
            rw [← hy] at hcl
            have hyb := b2i_bd y
            have HY := hid hy
            clear hy
            go_wp2
            have hset := mrow_set hP zs q m ((q : Int) + (kW k : Int) - x).toNat hmlt (by rw [← HX.out]; omega) (bits .xor .u8 (b2i y) 1) (by rw [xor_one, HY.out, mrow_getD _ _ _ _ _ _ _ (by omega)]) (by omega)
            go_roundw
            case rel => exact ⟨m + 1, by omega, by go_num, hset ▸ hown.set _ _, hbel.setCell hown.block.1 _⟩
            case measure => simp [intOf]; omega
          · obtain rfl : m = (kD k).length := by omega
            rw [mrow_all hD hP hb hlt HT.out] at hown
            go_wp2
            go_roundw
            case rel => exact ⟨q + 1, by omega, by go_num, hown, hbel⟩
            case measure => simp [intOf]; omega
    · obtain rfl : q = zs.length := by omega
      have hcs : ∀ j, j < (lrow (kW k) (kP k) zs zs.length).length → wr.cell? ⟨g, 0 + j, none⟩ = some (.int .u8 ((lrow (kW k) (kP k) zs zs.length).getD j 0)) := fun j hj => by rw [Nat.zero_add]; exact hown.cell hj
      have hrd := Rd.drop hcs zs.length
      rw [lrow_end, Nat.zero_add] at hrd
      have hA : (zs.length : Int) < (c3 : Int) := by omega
      go_wp2
      go_ret
      exact ⟨g, zs.length, _, ret_slice (by have := HN.out; omega), hrd, bthen hb1 hbel⟩
end Go.Proofs.Ytbmdjfolfmgmmag
