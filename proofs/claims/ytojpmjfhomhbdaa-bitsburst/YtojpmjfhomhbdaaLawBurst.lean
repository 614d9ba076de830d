import Derived.Test.YtojpmjfhomhbdaaBurstE
namespace Go.Proofs.Ytojpmjfhomhbdaa
open Go.ChangeShapes Go.WideShapes Go.ChangeAt Go.RowKit

theorem xor_one' (y : Int) (h : 0 ≤ y ∧ y ≤ 1) : bits .xor .u8 y 1 = 1 - y := by
  rcases (show y = 0 ∨ y = 1 by omega) with rfl | rfl <;> decide

theorem bits_append {a b : List Int} (ha : Bits a) (hb : Bits b) : Bits (a ++ b) := fun j => by
  by_cases h : j < a.length
  · have : (a ++ b).getD j 0 = a.getD j 0 := by simp [List.getD, List.getElem?_append_left h]
    rw [this]; exact ha j
  · have : (a ++ b).getD j 0 = b.getD (j - a.length) 0 := by simp [List.getD, List.getElem?_append_right (Nat.le_of_not_lt h)]
    rw [this]; exact hb _

theorem seal_okN (zs : List Int) (n : Nat) (hn : zs.length = n) (k : Int) (a : Option Addr) (c : Nat) (w : World) (ha : Rd .u8 w a zs) (hy : Bytes zs) (h : errSum zs k = 0) (hl : n + kW k ≤ 4096) :
    Calls Try.prog 17 #[.slice a n c, .int .i64 k] w fun e w' => ∃ a2 c2, e = .returned (.tuple #[.slice a2 (n + kW k) c2, .int .i64 0]) ∧ Rd .u8 w' a2 (zs ++ ksum zs k) ∧ n + kW k ≤ c2 ∧ c2 ≤ maxLen ∧ Below w.heap.size w w' := by
  subst hn
  refine (seal_ok zs k a c w ha hy h hl).mono fun e w' h' => ?_
  obtain ⟨v, rfl, hown, hb⟩ := h'
  obtain ⟨a2, c2, rfl, -, h1, h2⟩ := hown.shape
  have e : (zs ++ ksum zs k).length = zs.length + kW k := by rw [List.length_append, ksum_length]
  refine ⟨a2, c2, by rw [e], hown.rd, by omega, h2, hb⟩

theorem seal_errN (zs : List Int) (n : Nat) (hn : zs.length = n) (k : Int) (a : Option Addr) (c : Nat) (w : World) (ha : Rd .u8 w a zs) (hz : n ≤ maxLen) (h : errSum zs k = 1) :
    Calls Try.prog 17 #[.slice a n c, .int .i64 k] w fun e w' => e = .returned (.tuple #[.slice none 0 0, .int .i64 1]) ∧ Below w.heap.size w w' := by
  subst hn
  have := seal_err zs k a c w ha hz (by rw [h]; decide)
  rwa [h] at this

theorem open_okN (zs : List Int) (T : Nat) (hT : zs.length = T) (k : Int) (a : Option Addr) (c : Nat) (w : World) (ha : Rd .u8 w a zs) (hcap : T ≤ c) (hcm : c ≤ maxLen) (hy : Bytes zs) (h : errSum zs k = 0) (n : Nat) (hl : T = n + kW k) (hs : ksum (zs.take n) k = zs.drop n) :
    Calls Try.prog 18 #[.slice a T c, .int .i64 k] w fun e w' => ∃ a2 c2, e = .returned (.tuple #[.slice a2 n c2, .bool true, .int .i64 0]) ∧ Rd .u8 w' a2 (zs.take n) ∧ Below w.heap.size w w' := by
  subst hT
  refine (open_ok zs k a c w ha hcap hcm hy h n hl hs).mono fun e w' h' => ?_
  obtain ⟨v, rfl, hown, hb⟩ := h'
  obtain ⟨a2, c2, rfl, -⟩ := hown.shape
  refine ⟨a2, c2, ?_, hown.rd, hb⟩
  rw [show (zs.take n).length = n by rw [List.length_take]; omega]

/-- Open of what is right in form: it says yes just where nothing is left. -/
theorem open_sayN (zs : List Int) (T : Nat) (hT : zs.length = T) (k : Int) (a : Option Addr) (c : Nat) (w : World) (ha : Rd .u8 w a zs) (hcap : T ≤ c) (hcm : c ≤ maxLen) (hy : Bytes zs) (h : errSum zs k = 0) (n : Nat) (hl : T = n + kW k) (b : Bool) (hs : ksum (zs.take n) k = zs.drop n ↔ b = false) :
    Calls Try.prog 18 #[.slice a T c, .int .i64 k] w fun e w' => ∃ a2 m2 c2, e = .returned (.tuple #[.slice a2 m2 c2, .bool (!b), .int .i64 0]) ∧ Below w.heap.size w w' := by
  subst hT
  by_cases hh : ksum (zs.take n) k = zs.drop n
  · rw [hs.1 hh]
    refine (open_ok zs k a c w ha hcap hcm hy h n hl hh).mono fun e w' h' => ?_
    obtain ⟨v, rfl, hown, hb⟩ := h'
    obtain ⟨a2, c2, rfl, -⟩ := hown.shape
    exact ⟨a2, _, c2, rfl, hb⟩
  · have hb : b = true := by
      cases b with
      | true => rfl
      | false => exact absurd (hs.2 rfl) hh
    rw [hb]
    refine (open_diff zs k a c w ha hcap hcm hy h n hl hh).mono fun e w' h' => ?_
    obtain ⟨rfl, hb⟩ := h'
    exact ⟨none, 0, 0, rfl, hb⟩

theorem burst_all {k : Int} (hD : Div (kW k) (kP k)) {S : List Int} (hs : Bits S) (n : Nat) (hl : S.length = n + kW k) (h0 : ksum (S.take n) k = S.drop n) (z : Int) (ch : List Int) (K : Nat) (hK : K ≤ kW k) (T : Nat) (hT : T = n + kW k) :
    ksum ((addTo S (errTo z T ch K) T).take n) k = (addTo S (errTo z T ch K) T).drop n ↔ anyHit z T ch K = false := by
  subst hT
  exact burst_iff hD hs n hl h0 z ch K hK

set_option maxRecDepth 100000 in
set_option maxHeartbeats 1000000 in
theorem burst_no (xs : List Int) (k z : Int) (ch : List Int) (a b : Option Addr) (ca cb : Nat) (w : World) (ha : Rd .u8 w a xs) (hx : xs.length ≤ maxLen) (bx : Bytes xs) (hk : isKind k = false) :
    Calls Try.prog 7 #[.slice a xs.length ca, .int .i64 k, .int .i64 z, .slice b ch.length cb] w fun e w' => e = .returned (.bool true) ∧ Below w.heap.size w w' := by
  have HK := hid hk
  clear hk
  have hnil := fun (wx : World) (ad : Option Addr) (x y : Nat) => Lib.run_eql_slice_nil (P := Try.prog) wx 24 3 ad x y 0 0 Try.underlying24
  go_enter Try.func7, Try.ntmps7
  go_wp2_with fail
  refine (good_any xs 4000 a ca _ ha hx bx (by omega)).mono ?_
  rintro e w1 ⟨v1, rfl, hown1, hb1⟩
  obtain ⟨a1, c1, rfl, -⟩ := hown1.shape
  have bG := goodTo_bits xs 4000
  have lG := goodTo_length xs 4000
  have hlG : (goodTo xs 4000).length ≤ 4000 := by omega
  have eG := hid (err_of_bits bG (by omega))
  have sG := hid (show errSum (goodTo xs 4000) k = 1 by unfold errSum; rw [if_pos eG.out, HK.out]; rfl)
  clear lG
  go_wp2_with fail
  refine (seal_errN _ _ rfl k _ _ _ hown1.rd (by unfold maxLen; omega) sG.out).mono ?_
  rintro e w2 ⟨rfl, hb2⟩
  go_wp2_with fail
  refine (rdivisor_no k _ HK.out).mono ?_
  rintro e w3 ⟨rfl, rfl⟩
  go_wp2
  go_ret
  exact ⟨rfl, bthen hb1 hb2⟩

set_option maxRecDepth 100000 in
set_option maxHeartbeats 2000000 in
theorem burst_yes (xs : List Int) (k z : Int) (ch : List Int) (a b : Option Addr) (ca cb : Nat) (w : World) (ha : Rd .u8 w a xs) (hb : Rd .u8 w b ch) (hx : xs.length ≤ maxLen) (hc : ch.length ≤ maxLen) (bx : Bytes xs) (bc : Bytes ch) (hk : isKind k = true) :
    Calls Try.prog 7 #[.slice a xs.length ca, .int .i64 k, .int .i64 z, .slice b ch.length cb] w fun e w' => e = .returned (.bool true) ∧ Below w.heap.size w w' := by
  have HK := hid hk
  obtain ⟨hD, hW1, hW, hR⟩ := kind_div hk
  obtain ⟨hP, hD0, hDl, hDu⟩ := kind_places hk
  have HD0 := hid hD0
  unfold maxLen at hc
  clear hk hR hP hD0
  go_enter Try.func7, Try.ntmps7
  go_wp2_with fail
  refine (good_any xs 4000 a ca _ ha hx bx (by omega)).mono ?_
  rintro e w1 ⟨v1, rfl, hown1, hb1⟩
  obtain ⟨a1, c1, rfl, -⟩ := hown1.shape
  have bG := goodTo_bits xs 4000
  have lG := goodTo_length xs 4000
  have hlG : (goodTo xs 4000).length ≤ 4000 := by omega
  have rG := hown1.rd
  clear lG hown1
  generalize goodTo xs 4000 = G at *
  obtain ⟨n, hn⟩ : ∃ n, n = G.length := ⟨_, rfl⟩
  rw [← hn] at hlG ⊢
  have LG := hid hn.symm
  clear hn
  have eG := hid (err_of_bits bG (by rw [LG.out]; omega))
  have yG := bytes_of_bits bG
  have sG := hid (show errSum G k = 0 by unfold errSum; rw [if_pos eG.out, HK.out]; rfl)
  have bS : Bits (G ++ ksum G k) := bits_append bG (ksum_bits G k)
  have lS := hid (show (G ++ ksum G k).length = n + kW k by rw [List.length_append, ksum_length, LG.out])
  have tS := hid (show ksum ((G ++ ksum G k).take n) k = (G ++ ksum G k).drop n by rw [List.take_left' LG.out, List.drop_left' LG.out])
  have tG := hid (show (G ++ ksum G k).take n = G from List.take_left' LG.out)
  have eS := hid (err_of_bits bS (by rw [lS.out]; omega))
  have sS := hid (show errSum (G ++ ksum G k) k = 0 by unfold errSum; rw [if_pos eS.out, HK.out]; rfl)
  go_wp2_with fail
  refine (seal_okN G n LG.out k _ _ _ rG yG sG.out (by omega)).mono ?_
  rintro e w2 ⟨a2, c2, rfl, r2, hc2, hc2m, hb2⟩
  have rG2 := rG.below hb2
  generalize G ++ ksum G k = S at *
  have yS := bytes_of_bits bS
  go_wp2_with fail
  refine (open_okN S _ lS.out k _ _ _ r2 hc2 hc2m yS sS.out n rfl tS.out).mono ?_
  rintro e w3 ⟨a3, c3, rfl, r3, hb3⟩
  rw [tG.out] at r3
  have rG3 := rG2.below hb3
  have r23 := r2.below hb3
  go_wp2_with fail
  refine (same_bitsN G G n n LG.out LG.out _ _ _ _ _ r3 rG3 (by unfold maxLen; omega) (by unfold maxLen; omega)).mono ?_
  rintro e w4 ⟨rfl, hb4⟩
  rw [decide_eq_true rfl]
  have r24 := r23.below hb4
  have hbA := bthen (bthen (bthen hb1 hb2) hb3) hb4
  clear r2 r23 r3 rG rG2 rG3 hb1 hb2 hb3 hb4
  go_wp2_with (first | (at_builtin; refine wpList_cat w4.heap.size w4 (Own.nil w4 w4.heap.size) r24 rfl (.const (.slice none 0 0)) (.tmp 46) rfl rfl c2 (by rw [lS.out]; rfl) (by rw [lS.out]; simp; omega) (Below.refl _ _) (Nat.le_refl _) ?_))
  intro v5 w5 hown5 hbel5
  obtain ⟨a5, c5, rfl, hne5, hlc5, hcm5⟩ := hown5.shape
  obtain ⟨g, rfl⟩ := hne5 (by intro e; have := lS.out; rw [e] at this; simp at this; omega)
  obtain ⟨T, hT⟩ : ∃ T, T = n + kW k := ⟨_, rfl⟩
  have HT := hid hT
  have hT4 : T ≤ 4096 := by omega
  have hTW : kW k ≤ T := by omega
  rw [lS.out, ← hT] at hlc5 ⊢
  have lS' := hid (lS.out.trans hT.symm)
  rw [show S.length = T from lS'.out] at hown5
  have HCM := hid hcm5
  clear hT hne5 hcm5
  go_wp2_with fail
  refine (rdivisor_yes k _ HK.out).mono ?_
  rintro e w6 ⟨rfl, hg6, hb6⟩
  obtain ⟨b6, o6, he6, hcD⟩ := (rd_block (zs := kD k) hg6).at hDl
  simp only [Option.some.injEq, Addr.mk.injEq, and_true] at he6
  obtain ⟨rfl, rfl⟩ := he6
  have hc0 := hcD 0 hDl
  rw [HD0.out] at hc0
  have hown6 := hown5.below hb6
  have hbel6 := bthen hbel5 hb6
  rw [← addTo_zero bS T lS'.out (errTo z T ch 0) (fun j hj => errTo_zero z T ch j hj)] at hown6
  clear hcD hg6 hown5 hbel5 hb6
  go_wp2_with fail
  clear hc0
  go_loopw [16, 17] (fun tu q wr => ∃ i : Nat, i ≤ ch.length ∧ i ≤ kW k ∧ q = .int .i64 i ∧ tu = .bool (anyHit z T ch i) ∧ Own wr w4.heap.size (.slice (some ⟨g, 0, none⟩) T c5) (addTo S (errTo z T ch i) T) ∧ Below w4.heap.size w4 wr) (fun _ q _ => kW k - (intOf q).toNat)
  case atStart => exact ⟨0, Nat.zero_le _, Nat.zero_le _, rfl, rfl, hown6, hbel6⟩
  case round =>
    clear hown6 hbel6
    obtain ⟨i, hi1, hi2, rfl, rfl, hown, hbel⟩ := hrel
    by_cases h1 : i < ch.length
    · by_cases h2 : i < kW k
      · obtain ⟨b7, o7, rfl, hc7⟩ := (hb.below (bthen hbA hbel)).at h1
        have g7 := hc7 i h1
        have bi := bc.at i
        clear hc7
        by_cases c1 : 0 ≤ z
        · by_cases c2 : z < T
          · by_cases c3 : (i : Int) < T - z
            · obtain ⟨x, ex⟩ : ∃ x, x = ch.getD i 0 := ⟨_, rfl⟩
              rw [← ex] at g7 bi
              have EX := hid ex
              clear ex
              by_cases c4 : x % 2 = 1
              · have HM := hid (show hit z T ch i = true by unfold hit; rw [← EX.out]; exact decide_eq_true ⟨c1, c2, c3, c4⟩)
                have c4' : (x % 2 == 1) = true := by simpa using c4
                obtain ⟨A, rfl⟩ := Int.eq_ofNat_of_zero_le c1
                have hAi : (A : Int) + (i : Int) < (T : Int) := by omega
                have hcl := hown.cell (i := A + i) (by rw [hown.len]; omega)
                have hfr := hown.free (A + i)
                obtain ⟨y, ey⟩ : ∃ y, y = (addTo S (errTo (A : Int) T ch i) T).getD (A + i) 0 := ⟨_, rfl⟩
                have by' : 0 ≤ y ∧ y ≤ 1 := by rw [ey]; exact addTo_bits _ _ _ _
                rw [← ey] at hcl
                have EY := hid ey
                clear ey c4
                go_wp2
                have hset := flip_set bS T (A : Int) ch i (A + i) (by omega) HM.out (bits .xor .u8 y 1) (by rw [xor_one', ← EY.out]; exact by')
                go_roundw
                case rel => exact ⟨i + 1, by omega, by omega, by go_num, by rw [anyHit_succ, HM.out, Bool.or_true], hset ▸ hown.set _ _, hbel.setCell hown.block.1 _⟩
                case measure => simp [intOf]; omega
              · have c4' : (x % 2 == 1) = false := by simpa using c4
                have HM := hid (show hit z T ch i = false by unfold hit; rw [← EX.out]; exact decide_eq_false (by omega))
                clear c4
                go_wp2
                go_roundw
                case rel => exact ⟨i + 1, by omega, by omega, by go_num, by rw [anyHit_succ, HM.out, Bool.or_false], by rw [errTo_miss _ _ _ _ HM.out]; exact hown, hbel⟩
                case measure => simp [intOf]; omega
            · have d3 : decide ((i : Int) < (T : Int) - z) = false := decide_eq_false c3
              have HM := hid (show hit z T ch i = false by unfold hit; exact decide_eq_false (by omega))
              go_wp2
              go_roundw
              case rel => exact ⟨i + 1, by omega, by omega, by go_num, by rw [anyHit_succ, HM.out, Bool.or_false], by rw [errTo_miss _ _ _ _ HM.out]; exact hown, hbel⟩
              case measure => simp [intOf]; omega
          · have d2 : decide (z < (T : Int)) = false := decide_eq_false c2
            have HM := hid (show hit z T ch i = false by unfold hit; exact decide_eq_false (by omega))
            go_wp2
            go_roundw
            case rel => exact ⟨i + 1, by omega, by omega, by go_num, by rw [anyHit_succ, HM.out, Bool.or_false], by rw [errTo_miss _ _ _ _ HM.out]; exact hown, hbel⟩
            case measure => simp [intOf]; omega
        · have d1 : decide (0 ≤ z) = false := decide_eq_false c1
          have HM := hid (show hit z T ch i = false by unfold hit; exact decide_eq_false (by omega))
          go_wp2
          go_roundw
          case rel => exact ⟨i + 1, by omega, by omega, by go_num, by rw [anyHit_succ, HM.out, Bool.or_false], by rw [errTo_miss _ _ _ _ HM.out]; exact hown, hbel⟩
          case measure => simp [intOf]; omega
      · obtain rfl : i = kW k := by omega
        have HIFF := hid (burst_all hD bS n lS.out tS.out z ch (kW k) (Nat.le_refl _) T HT.out)
        have bE := addTo_bits S (errTo z T ch (kW k)) T
        have lE := hid (addTo_length S (errTo z T ch (kW k)) T)
        have eE := hid (err_of_bits bE (by rw [lE.out]; exact hT4))
        have sE := hid (show errSum (addTo S (errTo z T ch (kW k)) T) k = 0 by unfold errSum; rw [if_pos eE.out, HK.out]; rfl)
        have rE := hown.rd
        have hbB := bthen hbA hbel
        generalize addTo S (errTo z T ch (kW k)) T = E at *
        generalize anyHit z T ch (kW k) = tb at *
        clear hown hbel
        go_wp2_with fail
        refine (open_sayN E T lE.out k _ _ _ rE hlc5 HCM.out (bytes_of_bits bE) sE.out n HT.out tb HIFF.out).mono ?_
        rintro e w8 ⟨a8, m8, c8, rfl, hb8⟩
        go_wp2
        go_ret
        exact ⟨rfl, bthen hbB hb8⟩
    · obtain rfl : i = ch.length := by omega
      have HIFF := hid (burst_all hD bS n lS.out tS.out z ch ch.length hi2 T HT.out)
      have bE := addTo_bits S (errTo z T ch (ch.length)) T
      have lE := hid (addTo_length S (errTo z T ch (ch.length)) T)
      have eE := hid (err_of_bits bE (by rw [lE.out]; exact hT4))
      have sE := hid (show errSum (addTo S (errTo z T ch (ch.length)) T) k = 0 by unfold errSum; rw [if_pos eE.out, HK.out]; rfl)
      have rE := hown.rd
      have hbB := bthen hbA hbel
      generalize addTo S (errTo z T ch (ch.length)) T = E at *
      generalize anyHit z T ch (ch.length) = tb at *
      clear hown hbel
      go_wp2_with fail
      refine (open_sayN E T lE.out k _ _ _ rE hlc5 HCM.out (bytes_of_bits bE) sE.out n HT.out tb HIFF.out).mono ?_
      rintro e w8 ⟨a8, m8, c8, rfl, hb8⟩
      go_wp2
      go_ret
      exact ⟨rfl, bthen hbB hb8⟩
end Go.Proofs.Ytojpmjfhomhbdaa
