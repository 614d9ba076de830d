import Derived.Test.YtfbjedcfppghgabDoorDocP
namespace Go.Proofs.YtfbjedcfppghgabDoor
open Go.ChangeShapes Go.WideShapes Go.ChangeAt Go.RowKit

/-! THE DOCUMENT'S Places, Halved. -/

def placesTo (n k i : Nat) : List Int := ints ((List.range i).filter (isPlace n k))
theorem placesTo_yes {n k i : Nat} (h : isPlace n k i = true) : placesTo n k (i + 1) = placesTo n k i ++ [(i : Int)] := by
  unfold placesTo ints
  rw [List.range_succ, List.filter_append, List.map_append]
  simp [h]
theorem placesTo_no {n k i : Nat} (h : isPlace n k i = false) : placesTo n k (i + 1) = placesTo n k i := by
  unfold placesTo ints
  rw [List.range_succ, List.filter_append, List.map_append]
  simp [h]
theorem placesTo_le (n k i : Nat) : (placesTo n k i).length ≤ i := by
  unfold placesTo
  rw [ints_length]
  have := List.length_filter_le (isPlace n k) (List.range i)
  simpa using this

theorem betterTo_le (i m : Nat) : betterTo i m ≤ m := by
  unfold betterTo
  have := List.length_filter_le (fun j => btr j i) (List.range m)
  simpa using this
theorem bthenB {B : Nat} {w w1 w2 : World} (h1 : Below B w w1) (h2 : Below w1.heap.size w1 w2) (hB : B ≤ w1.heap.size) : Below B w w2 := h1.trans (h2.mono hB)

set_option maxHeartbeats 4000000 in
theorem rplaces_any (n k : Nat) (w : World) (hn : n ≤ 512) :
    Calls Tryd.prog 25 #[.int .i64 n, .int .i64 k] w fun e w' => ∃ v, e = .returned v ∧ OwnI w' w.heap.size v (ints (placesM n k)) ∧ Below w.heap.size w w' := by
  go_enter Tryd.func25, Tryd.ntmps25
  go_wp2
  go_loopw [5, 6] (fun v q wr => ∃ i : Nat, i ≤ n ∧ q = .int .i64 i ∧ OwnI wr w.heap.size v (placesTo n k i) ∧ Below w.heap.size w wr) (fun _ q _ => n - (intOf q).toNat)
  case atStart => exact ⟨0, Nat.zero_le _, rfl, OwnI.nil _ _, Below.refl _ _⟩
  case round =>
    obtain ⟨i, hi, rfl, hown, hbel⟩ := hrel
    by_cases hlt : i < n
    · go_wp2
      go_loopw [7, 8] (fun q7 q8 ws => ∃ j : Nat, j ≤ n ∧ q7 = .int .i64 (betterTo i j : Nat) ∧ q8 = .int .i64 j ∧ OwnI ws w.heap.size u5 (placesTo n k i) ∧ Below w.heap.size w ws) (fun _ q8 _ => n - (intOf q8).toNat)
      case atStart => exact ⟨0, Nat.zero_le _, rfl, rfl, hown, hbel⟩
      case round =>
        obtain ⟨j, hj, rfl, rfl, ho, hb⟩ := hrel
        have hble : betterTo i j ≤ j := betterTo_le i j
        by_cases hlj : j < n
        · have HS := hid (betterTo_succ i j)
          have bj := worthI_bd j
          have bi := worthI_bd i
          have HBT := hid (show btr j i = decide (worthI i < worthI j ∨ worthI j = worthI i ∧ i < j) from rfl)
          obtain ⟨x, ex⟩ : ∃ x, x = worthI j := ⟨_, rfl⟩
          obtain ⟨y, ey⟩ : ∃ y, y = worthI i := ⟨_, rfl⟩
          have Ej := hid ex.symm
          have Ei := hid ey.symm
          rw [← ex, ← ey] at HBT
          rw [← ex] at bj
          rw [← ey] at bi
          generalize betterTo i j = t at *
          clear ex ey hown hbel
          by_cases c1 : y < x
          · have HB : Hid (betterTo i (j + 1) = t + 1) := by unfold Hid; rw [HS.out, HBT.out, decide_eq_true (.inl c1)]; rfl
            clear HS HBT
            go_wp2_with fail
            refine (rworth_any j _ (by omega)).mono ?_
            rintro e w1 ⟨rfl, hb1⟩
            rw [Ej.out]
            go_wp2_with fail
            refine (rworth_any i _ (by omega)).mono ?_
            rintro e w2 ⟨rfl, hb2⟩
            rw [Ei.out]
            have hbx := (bthen hb1 hb2)
            have ho' := ho.below hbx
            have hb' := bthenB hb hbx hb.size
            go_wp2
            go_roundw
            case rel => exact ⟨j + 1, by omega, by rw [HB.out]; go_num, by go_num, ho', hb'⟩
            case measure => simp [intOf]; omega
          · by_cases c2 : x = y
            · subst c2
              by_cases c3 : i < j
              · have HB : Hid (betterTo i (j + 1) = t + 1) := by unfold Hid; rw [HS.out, HBT.out, decide_eq_true (.inr ⟨rfl, c3⟩)]; rfl
                clear HS HBT
                go_wp2_with fail
                refine (rworth_any j _ (by omega)).mono ?_
                rintro e w1 ⟨rfl, hb1⟩
                rw [Ej.out]
                go_wp2_with fail
                refine (rworth_any i _ (by omega)).mono ?_
                rintro e w2 ⟨rfl, hb2⟩
                rw [Ei.out]
                go_wp2_with fail
                refine (rworth_any j _ (by omega)).mono ?_
                rintro e w3 ⟨rfl, hb3⟩
                rw [Ej.out]
                go_wp2_with fail
                refine (rworth_any i _ (by omega)).mono ?_
                rintro e w4 ⟨rfl, hb4⟩
                rw [Ei.out]
                have hbx := (bthen (bthen (bthen hb1 hb2) hb3) hb4)
                have ho' := ho.below hbx
                have hb' := bthenB hb hbx hb.size
                go_wp2
                go_roundw
                case rel => exact ⟨j + 1, by omega, by rw [HB.out]; go_num, by go_num, ho', hb'⟩
                case measure => simp [intOf]; omega
              · have HB : Hid (betterTo i (j + 1) = t) := by
                  unfold Hid
                  rw [HS.out, HBT.out, decide_eq_false (by omega)]
                  rfl
                clear HS HBT
                go_wp2_with fail
                refine (rworth_any j _ (by omega)).mono ?_
                rintro e w1 ⟨rfl, hb1⟩
                rw [Ej.out]
                go_wp2_with fail
                refine (rworth_any i _ (by omega)).mono ?_
                rintro e w2 ⟨rfl, hb2⟩
                rw [Ei.out]
                go_wp2_with fail
                refine (rworth_any j _ (by omega)).mono ?_
                rintro e w3 ⟨rfl, hb3⟩
                rw [Ej.out]
                go_wp2_with fail
                refine (rworth_any i _ (by omega)).mono ?_
                rintro e w4 ⟨rfl, hb4⟩
                rw [Ei.out]
                have hbx := (bthen (bthen (bthen hb1 hb2) hb3) hb4)
                have ho' := ho.below hbx
                have hb' := bthenB hb hbx hb.size
                go_wp2
                go_roundw
                case rel => exact ⟨j + 1, by omega, by rw [HB.out], by go_num, ho', hb'⟩
                case measure => simp [intOf]; omega
            · have hne : (x == y) = false := beq_false_of_ne c2
              have HB : Hid (betterTo i (j + 1) = t) := by
                unfold Hid
                rw [HS.out, HBT.out, decide_eq_false (by omega)]
                rfl
              clear HS HBT
              go_wp2_with fail
              refine (rworth_any j _ (by omega)).mono ?_
              rintro e w1 ⟨rfl, hb1⟩
              rw [Ej.out]
              go_wp2_with fail
              refine (rworth_any i _ (by omega)).mono ?_
              rintro e w2 ⟨rfl, hb2⟩
              rw [Ei.out]
              go_wp2_with fail
              refine (rworth_any j _ (by omega)).mono ?_
              rintro e w3 ⟨rfl, hb3⟩
              rw [Ej.out]
              go_wp2_with fail
              refine (rworth_any i _ (by omega)).mono ?_
              rintro e w4 ⟨rfl, hb4⟩
              rw [Ei.out]
              have hbx := (bthen (bthen (bthen hb1 hb2) hb3) hb4)
              have ho' := ho.below hbx
              have hb' := bthenB hb hbx hb.size
              go_wp2
              go_roundw
              case rel => exact ⟨j + 1, by omega, by rw [HB.out], by go_num, ho', hb'⟩
              case measure => simp [intOf]; omega
        · obtain rfl : j = n := by omega
          have hsz := hb.size
          have hpl := placesTo_le j k i
          have HLE : Hid ((placesTo j k i).length < 8796093022208) := by unfold Hid; omega
          by_cases hlk : betterTo i j < k
          · have HP := hid (placesTo_yes (n := j) (k := k) (i := i) (decide_eq_true hlk))
            generalize betterTo i j = t at *
            clear hown hbel hpl
            go_wp2_with (first | (at_builtin; refine wpList_pushI w.heap.size w (i : Int) ho rfl _ _ rfl rfl rfl HLE.out hb hb.size ?_))
            intro v' w1 ho' hb'
            rw [← HP.out] at ho'
            go_wp2
            go_roundw
            case rel => exact ⟨i + 1, by omega, by go_num, ho', hb'⟩
            case measure => simp [intOf]; omega
          · have HP := hid (placesTo_no (n := j) (k := k) (i := i) (decide_eq_false hlk))
            generalize betterTo i j = t at *
            clear hown hbel hpl
            rw [← HP.out] at ho
            go_wp2
            go_roundw
            case rel => exact ⟨i + 1, by omega, by go_num, ho, hb⟩
            case measure => simp [intOf]; omega
    · obtain rfl : i = n := by omega
      go_wp2
      go_ret
      exact ⟨_, rfl, hown, hbel⟩

/-- A list of numbers of one's own, as a slice. -/
theorem OwnI.slice {w : World} {B : Nat} {v : Value} {L : List Int} {k : Nat} (h : OwnI w B v L) (hk : L.length = k) : ∃ a c, v = .slice a k c ∧ k ≤ c ∧ c ≤ maxLen ∧ Rd .i64 w a L ∧ (∀ g o, a = some ⟨g, o, none⟩ → B ≤ g) := by
  obtain ⟨a, c, rfl, h1, h2⟩ := h.shape
  subst hk
  refine ⟨a, c, rfl, h1, h2, h.rd, ?_⟩
  rintro g o rfl
  exact ownI_blocks h g rfl
theorem places_at {n k i : Nat} (hk : k ≤ n) (hi : i < k) : (placesM n k).getD i 0 < n := by
  have hl := places_length hk
  have e : (placesM n k).getD i 0 = (placesM n k)[i] := by simp [List.getD, hl, hi]
  rw [e]
  exact places_lt (List.getElem_mem _)

set_option maxHeartbeats 2000000 in
theorem rhalved_any (m : Nat) (b : List Int) (a : Option Addr) (n k c : Nat) (w : World) (ha : Rd .u8 w a b) (hb : AllBits b) (hl : b.length = k) (hk : k ≤ n) (hn : n = 2 ^ m) (h5 : n ≤ 512) :
    Calls Tryd.prog 27 #[.slice a k c, .int .i64 n] w fun e w' => ∃ v, e = .returned v ∧ Own w' w.heap.size v (turnM m (spreadM n (placesM n k) b k)) ∧ Below w.heap.size w w' := by
  have HL := hid hl
  have HN := hid hn
  have HP := hid (places_length hk)
  have HPI := hid ((ints_length (placesM n k)).trans HP.out)
  have hbb := spread_bits n (placesM n k) b hb.at k
  have HSL := hid (spread_length n (placesM n k) b k)
  clear hl hn
  go_enter Tryd.func27, Tryd.ntmps27
  go_wp2_with (first
    | (refine wpList_makeBytes w.heap.size w n rfl _ _ rfl _ _ rfl rfl rfl rfl (by omega) (Below.refl _ _) (Nat.le_refl _) ?_; intro w1 hown1 hbel1 hlt1; obtain ⟨har1, -, -⟩ := hown1.arr)
    | fail)
  refine (rplaces_any n k _ h5).mono ?_
  rintro e w2 ⟨v2, rfl, hown2, hbel2⟩
  obtain ⟨aP, cP, rfl, hcP, hcPm, hrP, hgP⟩ := hown2.slice HPI.out
  unfold maxLen at hcPm
  have hb12 := hbel1.trans (hbel2.mono hbel1.size)
  have har2 := har1.below hbel2 hlt1
  have hs2 : w.heap.size ≤ w2.heap.size := hb12.size
  go_wp2
  go_loopw [7] (fun q wr => ∃ i : Nat, i ≤ k ∧ q = .int .i64 i ∧ ArrAt .u8 5 wr w.heap.size (spreadM n (placesM n k) b i) ∧ Kept [w.heap.size] w2 wr) (fun q _ => k - (intOf q).toNat)
  case atStart => exact ⟨0, Nat.zero_le _, rfl, har2, Kept.refl _ _⟩
  case round =>
    obtain ⟨i, hi, rfl, har, hkept⟩ := hrel
    have hbel := hb12.trans (hkept.below hs2 (by simp))
    by_cases hlt : i < k
    · obtain ⟨b1, o1, rfl, hc1⟩ := (ha.below hbel).at (i := i) (by rw [HL.out]; exact hlt)
      have g1 := hc1 i (by rw [HL.out]; exact hlt)
      obtain ⟨b2, o2, rfl, hc2⟩ := (hkept.rd hrP (fun g o e => by have := hgP g o e; simp; omega)).at (i := i) (by rw [HPI.out]; exact hlt)
      have g2 := hc2 i (by rw [HPI.out]; exact hlt)
      rw [ints_at] at g2
      have hpl := places_at hk hlt
      have hset := har.set ((placesM n k).getD i 0) (b.getD i 0)
      have HSP := hid (show (spreadM n (placesM n k) b i).set ((placesM n k).getD i 0) (b.getD i 0) = spreadM n (placesM n k) b (i + 1) from rfl)
      rw [HSP.out] at hset
      have hf := har.free ((placesM n k).getD i 0)
      have hcz := har.cell (j := (placesM n k).getD i 0) (by rw [spread_length]; exact hpl)
      have hkept' := hkept.setCell (p := ⟨w.heap.size, (placesM n k).getD i 0, none⟩) (by simp) (.int .u8 (b.getD i 0))
      clear hc1 hc2 HSP har hkept
      generalize (placesM n k).getD i 0 = p at *
      generalize b.getD i 0 = y at *
      generalize (spreadM n (placesM n k) b i).getD p 0 = z at *
      have hpp : (p : Int) < (n : Int) := by omega
      go_wp2_with fail
      go_region
      all_goals
        go_wp2
        go_roundw
        case rel => exact ⟨i + 1, by omega, by go_num, hset, hkept'.drew⟩
        case measure => simp [intOf]; omega
    · obtain rfl : i = k := by omega
      have HRS := hid (spread_length n (placesM n i) b i)
      have hrd : Rd .u8 wr (some ⟨w.heap.size, 0, none⟩) (spreadM n (placesM n i) b i) := by
        have h0 := ArrAt.rd (A := []) (Z := []) (x := spreadM n (placesM n i) b i) (o := 0) (by simpa using har) rfl
        exact h0
      go_wp2_with fail
      refine (rturn_any m _ _ n n _ hrd HRS.out HN.out h5 (Nat.le_refl _) hbb).mono ?_
      rintro e w3 ⟨v3, rfl, ho3, hb3⟩
      go_wp2
      go_ret
      exact ⟨_, rfl, ho3.mono hbel.size, hbel.trans (hb3.mono hbel.size)⟩
end Go.Proofs.YtfbjedcfppghgabDoor
