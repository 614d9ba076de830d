import Derived.Test.YtfbjedcfppghgacDoorProgB
namespace Go.Proofs.YtfbjedcfppghgacDoor
open Go.ChangeShapes Go.WideShapes Go.ChangeAt Go.RowKit

/-! THE PROGRAM'S Places and Encode. -/

def placesOk (n k : Int) : Bool := powI n && decide (0 ≤ k) && decide (k ≤ n)
theorem places_ok {n k : Int} (h : placesOk n k = true) : powI n = true ∧ 0 ≤ k ∧ k ≤ n := by
  unfold placesOk at h
  simpa [and_assoc] using h
theorem size_no {n : Int} (h : powI n = false) : sizeErr n = 1 := by unfold sizeErr; rw [h]; rfl
theorem size_yes {n : Int} (h : powI n = true) : sizeErr n = 0 := by unfold sizeErr; rw [h]; rfl

set_option maxHeartbeats 1000000 in
theorem pplaces_bad (n k : Int) (w : World) (hn : -9223372036854775808 ≤ n ∧ n ≤ 9223372036854775807) (h : placesOk n k = false) :
    Calls Tryd.prog 11 #[.int .i64 n, .int .i64 k] w fun e w' => e = .returned (.tuple #[.slice none 0 0, .int .i64 1]) ∧ w = w' := by
  have hsz := size_any n w hn
  cases hp : powI n with
  | false =>
    rw [size_no hp] at hsz
    clear h hp
    go_enter Tryd.func11, Tryd.ntmps11
    go_wp2_with (first | (go_at_call 15; refine hsz.mono ?_; rintro e w1 ⟨rfl, rfl⟩))
    go_ret2
    exact ⟨rfl, rfl⟩
  | true =>
    rw [size_yes hp] at hsz
    have hk : k < 0 ∨ (¬ k < 0 ∧ n < k) := by
      unfold placesOk at h
      rw [hp] at h
      simp at h
      omega
    clear h hp
    rcases hk with hk | ⟨hk, hk'⟩
    · go_enter Tryd.func11, Tryd.ntmps11
      go_wp2_with (first | (go_at_call 15; refine hsz.mono ?_; rintro e w1 ⟨rfl, rfl⟩))
      go_ret2
      exact ⟨rfl, rfl⟩
    · go_enter Tryd.func11, Tryd.ntmps11
      go_wp2_with (first | (go_at_call 15; refine hsz.mono ?_; rintro e w1 ⟨rfl, rfl⟩))
      go_ret2
      exact ⟨rfl, rfl⟩

set_option maxRecDepth 100000 in
set_option maxHeartbeats 2000000 in
theorem pplaces_any (m n k : Nat) (w : World) (hm : m ≤ 9) (hn : n = 2 ^ m) (hk : k ≤ n) (hW : Wor w) :
    Calls Tryd.prog 11 #[.int .i64 n, .int .i64 k] w fun e w' => ∃ g, e = .returned (.tuple #[.slice (some ⟨g, 0, none⟩) k k, .int .i64 0]) ∧ ArrAt .i64 3 w' g (ints (placesM n k)) ∧ w.heap.size ≤ g ∧ Below w.heap.size w w' := by
  have h5 : n ≤ 512 := by rw [hn]; exact Nat.pow_le_pow_right (by omega) hm
  have h1 : 1 ≤ n := by rw [hn]; exact Nat.one_le_two_pow
  have hsz := size_any n w (by omega)
  rw [size_yes (by rw [hn]; exact of_pow hm)] at hsz
  have hWl := hW.lt
  have hk0 : ¬ (k : Int) < 0 := by omega
  have hkn : ¬ (n : Int) < (k : Int) := by omega
  clear hn
  go_enter Tryd.func11, Tryd.ntmps11
  go_wp2_with (first
    | (go_at_call 15; refine hsz.mono ?_; rintro e w1 ⟨rfl, rfl⟩)
    | (refine wpList_makeInts w.heap.size w n rfl _ _ rfl _ _ rfl rfl rfl rfl (by omega) (Below.refl _ _) (Nat.le_refl _) ?_; intro w1 hown1 hbel1 hlt1 _hx1; obtain ⟨har1, -, -⟩ := hown1.arr; clear hown1))
  go_loopw [25] (fun q wr => ∃ i : Nat, i ≤ n ∧ q = .int .i64 i ∧ ArrAt .i64 3 wr w.heap.size (worthsTo n i) ∧ Kept [w.heap.size] w1 wr) (fun q _ => n - (intOf q).toNat)
  case atStart => exact ⟨0, Nat.zero_le _, rfl, by simpa [worthsTo] using har1, Kept.refl _ _⟩
  case round =>
    obtain ⟨i, hi, rfl, har, hkept⟩ := hrel
    have hbel := hbel1.trans (hkept.below (B := w.heap.size) (by omega) (by simp))
    by_cases hlt : i < n
    · have hset := har.set i (worthI i)
      rw [worthsTo_set hlt] at hset
      have hf := har.free i
      have hcz := har.cell (j := i) (by rw [worthsTo_length hi]; exact hlt)
      have hkept' := hkept.setCell (p := ⟨w.heap.size, i, none⟩) (by simp) (.int .i64 (worthI i))
      have hwo := worthOf_any i wr (by omega) (hW.below hbel hWl)
      generalize (worthsTo n i).getD i 0 = z at *
      generalize worthI i = y at *
      clear har hkept
      go_wp2_with (first | (go_at_call 16; refine hwo.mono ?_; rintro e w2 ⟨rfl, rfl⟩))
      go_roundw
      case rel => exact ⟨i + 1, by omega, by go_num, hset, hkept'⟩
      case measure => simp [intOf]; omega
    · obtain rfl : i = n := by omega
      have hbe := best_any i k w.heap.size wr h1 h5 hk har
      go_wp2_with fail
      refine hbe.mono ?_
      rintro e w2 ⟨g, rfl, har2, hg2, hb2⟩
      have hs := hkept.size
      go_wp2
      go_ret2
      exact ⟨g, rfl, har2, by omega, hbel.trans (hb2.mono hbel.size)⟩

def pencErr (b : List Int) (n : Int) : Int := if errOf b = 0 then (if placesOk n b.length then 0 else 1) else errOf b

set_option maxHeartbeats 1000000 in
theorem pencode_bad (b : List Int) (n : Int) (a : Option Addr) (c : Nat) (w : World) (ha : Rd .u8 w a b) (hz : b.length ≤ maxLen) (hn : -9223372036854775808 ≤ n ∧ n ≤ 9223372036854775807) (hE : pencErr b n ≠ 0) :
    Calls Tryd.prog 5 #[.slice a b.length c, .int .i64 n] w fun e w' => e = .returned (.tuple #[.slice none 0 0, .int .i64 (pencErr b n)]) ∧ w = w' := by
  by_cases h0 : errOf b = 0
  · have hp : placesOk n b.length = false := by
      cases hp : placesOk n b.length with
      | false => rfl
      | true => unfold pencErr at hE; rw [if_pos h0, hp] at hE; exact absurd rfl hE
    have hT : pencErr b n = 1 := by unfold pencErr; rw [if_pos h0, hp]; rfl
    rw [hT]
    have hbad := pplaces_bad n b.length w hn hp
    have hck := check_any b a c w ha hz
    rw [h0] at hck
    clear hE hT hp h0
    go_enter Tryd.func5, Tryd.ntmps5
    go_wp2_with (first | (go_at_call 10; refine hck.mono ?_; rintro e w1 ⟨rfl, rfl⟩) | (go_at_call 11; refine hbad.mono ?_; rintro e w1 ⟨rfl, rfl⟩))
    go_ret2
    exact ⟨rfl, rfl⟩
  · have hT : pencErr b n = errOf b := by unfold pencErr; rw [if_neg h0]
    rw [hT]
    have hne : (errOf b != 0) = true := by simpa using h0
    have hck := check_any b a c w ha hz
    generalize errOf b = x at *
    clear hE hT h0
    go_enter Tryd.func5, Tryd.ntmps5
    go_wp2_with (first | (go_at_call 10; refine hck.mono ?_; rintro e w1 ⟨rfl, rfl⟩))
    go_ret2
    exact ⟨rfl, rfl⟩

set_option maxRecDepth 100000 in
set_option maxHeartbeats 2000000 in
theorem pencode_any (m : Nat) (b : List Int) (a : Option Addr) (n k c : Nat) (w : World) (ha : Rd .u8 w a b) (hb : AllBits b) (hl : b.length = k) (hm : m ≤ 9) (hn : n = 2 ^ m) (hk : k ≤ n) (hW : Wor w) :
    Calls Tryd.prog 5 #[.slice a k c, .int .i64 n] w fun e w' => ∃ g, e = .returned (.tuple #[.slice (some ⟨g, 0, none⟩) n n, .int .i64 0]) ∧ Own w' w.heap.size (.slice (some ⟨g, 0, none⟩) n n) (turnM m (spreadM n (placesM n k) b k)) ∧ Below w.heap.size w w' := by
  have h5 : n ≤ 512 := by rw [hn]; exact Nat.pow_le_pow_right (by omega) hm
  have hck := check_any b a c w ha (by unfold maxLen; omega)
  rw [hl, err_none (fun j _ => (hb.at j).2) (by omega)] at hck
  have hpl := pplaces_any m n k w hm hn hk hW
  have HL := hid hl
  have HN := hid hn
  have HPI := hid ((ints_length (placesM n k)).trans (places_length hk))
  have hbb := spread_bits n (placesM n k) b hb.at k
  have HSL := hid (spread_length n (placesM n k) b k)
  clear hl hn
  go_enter Tryd.func5, Tryd.ntmps5
  go_wp2_with (first
    | (go_at_call 10; refine hck.mono ?_; rintro e w1 ⟨rfl, rfl⟩)
    | fail)
  refine hpl.mono ?_
  rintro e w1 ⟨gp, rfl, harP, hgp, hbel1⟩
  have hs1 := hbel1.size
  have hgpl := harP.lt
  go_wp2_with (first
    | (refine wpList_makeBytes w1.heap.size w1 n rfl _ _ rfl _ _ rfl rfl rfl rfl (by omega) (Below.refl _ _) (Nat.le_refl _) ?_; intro w2 hown2 hbel2 hlt2; obtain ⟨har2, -, -⟩ := hown2.arr; clear hown2))
  have harP2 := harP.below hbel2 hgpl
  go_loopw [31] (fun q wr => ∃ i : Nat, i ≤ k ∧ q = .int .i64 i ∧ ArrAt .u8 5 wr w1.heap.size (spreadM n (placesM n k) b i) ∧ Kept [w1.heap.size] w2 wr) (fun q _ => k - (intOf q).toNat)
  case atStart => exact ⟨0, Nat.zero_le _, rfl, har2, Kept.refl _ _⟩
  case round =>
    obtain ⟨i, hi, rfl, har, hkept⟩ := hrel
    have hbel := (hbel1.trans (hbel2.mono hs1)).trans (hkept.below (B := w.heap.size) (by omega) (by simp; omega))
    by_cases hlt : i < k
    · obtain ⟨b1, o1, rfl, hc1⟩ := (ha.below hbel).at (i := i) (by rw [HL.out]; exact hlt)
      have g1 := hc1 i (by rw [HL.out]; exact hlt)
      have g2 := (harP2.kept hkept (by simp; omega)).cell (j := i) (by rw [HPI.out]; exact hlt)
      rw [ints_at] at g2
      have hpl' := places_at hk hlt
      have hset := har.set ((placesM n k).getD i 0) (b.getD i 0)
      have HSP := hid (show (spreadM n (placesM n k) b i).set ((placesM n k).getD i 0) (b.getD i 0) = spreadM n (placesM n k) b (i + 1) from rfl)
      rw [HSP.out] at hset
      have hf := har.free ((placesM n k).getD i 0)
      have hcz := har.cell (j := (placesM n k).getD i 0) (by rw [spread_length]; exact hpl')
      have hkept' := hkept.setCell (p := ⟨w1.heap.size, (placesM n k).getD i 0, none⟩) (by simp) (.int .u8 (b.getD i 0))
      clear hc1 HSP har hkept
      generalize (placesM n k).getD i 0 = p at *
      generalize b.getD i 0 = y at *
      generalize (spreadM n (placesM n k) b i).getD p 0 = z at *
      have hpp : (p : Int) < (n : Int) := by omega
      go_wp2
      go_roundw
      case rel => exact ⟨i + 1, by omega, by go_num, hset, hkept'⟩
      case measure => simp [intOf]; omega
    · obtain rfl : i = k := by omega
      have hs := hkept.size
      have hT := turn_in m [] (spreadM n (placesM n i) b i) [] w1.heap.size 0 n n wr (by simpa using har) rfl HSL.out HN.out h5 (Nat.le_refl _) hbb
      go_wp2_with fail
      refine hT.mono ?_
      rintro e w3 ⟨rfl, har3, hk3⟩
      rw [List.nil_append, List.append_nil] at har3
      go_wp2
      go_ret2
      refine ⟨_, rfl, own_of_arr har3 (by omega) ?_ (by unfold maxLen; omega), hbel.trans (hk3.below (by omega) (by simp; omega))⟩
      rw [turn_length m _ (HSL.out.trans HN.out)]
      exact HN.out.symm
end Go.Proofs.YtfbjedcfppghgacDoor
