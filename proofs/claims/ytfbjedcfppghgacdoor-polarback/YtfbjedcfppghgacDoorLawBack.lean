import Derived.Test.YtfbjedcfppghgacDoorProgD
import Derived.Test.YtfbjedcfppghgacDoorSameB
import Derived.Test.YtfbjedcfppghgacDoorFrame
import Derived.Test.YtfbjedcfppghgacDoorGood
import Derived.Test.YtfbjedcfppghgacDoorHeard
namespace Go.Proofs.YtfbjedcfppghgacDoor
open Go.ChangeShapes Go.WideShapes Go.ChangeAt Go.RowKit

/-! THE LAW PolarBack. -/

theorem signs_of : ∀ (l c : List Int), l.length = c.length → (∀ i, i < c.length → (c.getD i 0 = 0 → 0 < l.getD i 0) ∧ (c.getD i 0 = 1 → l.getD i 0 < 0)) → Signs l c
  | [], [], _, _ => trivial
  | [], _ :: _, h, _ => by simp at h
  | _ :: _, [], h, _ => by simp at h
  | x :: l, y :: c, h, hi => by
    have h0 := hi 0 (by simp)
    refine ⟨h0.1, h0.2, signs_of l c (by simpa using h) fun i hlt => ?_⟩
    have := hi (i + 1) (by simp; omega)
    simpa using this
theorem heard_signs (cs ls : List Int) : Signs (heardTo cs ls cs.length) cs := by
  refine signs_of _ _ (heardTo_length _ _ _) fun i hi => ?_
  rw [heardTo_at cs ls cs.length i hi]
  have := loudAt_bd ls i
  unfold heardAt sgn
  constructor
  · intro h; rw [h, if_neg (by decide)]; omega
  · intro h; rw [h, if_pos rfl]; omega
theorem heard_soft (cs ls : List Int) : softOk (heardTo cs ls cs.length) = true := by
  unfold softOk
  rw [List.all_eq_true]
  intro x hx
  obtain ⟨i, hi, rfl⟩ := List.getElem_of_mem hx
  have hi' : i < cs.length := by rw [heardTo_length] at hi; exact hi
  have e : (heardTo cs ls cs.length)[i] = heardAt cs ls i := by
    have := heardTo_at cs ls cs.length i hi'
    rw [← this]
    simp [List.getD, hi]
  rw [e]
  have := loudAt_bd ls i
  unfold heardAt sgn
  split <;> simp <;> omega
/-- What is coded and heard with its signs is read as it was. -/
theorem polar_back (m : Nat) (b ls : List Int) (N k : Nat) (eN : N = 2 ^ m) (hb : AllBits b) (hl : b.length = k) (hk : k ≤ N) (cs : List Int) (ec : cs = turnM m (spreadM N (placesM N k) b k)) :
    readM (placesM N k) (decP m (heardTo cs ls cs.length) (openM N k)) = b := by
  have hP := places_length hk
  have hd : decP m (heardTo cs ls cs.length) (openM N k) = spreadM N (placesM N k) b k := by
    refine dec_back m _ _ _ ((spread_length N _ b k).trans eN) (spread_bits N _ b hb.at k) (fun j hj ho => ?_) (by rw [← ec]; exact heard_signs cs ls)
    have hjN : j < N := by omega
    rw [open_at hjN] at ho
    refine spread_zero N _ b j (fun hm => ?_) k (by omega)
    have := (List.mem_filter.1 hm).2
    rw [ho] at this
    cases this
  rw [hd]
  have := read_spread N (placesM N k) b (places_sorted N k) (fun x hx => places_lt hx) (hl.trans hP.symm)
  rw [hP] at this
  exact this

theorem sameB2 (xs ys : List Int) (n : Nat) (a b : Option Addr) (ca cb : Nat) (w : World) (ha : Rd .u8 w a xs) (hb : Rd .u8 w b ys) (hn : xs.length = n) (hl : ys.length = n) (hz : n ≤ 4096) (h : xs = ys) :
    Calls Tryd.prog 9 #[.slice a n ca, .slice b n cb] w fun e w' => e = .returned (.bool true) ∧ Below w.heap.size w w' := by
  have h1 := same_bits xs ys a b ca cb w ha hb (by unfold maxLen; omega) (by unfold maxLen; omega)
  rw [hn, hl, decide_eq_true h] at h1
  exact h1

set_option maxRecDepth 100000 in
set_option maxHeartbeats 2000000 in
theorem law_back (zs : List Int) (n : Int) (ls : List Int) (a s : Option Addr) (c cs : Nat) (w : World) (ha : Rd .u8 w a zs) (hz : zs.length ≤ maxLen) (hy : Bytes zs) (hn : -9223372036854775808 ≤ n ∧ n ≤ 9223372036854775807)
    (hs : Rd .i64 w s ls) (hlz : ls.length ≤ maxLen) (hW : Wor w) :
    Calls Tryd.prog 3 #[.slice a zs.length c, .int .i64 n, .slice s ls.length cs] w fun e w' => e = .returned (.bool true) ∧ Below w.heap.size w w' := by
  have hWl := hW.lt
  go_enter Tryd.func3, Tryd.ntmps3
  go_wp2_with fail
  refine (good_any zs 512 a c _ ha hz hy (by omega)).mono ?_
  rintro e w1 ⟨v1, rfl, hown1, hb1⟩
  obtain ⟨a1, c1, rfl, -, hl1, hm1⟩ := hown1.shape
  have hL1 : (goodTo zs 512).length ≤ 512 := by rw [goodTo_length]; omega
  have bG := bits_all (goodTo_bits zs 512)
  have rG := hown1.rd
  have hW1 := hW.below hb1 hWl
  unfold maxLen at hm1
  clear hown1 ha hz hy
  generalize goodTo zs 512 = G at *
  have hE0 : errOf G = 0 := err_none (fun j _ => (bG.at j).2) (by omega)
  cases hp : placesOk n G.length with
  | false =>
    have hE : pencErr G n = 1 := by unfold pencErr; rw [if_pos hE0, hp]; rfl
    have hen := pencode_bad G n a1 c1 w1 rG (by unfold maxLen; omega) hn (by rw [hE]; decide)
    rw [hE] at hen
    have hpw := rpower_any n w1
    have hor : powI n = false ∨ (powI n = true ∧ n < (G.length : Int)) := by
      cases hq : powI n with
      | false => exact .inl rfl
      | true =>
        unfold placesOk at hp
        rw [hq] at hp
        simp at hp
        exact .inr ⟨rfl, by omega⟩
    clear hp hE hE0 hW1
    rcases hor with hq | ⟨hq, hq'⟩
    · rw [hq] at hpw
      clear hq
      go_wp2_with (first | (go_at_call 5; refine hen.mono ?_; rintro e w2 ⟨rfl, rfl⟩) | (go_at_call 6; refine hpw.mono ?_; rintro e w2 ⟨rfl, rfl⟩))
      go_ret
      exact ⟨rfl, hb1⟩
    · rw [hq] at hpw
      clear hq
      go_wp2_with (first | (go_at_call 5; refine hen.mono ?_; rintro e w2 ⟨rfl, rfl⟩) | (go_at_call 6; refine hpw.mono ?_; rintro e w2 ⟨rfl, rfl⟩))
      go_ret
      exact ⟨rfl, hb1⟩
  | true =>
    obtain ⟨hpw, -, hle⟩ := places_ok hp
    obtain ⟨m, hm, en⟩ := pow_of hpw
    obtain ⟨N, eN⟩ : ∃ N, N = 2 ^ m := ⟨_, rfl⟩
    rw [← eN] at en
    subst en
    have hGN : G.length ≤ N := by omega
    have h5 : N ≤ 512 := by rw [eN]; exact Nat.pow_le_pow_right (by omega) hm
    have h1N : 1 ≤ N := by rw [eN]; exact Nat.one_le_two_pow
    have hen := pencode_any m G a1 N G.length c1 w1 rG bG rfl hm eN hGN hW1
    obtain ⟨C, eC⟩ : ∃ C, C = turnM m (spreadM N (placesM N G.length) G G.length) := ⟨_, rfl⟩
    have LC := hid (show C.length = N by rw [eC, turn_length m _ ((spread_length N _ G _).trans eN), eN])
    have HB := hid (polar_back m G ls N G.length eN bG rfl hGN C eC)
    rw [← eC] at hen
    have HN := hid eN
    have HHL := hid (heardTo_length C ls C.length)
    have HSO := hid (heard_soft C ls)
    clear eC eN hp hpw hle hE0
    go_wp2_with fail
    refine hen.mono ?_
    rintro e w2 ⟨g2, rfl, ho2, hb2⟩
    have hbw2 := bthen hb1 hb2
    have hhe := heard_any C ls (some ⟨g2, 0, none⟩) s N cs w2 ho2.rd (hs.below hbw2) (by rw [LC.out]; omega) hlz
    rw [LC.out] at hhe HSO HB HHL
    obtain ⟨S, eS⟩ : ∃ S, S = heardTo C ls N := ⟨_, rfl⟩
    rw [← eS] at hhe HSO HB HHL
    clear eS ho2 hen
    go_wp2_with fail
    refine hhe.mono ?_
    rintro e w3 ⟨v3, rfl, ho3, hb3⟩
    obtain ⟨a3, c3, rfl, hc3, hc3m, hr3, -⟩ := ho3.slice HHL.out
    have hbw3 := bthen hbw2 hb3
    obtain ⟨b1, o1, rfl, -⟩ := hr3.at (i := 0) (by rw [HHL.out]; omega)
    have hde := pdecode_any m S b1 o1 N G.length c3 w3 hr3 HHL.out hm HN.out hc3 hGN HSO.out (hW.below hbw3 hWl)
    rw [HB.out] at hde
    clear ho3 hhe hc3m
    go_wp2_with fail
    refine hde.mono ?_
    rintro e w4 ⟨g4, rfl, ho4, hb4⟩
    have hbw4 := bthen hbw3 hb4
    have hsm := sameB2 G G G.length (some ⟨g4, 0, none⟩) a1 G.length c1 w4 ho4.rd (rG.below (bthen (bthen hb2 hb3) hb4)) rfl rfl (by omega) rfl
    clear ho4 hde
    go_wp2_with fail
    refine hsm.mono ?_
    rintro e w5 ⟨rfl, hb5⟩
    go_wp2
    go_ret
    exact ⟨rfl, bthen hbw4 hb5⟩
end Go.Proofs.YtfbjedcfppghgacDoor
