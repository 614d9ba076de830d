import Derived.Test.YtdjodmhhmjhmgaeDoorMjD
import Derived.Deep.RegionLaw
namespace Go.Proofs.YtdjodmhhmjhmgaeDoor
open Go.ChangeShapes Go.WideShapes Go.ChangeAt Go.RowKit

/-! THE DOCUMENT'S Split. -/

set_option maxHeartbeats 1000000 in
theorem rsplit_large (s : ByteArray) (w : World) (hs : 65535 < s.size) :
    Calls Tryd.prog 21 #[.string s] w fun e w' => e = .returned (.tuple #[.slice none 0 0, .int .i64 3]) ∧ w = w' := by
  have d1 : decide ((65535 : Int) < (s.size : Int)) = true := decide_eq_true (by omega)
  go_enter Tryd.func21, Tryd.ntmps21
  go_wp2
  go_ret2
  exact ⟨rfl, rfl⟩

theorem textNe {a b : ByteArray} (h : a ≠ b) : (a.toList == b.toList) = false := by
  rw [ByteArray.toList_eq, ByteArray.toList_eq]
  cases hq : (a.data.toList == b.data.toList) with
  | false => rfl
  | true => exact absurd (WideShapes.bytes_inj (by simpa using hq)) h
theorem parse_stop {s : ByteArray} {f p : Nat} (hf : 0 < f) (h : ¬ (p < s.size ∧ byteN s p ≠ 63)) : parseM s f p = some [] := by
  obtain ⟨g, rfl⟩ : ∃ g, f = g + 1 := ⟨f - 1, by omega⟩
  unfold parseM
  rw [if_neg h]
theorem parse_short {s : ByteArray} {f p : Nat} (hf : 0 < f) (h : p < s.size ∧ byteN s p ≠ 63) (h2 : s.size < p + 3 ∨ s.size < p + 3 + partN s p) : parseM s f p = none := by
  obtain ⟨g, rfl⟩ : ∃ g, f = g + 1 := ⟨f - 1, by omega⟩
  unfold parseM
  rw [if_pos h]
  by_cases h3 : s.size < p + 3
  · rw [if_pos h3]
  · rw [if_neg h3, if_pos (by omega)]
theorem parse_step {s : ByteArray} {f p : Nat} (h : p < s.size ∧ byteN s p ≠ 63) (h2 : p + 3 + partN s p ≤ s.size) : parseM s (f + 1) p = (parseM s f (p + 3 + partN s p)).map (partI s p :: ·) := by
  show (if p < s.size ∧ byteN s p ≠ 63 then _ else _) = _
  rw [if_pos h, if_neg (by omega), if_neg (by omega)]

set_option maxRecDepth 100000 in
set_option maxHeartbeats 4000000 in
theorem rsplit_good (s : ByteArray) (w : World) (hs : s.size ≤ 65535) :
    Calls Tryd.prog 21 #[.string s] w fun e w' => (splitM s = none ∧ e = .returned (.tuple #[.slice none 0 0, .int .i64 3]) ∨ ∃ l a c, splitM s = some l ∧ e = .returned (.tuple #[.slice a l.length c, .int .i64 0]) ∧ Itms w' a l) ∧ Below w.heap.size w w' := by
  have d1 : decide ((65535 : Int) < (s.size : Int)) = false := decide_eq_false (by omega)
  have HS0 : Hid (parseM s (s.size + 1) 0 = none → splitM s = none) := fun h => by
    unfold splitM
    rw [if_neg (by omega), h]
  have HS1 : Hid (∀ l, parseM s (s.size + 1) 0 = some l → splitM s = if (joinM l (s.size : Int)).err = 0 ∧ (joinM l (s.size : Int)).text = s then some l else none) := fun l h => by
    unfold splitM
    rw [if_neg (by omega), h]
  go_enter Tryd.func21, Tryd.ntmps21
  go_wp2_with fail
  go_loopw [4, 5] (fun v i wr => ∃ (p f : Nat) (pre : List ItemM), p ≤ s.size ∧ s.size < p + f ∧ i = .int .i64 p ∧ OwnIt wr w.heap.size v pre ∧ Hid (parseM s (s.size + 1) 0 = (parseM s f p).map (pre ++ ·)) ∧ (itemsB pre).length ≤ p ∧ pre.length ≤ p ∧ Below w.heap.size w wr) (fun _ i _ => s.size - (intOf i).toNat)
  case atStart => exact ⟨0, s.size + 1, [], by omega, by omega, rfl, OwnIt.nil w _, (by show _ = _; cases parseM s (s.size + 1) 0 <;> rfl), by simp [itemsB], by simp, Below.refl _ w⟩
  case round =>
    obtain ⟨p, f, pre, hp, hf, rfl, ho, HP, hlb, hlp, hb⟩ := hrel
    by_cases hlt : p < s.size
    · have hN := byteN_eq s p hlt
      obtain ⟨B0, eB0⟩ : ∃ B0, s[p].toNat = B0 := ⟨_, rfl⟩
      rw [eB0] at hN
      have hB0 := byteN_lt s p
      by_cases h63 : byteN s p = 63
      · have x63 : ((B0 : Int) != 63) = false := by simp; omega
        have hpa : parseM s (s.size + 1) 0 = some pre := by
          rw [HP.out, parse_stop (by omega) (fun h => h.2 h63)]
          simp
        have hsp := HS1.out pre hpa
        obtain ⟨a4, c4, rfl, h1c, h2c⟩ := OwnIt.shape ho
        have hj := fun wz hz => rjoin_any pre (s.size : Int) a4 pre.length c4 wz hz rfl (Nat.le_trans h1c h2c) (by omega)
        have hit := ho.itms
        obtain ⟨J, eJ⟩ : ∃ J, J = joinM pre (s.size : Int) := ⟨_, rfl⟩
        rw [← eJ] at hj hsp
        obtain ⟨jt, je⟩ := J
        dsimp only at hj hsp
        have HSP := hid hsp
        clear hsp hpa eJ HS0 HS1 HP
        by_cases he : je = 0
        · subst he
          by_cases hts : jt = s
          · subst hts
            have HR := hid (HSP.out.trans (if_pos ⟨rfl, rfl⟩))
            go_wp2_with (go_at_call 19; refine (hj _ hit).mono ?_; rintro e w5 ⟨rfl, hb5⟩)
            go_ret2
            refine ⟨.inr ⟨pre, a4, c4, HR.out, rfl, (ho.below hb5).itms⟩, hb.trans (hb5.mono hb.size)⟩
          · have HR := hid (HSP.out.trans (if_neg (fun h => hts h.2)))
            have xt : (jt.toList == s.toList) = false := textNe hts
            go_wp2_with (go_at_call 19; refine (hj _ hit).mono ?_; rintro e w5 ⟨rfl, hb5⟩)
            go_ret2
            exact ⟨.inl ⟨HR.out, rfl⟩, hb.trans (hb5.mono hb.size)⟩
        · have HR := hid (HSP.out.trans (if_neg (fun h => he h.1)))
          have xe : (je != 0) = true := by simpa using he
          go_wp2_with (go_at_call 19; refine (hj _ hit).mono ?_; rintro e w5 ⟨rfl, hb5⟩)
          go_ret2
          exact ⟨.inl ⟨HR.out, rfl⟩, hb.trans (hb5.mono hb.size)⟩
      · have x63 : ((B0 : Int) != 63) = true := by simp; omega
        have hcnd : p < s.size ∧ byteN s p ≠ 63 := ⟨hlt, h63⟩
        by_cases hs3 : s.size < p + 3
        · have y3 : decide ((s.size : Int) < (p : Int) + 3) = true := decide_eq_true (by omega)
          have HR := hid (HS0.out (by rw [HP.out, parse_short (by omega) hcnd (.inl hs3)]; rfl))
          clear HS0 HS1 HP
          go_wp2_with fail
          go_ret2
          exact ⟨.inl ⟨HR.out, rfl⟩, hb⟩
        · have y3 : decide ((s.size : Int) < (p : Int) + 3) = false := decide_eq_false (by omega)
          have g1 : p + 1 < s.size := by omega
          have g2 : p + 2 < s.size := by omega
          obtain ⟨B1, eB1⟩ : ∃ B1, s[p + 1].toNat = B1 := ⟨_, rfl⟩
          obtain ⟨B2, eB2⟩ : ∃ B2, s[p + 2].toNat = B2 := ⟨_, rfl⟩
          have hN1 := byteN_eq s (p + 1) g1
          have hN2 := byteN_eq s (p + 2) g2
          rw [eB1] at hN1
          rw [eB2] at hN2
          have hB1 := byteN_lt s (p + 1)
          have hB2 := byteN_lt s (p + 2)
          have gi1 : (p : Int) + 1 < (s.size : Int) := by omega
          have gi2 : (p : Int) + 2 < (s.size : Int) := by omega
          have gn1 : (0 : Int) ≤ (p : Int) + 1 := by omega
          have gn2 : (0 : Int) ≤ (p : Int) + 2 := by omega
          have hpn : partN s p = 256 * B1 + B2 := by unfold partN; rw [hN1, hN2]
          go_upto_region 8 with fail
          go_region
          go_upto_region 9 with fail
          obtain ⟨n, en⟩ : ∃ n, n = 256 * B1 + B2 := ⟨_, rfl⟩
          have en2 : 256 * (B1 : Int) + (B2 : Int) = (n : Int) := by omega
          rw [en2]
          rw [← en] at hpn
          have hn : n < 65536 := by omega
          have ho := ho.drew
          have hb := hb.drew
          clear hN1 hN2 en2 en
          generalize wr.drew = wx at *
          by_cases hs4 : s.size < p + 3 + n
          · have y4 : decide ((s.size : Int) < (p : Int) + 3 + (n : Int)) = true := decide_eq_true (by omega)
            have HR := hid (HS0.out (by rw [HP.out, parse_short (by omega) hcnd (.inr (by rw [hpn]; exact hs4))]; rfl))
            clear HS0 HS1 HP
            go_wp2_with fail
            go_ret2
            exact ⟨.inl ⟨HR.out, rfl⟩, hb⟩
          · have y4 : decide ((s.size : Int) < (p : Int) + 3 + (n : Int)) = false := decide_eq_false (by omega)
            have HLN : Hid (pre.length < 1000000) := by show _ < _; omega
            have gs1 : (p : Int) + 3 ≤ (p : Int) + 3 + (n : Int) := by omega
            have gs2 : (p : Int) + 3 + (n : Int) ≤ (s.size : Int) := by omega
            have gs0 : (0 : Int) ≤ (p : Int) + 3 := by omega
            have gs3 : (0 : Int) ≤ (p : Int) + 3 + (n : Int) := by omega
            have hw0 : IntKind.i64.wrap (B0 : Int) = (B0 : Int) := by rw [IntKind.wrap_i64]; omega
            have hw1 : IntKind.i64.wrap ((p : Int) + 3) = (p : Int) + 3 := by rw [IntKind.wrap_i64]; omega
            have hw2 : IntKind.i64.wrap ((p : Int) + 3 + (n : Int)) = (p : Int) + 3 + (n : Int) := by rw [IntKind.wrap_i64]; omega
            have ht1 : ((p : Int) + 3).toNat = p + 3 := by omega
            have ht2 : ((p : Int) + 3 + (n : Int)).toNat = p + 3 + n := by omega
            go_upto_region 11 with fail
            go_region_law (refine step_pushIt w.heap.size w wx.heap.size ⟨(B0 : Int), s.extract (p + 3) (p + 3 + n)⟩ (show OwnIt (wx.alloc (.cells #[.int .i64 (B0 : Int), .string (s.extract (p + 3) (p + 3 + n))] 80)).drew _ _ _ from World.ownsRow.alloc ho _) rfl (.tmp 46) (.tmp 60) rfl rfl rfl (by rw [World.cell?_drew, cell_of_row _ _ _ _ _ _ (heap_alloc_new wx _)]; rfl) (by rw [World.cell?_drew, cell_of_row _ _ _ _ _ _ (heap_alloc_new wx _)]; rfl) HLN.out (hb.alloc hb.size _).drew (by simp; have := hb.size; omega) ?_; intro v3 w3 ho3 hb3)
            all_goals
              have HPS := hid (show partI s p = ⟨(B0 : Int), s.extract (p + 3) (p + 3 + n)⟩ by unfold partI; rw [hpn, hN])
              obtain ⟨f', rfl⟩ : ∃ f', f = f' + 1 := ⟨f - 1, by omega⟩
              have hnew : parseM s (s.size + 1) 0 = (parseM s f' (p + 3 + n)).map ((pre ++ [⟨(B0 : Int), s.extract (p + 3) (p + 3 + n)⟩]) ++ ·) := by
                rw [HP.out, parse_step hcnd (by rw [hpn]; omega), hpn, HPS.out]
                cases parseM s f' (p + 3 + n) <;> simp
              have HNW := hid hnew
              have hil : (itemsB (pre ++ [⟨(B0 : Int), s.extract (p + 3) (p + 3 + n)⟩])).length ≤ p + 3 + n := by
                have e1 : itemsB (pre ++ [⟨(B0 : Int), s.extract (p + 3) (p + 3 + n)⟩]) = itemsB pre ++ ItemM.bytes ⟨(B0 : Int), s.extract (p + 3) (p + 3 + n)⟩ := by
                  unfold itemsB
                  rw [List.flatMap_append, List.flatMap_singleton]
                have e2 : (ItemM.bytes ⟨(B0 : Int), s.extract (p + 3) (p + 3 + n)⟩).length = 3 + (s.extract (p + 3) (p + 3 + n)).size := by
                  unfold ItemM.bytes
                  rw [List.length_append, bytesI_length]
                  rfl
                have e3 : (s.extract (p + 3) (p + 3 + n)).size ≤ n := by rw [ByteArray.size_extract]; omega
                rw [e1, List.length_append, e2]
                omega
              have HIL := hid hil
              clear hnew hil HP HS0 HS1
              go_wp2_with fail
              go_roundw
              case rel => exact ⟨p + 3 + n, f', pre ++ [⟨(B0 : Int), s.extract (p + 3) (p + 3 + n)⟩], by omega, by omega, by go_num, ho3, HNW, HIL.out, by simp; omega, hb3⟩
              case measure => simp [intOf]; omega
    · have xlt : decide (p < s.size) = false := decide_eq_false hlt
      have hpa : parseM s (s.size + 1) 0 = some pre := by
        rw [HP.out, parse_stop (by omega) (fun h => hlt h.1)]
        simp
      have hsp := HS1.out pre hpa
      obtain ⟨a4, c4, rfl, h1c, h2c⟩ := OwnIt.shape ho
      have hj := fun wz hz => rjoin_any pre (s.size : Int) a4 pre.length c4 wz hz rfl (Nat.le_trans h1c h2c) (by omega)
      have hit := ho.itms
      obtain ⟨J, eJ⟩ : ∃ J, J = joinM pre (s.size : Int) := ⟨_, rfl⟩
      rw [← eJ] at hj hsp
      obtain ⟨jt, je⟩ := J
      dsimp only at hj hsp
      have HSP := hid hsp
      clear hsp hpa eJ HS0 HS1 HP
      by_cases he : je = 0
      · subst he
        by_cases hts : jt = s
        · subst hts
          have HR := hid (HSP.out.trans (if_pos ⟨rfl, rfl⟩))
          go_wp2_with (go_at_call 19; refine (hj _ hit).mono ?_; rintro e w5 ⟨rfl, hb5⟩)
          go_ret2
          refine ⟨.inr ⟨pre, a4, c4, HR.out, rfl, (ho.below hb5).itms⟩, hb.trans (hb5.mono hb.size)⟩
        · have HR := hid (HSP.out.trans (if_neg (fun h => hts h.2)))
          have xt : (jt.toList == s.toList) = false := textNe hts
          go_wp2_with (go_at_call 19; refine (hj _ hit).mono ?_; rintro e w5 ⟨rfl, hb5⟩)
          go_ret2
          exact ⟨.inl ⟨HR.out, rfl⟩, hb.trans (hb5.mono hb.size)⟩
      · have HR := hid (HSP.out.trans (if_neg (fun h => he h.1)))
        have xe : (je != 0) = true := by simpa using he
        go_wp2_with (go_at_call 19; refine (hj _ hit).mono ?_; rintro e w5 ⟨rfl, hb5⟩)
        go_ret2
        exact ⟨.inl ⟨HR.out, rfl⟩, hb.trans (hb5.mono hb.size)⟩
end Go.Proofs.YtdjodmhhmjhmgaeDoor
