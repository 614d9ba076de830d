import Derived.Test.YtiiobeelmnjffabDoorDecode
import Derived.Test.YtiiobeelmnjffabDoorGood
import Derived.Test.YtiiobeelmnjffabDoorFrame
namespace Go.Proofs.YtiiobeelmnjffabDoor
open Go.ChangeShapes Go.WideShapes Go.ChangeAt Go.RowKit

theorem AllBits.at {D : List Int} (h : AllBits D) (k : Nat) : 0 ≤ D.getD k 0 ∧ D.getD k 0 ≤ 1 := by
  by_cases hk : k < D.length
  · have e : D.getD k 0 = D[k] := by simp [List.getD, hk]
    rw [e]
    exact h _ (List.getElem_mem hk)
  · have : D.getD k 0 = 0 := by simp [List.getD, Nat.le_of_not_lt hk]
    rw [this]; omega
theorem AllBits.bits {D : List Int} (h : AllBits D) : Bits D := h.at
theorem AllBits.bytes {D : List Int} (h : AllBits D) : Bytes D := fun x hx => by have := h x hx; omega
theorem AllBits.enc {D : List Int} (h : AllBits D) (hl : D.length ≤ 400) : encErr D = 0 := by
  have h0 : errOf D = 0 := err_none (fun j _ => (h.at j).2) (by omega)
  unfold encErr
  rw [if_pos h0, if_neg (by omega)]
theorem AllBits.score {D l : List Int} (h : AllBits D) (hl : D.length ≤ 400) (hs : softErr l = 0) (hlen : l.length = 3 * (D.length + 6)) : scoreErr D l = 0 ∧ scoreV D l = sc l 0 0 (D ++ zeros6) := by
  have he : scoreErr D l = 0 := by unfold scoreErr; rw [if_pos (h.enc hl), if_pos hs, if_pos hlen]
  refine ⟨he, ?_⟩
  unfold scoreV
  rw [if_pos he, score_sc h.bits]
theorem bits_all {zs : List Int} (h : Bits zs) : AllBits zs := fun x hx => by
  obtain ⟨k, hk, rfl⟩ := List.getElem_of_mem hx
  have := h k
  have e : zs.getD k 0 = zs[k] := by simp [List.getD, hk]
  rw [e] at this
  exact this
theorem AllBits.pad {zs : List Int} (h : AllBits zs) (k : Nat) : AllBits (zs ++ List.replicate k 0) := fun x hx => by
  rcases List.mem_append.1 hx with h1 | h1
  · exact h x h1
  · have := (List.mem_replicate.1 h1).2
    omega
def sliceLen : Value → Nat
  | .slice _ n _ => n
  | _ => 0
set_option maxHeartbeats 1000000 in
theorem law_best_bad (l zs : List Int) (a b : Option Addr) (c cb : Nat) (w : World) (ha : Rd .i64 w a l) (hl : l.length ≤ maxLen) (h : ¬ decOk l) :
    Calls Tryd.prog 5 #[.slice a l.length c, .slice b zs.length cb] w fun e w' => e = .returned (.bool true) ∧ Below w.heap.size w w' := by
  have HLM := hid hl
  unfold maxLen at hl
  go_enter Tryd.func5, Tryd.ntmps5
  go_wp2_with (go_at_call 14; refine (decode_bad l a c _ ha HLM.out h).mono ?_; rintro e w1 ⟨v, rfl, hown, hbel⟩; obtain ⟨a2, c2, rfl, _, _, _⟩ := hown.shape)
  go_ret
  exact ⟨by simp, hbel⟩

set_option maxHeartbeats 1000000 in
theorem law_best_good (l zs : List Int) (n : Nat) (a b : Option Addr) (c cb : Nat) (w : World) (ha : Rd .i64 w a l) (hb : Rd .u8 w b zs) (hz : zs.length ≤ maxLen) (hy : Bytes zs) (hl : l.length = 3 * (n + 6)) (hn : n ≤ 400) (hs : softErr l = 0) (hcap : l.length ≤ c) (hT : Taps w) :
    Calls Tryd.prog 5 #[.slice a l.length c, .slice b zs.length cb] w fun e w' => e = .returned (.bool true) ∧ Below w.heap.size w w' := by
  have hwb := way_best l n 0 0
  have hwl := hwb.len
  have hwt := way_top l n 0 0
  obtain ⟨s1, s2⟩ := hwb.bits.score (l := l) (by omega) hs (by omega)
  rw [hwt] at s2
  have HB := hid hwb
  have HS1 := hid s1
  have HS2 := hid s2
  have HWT := hid hwt
  have HL := hid hl
  have HSO := hid hs
  have HCAP := hid hcap
  have HZ := hid hz
  have hq : ((l.length : Nat) : Int).tdiv 3 = (n : Int) + 6 := by rw [Int.tdiv_eq_ediv_of_nonneg (by omega)]; omega
  have HLM := hid (show l.length ≤ maxLen by unfold maxLen; omega)
  have hlb : l.length ≤ 1218 := by omega
  have hgl := goodTo_length zs n
  have hgb := hid (bits_all (goodTo_bits zs n))
  have HWL := hid hwl
  generalize hD : way l n 0 0 = D at *
  generalize hGd : goodTo zs n = G at *
  clear hwb s1 s2 hwt hl hs hcap hz
  have hwl' : ((D.length : Nat) : Int) = (n : Int) := by omega
  have hne : ((D.length : Int) != (n : Int)) = false := by simp [hwl]
  have hGl : G.length ≤ n := by rw [hgl]; exact Nat.min_le_left _ _
  clear hgl hwl
  go_enter Tryd.func5, Tryd.ntmps5
  go_wp2_with (first
    | (go_at_call 14; refine (decode_good l n a c _ ha HL.out hn HSO.out HCAP.out hT).mono ?_; rintro e w1 ⟨v, rfl, hown1, hbel1⟩; rw [hD] at hown1; obtain ⟨a2, c2, rfl, _, _, _⟩ := hown1.shape; have hT1 := hT.below hbel1)
    | (go_at_call 8; refine (score_any D l a2 a c2 c _ hown1.rd (by rw [HWL.out]; unfold maxLen; omega) HB.out.bits.bytes (ha.below hbel1) HLM.out hT1).mono ?_; rintro e w2 ⟨rfl, hbel2⟩; rw [HS1.out, HS2.out]; have hb2 := bthen hbel1 hbel2; have hown2 := hown1.below hbel2))
  refine (good_any zs n b cb _ (hb.below hb2) HZ.out hy (by omega)).mono ?_
  rintro e w3 ⟨v3, rfl, hown3, hbel3⟩
  rw [hGd] at hown3
  clear hown1 hbel1 hbel2 hT1
  go_wp2_with fail
  go_loopw [10] (fun v wr => ∃ k : Nat, G.length + k ≤ n ∧ Own wr w2.heap.size v (G ++ List.replicate k 0) ∧ Below w2.heap.size w2 wr) (fun v _ => n - sliceLen v)
  case atStart => exact ⟨0, by omega, by simpa using hown3, hbel3⟩
  case round =>
    clear hown3 hbel3
    obtain ⟨k, hk, hown, hbel⟩ := hrel
    have hOl : (G ++ List.replicate k 0).length = G.length + k := by simp
    obtain ⟨a4, c4, rfl, _, _, _⟩ := hown.shape
    by_cases hlt : G.length + k < n
    · rw [hOl] at hown ⊢
      have dl : decide ((G.length : Int) + (k : Int) < (n : Int)) = true := decide_eq_true (by omega)
      have HOL := hid hOl
      clear hOl
      go_wp2_with (first | (at_builtin; refine wpList_push w2.heap.size w2 0 hown rfl _ _ rfl rfl rfl (by rw [HOL.out]; omega) hbel hbel.size ?_))
      intro v' w4 hown' hbel'
      rw [show G ++ (List.replicate k 0 ++ [0]) = G ++ List.replicate (k + 1) 0 by rw [List.replicate_succ']] at hown'
      clear hown hbel
      obtain ⟨a5, c5, hv5, _, _, _⟩ := hown'.shape
      have HV5 := hid hv5
      clear hv5
      go_wp2
      go_roundw
      case rel => exact ⟨k + 1, by omega, hown', hbel'⟩
      case measure =>
        rw [HV5.out]
        simp [sliceLen]
        omega
    · have hkk : G.length + k = n := by omega
      have hAO : AllBits (G ++ List.replicate k 0) := hgb.out.pad k
      generalize hO : G ++ List.replicate k 0 = O at *
      have hOl' : O.length = n := by omega
      obtain ⟨t1, t2⟩ := hAO.score (l := l) (by omega) HSO.out (by rw [HL.out]; omega)
      have hmost := HB.out.most O hOl' hAO
      have HT1 := hid t1
      have HT2 := hid t2
      have HAO := hid hAO
      have HOL := hid hOl'
      have hb4 := bthen hb2 hbel
      have hownD4 := hown2.below hbel
      have hT4 := hT.below hb4
      have ha4 := ha.below hb4
      have hge : n ≤ O.length := by omega
      have hle : O.length ≤ n := by omega
      rw [HWT.out] at hmost
      clear t1 t2 hAO hO hkk hOl hOl' hlt hk
      rcases hmost with hm | ⟨hm, hah⟩
      · have dm : decide (sc l 0 0 (O ++ zeros6) < top l n 0 0) = true := decide_eq_true hm
        clear hm
        generalize sc l 0 0 (O ++ zeros6) = M at *
        generalize top l n 0 0 = N at *
        go_wp2_with (first
          | (go_at_call 8; refine (score_any O l a4 a c4 c _ hown.rd (by rw [HOL.out]; unfold maxLen; omega) HAO.out.bytes ha4 HLM.out hT4).mono ?_; rintro e w5 ⟨rfl, hbel5⟩; rw [HT1.out, HT2.out]; have hb5 := bthen hb4 hbel5; have hownO5 := hown.below hbel5; have hownD5 := hownD4.below hbel5))
        go_ret
        exact ⟨by simp, hb5⟩
      · have dm : decide (sc l 0 0 (O ++ zeros6) < top l n 0 0) = false := decide_eq_false (by omega)
        have de : (sc l 0 0 (O ++ zeros6) == top l n 0 0) = true := by simpa using hm
        have HAH := hid hah
        have HFX := hid (show D.length = O.length by rw [HOL.out, HWL.out])
        clear hm hah
        generalize sc l 0 0 (O ++ zeros6) = M at *
        generalize top l n 0 0 = N at *
        go_wp2_with (first
          | (go_at_call 8; refine (score_any O l a4 a c4 c _ hown.rd (by rw [HOL.out]; unfold maxLen; omega) HAO.out.bytes ha4 HLM.out hT4).mono ?_; rintro e w5 ⟨rfl, hbel5⟩; rw [HT1.out, HT2.out]; have hb5 := bthen hb4 hbel5; have hownO5 := hown.below hbel5; have hownD5 := hownD4.below hbel5)
          | (go_at_call 17; rw [HFX.out]; refine (rahead_any O D a4 a2 c4 c2 _ hownO5.rd hownD5.rd (by rw [HOL.out]; unfold maxLen; omega) (by rw [HOL.out, HWL.out])).mono ?_; rintro e w6 ⟨rfl, hbel6⟩; rw [HAH.out]; have hb6 := bthen hb5 hbel6))
        go_ret
        exact ⟨by simp, hb6⟩

theorem law_best (l zs : List Int) (a b : Option Addr) (c cb : Nat) (w : World) (ha : Rd .i64 w a l) (hl : l.length ≤ maxLen) (hcap : l.length ≤ c) (hb : Rd .u8 w b zs) (hz : zs.length ≤ maxLen) (hy : Bytes zs) (hT : Taps w) :
    Calls Tryd.prog 5 #[.slice a l.length c, .slice b zs.length cb] w fun e w' => e = .returned (.bool true) ∧ Below w.heap.size w w' := by
  by_cases h : decOk l
  · obtain ⟨n, h1, h2⟩ := decOk_len h
    exact law_best_good l zs n a b c cb w ha hb hz hy h1 h2 h.1 hcap hT
  · exact law_best_bad l zs a b c cb w ha hl h
end Go.Proofs.YtiiobeelmnjffabDoor
