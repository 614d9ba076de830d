import Derived.Test.YtiiobeelmnjffabDoorBackM
namespace Go.Proofs.YtiiobeelmnjffabDoor
open Go.ChangeShapes Go.WideShapes Go.ChangeAt Go.RowKit

theorem OwnI.below {w w' : World} {B : Nat} {v : Value} {L : List Int} (h : OwnI w B v L) (hb : Below w.heap.size w w') : OwnI w' B v L := by
  refine ⟨h.1, ?_⟩
  rcases h.2 with h' | ⟨g, cap, cur, h1, h2, h3, h4⟩
  · exact .inl h'
  · have hlt : g < w.heap.size := by
      rcases Nat.lt_or_ge g w.heap.size with hl | hl
      · exact hl
      · rw [Array.getElem?_eq_none hl] at h3; cases h3
    exact .inr ⟨g, cap, cur, h1, h2, (hb.block g hlt).trans h3, h4⟩

set_option maxHeartbeats 1000000 in
theorem law_back (zs ls : List Int) (a b : Option Addr) (c cb : Nat) (w : World) (ha : Rd .u8 w a zs) (hz : zs.length ≤ maxLen) (hy : Bytes zs) (hb : Rd .i64 w b ls) (hl : ls.length ≤ maxLen) (hT : Taps w) :
    Calls Tryd.prog 6 #[.slice a zs.length c, .slice b ls.length cb] w fun e w' => e = .returned (.bool true) ∧ Below w.heap.size w w' := by
  have HZ := hid hz
  have HLS := hid hl
  have hG := bits_all (goodTo_bits zs 400)
  have hGl : (goodTo zs 400).length ≤ 400 := by rw [goodTo_length]; exact Nat.min_le_left _ _
  generalize hGd : goodTo zs 400 = G at *
  have he := hG.enc hGl
  have hL : encL G = codedTo G (G.length + 6) := by unfold encL; rw [if_pos he]
  have hcl := codedTo_length G (G.length + 6)
  have hbk := back hG ls
  have hso := heard_soft (codedTo G (G.length + 6)) ls (3 * (G.length + 6))
  have hsl := heardTo_length (codedTo G (G.length + 6)) ls (3 * (G.length + 6))
  obtain ⟨s1, s2⟩ := hG.score hGl hso hsl
  have hwt := way_top (heardTo (codedTo G (G.length + 6)) ls (3 * (G.length + 6))) G.length 0 0
  rw [hbk] at hwt
  rw [hwt] at s2
  generalize hcs : codedTo G (G.length + 6) = cs at *
  have HX := hid (show heardTo cs ls cs.length = heardTo cs ls (3 * (G.length + 6)) by rw [hcl])
  generalize hsf : heardTo cs ls (3 * (G.length + 6)) = soft at *
  have HE := hid he
  have HB := hid hbk
  have HSO := hid hso
  have HSL := hid hsl
  have HS1 := hid s1
  have HS2 := hid s2
  have HG := hid hG
  have hcl5 : cs.length ≤ 1218 := by omega
  have hsl5 : soft.length ≤ 1218 := by omega
  clear he hbk hso hsl s1 s2 hwt hG hcl hz hl
  go_enter Tryd.func6, Tryd.ntmps6
  go_wp2_with (first
    | (go_at_call 16; refine (good_any zs 400 a c _ ha HZ.out hy (by omega)).mono ?_; rintro e w1 ⟨v1, rfl, hown1, hbel1⟩; rw [hGd] at hown1; obtain ⟨a1, c1, rfl, _, _, _⟩ := hown1.shape; have hT1 := hT.below hbel1)
    | (go_at_call 7; refine (encode_any G a1 c1 _ hown1.rd (by unfold maxLen; omega) HG.out.bytes hT1).mono ?_; rintro e w2 ⟨v2, rfl, hown2, hbel2⟩; rw [HE.out]; rw [hL] at hown2; obtain ⟨a2, c2, rfl, _, _, _⟩ := hown2.shape; have hb2 := bthen hbel1 hbel2)
    | (go_at_call 18; refine (heard_any cs ls a2 b c2 cb _ hown2.rd (hb.below hb2) hcl5 HLS.out).mono ?_; rintro e w3 ⟨v3, rfl, hown3, hbel3⟩; rw [HX.out] at hown3; obtain ⟨a3, c3, rfl, hcap3, _⟩ := hown3.shape; have hb3 := bthen hb2 hbel3; have hT3 := hT.below hb3; have hownG3 := (hown1.below hbel2).below hbel3)
    | (go_at_call 14; refine (decode_good soft G.length a3 c3 _ hown3.rd HSL.out hGl HSO.out hcap3 hT3).mono ?_; rintro e w4 ⟨v4, rfl, hown4, hbel4⟩; rw [HB.out] at hown4; obtain ⟨a4, c4, rfl, _, _, _⟩ := hown4.shape; have hb4 := bthen hb3 hbel4; have hT4 := hT.below hb4; have hownG4 := hownG3.below hbel4; have hownS4 := hown3.below hbel4)
    | (go_at_call 8; refine (score_any G soft a1 a3 c1 c3 _ hownG4.rd (by unfold maxLen; omega) HG.out.bytes hownS4.rd (by unfold maxLen; omega) hT4).mono ?_; rintro e w5 ⟨rfl, hbel5⟩; rw [HS1.out, HS2.out]; have hb5 := bthen hb4 hbel5; have hownG5 := hownG4.below hbel5; have hownD5 := hown4.below hbel5)
    | (go_at_call 11; refine (same_bits G G a4 a1 c4 c1 _ hownD5.rd hownG5.rd (by unfold maxLen; omega) (by unfold maxLen; omega)).mono ?_; rintro e w6 ⟨rfl, hbel6⟩; rw [decide_eq_true (rfl : G = G)]; have hb6 := bthen hb5 hbel6))
  go_ret
  exact ⟨by simp, hb6⟩
end Go.Proofs.YtiiobeelmnjffabDoor
