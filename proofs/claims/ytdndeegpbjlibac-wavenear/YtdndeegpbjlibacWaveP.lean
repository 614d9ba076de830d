import Derived.Test.YtdndeegpbjlibacWaveM
import Derived.Test.YtdndeegpbjlibacFrame
import Derived.Test.YtdndeegpbjlibacOwn
import Derived.Deep.SlicePairs
import Derived.Deep.MidRow
import Derived.Laws.StructEq
namespace Go.Proofs.Ytdndeegpbjlibac
open Go.ChangeShapes Go.WideShapes Go.ChangeAt Go.RowKit

/-! POINTS THAT LIE IN MEMORY. -/

def Pts (w : World) (a : Option Addr) (ps : List (Int × Int)) : Prop := ps ≠ [] → ∃ b off, a = some ⟨b, off, none⟩ ∧ ∀ i, i < ps.length → w.cell? ⟨b, off + i * 2, none⟩ = some (.int .i64 (ps.getD i (0, 0)).1) ∧ w.cell? ⟨b, off + i * 2 + 1, none⟩ = some (.int .i64 (ps.getD i (0, 0)).2)
theorem Pts.at {w : World} {a : Option Addr} {ps : List (Int × Int)} (h : Pts w a ps) {i : Nat} (hi : i < ps.length) : ∃ b off, a = some ⟨b, off, none⟩ ∧ ∀ i, i < ps.length → w.cell? ⟨b, off + i * 2, none⟩ = some (.int .i64 (ps.getD i (0, 0)).1) ∧ w.cell? ⟨b, off + i * 2 + 1, none⟩ = some (.int .i64 (ps.getD i (0, 0)).2) :=
  h (by rintro rfl; simp at hi)
theorem Pts.below {w w' : World} {a : Option Addr} {ps : List (Int × Int)} (h : Pts w a ps) (hb : Below w.heap.size w w') : Pts w' a ps := by
  intro hne
  obtain ⟨b, off, rfl, hc⟩ := h hne
  exact ⟨b, off, rfl, fun i hi => ⟨(hb.cell (World.block_lt_of_cell? w _ (hc i hi).1)).trans (hc i hi).1, (hb.cell (World.block_lt_of_cell? w _ (hc i hi).2)).trans (hc i hi).2⟩⟩
theorem pts_range {w : World} {b o : Nat} {p : Int × Int} (h : w.cell? ⟨b, o, none⟩ = some (.int .i64 p.1) ∧ w.cell? ⟨b, o + 1, none⟩ = some (.int .i64 p.2)) : w.rangeAt b o [.int .i64 p.1, .int .i64 p.2] := by
  intro j v hv
  match j, hv with
  | 0, hv => simp at hv; rw [← hv]; simpa using h.1
  | 1, hv => simp at hv; rw [← hv]; simpa using h.2

/-- Every point within a square. -/
def PtsIn (M : Int) (ps : List (Int × Int)) : Prop := ∀ i, (-M ≤ (ps.getD i (0, 0)).1 ∧ (ps.getD i (0, 0)).1 ≤ M) ∧ -M ≤ (ps.getD i (0, 0)).2 ∧ (ps.getD i (0, 0)).2 ≤ M

set_option maxHeartbeats 1000000 in
theorem rfar_any (p q : Int × Int) (w : World) (hp : (-1000 ≤ p.1 ∧ p.1 ≤ 1000) ∧ -1000 ≤ p.2 ∧ p.2 ≤ 1000) (hq : (-1000 ≤ q.1 ∧ q.1 ≤ 1000) ∧ -1000 ≤ q.2 ∧ q.2 ≤ 1000) :
    Calls Try.prog 18 #[.agg #[.int .i64 p.1, .int .i64 p.2], .agg #[.int .i64 q.1, .int .i64 q.2]] w fun e w' => e = .returned (.int .i64 (farM p q)) ∧ Below w.heap.size w w' := by
  obtain ⟨p1, p2⟩ := p
  obtain ⟨q1, q2⟩ := q
  simp only at hp hq
  have HM := hid (show farM (p1, p2) (q1, q2) = (p1 - q1) * (p1 - q1) + (p2 - q2) * (p2 - q2) from rfl)
  have hx : -2000 ≤ p1 - q1 ∧ p1 - q1 ≤ 2000 := by omega
  have hy : -2000 ≤ p2 - q2 ∧ p2 - q2 ≤ 2000 := by omega
  have w1 : wrap64 (p1 - q1) = p1 - q1 := by unfold wrap64; omega
  have w2 : wrap64 (p2 - q2) = p2 - q2 := by unfold wrap64; omega
  obtain ⟨x, ex⟩ : ∃ x, x = p1 - q1 := ⟨_, rfl⟩
  obtain ⟨y, ey⟩ : ∃ y, y = p2 - q2 := ⟨_, rfl⟩
  rw [← ex] at hx w1 HM
  rw [← ey] at hy w2 HM
  have sq : ∀ z : Int, -2000 ≤ z ∧ z ≤ 2000 → 0 ≤ z * z ∧ z * z ≤ 4000000 := fun z hz => by
    have h1 : z * z = (z.natAbs * z.natAbs : Nat) := by rw [Int.natAbs_mul_self]
    have h2 : z.natAbs * z.natAbs ≤ 2000 * 2000 := Nat.mul_le_mul (by omega) (by omega)
    omega
  have hxx := sq x hx
  have hyy := sq y hy
  have w3 : wrap64 (x * x) = x * x := by unfold wrap64; omega
  have w4 : wrap64 (y * y) = y * y := by unfold wrap64; omega
  have w5 : wrap64 (x * x + y * y) = x * x + y * y := by unfold wrap64; omega
  clear sq hxx hyy hp hq hx hy
  go_enter Try.func18, Try.ntmps18
  go_wp2
  go_ret
  refine ⟨ret_int ?_, ((Below.refl _ w).alloc (Nat.le_refl _) _).alloc (by simp) _⟩
  have e1 : wrap64 (p1 - q1) = x := by rw [← ex]; exact w1
  have e2 : wrap64 (p2 - q2) = y := by rw [← ey]; exact w2
  have e3 : wrap64 (x * x) = x * x := w3
  have e4 : wrap64 (y * y) = y * y := w4
  rw [HM.out, e1, e2, e3, e4]
  exact w5

set_option maxHeartbeats 1000000 in
/-- What R.Sides answers, of 2, 4 or 6 bits. -/
theorem rsides_any (l : List Int) (first h : Nat) (a : Option Addr) (n c : Nat) (w : World) (ha : Rd .u8 w a l) (hl : l.length = n) (hn : n = 2 * h) (hh : h ≤ 3) (hf : first ≤ 1) :
    Calls Try.prog 26 #[.slice a n c, .int .i64 first] w fun e w' => e = .returned (.int .i64 (sideR l first h)) ∧ Below w.heap.size w w' := by
  have HL := hid hl
  have HN := hid hn
  have hn6 : n ≤ 6 := by omega
  have hn2 : h = 0 ∨ 2 ≤ n := by omega
  clear hl hn
  go_enter Try.func26, Try.ntmps26
  go_wp2
  go_loopw [5, 6] (fun s q wr => ∃ (r : Nat) (k : Int), r ≤ h ∧ s = .int .i64 (sideR l first r) ∧ q = .int .i64 k ∧ Hid (k = (n : Int) - 2 + first - 2 * r) ∧ -2 ≤ k ∧ k ≤ 6 ∧ Below w.heap.size w wr) (fun _ q _ => (intOf q + 2).toNat)
  case atStart => exact ⟨0, (n : Int) - 2 + first, Nat.zero_le _, rfl, by go_num, by unfold Hid; omega, by omega, by omega, Below.refl _ _⟩
  case round =>
    obtain ⟨r, k, hr, rfl, rfl, HK, hk1, hk2, hbel⟩ := hrel
    by_cases hlt : 0 ≤ k
    · obtain ⟨kn, rfl⟩ : ∃ kn : Nat, k = (kn : Int) := ⟨k.toNat, by omega⟩
      have hrh : r < h := by have := HK.out; have := HN.out; omega
      have hkn : kn < n := by have := HK.out; omega
      have hix : ((n : Int) - 2 - (kn : Int) + (first : Int)) = 2 * (r : Int) := by have := HK.out; omega
      obtain ⟨b1, o1, rfl, hc1⟩ := (ha.below hbel).at (i := kn) (by rw [HL.out]; exact hkn)
      have g1 := hc1 kn (by rw [HL.out]; exact hkn)
      have HS := hid (show sideR l first (r + 1) = if l.getD kn 0 = 1 then -(if r = 0 then 1 else 2 * (r : Int) - sideR l first r) else (if r = 0 then 1 else 2 * (r : Int) - sideR l first r) by
        have e : l.length - 2 + first - 2 * r = kn := by rw [HL.out]; have := HK.out; omega
        rw [sideR, e])
      have hsb := sideR_bd l first r (by omega)
      obtain ⟨z, ez⟩ : ∃ z, z = l.getD kn 0 := ⟨_, rfl⟩
      rw [← ez] at g1 HS
      obtain ⟨s, es⟩ : ∃ s, s = sideR l first r := ⟨_, rfl⟩
      rw [← es] at HS hsb
      rw [← es]
      have g2 : (wr.alloc (.cells #[.int .i64 0, .int .i64 2, .int .i64 4] 3)).cell? ⟨b1, o1 + kn, none⟩ = some (.int .u8 z) := (((Below.refl _ wr).alloc (Nat.le_refl _) _).cell (World.block_lt_of_cell? wr _ g1)).trans g1
      clear ez es hc1
      have hr3 : r = 0 ∨ r = 1 ∨ r = 2 := by omega
      rcases hr3 with rfl | rfl | rfl
      · have hx : (n : Int) - 2 - (kn : Int) + (first : Int) = 0 := by rw [hix]; rfl
        clear hix
        by_cases hz : z = 1
        · have HV := hid (show -(1) = sideR l first (0 + 1) by rw [HS.out, if_pos hz]; rfl)
          have hd : (z == 1) = true := by simpa using hz
          clear HS hz
          go_wp2
          go_roundw
          case rel => first | exact ⟨0 + 1, (kn : Int) - 2, by omega, by rw [← HV.out], by go_num, by unfold Hid; have := HK.out; omega, by omega, by omega, hbel.alloc hbel.size _⟩ | ((repeat apply Exists.intro); exact ⟨⟨0 + 1, (kn : Int) - 2, by omega, by rw [← HV.out], by go_num, by unfold Hid; have := HK.out; omega, by omega, by omega, hbel.alloc hbel.size _⟩, rfl⟩)
          case measure => simp [intOf]; omega
        · have HV := hid (show (1 : Int) = sideR l first (0 + 1) by rw [HS.out, if_neg hz]; rfl)
          have hd : (z == 1) = false := by simpa using hz
          clear HS hz
          go_wp2
          go_roundw
          case rel => first | exact ⟨0 + 1, (kn : Int) - 2, by omega, by rw [← HV.out], by go_num, by unfold Hid; have := HK.out; omega, by omega, by omega, hbel.alloc hbel.size _⟩ | ((repeat apply Exists.intro); exact ⟨⟨0 + 1, (kn : Int) - 2, by omega, by rw [← HV.out], by go_num, by unfold Hid; have := HK.out; omega, by omega, by omega, hbel.alloc hbel.size _⟩, rfl⟩)
          case measure => simp [intOf]; omega
      · have hx : (n : Int) - 2 - (kn : Int) + (first : Int) = 2 := by rw [hix]; rfl
        clear hix
        by_cases hz : z = 1
        · have HV := hid (show -(2 - s) = sideR l first (1 + 1) by rw [HS.out, if_pos hz]; simp)
          have hd : (z == 1) = true := by simpa using hz
          clear HS hz
          go_wp2
          go_roundw
          case rel => first | exact ⟨1 + 1, (kn : Int) - 2, by omega, by rw [← HV.out], by go_num, by unfold Hid; have := HK.out; omega, by omega, by omega, hbel.alloc hbel.size _⟩ | ((repeat apply Exists.intro); exact ⟨⟨1 + 1, (kn : Int) - 2, by omega, by rw [← HV.out], by go_num, by unfold Hid; have := HK.out; omega, by omega, by omega, hbel.alloc hbel.size _⟩, rfl⟩)
          case measure => simp [intOf]; omega
        · have HV := hid (show 2 - s = sideR l first (1 + 1) by rw [HS.out, if_neg hz]; simp)
          have hd : (z == 1) = false := by simpa using hz
          clear HS hz
          go_wp2
          go_roundw
          case rel => first | exact ⟨1 + 1, (kn : Int) - 2, by omega, by rw [← HV.out], by go_num, by unfold Hid; have := HK.out; omega, by omega, by omega, hbel.alloc hbel.size _⟩ | ((repeat apply Exists.intro); exact ⟨⟨1 + 1, (kn : Int) - 2, by omega, by rw [← HV.out], by go_num, by unfold Hid; have := HK.out; omega, by omega, by omega, hbel.alloc hbel.size _⟩, rfl⟩)
          case measure => simp [intOf]; omega
      · have hx : (n : Int) - 2 - (kn : Int) + (first : Int) = 4 := by rw [hix]; rfl
        clear hix
        by_cases hz : z = 1
        · have HV := hid (show -(4 - s) = sideR l first (2 + 1) by rw [HS.out, if_pos hz]; simp)
          have hd : (z == 1) = true := by simpa using hz
          clear HS hz
          go_wp2
          go_roundw
          case rel => first | exact ⟨2 + 1, (kn : Int) - 2, by omega, by rw [← HV.out], by go_num, by unfold Hid; have := HK.out; omega, by omega, by omega, hbel.alloc hbel.size _⟩ | ((repeat apply Exists.intro); exact ⟨⟨2 + 1, (kn : Int) - 2, by omega, by rw [← HV.out], by go_num, by unfold Hid; have := HK.out; omega, by omega, by omega, hbel.alloc hbel.size _⟩, rfl⟩)
          case measure => simp [intOf]; omega
        · have HV := hid (show 4 - s = sideR l first (2 + 1) by rw [HS.out, if_neg hz]; simp)
          have hd : (z == 1) = false := by simpa using hz
          clear HS hz
          go_wp2
          go_roundw
          case rel => first | exact ⟨2 + 1, (kn : Int) - 2, by omega, by rw [← HV.out], by go_num, by unfold Hid; have := HK.out; omega, by omega, by omega, hbel.alloc hbel.size _⟩ | ((repeat apply Exists.intro); exact ⟨⟨2 + 1, (kn : Int) - 2, by omega, by rw [← HV.out], by go_num, by unfold Hid; have := HK.out; omega, by omega, by omega, hbel.alloc hbel.size _⟩, rfl⟩)
          case measure => simp [intOf]; omega
    · have hrh : r = h := by have := HK.out; have := HN.out; omega
      subst hrh
      go_wp2
      go_ret
      exact ⟨rfl, hbel⟩
end Go.Proofs.Ytdndeegpbjlibac
