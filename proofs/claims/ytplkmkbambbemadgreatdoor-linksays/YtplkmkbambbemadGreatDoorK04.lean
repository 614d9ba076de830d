import Derived.Test.YtplkmkbambbemadGreatDoorK03
import Derived.Test.YtplkmkbambbemadGreatDoorK01
import Derived.Deep.SlicePairs
import Derived.Deep.MidRow
import Derived.Laws.StructEq
import Derived.Deep.Cut
namespace Go.Proofs.YtplkmkbambbemadGreatDoor
open Go.ChangeShapes Go.WideShapes Go.ChangeAt Go.RowKit
def Pts (w : World) (a : Option Addr) (ps : List (Int × Int)) : Prop := ps ≠ [] → ∃ b off, a = some ⟨b, off, none⟩ ∧ ∀ i, i < ps.length → w.cell? ⟨b, off + i * 2, none⟩ = some (.int .i64 (ps.getD i (0, 0)).1) ∧ w.cell? ⟨b, off + i * 2 + 1, none⟩ = some (.int .i64 (ps.getD i (0, 0)).2)
theorem Pts.at {w : World} {a : Option Addr} {ps : List (Int × Int)} (h : Pts w a ps) {i : Nat} (hi : i < ps.length) : ∃ b off, a = some ⟨b, off, none⟩ ∧ ∀ i, i < ps.length → w.cell? ⟨b, off + i * 2, none⟩ = some (.int .i64 (ps.getD i (0, 0)).1) ∧ w.cell? ⟨b, off + i * 2 + 1, none⟩ = some (.int .i64 (ps.getD i (0, 0)).2) :=
  h (by rintro rfl; simp at hi)
theorem Pts.below {w w' : World} {a : Option Addr} {ps : List (Int × Int)} (h : Pts w a ps) (hb : Below w.heap.size w w') : Pts w' a ps := by
  intro hne
  obtain ⟨b, off, rfl, hc⟩ := h hne
  exact ⟨b, off, rfl, fun i hi => ⟨(hb.cell (World.block_lt_of_cell? w _ (hc i hi).1)).trans (hc i hi).1, (hb.cell (World.block_lt_of_cell? w _ (hc i hi).2)).trans (hc i hi).2⟩⟩
theorem pts_range {w : World} {b o : Nat} {p : Int × Int} (h : w.cell? ⟨b, o, none⟩ = some (.int .i64 p.1) ∧ w.cell? ⟨b, o + 1, none⟩ = some (.int .i64 p.2)) : w.rangeAt b o [.int .i64 p.1, .int .i64 p.2] := by
  intro j v hv
  match j, hv with
  | 0, hv => simp at hv; rw [← hv]; simpa using h.1
  | 1, hv => simp at hv; rw [← hv]; simpa using h.2
/-- Every point within a square. -/
def PtsIn (M : Int) (ps : List (Int × Int)) : Prop := ∀ i, (-M ≤ (ps.getD i (0, 0)).1 ∧ (ps.getD i (0, 0)).1 ≤ M) ∧ -M ≤ (ps.getD i (0, 0)).2 ∧ (ps.getD i (0, 0)).2 ≤ M
set_option maxHeartbeats 1000000 in
theorem rfar_any (p q : Int × Int) (w : World) (hp : (-1000 ≤ p.1 ∧ p.1 ≤ 1000) ∧ -1000 ≤ p.2 ∧ p.2 ≤ 1000) (hq : (-1000 ≤ q.1 ∧ q.1 ≤ 1000) ∧ -1000 ≤ q.2 ∧ q.2 ≤ 1000) :
    Calls Tryz.prog 118 #[.agg #[.int .i64 p.1, .int .i64 p.2], .agg #[.int .i64 q.1, .int .i64 q.2]] w fun e w' => e = .returned (.int .i64 (farM p q)) ∧ Below w.heap.size w w' := by
  obtain ⟨p1, p2⟩ := p
  obtain ⟨q1, q2⟩ := q
  simp only at hp hq
  have HM := hid (show farM (p1, p2) (q1, q2) = (p1 - q1) * (p1 - q1) + (p2 - q2) * (p2 - q2) from rfl)
  have hx : -2000 ≤ p1 - q1 ∧ p1 - q1 ≤ 2000 := by omega
  have hy : -2000 ≤ p2 - q2 ∧ p2 - q2 ≤ 2000 := by omega
  have w1 : wrap64 (p1 - q1) = p1 - q1 := by unfold wrap64; omega
  have w2 : wrap64 (p2 - q2) = p2 - q2 := by unfold wrap64; omega
  obtain ⟨x, ex⟩ : ∃ x, x = p1 - q1 := ⟨_, rfl⟩
  obtain ⟨y, ey⟩ : ∃ y, y = p2 - q2 := ⟨_, rfl⟩
  rw [← ex] at hx w1 HM
  rw [← ey] at hy w2 HM
  have sq : ∀ z : Int, -2000 ≤ z ∧ z ≤ 2000 → 0 ≤ z * z ∧ z * z ≤ 4000000 := fun z hz => by
    have h1 : z * z = (z.natAbs * z.natAbs : Nat) := by rw [Int.natAbs_mul_self]
    have h2 : z.natAbs * z.natAbs ≤ 2000 * 2000 := Nat.mul_le_mul (by omega) (by omega)
    omega
  have hxx := sq x hx
  have hyy := sq y hy
  have w3 : wrap64 (x * x) = x * x := by unfold wrap64; omega
  have w4 : wrap64 (y * y) = y * y := by unfold wrap64; omega
  have w5 : wrap64 (x * x + y * y) = x * x + y * y := by unfold wrap64; omega
  clear sq hxx hyy hp hq hx hy
  go_enter Tryz.func118, Tryz.ntmps118
  go_wp2
  go_ret
  refine ⟨ret_int ?_, ((Below.refl _ w).alloc (Nat.le_refl _) _).alloc (by simp) _⟩
  have e1 : wrap64 (p1 - q1) = x := by rw [← ex]; exact w1
  have e2 : wrap64 (p2 - q2) = y := by rw [← ey]; exact w2
  have e3 : wrap64 (x * x) = x * x := w3
  have e4 : wrap64 (y * y) = y * y := w4
  rw [HM.out, e1, e2, e3, e4]
  exact w5
set_option maxHeartbeats 1000000 in
/-- What R.Sides answers, of 2, 4 or 6 bits. -/
theorem rsides_any (l : List Int) (first h : Nat) (a : Option Addr) (n c : Nat) (w : World) (ha : Rd .u8 w a l) (hl : l.length = n) (hn : n = 2 * h) (hh : h ≤ 3) (hf : first ≤ 1) :
    Calls Tryz.prog 131 #[.slice a n c, .int .i64 first] w fun e w' => e = .returned (.int .i64 (sideR l first h)) ∧ Below w.heap.size w w' := by
  have HL := hid hl
  have HN := hid hn
  have hn6 : n ≤ 6 := by omega
  have hn2 : h = 0 ∨ 2 ≤ n := by omega
  clear hl hn
  go_enter Tryz.func131, Tryz.ntmps131
  go_wp2
  go_loopw [5, 6] (fun s q wr => ∃ (r : Nat) (k : Int), r ≤ h ∧ s = .int .i64 (sideR l first r) ∧ q = .int .i64 k ∧ Hid (k = (n : Int) - 2 + first - 2 * r) ∧ -2 ≤ k ∧ k ≤ 6 ∧ Below w.heap.size w wr) (fun _ q _ => (intOf q + 2).toNat)
  case atStart => exact ⟨0, (n : Int) - 2 + first, Nat.zero_le _, rfl, by go_num, by unfold Hid; omega, by omega, by omega, Below.refl _ _⟩
  case round =>
    obtain ⟨r, k, hr, rfl, rfl, HK, hk1, hk2, hbel⟩ := hrel
    by_cases hlt : 0 ≤ k
    · obtain ⟨kn, rfl⟩ : ∃ kn : Nat, k = (kn : Int) := ⟨k.toNat, by omega⟩
      have hrh : r < h := by have := HK.out; have := HN.out; omega
      have hkn : kn < n := by have := HK.out; omega
      have hix : ((n : Int) - 2 - (kn : Int) + (first : Int)) = 2 * (r : Int) := by have := HK.out; omega
      obtain ⟨b1, o1, rfl, hc1⟩ := (ha.below hbel).at (i := kn) (by rw [HL.out]; exact hkn)
      have g1 := hc1 kn (by rw [HL.out]; exact hkn)
      have HS := hid (show sideR l first (r + 1) = if l.getD kn 0 = 1 then -(if r = 0 then 1 else 2 * (r : Int) - sideR l first r) else (if r = 0 then 1 else 2 * (r : Int) - sideR l first r) by
        have e : l.length - 2 + first - 2 * r = kn := by rw [HL.out]; have := HK.out; omega
        rw [sideR, e])
      have hsb := sideR_bd l first r (by omega)
      obtain ⟨z, ez⟩ : ∃ z, z = l.getD kn 0 := ⟨_, rfl⟩
      rw [← ez] at g1 HS
      obtain ⟨s, es⟩ : ∃ s, s = sideR l first r := ⟨_, rfl⟩
      rw [← es] at HS hsb
      rw [← es]
      have g2 : (wr.alloc (.cells #[.int .i64 0, .int .i64 2, .int .i64 4] 3)).cell? ⟨b1, o1 + kn, none⟩ = some (.int .u8 z) := (((Below.refl _ wr).alloc (Nat.le_refl _) _).cell (World.block_lt_of_cell? wr _ g1)).trans g1
      clear ez es hc1
      have hr3 : r = 0 ∨ r = 1 ∨ r = 2 := by omega
      rcases hr3 with rfl | rfl | rfl
      · have hx : (n : Int) - 2 - (kn : Int) + (first : Int) = 0 := by rw [hix]; rfl
        clear hix
        by_cases hz : z = 1
        · have HV := hid (show -(1) = sideR l first (0 + 1) by rw [HS.out, if_pos hz]; rfl)
          have hd : (z == 1) = true := by simpa using hz
          clear HS hz
          go_wp2
          go_roundw
          case rel => first | exact ⟨0 + 1, (kn : Int) - 2, by omega, by rw [← HV.out], by go_num, by unfold Hid; have := HK.out; omega, by omega, by omega, hbel.alloc hbel.size _⟩ | ((repeat apply Exists.intro); exact ⟨⟨0 + 1, (kn : Int) - 2, by omega, by rw [← HV.out], by go_num, by unfold Hid; have := HK.out; omega, by omega, by omega, hbel.alloc hbel.size _⟩, rfl⟩)
          case measure => simp [intOf]; omega
        · have HV := hid (show (1 : Int) = sideR l first (0 + 1) by rw [HS.out, if_neg hz]; rfl)
          have hd : (z == 1) = false := by simpa using hz
          clear HS hz
          go_wp2
          go_roundw
          case rel => first | exact ⟨0 + 1, (kn : Int) - 2, by omega, by rw [← HV.out], by go_num, by unfold Hid; have := HK.out; omega, by omega, by omega, hbel.alloc hbel.size _⟩ | ((repeat apply Exists.intro); exact ⟨⟨0 + 1, (kn : Int) - 2, by omega, by rw [← HV.out], by go_num, by unfold Hid; have := HK.out; omega, by omega, by omega, hbel.alloc hbel.size _⟩, rfl⟩)
          case measure => simp [intOf]; omega
      · have hx : (n : Int) - 2 - (kn : Int) + (first : Int) = 2 := by rw [hix]; rfl
        clear hix
        by_cases hz : z = 1
        · have HV := hid (show -(2 - s) = sideR l first (1 + 1) by rw [HS.out, if_pos hz]; simp)
          have hd : (z == 1) = true := by simpa using hz
          clear HS hz
          go_wp2
          go_roundw
          case rel => first | exact ⟨1 + 1, (kn : Int) - 2, by omega, by rw [← HV.out], by go_num, by unfold Hid; have := HK.out; omega, by omega, by omega, hbel.alloc hbel.size _⟩ | ((repeat apply Exists.intro); exact ⟨⟨1 + 1, (kn : Int) - 2, by omega, by rw [← HV.out], by go_num, by unfold Hid; have := HK.out; omega, by omega, by omega, hbel.alloc hbel.size _⟩, rfl⟩)
          case measure => simp [intOf]; omega
        · have HV := hid (show 2 - s = sideR l first (1 + 1) by rw [HS.out, if_neg hz]; simp)
          have hd : (z == 1) = false := by simpa using hz
          clear HS hz
          go_wp2
          go_roundw
          case rel => first | exact ⟨1 + 1, (kn : Int) - 2, by omega, by rw [← HV.out], by go_num, by unfold Hid; have := HK.out; omega, by omega, by omega, hbel.alloc hbel.size _⟩ | ((repeat apply Exists.intro); exact ⟨⟨1 + 1, (kn : Int) - 2, by omega, by rw [← HV.out], by go_num, by unfold Hid; have := HK.out; omega, by omega, by omega, hbel.alloc hbel.size _⟩, rfl⟩)
          case measure => simp [intOf]; omega
      · have hx : (n : Int) - 2 - (kn : Int) + (first : Int) = 4 := by rw [hix]; rfl
        clear hix
        by_cases hz : z = 1
        · have HV := hid (show -(4 - s) = sideR l first (2 + 1) by rw [HS.out, if_pos hz]; simp)
          have hd : (z == 1) = true := by simpa using hz
          clear HS hz
          go_wp2
          go_roundw
          case rel => first | exact ⟨2 + 1, (kn : Int) - 2, by omega, by rw [← HV.out], by go_num, by unfold Hid; have := HK.out; omega, by omega, by omega, hbel.alloc hbel.size _⟩ | ((repeat apply Exists.intro); exact ⟨⟨2 + 1, (kn : Int) - 2, by omega, by rw [← HV.out], by go_num, by unfold Hid; have := HK.out; omega, by omega, by omega, hbel.alloc hbel.size _⟩, rfl⟩)
          case measure => simp [intOf]; omega
        · have HV := hid (show 4 - s = sideR l first (2 + 1) by rw [HS.out, if_neg hz]; simp)
          have hd : (z == 1) = false := by simpa using hz
          clear HS hz
          go_wp2
          go_roundw
          case rel => first | exact ⟨2 + 1, (kn : Int) - 2, by omega, by rw [← HV.out], by go_num, by unfold Hid; have := HK.out; omega, by omega, by omega, hbel.alloc hbel.size _⟩ | ((repeat apply Exists.intro); exact ⟨⟨2 + 1, (kn : Int) - 2, by omega, by rw [← HV.out], by go_num, by unfold Hid; have := HK.out; omega, by omega, by omega, hbel.alloc hbel.size _⟩, rfl⟩)
          case measure => simp [intOf]; omega
    · have hrh : r = h := by have := HK.out; have := HN.out; omega
      subst hrh
      go_wp2
      go_ret
      exact ⟨rfl, hbel⟩
end Go.Proofs.YtplkmkbambbemadGreatDoor
namespace Go.Proofs.YtplkmkbambbemadGreatDoor
open Go.ChangeShapes Go.WideShapes Go.ChangeAt Go.RowKit
theorem Tryz.infoQ : (Tryz.prog.info? 29).map (fun i => (i.zero, i.size, i.bytes)) = some (some (.agg #[.int .i64 0, .int .i64 0]), 2, 16) := by kernel_rfl
theorem Tryz.sizeQ : (Tryz.prog.info? 29).map (·.size) = some 2 := by kernel_rfl
/-- Points that fill a block. -/
def PArr (w : World) (g : Nat) (ps : List (Int × Int)) : Prop := w.heap[g]? = some (.cells (cellsQ ps).toArray 29 (0, 0))
theorem PArr.cells {w : World} {g : Nat} {ps : List (Int × Int)} (h : PArr w g ps) {i : Nat} (hi : i < ps.length) : w.cell? ⟨g, i * 2, none⟩ = some (.int .i64 (ps.getD i (0, 0)).1) ∧ w.cell? ⟨g, i * 2 + 1, none⟩ = some (.int .i64 (ps.getD i (0, 0)).2) := by
  have := cellsQ_at ps i hi
  rw [cell_of_row w g _ _ _ (0, 0) h, cell_of_row w g _ _ _ (0, 0) h]
  simpa using this
theorem PArr.free {w : World} {g : Nat} {ps : List (Int × Int)} (h : PArr w g ps) (j : Nat) : w.frozen? ⟨g, j, none⟩ = false := frozen_of_row w g j _ _ h
theorem PArr.set {w : World} {g : Nat} {ps : List (Int × Int)} (h : PArr w g ps) {i : Nat} (hi : i < ps.length) (p : Int × Int) : PArr (w.setCells g (i * 2) [.int .i64 p.1, .int .i64 p.2]) g (ps.set i p) := by
  unfold PArr
  show ((w.setCell ⟨g, i * 2, none⟩ (.int .i64 p.1)).setCell ⟨g, i * 2 + 1, none⟩ (.int .i64 p.2)).heap[g]? = _
  have h1 := heap_setCell_same w g (i * 2) _ _ (.int .i64 p.1) h
  rw [heap_setCell_same _ g (i * 2 + 1) _ _ (.int .i64 p.2) h1, cellsQ_set p ps i hi]
  simp
theorem PArr.below {w w' : World} {g B : Nat} {ps : List (Int × Int)} (h : PArr w g ps) (hb : Below B w w') (hg : g < B) : PArr w' g ps := (hb.block g hg).trans h
theorem PArr.lt {w : World} {g : Nat} {ps : List (Int × Int)} (h : PArr w g ps) : g < w.heap.size := by
  rcases Nat.lt_or_ge g w.heap.size with e | e
  · exact e
  · have : w.heap[g]? = none := Array.getElem?_eq_none e
    unfold PArr at h
    rw [this] at h; cases h
theorem PArr.pts {w : World} {g : Nat} {ps : List (Int × Int)} (h : PArr w g ps) : Pts w (some ⟨g, 0, none⟩) ps := by
  intro _
  refine ⟨g, 0, rfl, fun i hi => ?_⟩
  rw [Nat.zero_add]
  exact h.cells hi
/-- .. as a row of one's own. -/
theorem PArr.owns {w : World} {g B n : Nat} {ps : List (Int × Int)} (h : PArr w g ps) (hB : B ≤ g) (hl : ps.length = n) (hm : n ≤ maxLen) : w.ownsRow B 29 2 (.slice (some ⟨g, 0, none⟩) n n) n (cellsQ ps) := by
  subst hl
  have hc := cellsQ_length ps
  refine ⟨by omega, .inr ⟨g, _, _, rfl, hB, h, Nat.le_refl _, hm, by simp; omega, ?_⟩⟩
  rw [List.take_of_length_le (by simp; omega)]
theorem wpList_makePts {w : World} {ops : Array Oper} {rest : List Oper} {o : Oper} {a : Act} {Q : Exit → Act → World → Prop} (N : Nat) (hgd : o.guard = none) (l c : Operand)
    (ho : o.op = Op.makeSlice 24 l c) (x y : Int) (hl : a.eval l = .int .i64 x) (hc : a.eval c = .int .i64 y) (hx : x = (N : Int)) (hy : y = (N : Int)) (hN : N ≤ 1000000)
    (h : ∀ w', PArr w' w.heap.size (List.replicate N (0, 0)) → Below w.heap.size w w' → wpList Tryz.prog ops Q rest (a.put o.dst (.slice (some ⟨w.heap.size, 0, none⟩) N N)) w') :
    wpList Tryz.prog ops Q (o :: rest) a w := by
  obtain ⟨i0, hi, hz0, hz1, hz2⟩ := info_parts Tryz.infoQ
  refine wpList_make_full w hgd l c 24 ho w.heap.size 29 i0 (.agg #[.int .i64 0, .int .i64 0]) 2 Tryz.underlying24 hi hz0 hz1 .i64 .i64 x y N hl hc hx hy (by rw [hz2]; omega) (by unfold maxLen; omega) (Nat.le_refl _) fun w' h1 h2 => ?_
  have hb := (Below.refl w.heap.size w).grown h2 (Nat.le_refl _) (by intro k hk; cases hk)
  refine h w' ?_ hb
  have e : (madeCells (Value.cells (.agg #[.int .i64 0, .int .i64 0])) (N * 2)).toList = List.replicate (N * 2) (.int .i64 0) := by
    refine List.ext_getElem (by simp [madeCells]) fun i i1 i2 => ?_
    have h2 : i % 2 = 0 ∨ i % 2 = 1 := by omega
    rcases h2 with h2 | h2 <;> simp [madeCells, Value.cells, h2]
  rw [e] at h1
  rcases h1.2 with ⟨h', _⟩ | ⟨g', cap, cur, h', hB, hg, _, hm, hcs, ht⟩
  · simp at h'
  · simp only [Value.slice.injEq, Option.some.injEq, Addr.mk.injEq, and_true] at h'
    obtain ⟨rfl, _, rfl⟩ := h'
    unfold PArr
    rw [hg, cellsQ_zero, ← ht, List.take_of_length_le (by simp; omega)]
theorem run_storeQ {ρ : Operand → Value} (w : World) {o : Oper} {x y : Operand} {g i : Nat} {p : Int × Int} {ps : List (Int × Int)} (ho : o.op = .store 29 x y) (h : ρ x = .pointer (some ⟨g, i * 2, none⟩)) (h' : ρ y = .agg #[.int .i64 p.1, .int .i64 p.2]) (ha : PArr w g ps) (hi : i < ps.length) : (execOp ρ o).run Tryz.prog w = .ok .skip (w.setCells g (i * 2) [.int .i64 p.1, .int .i64 p.2]) := by
  have ht : w.there g (i * 2) 2 := by
    intro j hj
    have hc := ha.cells hi
    have h2 : j = 0 ∨ j = 1 := by omega
    rcases h2 with rfl | rfl
    · rw [Nat.add_zero, hc.1]; exact ⟨rfl, ha.free _⟩
    · rw [hc.2]; exact ⟨rfl, ha.free _⟩
  have := run_storeAt_mid (P := Tryz.prog) w g (i * 2) 29 #[.int .i64 p.1, .int .i64 p.2] ht Tryz.sizeQ (by simp; exact ⟨rfl, rfl⟩)
  unfold execOp
  simp only [ho, h, h']
  simp [this, Result.andThen]
end Go.Proofs.YtplkmkbambbemadGreatDoor
namespace Go.Proofs.YtplkmkbambbemadGreatDoor
open Go.ChangeShapes Go.WideShapes Go.ChangeAt Go.RowKit
/-- The byte at a place of a text. -/
def byteAt (s : ByteArray) (j : Nat) : Int := if h : j < s.size then (s[j].toNat : Int) else 0
/-- The bit at a place of a text: the first byte's highest place first. -/
def bitAt (s : ByteArray) (i : Nat) : Int := byteAt s (i / 8) / 2 ^ (7 - i % 8) % 2
theorem byteAt_eq (s : ByteArray) (j : Nat) (h : j < s.size) : byteAt s j = (s[j].toNat : Int) := by simp [byteAt, h]
theorem byteAt_bd (s : ByteArray) (j : Nat) : 0 ≤ byteAt s j ∧ byteAt s j ≤ 255 := by
  unfold byteAt
  split
  · have := s[j].toNat_lt; omega
  · omega
theorem bitAt_bd (s : ByteArray) (i : Nat) : 0 ≤ bitAt s i ∧ bitAt s i ≤ 1 := by unfold bitAt; omega
theorem half_step (m q : Int) (K r : Nat) (hr : r ≤ K) (h : q = m / 2 ^ (K - r)) : q / 2 = m / 2 ^ (K + 1 - r) := by
  rw [show K + 1 - r = (K - r) + 1 from by omega, Int.pow_succ, ← Int.ediv_ediv_of_nonneg (Int.pow_nonneg (by decide)), h]
theorem wrap64_byte (u : UInt8) : wrap64 (u.toNat : Int) = (u.toNat : Int) := by
  have := u.toNat_lt
  exact Go.IntWalk.wrap64_in _ (by omega)
theorem val_int {k : IntKind} {a b : Int} (h : a = b) : Value.int k a = Value.int k b := by rw [h]
set_option maxHeartbeats 400000 in
theorem bitat_any (s : ByteArray) (i : Nat) (w : World) (hs : i / 8 < s.size) (hm : s.size ≤ 140737488355328) :
    Calls Tryz.prog 108 #[.string s, .int .i64 i] w fun e w' => e = .returned (.int .u8 (bitAt s i)) ∧ w = w' := by
  have hi : (i : Int) / 8 < s.size := by omega
  have HB : Hid (byteAt s (i / 8) = (s[i / 8].toNat : Int)) := byteAt_eq s _ hs
  go_enter Tryz.func108, Tryz.ntmps108
  go_wp2
  go_loop [5, 6] (fun n k => ∃ K : Nat, ∃ q : Int, i % 8 ≤ K ∧ K ≤ 7 ∧ 0 ≤ q ∧ q ≤ 255 ∧ k = .int .i64 K ∧ n = .int .i64 q ∧ Hid (q = byteAt s (i / 8) / 2 ^ (K - i % 8))) (fun _ k => 7 - (intOf k).toNat)
  case atStart => exact ⟨i % 8, byteAt s (i / 8), by omega, by omega, (byteAt_bd _ _).1, (byteAt_bd _ _).2, by go_num, val_int (by rw [HB.out, wrap64_byte]), by unfold Hid; simp⟩
  case round =>
    obtain ⟨K, q, h1, h2, h3, h4, rfl, rfl, HQ⟩ := hrel
    by_cases hlt : K < 7
    · go_wp2
      go_round
      case rel => exact ⟨K + 1, q / 2, by omega, by omega, by omega, by omega, by go_num, rfl, half_step _ _ _ _ h1 HQ.out⟩
      case measure => simp [intOf]; omega
    · go_wp2
      go_ret
      have : K = 7 := by omega
      subst this
      exact ⟨ret_int (by unfold bitAt; rw [← HQ.out]), rfl⟩
end Go.Proofs.YtplkmkbambbemadGreatDoor
namespace Go.Proofs.YtplkmkbambbemadGreatDoor
open Go.ChangeShapes Go.WideShapes Go.ChangeAt Go.RowKit
/-- The first n bits of a text. -/
def unpackTo (s : ByteArray) (n : Nat) : List Int := (List.range n).map (bitAt s)
/-- What is wrong with asking for n bits of a text. -/
def unpackErr (s : ByteArray) (n : Int) : Int := if n < 0 ∨ 8 * (s.size : Int) < n then 1 else if 4096 < n then 2 else 0
def unpackL (s : ByteArray) (n : Int) : List Int := if unpackErr s n = 0 then unpackTo s n.toNat else []
theorem unpackTo_succ (s : ByteArray) (n : Nat) : unpackTo s (n + 1) = unpackTo s n ++ [bitAt s n] := by simp [unpackTo, List.range_succ]
theorem unpackTo_length (s : ByteArray) (n : Nat) : (unpackTo s n).length = n := by simp [unpackTo]
end Go.Proofs.YtplkmkbambbemadGreatDoor
namespace Go.Proofs.YtplkmkbambbemadGreatDoor
open Go.ChangeShapes Go.WideShapes Go.ChangeAt Go.RowKit
def turnHere (F C : Int) (i : Nat) : Bool := decide (F ≤ (i : Int)) && decide (wrap64 ((i : Int) - F) < C)
def turnPt (F C : Int) (ps : List (Int × Int)) (i : Nat) : Int × Int := if turnHere F C i then (wrap64 (-(ps.getD i (0, 0)).1), wrap64 (-(ps.getD i (0, 0)).2)) else ps.getD i (0, 0)
def turnTo (F C : Int) (ps : List (Int × Int)) (k : Nat) : List (Int × Int) := (List.range k).map (turnPt F C ps)
theorem turnTo_succ (F C : Int) (ps : List (Int × Int)) (k : Nat) : turnTo F C ps (k + 1) = turnTo F C ps k ++ [turnPt F C ps k] := by simp [turnTo, List.range_succ]
theorem turnTo_length (F C : Int) (ps : List (Int × Int)) (k : Nat) : (turnTo F C ps k).length = k := by simp [turnTo]
set_option maxHeartbeats 1000000 in
theorem whole_any (s : ByteArray) (w : World) (hm : s.size ≤ 1000000) :
    Calls Tryz.prog 74 #[.string s] w fun e w' => ∃ v, e = .returned v ∧ Own w' w.heap.size v (unpackTo s (8 * s.size)) ∧ Below w.heap.size w w' := by
  obtain ⟨N, eN⟩ : ∃ N, N = 8 * s.size := ⟨_, rfl⟩
  rw [← eN]
  have hN : (8 : Int) * (s.size : Int) = (N : Int) := by rw [eN]; omega
  have HN := hid eN
  have hNb : N ≤ 8000000 := by omega
  clear eN
  go_enter Tryz.func74, Tryz.ntmps74
  go_wp2_with fail
  go_loopw [3, 4] (fun v i wr => ∃ k : Nat, k ≤ N ∧ i = .int .i64 k ∧ Own wr w.heap.size v (unpackTo s k) ∧ Below w.heap.size w wr) (fun _ i _ => N - (intOf i).toNat)
  case atStart => exact ⟨0, Nat.zero_le _, rfl, Own.nil _ _, Below.refl _ _⟩
  case round =>
    obtain ⟨k, hk, rfl, hown, hbel⟩ := hrel
    have HL := hid (unpackTo_length s k)
    by_cases hlt : k < N
    · have hk8 : k / 8 < s.size := by have := HN.out; omega
      go_wp2_with (first | (go_at_call 108; refine (bitat_any s k _ hk8 (by omega)).mono ?_; rintro e w' ⟨rfl, rfl⟩) | (at_builtin; go_must (refine wpList_push w.heap.size w (bitAt s k) hown rfl _ _ rfl rfl rfl ?_ hbel ?_ ?_)))
      · rw [HL.out]; omega
      · exact hbel.size
      · intro v' w1 hown' hbel'
        rw [← unpackTo_succ] at hown'
        clear hown hbel
        go_wp2
        go_roundw
        case rel => exact ⟨k + 1, by omega, by go_num, hown', hbel'⟩
        case measure => simp [intOf]; omega
    · obtain rfl : k = N := by omega
      go_wp2_with fail
      go_ret
      exact ⟨_, rfl, hown, hbel⟩
theorem rsize_any (S : Setg) (bytes : Int) (w : World) (h : 0 ≤ bytes ∧ bytes ≤ 40) : Calls Tryz.prog 39 #[S.val, .int .i64 bytes] w fun e w' => e = .returned (.int .i64 (codedN S bytes)) ∧ Below w.heap.size w w' := by
  have hse := fun wz => sealed_any bytes wz h
  have HC := hid (show codedN S bytes = if S.code = 0 then 3 * (8 * bytes + 24) + 18 else S.size from rfl)
  obtain ⟨R, eR⟩ : ∃ R, R = codedN S bytes := ⟨_, rfl⟩
  rw [← eR] at HC
  rw [← eR]
  clear eR
  obtain ⟨cd, sz, od, sd, ct⟩ := S
  unfold Setg.val
  dsimp only at HC ⊢
  have hb1 : Below w.heap.size w (w.alloc (.cells #[.int .i64 cd, .int .i64 sz, .int .i64 od, .int .i64 sd, .int .i64 ct] 55)) := (Below.refl _ w).alloc (Nat.le_refl _) _
  by_cases h0 : cd = 0
  · have k0 : (cd == 0) = true := by simpa using h0
    have HV := hid (show 3 * (8 * bytes + 24) + 18 = R by rw [HC.out, if_pos h0])
    clear HC h0
    go_enter Tryz.func39, Tryz.ntmps39
    go_wp2_with fail
    refine (hse _).mono ?_
    rintro e w1 ⟨rfl, hw1⟩
    go_wp2_with fail
    go_ret
    exact ⟨ret_intL (by rw [← HV.out]), hb1.trans (hw1.mono hb1.size)⟩
  · have k0 : (cd == 0) = false := by simpa using h0
    have HV := hid (show sz = R by rw [HC.out, if_neg h0])
    clear HC h0
    go_enter Tryz.func39, Tryz.ntmps39
    go_wp2_with fail
    go_ret
    exact ⟨ret_intL HV.out, hb1⟩
end Go.Proofs.YtplkmkbambbemadGreatDoor
namespace Go.Proofs.YtplkmkbambbemadGreatDoor
open Go.ChangeShapes Go.WideShapes Go.ChangeAt Go.RowKit
def placesTo (n k i : Nat) : List Int := ints ((List.range i).filter (isPlace n k))
theorem placesTo_yes {n k i : Nat} (h : isPlace n k i = true) : placesTo n k (i + 1) = placesTo n k i ++ [(i : Int)] := by
  unfold placesTo ints
  rw [List.range_succ, List.filter_append, List.map_append]
  simp [h]
theorem placesTo_no {n k i : Nat} (h : isPlace n k i = false) : placesTo n k (i + 1) = placesTo n k i := by
  unfold placesTo ints
  rw [List.range_succ, List.filter_append, List.map_append]
  simp [h]
theorem placesTo_le (n k i : Nat) : (placesTo n k i).length ≤ i := by
  unfold placesTo
  rw [ints_length]
  have := List.length_filter_le (isPlace n k) (List.range i)
  simpa using this
theorem betterTo_le (i m : Nat) : betterTo i m ≤ m := by
  unfold betterTo
  have := List.length_filter_le (fun j => btr j i) (List.range m)
  simpa using this
theorem bthenB {B : Nat} {w w1 w2 : World} (h1 : Below B w w1) (h2 : Below w1.heap.size w1 w2) (hB : B ≤ w1.heap.size) : Below B w w2 := h1.trans (h2.mono hB)
set_option maxRecDepth 100000 in
set_option maxHeartbeats 4000000 in
theorem rplaces_any (n k : Nat) (w : World) (hn : n ≤ 512) :
    Calls Tryz.prog 111 #[.int .i64 n, .int .i64 k] w fun e w' => ∃ v, e = .returned v ∧ OwnI w' w.heap.size v (ints (placesM n k)) ∧ Below w.heap.size w w' := by
  go_enter Tryz.func111, Tryz.ntmps111
  go_wp2
  go_loopw [5, 6] (fun v q wr => ∃ i : Nat, i ≤ n ∧ q = .int .i64 i ∧ OwnI wr w.heap.size v (placesTo n k i) ∧ Below w.heap.size w wr) (fun _ q _ => n - (intOf q).toNat)
  case atStart => exact ⟨0, Nat.zero_le _, rfl, OwnI.nil _ _, Below.refl _ _⟩
  case round =>
    obtain ⟨i, hi, rfl, hown, hbel⟩ := hrel
    by_cases hlt : i < n
    · go_wp2
      go_loopw [7, 8] (fun q7 q8 ws => ∃ j : Nat, j ≤ n ∧ q7 = .int .i64 (betterTo i j : Nat) ∧ q8 = .int .i64 j ∧ OwnI ws w.heap.size u5 (placesTo n k i) ∧ Below w.heap.size w ws) (fun _ q8 _ => n - (intOf q8).toNat)
      case atStart => exact ⟨0, Nat.zero_le _, rfl, rfl, hown, hbel⟩
      case round =>
        obtain ⟨j, hj, rfl, rfl, ho, hb⟩ := hrel
        have hble : betterTo i j ≤ j := betterTo_le i j
        by_cases hlj : j < n
        · have HS := hid (betterTo_succ i j)
          have bj := worthI_bd j
          have bi := worthI_bd i
          have HBT := hid (show btr j i = decide (worthI i < worthI j ∨ worthI j = worthI i ∧ i < j) from rfl)
          obtain ⟨x, ex⟩ : ∃ x, x = worthI j := ⟨_, rfl⟩
          obtain ⟨y, ey⟩ : ∃ y, y = worthI i := ⟨_, rfl⟩
          have Ej := hid ex.symm
          have Ei := hid ey.symm
          rw [← ex, ← ey] at HBT
          rw [← ex] at bj
          rw [← ey] at bi
          generalize betterTo i j = t at *
          clear ex ey hown hbel
          by_cases c1 : y < x
          · have HB : Hid (betterTo i (j + 1) = t + 1) := by unfold Hid; rw [HS.out, HBT.out, decide_eq_true (.inl c1)]; rfl
            clear HS HBT
            go_wp2_with fail
            refine (rworth_any j _ (by omega)).mono ?_
            rintro e w1 ⟨rfl, hb1⟩
            rw [Ej.out]
            go_wp2_with fail
            refine (rworth_any i _ (by omega)).mono ?_
            rintro e w2 ⟨rfl, hb2⟩
            rw [Ei.out]
            have hbx := (bthen hb1 hb2)
            have ho' := ho.below hbx
            have hb' := bthenB hb hbx hb.size
            go_wp2
            go_roundw
            case rel => exact ⟨j + 1, by omega, by rw [HB.out]; go_num, by go_num, ho', hb'⟩
            case measure => simp [intOf]; omega
          · by_cases c2 : x = y
            · subst c2
              by_cases c3 : i < j
              · have HB : Hid (betterTo i (j + 1) = t + 1) := by unfold Hid; rw [HS.out, HBT.out, decide_eq_true (.inr ⟨rfl, c3⟩)]; rfl
                clear HS HBT
                go_wp2_with fail
                refine (rworth_any j _ (by omega)).mono ?_
                rintro e w1 ⟨rfl, hb1⟩
                rw [Ej.out]
                go_wp2_with fail
                refine (rworth_any i _ (by omega)).mono ?_
                rintro e w2 ⟨rfl, hb2⟩
                rw [Ei.out]
                go_wp2_with fail
                refine (rworth_any j _ (by omega)).mono ?_
                rintro e w3 ⟨rfl, hb3⟩
                rw [Ej.out]
                go_wp2_with fail
                refine (rworth_any i _ (by omega)).mono ?_
                rintro e w4 ⟨rfl, hb4⟩
                rw [Ei.out]
                have hbx := (bthen (bthen (bthen hb1 hb2) hb3) hb4)
                have ho' := ho.below hbx
                have hb' := bthenB hb hbx hb.size
                go_wp2
                go_roundw
                case rel => exact ⟨j + 1, by omega, by rw [HB.out]; go_num, by go_num, ho', hb'⟩
                case measure => simp [intOf]; omega
              · have HB : Hid (betterTo i (j + 1) = t) := by
                  unfold Hid
                  rw [HS.out, HBT.out, decide_eq_false (by omega)]
                  rfl
                clear HS HBT
                go_wp2_with fail
                refine (rworth_any j _ (by omega)).mono ?_
                rintro e w1 ⟨rfl, hb1⟩
                rw [Ej.out]
                go_wp2_with fail
                refine (rworth_any i _ (by omega)).mono ?_
                rintro e w2 ⟨rfl, hb2⟩
                rw [Ei.out]
                go_wp2_with fail
                refine (rworth_any j _ (by omega)).mono ?_
                rintro e w3 ⟨rfl, hb3⟩
                rw [Ej.out]
                go_wp2_with fail
                refine (rworth_any i _ (by omega)).mono ?_
                rintro e w4 ⟨rfl, hb4⟩
                rw [Ei.out]
                have hbx := (bthen (bthen (bthen hb1 hb2) hb3) hb4)
                have ho' := ho.below hbx
                have hb' := bthenB hb hbx hb.size
                go_wp2
                go_roundw
                case rel => exact ⟨j + 1, by omega, by rw [HB.out], by go_num, ho', hb'⟩
                case measure => simp [intOf]; omega
            · have hne : (x == y) = false := beq_false_of_ne c2
              have HB : Hid (betterTo i (j + 1) = t) := by
                unfold Hid
                rw [HS.out, HBT.out, decide_eq_false (by omega)]
                rfl
              clear HS HBT
              go_wp2_with fail
              refine (rworth_any j _ (by omega)).mono ?_
              rintro e w1 ⟨rfl, hb1⟩
              rw [Ej.out]
              go_wp2_with fail
              refine (rworth_any i _ (by omega)).mono ?_
              rintro e w2 ⟨rfl, hb2⟩
              rw [Ei.out]
              go_wp2_with fail
              refine (rworth_any j _ (by omega)).mono ?_
              rintro e w3 ⟨rfl, hb3⟩
              rw [Ej.out]
              go_wp2_with fail
              refine (rworth_any i _ (by omega)).mono ?_
              rintro e w4 ⟨rfl, hb4⟩
              rw [Ei.out]
              have hbx := (bthen (bthen (bthen hb1 hb2) hb3) hb4)
              have ho' := ho.below hbx
              have hb' := bthenB hb hbx hb.size
              go_wp2
              go_roundw
              case rel => exact ⟨j + 1, by omega, by rw [HB.out], by go_num, ho', hb'⟩
              case measure => simp [intOf]; omega
        · obtain rfl : j = n := by omega
          have hsz := hb.size
          have hpl := placesTo_le j k i
          have HLE : Hid ((placesTo j k i).length < 8796093022208) := by unfold Hid; omega
          by_cases hlk : betterTo i j < k
          · have HP := hid (placesTo_yes (n := j) (k := k) (i := i) (decide_eq_true hlk))
            generalize betterTo i j = t at *
            clear hown hbel hpl
            go_wp2_with (first | (at_builtin; refine wpList_pushI w.heap.size w (i : Int) ho rfl _ _ rfl rfl rfl HLE.out hb hb.size ?_))
            intro v' w1 ho' hb'
            rw [← HP.out] at ho'
            go_wp2
            go_roundw
            case rel => exact ⟨i + 1, by omega, by go_num, ho', hb'⟩
            case measure => simp [intOf]; omega
          · have HP := hid (placesTo_no (n := j) (k := k) (i := i) (decide_eq_false hlk))
            generalize betterTo i j = t at *
            clear hown hbel hpl
            rw [← HP.out] at ho
            go_wp2
            go_roundw
            case rel => exact ⟨i + 1, by omega, by go_num, ho, hb⟩
            case measure => simp [intOf]; omega
    · obtain rfl : i = n := by omega
      go_wp2
      go_ret
      exact ⟨_, rfl, hown, hbel⟩
/-- A list of numbers of one's own, as a slice. -/
theorem OwnI.slice {w : World} {B : Nat} {v : Value} {L : List Int} {k : Nat} (h : OwnI w B v L) (hk : L.length = k) : ∃ a c, v = .slice a k c ∧ k ≤ c ∧ c ≤ maxLen ∧ Rd .i64 w a L ∧ (∀ g o, a = some ⟨g, o, none⟩ → B ≤ g) := by
  obtain ⟨a, c, rfl, h1, h2⟩ := h.shape
  subst hk
  refine ⟨a, c, rfl, h1, h2, h.rd, ?_⟩
  rintro g o rfl
  exact ownI_blocks h g rfl
theorem places_at {n k i : Nat} (hk : k ≤ n) (hi : i < k) : (placesM n k).getD i 0 < n := by
  have hl := places_length hk
  have e : (placesM n k).getD i 0 = (placesM n k)[i] := by simp [List.getD, hl, hi]
  rw [e]
  exact places_lt (List.getElem_mem _)
set_option maxRecDepth 100000 in
set_option maxHeartbeats 2000000 in
theorem rhalved_any (m : Nat) (b : List Int) (a : Option Addr) (n k c : Nat) (w : World) (ha : Rd .u8 w a b) (hb : AllBits b) (hl : b.length = k) (hk : k ≤ n) (hn : n = 2 ^ m) (h5 : n ≤ 512) :
    Calls Tryz.prog 77 #[.slice a k c, .int .i64 n] w fun e w' => ∃ v, e = .returned v ∧ Own w' w.heap.size v (turnM m (spreadM n (placesM n k) b k)) ∧ Below w.heap.size w w' := by
  have HL := hid hl
  have HN := hid hn
  have HP := hid (places_length hk)
  have HPI := hid ((ints_length (placesM n k)).trans HP.out)
  have hbb := spread_bits n (placesM n k) b hb.at k
  have HSL := hid (spread_length n (placesM n k) b k)
  clear hl hn
  go_enter Tryz.func77, Tryz.ntmps77
  go_wp2_with (first
    | (refine wpList_makeBytes w.heap.size w n rfl _ _ rfl _ _ rfl rfl rfl rfl (by omega) (Below.refl _ _) (Nat.le_refl _) ?_; intro w1 hown1 hbel1 hlt1; obtain ⟨har1, -, -⟩ := hown1.arr)
    | fail)
  refine (rplaces_any n k _ h5).mono ?_
  rintro e w2 ⟨v2, rfl, hown2, hbel2⟩
  obtain ⟨aP, cP, rfl, hcP, hcPm, hrP, hgP⟩ := hown2.slice HPI.out
  unfold maxLen at hcPm
  have hb12 := hbel1.trans (hbel2.mono hbel1.size)
  have har2 := har1.below hbel2 hlt1
  have hs2 : w.heap.size ≤ w2.heap.size := hb12.size
  go_wp2
  go_loopw [7] (fun q wr => ∃ i : Nat, i ≤ k ∧ q = .int .i64 i ∧ ArrAt .u8 5 wr w.heap.size (spreadM n (placesM n k) b i) ∧ Kept [w.heap.size] w2 wr) (fun q _ => k - (intOf q).toNat)
  case atStart => exact ⟨0, Nat.zero_le _, rfl, har2, Kept.refl _ _⟩
  case round =>
    obtain ⟨i, hi, rfl, har, hkept⟩ := hrel
    have hbel := hb12.trans (hkept.below hs2 (by simp))
    by_cases hlt : i < k
    · obtain ⟨b1, o1, rfl, hc1⟩ := (ha.below hbel).at (i := i) (by rw [HL.out]; exact hlt)
      have g1 := hc1 i (by rw [HL.out]; exact hlt)
      obtain ⟨b2, o2, rfl, hc2⟩ := (hkept.rd hrP (fun g o e => by have := hgP g o e; simp; omega)).at (i := i) (by rw [HPI.out]; exact hlt)
      have g2 := hc2 i (by rw [HPI.out]; exact hlt)
      rw [ints_at] at g2
      have hpl := places_at hk hlt
      have hset := har.set ((placesM n k).getD i 0) (b.getD i 0)
      have HSP := hid (show (spreadM n (placesM n k) b i).set ((placesM n k).getD i 0) (b.getD i 0) = spreadM n (placesM n k) b (i + 1) from rfl)
      rw [HSP.out] at hset
      have hf := har.free ((placesM n k).getD i 0)
      have hcz := har.cell (j := (placesM n k).getD i 0) (by rw [spread_length]; exact hpl)
      have hkept' := hkept.setCell (p := ⟨w.heap.size, (placesM n k).getD i 0, none⟩) (by simp) (.int .u8 (b.getD i 0))
      clear hc1 hc2 HSP har hkept
      generalize (placesM n k).getD i 0 = p at *
      generalize b.getD i 0 = y at *
      generalize (spreadM n (placesM n k) b i).getD p 0 = z at *
      have hpp : (p : Int) < (n : Int) := by omega
      go_wp2_with fail
      go_region
      all_goals
        go_wp2
        go_roundw
        case rel => exact ⟨i + 1, by omega, by go_num, hset, hkept'.drew⟩
        case measure => simp [intOf]; omega
    · obtain rfl : i = k := by omega
      have HRS := hid (spread_length n (placesM n i) b i)
      have hrd : Rd .u8 wr (some ⟨w.heap.size, 0, none⟩) (spreadM n (placesM n i) b i) := by
        have h0 := ArrAt.rd (A := []) (Z := []) (x := spreadM n (placesM n i) b i) (o := 0) (by simpa using har) rfl
        exact h0
      go_wp2_with fail
      refine (rturn_any m _ _ n n _ hrd HRS.out HN.out h5 (Nat.le_refl _) hbb).mono ?_
      rintro e w3 ⟨v3, rfl, ho3, hb3⟩
      go_wp2
      go_ret
      exact ⟨_, rfl, ho3.mono hbel.size, hbel.trans (hb3.mono hbel.size)⟩
end Go.Proofs.YtplkmkbambbemadGreatDoor
