import Derived.Test.YtdndeegpbjlibadGreatDoorK12
import Derived.Test.YtdndeegpbjlibadGreatDoorK03
namespace Go.Proofs.YtdndeegpbjlibadGreatDoor
open Go.ChangeShapes Go.WideShapes Go.ChangeAt Go.RowKit

theorem below_setRow {B : Nat} {a w : World} (h : Below B a w) {g : Nat} (hg : B ≤ g) (cs : Array Value) : Below B a (w.setRow g cs) :=
  h.trans ⟨rfl, rfl, rfl, by simp, fun k hk => setRow_other w g k cs (by omega)⟩

def wordsTo (n : Nat) : List Int := (List.range 64).map fun S => if S < n then wordI (2 * (S : Int)) else 0
theorem wordsTo_length (n : Nat) : (wordsTo n).length = 64 := by simp [wordsTo]
theorem wordsTo_set (n : Nat) : (wordsTo n).set n (wordI (2 * (n : Int))) = wordsTo (n + 1) := by
  refine List.ext_getElem (by simp [wordsTo]) fun j h1 h2 => ?_
  rw [List.getElem_set]
  simp only [wordsTo, List.getElem_map, List.getElem_range]
  by_cases hj : n = j
  · subst hj; simp
  · rw [if_neg hj]
    by_cases h : j < n
    · rw [if_pos h, if_pos (by omega)]
    · rw [if_neg h, if_neg (by omega)]
theorem wordsTo_at (S : Nat) (h : S < 64) : (wordsTo 64).getD S 0 = wordI (2 * (S : Int)) := by simp [wordsTo, List.getD, h]

set_option maxRecDepth 100000 in
set_option maxHeartbeats 1000000 in
theorem words_any (w : World) (hT : Taps w) :
    Calls Tryz.prog 50 #[] w fun e w' => e = .returned (.agg ((wordsTo 64).map (Value.int .u64)).toArray) ∧ Below w.heap.size w w' := by
  go_enter Tryz.func50, Tryz.ntmps50
  go_wp2
  have hsz : w.heap.size < w.heap.size + 1 := by omega
  go_loopw [3] (fun q wr => ∃ S : Nat, S ≤ 64 ∧ q = .int .i64 S ∧ ArrAt .u64 91 wr w.heap.size (List.replicate 64 0) ∧ ArrAt .u64 91 wr (w.heap.size + 1) (wordsTo S) ∧ Below w.heap.size w wr) (fun q _ => 64 - (intOf q).toNat)
  case atStart =>
    refine ⟨0, by omega, rfl, ?_, ?_, ?_⟩
    · exact (Below.heap_alloc _ _ w.heap.size (by simp)).trans (heap_alloc_new w _)
    · have := heap_alloc_new (w.alloc (.cells ((List.replicate 64 (0 : Int)).map (Value.int .u64)).toArray 91)) (.cells ((List.replicate 64 (0 : Int)).map (Value.int .u64)).toArray 91)
      have e : (w.alloc (.cells ((List.replicate 64 (0 : Int)).map (Value.int .u64)).toArray 91)).heap.size = w.heap.size + 1 := by simp
      rw [e] at this
      exact this
    · exact (((Below.refl _ _).alloc (Nat.le_refl _) _).alloc (by simp) _)
  case round =>
    obtain ⟨S, hS, rfl, hA, hB, hbel⟩ := hrel
    by_cases hlt : S < 64
    · have hc := hB.cell (j := S) (by rw [wordsTo_length]; exact hlt)
      have hf := hB.free S
      have hT' := hT.below hbel
      have hset := hB.set S (wordI (2 * (S : Int)))
      rw [wordsTo_set] at hset
      have hA' := hA.other ⟨w.heap.size + 1, S, none⟩ (.int .u64 (wordI (2 * (S : Int)))) (by show w.heap.size ≠ w.heap.size + 1; omega)
      have hbel' := hbel.setCell (p := ⟨w.heap.size + 1, S, none⟩) (by show w.heap.size ≤ w.heap.size + 1; omega) (.int .u64 (wordI (2 * (S : Int))))
      clear hA hB hbel
      have hw := wordI_bd (2 * (S : Int))
      have HE1 := hid (show (S : Int) * 2 = ((2 * S : Nat) : Int) by omega)
      have HE2 := hid (show ((2 * S : Nat) : Int) = 2 * (S : Int) by omega)
      go_wp2_with (first | (go_at_call 30; rw [HE1.out]; refine (word_any (2 * S) (by omega) _ hT').mono ?_; rintro e w' ⟨rfl, rfl⟩; rw [HE2.out]))
      go_roundw
      case rel => exact ⟨S + 1, by omega, by go_num, hA', hset, hbel'⟩
      case measure => simp [intOf]; omega
    · obtain rfl : S = 64 := by omega
      go_wp2_with (first | (refine wpList_load_row rfl 91 (.tmp 1) rfl (w.heap.size + 1) rfl 91 _ (0, 0) _ hB Tryz.underlying91 rfl (by kernel_rfl) ?_) | (refine wpList_store_row rfl 91 (.tmp 0) (.tmp 13) rfl w.heap.size 91 _ _ rfl rfl hA (by kernel_rfl) (by simp [wordsTo]) (by kernel_rfl) ?_))
      refine bodyPost_ret (results_cell_row (p := 0) (ty := 91) (by kernel_rfl) _ _ w.heap.size 91 _ (0, 0) _ rfl (setRow_heap _ _ _ _ _ _ hA) Tryz.underlying91 rfl (by kernel_rfl)) rfl ?_
      exact ⟨rfl, below_setRow hbel (Nat.le_refl _) _⟩
end Go.Proofs.YtdndeegpbjlibadGreatDoor

namespace Go.Proofs.YtdndeegpbjlibadGreatDoor
open Go.ChangeShapes Go.WideShapes Go.ChangeAt Go.RowKit

/-- What a word scores of the first j of what is heard. -/
def psum (hs : List Int) (v : Nat) : Nat → Int
  | 0 => 0
  | j + 1 => psum hs v j + sgn ((v / 2 ^ (2 - j) % 2 : Nat) : Int) (hs.getD j 0)
theorem psum_bd (hs : List Int) (v : Nat) (h : ∀ k, -100000 ≤ hs.getD k 0 ∧ hs.getD k 0 ≤ 100000) : ∀ j : Nat, -(100000 * (j : Int)) ≤ psum hs v j ∧ psum hs v j ≤ 100000 * (j : Int)
  | 0 => by simp [psum]
  | j + 1 => by
    have := psum_bd hs v h j
    have := h j
    unfold psum sgn
    split <;> omega
/-- The gains, while they are made. -/
def gainsTo (hs : List Int) (v j : Nat) : List Int := (List.range 8).map fun u => if u < v then psum hs u 3 else if u = v then psum hs v j else 0
theorem gainsTo_length (hs : List Int) (v j : Nat) : (gainsTo hs v j).length = 8 := by simp [gainsTo]
theorem gainsTo_at (hs : List Int) (v j : Nat) (h : v < 8) : (gainsTo hs v j).getD v 0 = psum hs v j := by simp [gainsTo, List.getD, h]
theorem gainsTo_set (hs : List Int) (v j : Nat) : (gainsTo hs v j).set v (psum hs v (j + 1)) = gainsTo hs v (j + 1) := by
  refine List.ext_getElem (by simp [gainsTo]) fun u h1 h2 => ?_
  rw [List.getElem_set]
  simp only [gainsTo, List.getElem_map, List.getElem_range]
  by_cases hu : v = u
  · subst hu; simp
  · have hu' : ¬ u = v := fun e => hu e.symm
    rw [if_neg hu, if_neg hu', if_neg hu']
theorem gainsTo_next (hs : List Int) (v : Nat) : gainsTo hs v 3 = gainsTo hs (v + 1) 0 := by
  refine List.ext_getElem (by simp [gainsTo]) fun u h1 h2 => ?_
  simp only [gainsTo, List.getElem_map, List.getElem_range]
  by_cases h : u < v
  · rw [if_pos h, if_pos (by omega)]
  · rw [if_neg h]
    by_cases e : u = v
    · subst e; rw [if_pos rfl, if_pos (by omega)]
    · rw [if_neg e, if_neg (by omega)]
      split
      · simp [psum]
      · rfl
theorem gainsTo_zero (hs : List Int) : gainsTo hs 0 0 = List.replicate 8 0 := by
  simp only [gainsTo, psum]
  rfl
theorem gainsTo_all (hs : List Int) (v : Nat) (h : v < 8) : (gainsTo hs 8 0).getD v 0 = psum hs v 3 := by simp [gainsTo, List.getD, h]

theorem psum_gw (soft : List Int) (i v : Nat) (hs : List Int) (h0 : hs.getD 0 0 = soft.getD (3 * i) 0) (h1 : hs.getD 1 0 = soft.getD (3 * i + 1) 0) (h2 : hs.getD 2 0 = soft.getD (3 * i + 2) 0) : psum hs v 3 = gw soft i (v : Int) := by
  show 0 + sgn ((v / 2 ^ 2 % 2 : Nat) : Int) (hs.getD 0 0) + sgn ((v / 2 ^ 1 % 2 : Nat) : Int) (hs.getD 1 0) + sgn ((v / 2 ^ 0 % 2 : Nat) : Int) (hs.getD 2 0) = _
  unfold gw
  rw [h0, h1, h2, show ((v / 2 ^ 2 % 2 : Nat) : Int) = (v : Int) / 4 % 2 by omega, show ((v / 2 ^ 1 % 2 : Nat) : Int) = (v : Int) / 2 % 2 by omega, show ((v / 2 ^ 0 % 2 : Nat) : Int) = (v : Int) % 2 by omega]
  omega

theorem and1_i64 : ∀ x : Fin 8, bits .and .i64 (x.val : Int) 1 = ((x.val % 2 : Nat) : Int) := by decide +kernel

set_option maxRecDepth 100000 in
set_option maxHeartbeats 1000000 in
theorem gains_any (hs : List Int) (a : Option Addr) (c : Nat) (w : World) (ha : Rd .i64 w a hs) (hl : hs.length = 3) (hb : ∀ k, -100000 ≤ hs.getD k 0 ∧ hs.getD k 0 ≤ 100000) :
    Calls Tryz.prog 51 #[.slice a 3 c] w fun e w' => e = .returned (.agg ((gainsTo hs 8 0).map (Value.int .i64)).toArray) ∧ Below w.heap.size w w' := by
  obtain ⟨b1, o1, rfl, hc1⟩ := ha.at (i := 0) (by omega)
  have q0 := hc1 0 (by omega)
  have q1 := hc1 1 (by omega)
  have q2 := hc1 2 (by omega)
  rw [Nat.add_zero] at q0
  have hlt1 : b1 < w.heap.size := World.block_lt_of_cell? w _ q0
  have HB := hid hb
  clear hc1 hb
  obtain ⟨B, hB⟩ : ∃ B, B = w.heap.size := ⟨_, rfl⟩
  go_enter Tryz.func51, Tryz.ntmps51
  go_wp2
  rw [← hB]
  have HBB := hid hB
  rw [← hB] at hlt1
  clear hB
  go_loopw [7] (fun q wr => ∃ v : Nat, v ≤ 8 ∧ q = .int .i64 v ∧ ArrAt .i64 94 wr B (List.replicate 8 0) ∧ ArrAt .i64 94 wr (B + 1) (gainsTo hs v 0) ∧ Below B w wr) (fun q _ => 8 - (intOf q).toNat)
  case atStart =>
    refine ⟨0, by omega, rfl, ?_, ?_, ?_⟩
    · rw [HBB.out]
      exact (Below.heap_alloc _ _ w.heap.size (by simp)).trans (heap_alloc_new w _)
    · have := heap_alloc_new (w.alloc (.cells ((List.replicate 8 (0 : Int)).map (Value.int .i64)).toArray 94)) (.cells ((List.replicate 8 (0 : Int)).map (Value.int .i64)).toArray 94)
      have e : (w.alloc (.cells ((List.replicate 8 (0 : Int)).map (Value.int .i64)).toArray 94)).heap.size = B + 1 := by simp [HBB.out]
      rw [e] at this
      rw [gainsTo_zero]
      exact this
    · exact (((Below.refl _ _).alloc (by rw [HBB.out]; exact Nat.le_refl _) _).alloc (by rw [HBB.out]; simp) _)
  case round =>
    obtain ⟨v, hv, rfl, hA, hG, hbel⟩ := hrel
    by_cases hlt : v < 8
    · go_wp2
      go_loopw [12] (fun q wr => ∃ j : Nat, j ≤ 3 ∧ q = .int .i64 j ∧ ArrAt .i64 94 wr B (List.replicate 8 0) ∧ ArrAt .i64 94 wr (B + 1) (gainsTo hs v j) ∧ Below B w wr) (fun q _ => 3 - (intOf q).toNat)
      case atStart => exact ⟨0, by omega, rfl, hA, hG, hbel⟩
      case round =>
        clear hA hG hbel
        obtain ⟨j, hj, rfl, hA, hG, hbel⟩ := hrel
        rcases (show j = 0 ∨ j = 1 ∨ j = 2 ∨ j = 3 by omega) with rfl | rfl | rfl | rfl
        · have g1 := (hbel.cell (p := ⟨b1, o1, none⟩) (by show b1 < B; omega)).trans q0
          have hc := hG.cell (j := v) (by rw [gainsTo_length]; exact hlt)
          rw [gainsTo_at hs v 0 hlt] at hc
          have hfr := hG.free v
          have hx := HB.out 0
          have hps := psum_bd hs v HB.out 0
          have hps1 := psum_bd hs v HB.out (0 + 1)
          have hsx := hid (show psum hs v (0 + 1) = psum hs v 0 + sgn ((v / 4 % 2 : Nat) : Int) (hs.getD 0 0) from rfl)
          have hset := hG.set v (psum hs v (0 + 1))
          rw [gainsTo_set] at hset
          have hA' := hA.other ⟨B + 1, v, none⟩ (.int .i64 (psum hs v (0 + 1))) (by show B ≠ B + 1; omega)
          have hbel' := hbel.setCell (p := ⟨B + 1, v, none⟩) (by show B ≤ B + 1; omega) (.int .i64 (psum hs v (0 + 1)))
          have hb1 : bits .and .i64 ((v : Int) / 4) 1 = ((v / 4 % 2 : Nat) : Int) := by
            have := and1_i64 ⟨v / 4, by omega⟩
            rw [← this]
            congr 1
          clear hA hG hbel
          obtain ⟨p0, e0⟩ : ∃ p0, p0 = psum hs v 0 := ⟨_, rfl⟩
          obtain ⟨p1, e1⟩ : ∃ p1, p1 = psum hs v (0 + 1) := ⟨_, rfl⟩
          obtain ⟨x, ex⟩ : ∃ x, x = hs.getD 0 0 := ⟨_, rfl⟩
          obtain ⟨y, ey⟩ : ∃ y, y = v / 4 % 2 := ⟨_, rfl⟩
          rw [← e0] at hc hps hsx
          rw [← e1] at hset hA' hbel' hps1 hsx
          rw [← ex] at g1 hx hsx
          rw [← ey] at hb1 hsx
          have EE := hid ey
          clear e0 e1 ex ey
          by_cases h1 : y = 1
          · subst h1
            have hv1 := hid (show p0 + -x = p1 by rw [hsx.out]; unfold sgn; rw [if_pos (by rfl)])
            go_wp2
            go_roundw
            case rel => rw [hv1.out]; exact ⟨0 + 1, by omega, by go_num, hA', hset, hbel'⟩
            case measure => simp [intOf]
          · obtain rfl : y = 0 := by have := EE.out; omega
            have hv1 := hid (show p0 + x = p1 by rw [hsx.out]; unfold sgn; rw [if_neg (by omega)])
            go_wp2
            go_roundw
            case rel => rw [hv1.out]; exact ⟨0 + 1, by omega, by go_num, hA', hset, hbel'⟩
            case measure => simp [intOf]
        · have g1 := (hbel.cell (p := ⟨b1, o1 + 1, none⟩) (by show b1 < B; omega)).trans q1
          have hc := hG.cell (j := v) (by rw [gainsTo_length]; exact hlt)
          rw [gainsTo_at hs v 1 hlt] at hc
          have hfr := hG.free v
          have hx := HB.out 1
          have hps := psum_bd hs v HB.out 1
          have hps1 := psum_bd hs v HB.out (1 + 1)
          have hsx := hid (show psum hs v (1 + 1) = psum hs v 1 + sgn ((v / 2 % 2 : Nat) : Int) (hs.getD 1 0) from rfl)
          have hset := hG.set v (psum hs v (1 + 1))
          rw [gainsTo_set] at hset
          have hA' := hA.other ⟨B + 1, v, none⟩ (.int .i64 (psum hs v (1 + 1))) (by show B ≠ B + 1; omega)
          have hbel' := hbel.setCell (p := ⟨B + 1, v, none⟩) (by show B ≤ B + 1; omega) (.int .i64 (psum hs v (1 + 1)))
          have hb1 : bits .and .i64 ((v : Int) / 2) 1 = ((v / 2 % 2 : Nat) : Int) := by
            have := and1_i64 ⟨v / 2, by omega⟩
            rw [← this]
            congr 1
          clear hA hG hbel
          obtain ⟨p0, e0⟩ : ∃ p0, p0 = psum hs v 1 := ⟨_, rfl⟩
          obtain ⟨p1, e1⟩ : ∃ p1, p1 = psum hs v (1 + 1) := ⟨_, rfl⟩
          obtain ⟨x, ex⟩ : ∃ x, x = hs.getD 1 0 := ⟨_, rfl⟩
          obtain ⟨y, ey⟩ : ∃ y, y = v / 2 % 2 := ⟨_, rfl⟩
          rw [← e0] at hc hps hsx
          rw [← e1] at hset hA' hbel' hps1 hsx
          rw [← ex] at g1 hx hsx
          rw [← ey] at hb1 hsx
          have EE := hid ey
          clear e0 e1 ex ey
          by_cases h1 : y = 1
          · subst h1
            have hv1 := hid (show p0 + -x = p1 by rw [hsx.out]; unfold sgn; rw [if_pos (by rfl)])
            go_wp2
            go_roundw
            case rel => rw [hv1.out]; exact ⟨1 + 1, by omega, by go_num, hA', hset, hbel'⟩
            case measure => simp [intOf]
          · obtain rfl : y = 0 := by have := EE.out; omega
            have hv1 := hid (show p0 + x = p1 by rw [hsx.out]; unfold sgn; rw [if_neg (by omega)])
            go_wp2
            go_roundw
            case rel => rw [hv1.out]; exact ⟨1 + 1, by omega, by go_num, hA', hset, hbel'⟩
            case measure => simp [intOf]
        · have g1 := (hbel.cell (p := ⟨b1, o1 + 2, none⟩) (by show b1 < B; omega)).trans q2
          have hc := hG.cell (j := v) (by rw [gainsTo_length]; exact hlt)
          rw [gainsTo_at hs v 2 hlt] at hc
          have hfr := hG.free v
          have hx := HB.out 2
          have hps := psum_bd hs v HB.out 2
          have hps1 := psum_bd hs v HB.out (2 + 1)
          have hsx := hid (show psum hs v (2 + 1) = psum hs v 2 + sgn ((v / 1 % 2 : Nat) : Int) (hs.getD 2 0) from rfl)
          have hset := hG.set v (psum hs v (2 + 1))
          rw [gainsTo_set] at hset
          have hA' := hA.other ⟨B + 1, v, none⟩ (.int .i64 (psum hs v (2 + 1))) (by show B ≠ B + 1; omega)
          have hbel' := hbel.setCell (p := ⟨B + 1, v, none⟩) (by show B ≤ B + 1; omega) (.int .i64 (psum hs v (2 + 1)))
          have hb1 : bits .and .i64 ((v : Int)) 1 = ((v / 1 % 2 : Nat) : Int) := by
            have := and1_i64 ⟨v / 1, by omega⟩
            rw [← this]
            congr 1
            simp
          clear hA hG hbel
          obtain ⟨p0, e0⟩ : ∃ p0, p0 = psum hs v 2 := ⟨_, rfl⟩
          obtain ⟨p1, e1⟩ : ∃ p1, p1 = psum hs v (2 + 1) := ⟨_, rfl⟩
          obtain ⟨x, ex⟩ : ∃ x, x = hs.getD 2 0 := ⟨_, rfl⟩
          obtain ⟨y, ey⟩ : ∃ y, y = v / 1 % 2 := ⟨_, rfl⟩
          rw [← e0] at hc hps hsx
          rw [← e1] at hset hA' hbel' hps1 hsx
          rw [← ex] at g1 hx hsx
          rw [← ey] at hb1 hsx
          have EE := hid ey
          clear e0 e1 ex ey
          by_cases h1 : y = 1
          · subst h1
            have hv1 := hid (show p0 + -x = p1 by rw [hsx.out]; unfold sgn; rw [if_pos (by rfl)])
            go_wp2
            go_roundw
            case rel => rw [hv1.out]; exact ⟨2 + 1, by omega, by go_num, hA', hset, hbel'⟩
            case measure => simp [intOf]
          · obtain rfl : y = 0 := by have := EE.out; omega
            have hv1 := hid (show p0 + x = p1 by rw [hsx.out]; unfold sgn; rw [if_neg (by omega)])
            go_wp2
            go_roundw
            case rel => rw [hv1.out]; exact ⟨2 + 1, by omega, by go_num, hA', hset, hbel'⟩
            case measure => simp [intOf]
        · rw [gainsTo_next] at hG
          go_wp2
          go_roundw
          case rel => exact ⟨v + 1, by omega, by go_num, hA, hG, hbel⟩
          case measure => simp [intOf]; omega
    · obtain rfl : v = 8 := by omega
      go_wp2_with (first | (refine wpList_load_row rfl 94 (.tmp 3) rfl (B + 1) rfl 94 _ (0, 0) _ hG Tryz.underlying94 rfl (by kernel_rfl) ?_) | (refine wpList_store_row rfl 94 (.tmp 2) (.tmp 33) rfl B 94 _ _ rfl rfl hA (by kernel_rfl) (by simp [gainsTo]) (by simp [gainsTo, List.range, List.range.loop, Value.oneCell']) ?_))
      refine bodyPost_ret (results_cell_row (p := 2) (ty := 94) (by kernel_rfl) _ _ B 94 _ (0, 0) _ rfl (setRow_heap _ _ _ _ _ _ hA) Tryz.underlying94 rfl (by kernel_rfl)) rfl ?_
      exact ⟨rfl, by rw [← HBB.out]; exact below_setRow hbel (Nat.le_refl _) _⟩
end Go.Proofs.YtdndeegpbjlibadGreatDoor
