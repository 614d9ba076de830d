import Derived.Test.YtfbjedcfppghgabPTurn
import Derived.Test.YtfbjedcfppghgabGood
import Derived.Test.YtfbjedcfppghgabAdded
import Derived.Test.YtfbjedcfppghgabSameB
import Derived.Test.YtfbjedcfppghgabFrame
namespace Go.Proofs.Ytfbjedcfppghgab
open Go.ChangeShapes Go.WideShapes Go.ChangeAt Go.RowKit

theorem Rd.takeO {k : IntKind} {w : World} {a : Option Addr} {zs : List Int} (h : Rd k w a zs) (n : Nat) : Rd k w a (zs.take n) := by
  intro hne
  have hz : zs ≠ [] := by rintro rfl; simp at hne
  obtain ⟨b, o, rfl, hc⟩ := h hz
  exact Rd.take hc n hne
theorem addTo_addL {xs ys : List Int} {n : Nat} (hx : xs.length = n) (hy : ys.length = n) : addTo xs ys n = addL xs ys := by
  refine List.ext_getElem (by simp [addTo, addL, hx, hy]) fun j h1 h2 => ?_
  have hj : j < n := by simpa [addTo] using h1
  simp [addTo, addL, List.getD, hx, hy, hj]
theorem addedN (xs ys : List Int) (n : Nat) (a b : Option Addr) (ca cb : Nat) (w : World) (ha : Rd .u8 w a xs) (hb : Rd .u8 w b ys) (hx : AllBits xs) (hy : AllBits ys) (hn : xs.length = n) (hl : ys.length = n) (hz : n ≤ 4096) :
    Calls Try.prog 7 #[.slice a n ca, .slice b n cb] w fun e w' => ∃ a2 c2, e = .returned (.slice a2 n c2) ∧ Rd .u8 w' a2 (addL xs ys) ∧ Below w.heap.size w w' := by
  have h := added_any xs ys a b ca cb n w ha hb hx.bits hy.bits hl (by omega) hz
  rw [hn] at h
  refine h.mono fun e w' h' => ?_
  obtain ⟨v, rfl, hown, hb⟩ := h'
  rw [addTo_addL hn hl] at hown
  obtain ⟨a2, c2, rfl, -⟩ := hown.shape
  refine ⟨a2, c2, ?_, hown.rd, hb⟩
  rw [addL_length (hn.trans hl.symm), hl]
theorem sameN (xs ys : List Int) (n : Nat) (a b : Option Addr) (ca cb : Nat) (w : World) (ha : Rd .u8 w a xs) (hb : Rd .u8 w b ys) (hn : xs.length = n) (hl : ys.length = n) (hz : n ≤ 4096) (h : xs = ys) :
    Calls Try.prog 6 #[.slice a n ca, .slice b n cb] w fun e w' => e = .returned (.bool true) ∧ Below w.heap.size w w' := by
  have h1 := same_bits xs ys a b ca cb w ha hb (by unfold maxLen; omega) (by unfold maxLen; omega)
  rw [hn, hl, decide_eq_true h] at h1
  exact h1

set_option maxRecDepth 100000 in
set_option maxHeartbeats 2000000 in
theorem twice_any (xs ys : List Int) (a b : Option Addr) (ca cb : Nat) (w : World) (ha : Rd .u8 w a xs) (hb : Rd .u8 w b ys) (hx : xs.length ≤ maxLen) (hy : ys.length ≤ maxLen) (bx : Bytes xs) (by' : Bytes ys) :
    Calls Try.prog 3 #[.slice a xs.length ca, .slice b ys.length cb] w fun e w' => e = .returned (.bool true) ∧ Below w.heap.size w w' := by
  go_enter Try.func3, Try.ntmps3
  go_wp2_with fail
  refine (good_any xs 512 a ca _ ha hx bx (by omega)).mono ?_
  rintro e w1 ⟨v1, rfl, hown1, hb1⟩
  obtain ⟨a1, c1, rfl, hn1, hl1, hm1⟩ := hown1.shape
  go_wp2_with fail
  refine (good_any ys 512 b cb _ (hb.below hb1) hy by' (by omega)).mono ?_
  rintro e w2 ⟨v2, rfl, hown2, hb2⟩
  obtain ⟨a2, c2, rfl, hn2, hl2, hm2⟩ := hown2.shape
  have hL1 : (goodTo xs 512).length ≤ 512 := by rw [goodTo_length]; omega
  have hL2 : (goodTo ys 512).length ≤ 512 := by rw [goodTo_length]; omega
  have bG1 := bits_all (goodTo_bits xs 512)
  have bG2 := bits_all (goodTo_bits ys 512)
  unfold maxLen at hm1 hm2
  have rA := hown1.rd.below hb2
  have rB := hown2.rd
  have hbw := bthen hb1 hb2
  have hN1 : ∀ n, n < (goodTo xs 512).length → ∃ g, a1 = some ⟨g, 0, none⟩ := fun n hn => hn1 (by intro e; rw [e] at hn; simp at hn)
  have hN2 : ∀ n, n < (goodTo ys 512).length → ∃ g, a2 = some ⟨g, 0, none⟩ := fun n hn => hn2 (by intro e; rw [e] at hn; simp at hn)
  clear hn1 hn2 hown1 hown2 hb1 hb2 ha hb hx hy bx by'
  generalize goodTo xs 512 = G1 at *
  generalize goodTo ys 512 = G2 at *
  go_wp2
  go_loop [5] (fun q => ∃ m p : Nat, m ≤ 9 ∧ Hid (p = 2 ^ m) ∧ q = .int .i64 p ∧ 1 ≤ p ∧ p ≤ 512 ∧ (p = 1 ∨ p ≤ G1.length ∧ p ≤ G2.length)) (fun q => 513 - (intOf q).toNat)
  case atStart => exact ⟨0, 1, by omega, rfl, rfl, by omega, by omega, .inl rfl⟩
  case round =>
    obtain ⟨m, p, hm, HP, rfl, h1, h512, hor⟩ := hrel
    by_cases c1' : 2 * p ≤ G1.length ∧ 2 * p ≤ G2.length
    · obtain ⟨q1, q2⟩ := c1'
      have hm' : m + 1 ≤ 9 := by
        rcases Nat.lt_or_ge m 9 with h | h
        · exact h
        · have : 2 ^ 9 ≤ p := by rw [HP.out]; exact Nat.pow_le_pow_right (by omega) h
          omega
      have HP' : Hid (2 * p = 2 ^ (m + 1)) := by unfold Hid; rw [Nat.pow_succ, ← HP.out]; omega
      clear hor
      go_wp2
      go_round
      case rel => exact ⟨m + 1, 2 * p, hm', HP', by go_num, by omega, by omega, .inr ⟨q1, q2⟩⟩
      case measure => simp [intOf]; omega
    · by_cases hbig : p ≤ G1.length ∧ p ≤ G2.length
      · obtain ⟨q1, q2⟩ := hbig
        obtain ⟨g1, rfl⟩ := hN1 0 (by omega)
        obtain ⟨g2, rfl⟩ := hN2 0 (by omega)
        have lA := hid (show (G1.take p).length = p by rw [List.length_take]; omega)
        have lB := hid (show (G2.take p).length = p by rw [List.length_take]; omega)
        have bA : AllBits (G1.take p) := fun z hz => bG1 z (List.mem_of_mem_take hz)
        have bB : AllBits (G2.take p) := fun z hz => bG2 z (List.mem_of_mem_take hz)
        have rA' := rA.takeO p
        have rB' := rB.takeO p
        have hlt1 : p ≤ c1 := by omega
        have hlt2 : p ≤ c2 := by omega
        generalize G1.take p = A at *
        generalize G2.take p = B at *
        have HTT := hid (turn_twice m A (lA.out.trans HP.out) bA)
        have HTA := hid (turn_add m A B (lA.out.trans HP.out) (lB.out.trans HP.out))
        have lX := hid ((turn_length m A (lA.out.trans HP.out)).trans HP.out.symm)
        have lY := hid ((turn_length m B (lB.out.trans HP.out)).trans HP.out.symm)
        have lAB := hid ((addL_length (lA.out.trans lB.out.symm)).trans lB.out)
        have lXY := hid ((addL_length (lX.out.trans lY.out.symm)).trans lY.out)
        have bAB := addL_bits A B
        have bX := turn_bits m A bA
        have bY := turn_bits m B bB
        have hsplit : ¬ 2 * p ≤ G1.length ∨ (2 * p ≤ G1.length ∧ ¬ 2 * p ≤ G2.length) := by omega
        clear c1' hN1 hN2 hor
        rcases hsplit with hs1 | ⟨hs1, hs2⟩
        all_goals
          go_wp2_with fail
          go_quiet (fail)
          have rA0 : Rd .u8 (w2.drewN nq) (some ⟨g1, 0, none⟩) A := rA'
          have rB0 : Rd .u8 (w2.drewN nq) (some ⟨g2, 0, none⟩) B := rB'
          have hbq := below_drewN hbw nq
          generalize w2.drewN nq = wq at *
          clear rA rB rA' rB' hbw
          go_wp2_with fail
          refine (pturn_any m A _ p p _ rA0 lA.out HP.out hm bA).mono ?_
          rintro e w3 ⟨g3, rfl, ho3, hb3⟩
          go_wp2_with fail
          refine (pturn_any m B _ p p _ (rB0.below hb3) lB.out HP.out hm bB).mono ?_
          rintro e w4 ⟨g4, rfl, ho4, hb4⟩
          have hb34 := bthen hb3 hb4
          go_wp2_with fail
          refine (addedN A B p _ _ _ _ _ (rA0.below hb34) (rB0.below hb34) bA bB lA.out lB.out (by omega)).mono ?_
          rintro e w5 ⟨a5, c5, rfl, ho5, hb5⟩
          have hb35 := bthen hb34 hb5
          go_wp2_with fail
          refine (pturn_any m (addL A B) _ p _ _ ho5 lAB.out HP.out hm bAB).mono ?_
          rintro e w6 ⟨g6, rfl, ho6, hb6⟩
          have hb36 := bthen hb35 hb6
          have hb46 := bthen (bthen hb4 hb5) hb6
          have hb56 := bthen hb5 hb6
          go_wp2_with fail
          refine (pturn_any m (turnM m A) _ p _ _ (ho3.rd.below hb46) lX.out HP.out hm bX).mono ?_
          rintro e w7 ⟨g7, rfl, ho7, hb7⟩
          rw [HTT.out] at ho7
          have hb37 := bthen hb36 hb7
          have hb47 := bthen hb46 hb7
          have hb57 := bthen hb56 hb7
          go_wp2_with fail
          refine (sameN A A p _ _ _ _ _ ho7.rd (rA0.below hb37) lA.out lA.out (by omega) rfl).mono ?_
          rintro e w8 ⟨rfl, hb8⟩
          have hb38 := bthen hb37 hb8
          have hb48 := bthen hb47 hb8
          have hb58 := bthen hb57 hb8
          have hb68 := bthen hb7 hb8
          go_wp2_with fail
          refine (addedN (turnM m A) (turnM m B) p _ _ _ _ _ (ho3.rd.below hb48) (ho4.rd.below hb58) bX bY lX.out lY.out (by omega)).mono ?_
          rintro e w9 ⟨a9, c9, rfl, ho9, hb9⟩
          have hb39 := bthen hb38 hb9
          have hb69 := bthen hb68 hb9
          rw [HTA.out] at ho6
          go_wp2_with fail
          refine (sameN (addL (turnM m A) (turnM m B)) (addL (turnM m A) (turnM m B)) p _ _ _ _ _ (ho6.rd.below hb69) ho9 lXY.out lXY.out (by omega) rfl).mono ?_
          rintro e w10 ⟨rfl, hb10⟩
          have hbend := hbq.trans ((bthen hb39 hb10).mono hbq.size)
          go_wp2
          go_ret
          exact ⟨rfl, hbend⟩
      · obtain rfl : p = 1 := by omega
        have hsplit : G1.length < 1 ∨ (¬ G1.length < 1 ∧ G2.length < 1) := by omega
        clear c1' hN1 hN2 hor
        rcases hsplit with hs1 | ⟨hs1, hs2⟩
        all_goals
          go_wp2_with (first
            | (go_at_call 5; refine (pturn_any 0 [1] _ 1 1 _ (rd_block (zs := [1]) (heap_alloc_new _ _)) rfl rfl (by omega) (by intro x hx; simp at hx; omega)).mono ?_; rintro e w3 ⟨g3, rfl, hown3, hb3⟩)
            | (go_at_call 6; refine (sameN [1] [1] 1 _ _ _ _ _ ((hown3.rd).below ((Below.refl _ _).alloc (Nat.le_refl _) _)) (rd_block (zs := [1]) (heap_alloc_new _ _)) rfl rfl (by omega) rfl).mono ?_; rintro e w4 ⟨rfl, hb4⟩))
          all_goals go_ret
          all_goals exact ⟨rfl, hbw.trans ((bthen ((Below.refl _ _).alloc (Nat.le_refl _) _) (bthen hb3 (bthen ((Below.refl _ _).alloc (Nat.le_refl _) _) hb4))).mono hbw.size)⟩
end Go.Proofs.Ytfbjedcfppghgab
