import Derived.Test.YtcnkcbipkchoiagK13
import Derived.Test.YtcnkcbipkchoiagK15
namespace Go.Proofs.Ytcnkcbipkchoiag
open Go.ChangeShapes Go.WideShapes Go.ChangeAt Go.RowKit
theorem lentL_take (k : Int) (ls : List LnM) {i : Nat} (hi : i < ls.length) : lentL k (ls.take (i + 1)) = lentL k (ls.take i) + (ls.getD i .zero).lc k := by
  rw [List.take_add_one, List.getD_eq_getElem?_getD, List.getElem?_eq_getElem hi, lentL_app]
  simp [lentL]
theorem usedL_take (k : Int) (ls : List LnM) {i : Nat} (hi : i < ls.length) : usedL k (ls.take (i + 1)) = usedL k (ls.take i) + (ls.getD i .zero).uc k := by
  rw [List.take_add_one, List.getD_eq_getElem?_getD, List.getElem?_eq_getElem hi, usedL_app]
  simp [usedL]
theorem lentL_take_le (k : Int) (ls : List LnM) (i : Nat) : lentL k (ls.take i) ≤ lentL k ls := by
  have := lentL_app k (ls.take i) (ls.drop i)
  rw [List.take_append_drop] at this
  omega
theorem usedL_take_le (k : Int) (ls : List LnM) (i : Nat) : usedL k (ls.take i) ≤ usedL k ls := by
  have := usedL_app k (ls.take i) (ls.drop i)
  rw [List.take_append_drop] at this
  omega
/-- The cells of a loan. -/
structure LoC (w : World) (g i : Nat) (x : LnM) : Prop where
  c0 : w.cell? ⟨g, i * 5, none⟩ = some (.int .i64 x.who)
  c1 : w.cell? ⟨g, i * 5 + 1, none⟩ = some (.int .i64 (x.bytes : Nat))
  c2 : w.cell? ⟨g, i * 5 + 2, none⟩ = some (.int .i64 (x.used : Nat))
  c3 : w.cell? ⟨g, i * 5 + 3, none⟩ = some (.int .i64 (x.turn : Nat))
  c4 : w.cell? ⟨g, i * 5 + 4, none⟩ = some (.bool x.shut)
  fr : ∀ j, w.frozen? ⟨g, j, none⟩ = false
theorem rowLo_at {w : World} {la : Option Addr} {lc n : Nat} {ls : List LnM} (h : w.ownsRow 0 147 5 (.slice la n lc) n (cellsLo ls)) (hn : n = ls.length) {i : Nat} (hi : i < ls.length) : ∃ g, la = some ⟨g, 0, none⟩ ∧ LoC w g i (ls.getD i .zero) := by
  obtain ⟨g, rfl⟩ := row_some h (by omega)
  obtain ⟨cur, hA, -, -, -, -, h4, -⟩ := row_at h
  have hat : ∀ k, k < 5 → w.cell? ⟨g, i * 5 + k, none⟩ = ((ls.getD i .zero).cellsR)[k]? := fun k hk => by
    rw [hA.cell, ← cellsLo_at ls i k hi hk, ← h4, List.getElem?_take_of_lt (by omega)]
  exact ⟨g, rfl, hat 0 (by omega), hat 1 (by omega), hat 2 (by omega), hat 3 (by omega), hat 4 (by omega), fun j => hA.free j⟩
theorem rowLo_set {w : World} {g lc n : Nat} {ls : List LnM} {i f : Nat} {v : Value} {x : LnM} (h : w.ownsRow 0 147 5 (.slice (some ⟨g, 0, none⟩) n lc) n (cellsLo ls)) (hn : n = ls.length) (hi : i < ls.length) (hf : f < 5) (he : ((ls.getD i .zero).cellsR).set f v = x.cellsR) : (w.setCell ⟨g, i * 5 + f, none⟩ v).ownsRow 0 147 5 (.slice (some ⟨g, 0, none⟩) n lc) n (cellsLo (ls.set i x)) := by
  obtain ⟨cur, hA, -, h1, h2, h3, h4, h5⟩ := row_at h
  refine (hA.setCell (o := i * 5 + f) v).row (by rw [cellsLo_len, List.length_set, hn]) h1 h2 (by rw [List.length_set]; exact h3) ?_
  rw [List.take_set, h4]
  exact cellsLo_set hi hf he
theorem RCo.split {w : World} {r : Nat} {F : List Nat} {m : CoM} {n : Nat} (h : RCo w r F m n) : ∃ la lc pe, F = rfF r la ∧ PRef w r la lc m pe n := h
set_option maxRecDepth 100000 in
set_option maxHeartbeats 4000000 in
theorem rrecord_any {w : World} {r : Nat} {F : List Nat} {m : CoM} {n : Nat} {k : Int} (h : RCo w r F m n) (hn : n ≤ manyN) : Calls Try.prog 27 #[ptrV r, .int .i64 k] w fun e w' => e = .returned (.tuple #[recV m k, .int .i64 (m.recErr k)]) ∧ Below w.heap.size w w' := by
  obtain ⟨la, lc, pe, rfl, h⟩ := h
  have hb0 : Below w.heap.size w (w.alloc (.cells #[.int .i64 0, .int .i64 0, .int .i64 0] 74)) := (Below.refl _ w).alloc (Nat.le_refl _) _
  have h2 := h.kept (Kept.of_below (S := []) hb0) (by simp)
  have hkn := rknows_any h2 k
  cases hp : m.per k with
  | none =>
    rw [hp] at hkn
    unfold recV
    rw [(rec_none hp).1, (rec_none hp).2]
    have hN := at_alloc w 74 [.int .i64 0, .int .i64 0, .int .i64 0]
    have n0 : (w.alloc (.cells #[.int .i64 0, .int .i64 0, .int .i64 0] 74)).cell? ⟨w.heap.size, 0, none⟩ = some (.int .i64 0) := hN.cell 0
    have n1 : (w.alloc (.cells #[.int .i64 0, .int .i64 0, .int .i64 0] 74)).cell? ⟨w.heap.size, 1, none⟩ = some (.int .i64 0) := hN.cell 1
    have n2 : (w.alloc (.cells #[.int .i64 0, .int .i64 0, .int .i64 0] 74)).cell? ⟨w.heap.size, 2, none⟩ = some (.int .i64 0) := hN.cell 2
    have g0 := hN.free 0
    have g1 := hN.free 1
    have g2 := hN.free 2
    clear h h2 hp hN
    unfold ptrV at *
    go_enter Try.func27, Try.ntmps27
    go_wp2_with (go_at_call 76; refine hkn.mono ?_; rintro e w1 ⟨rfl, rfl⟩)
    (try simp only [Exit.inBlock, Exit.then])
    refine bodyPost_ret (v := .tuple #[.agg #[.int .i64 0, .int .i64 0, .int .i64 0], .int .i64 12]) ?_ rfl ⟨rfl, ?_⟩
    · rw [results_cell_tmp rfl]
      go_simp
    · exact (Below.refl _ w).alloc (Nat.le_refl _) _
  | some p =>
    rw [hp] at hkn
    obtain ⟨q1, q2, q3, q4, q5, q6, q7⟩ := h.ok.pr k p hp
    have hlen := h.ok.len
    have hlb := fun i => lentL_take_le k m.loans i
    have hub := fun i => usedL_take_le k m.loans i
    have q7' : lentL k m.loans + usedL k m.loans ≤ p.quota := q7
    obtain ⟨kn, ek⟩ : ∃ kn : Nat, k = (kn : Int) := ⟨k.toNat, by omega⟩
    have hk17 : kn < 17 := by omega
    have hr := h.rl kn (by omega) (by omega)
    rw [← ek, hp] at hr
    have hqu := hr.2.2.1
    have HX : Hid (∀ wr, Below w.heap.size w wr → wr.cell? ⟨r, 86, none⟩ = some (.slice la m.loans.length lc) ∧ wr.cell? ⟨r, 1 + kn * 5 + 4, none⟩ = some (.int .i64 (p.quota : Nat)) ∧ ∀ i, i < m.loans.length → ∃ g, la = some ⟨g, 0, none⟩ ∧ LoC wr g i (m.loans.getD i .zero) ∧ (m.loans.getD i .zero).used ≤ (m.loans.getD i .zero).bytes ∧ (m.loans.getD i .zero).bytes ≤ 1000000) := hid fun wr hb => by
      have hR := h.kept (Kept.of_below (S := []) hb) (by simp)
      refine ⟨hR.head.2, ?_, fun i hi => ?_⟩
      · rw [← hqu]
        exact (hR.pec hk17).c4
      · obtain ⟨g, e, hC⟩ := rowLo_at hR.ln rfl hi
        obtain ⟨-, u1, u2, -⟩ := h.ok.ln _ (getD_memL hi)
        exact ⟨g, e, hC, u1, u2⟩
    have HLT := hid (fun i (hi : i < m.loans.length) => lentL_take k m.loans hi)
    have HUT := hid (fun i (hi : i < m.loans.length) => usedL_take k m.loans hi)
    have HLB := hid hlb
    have HUB := hid hub
    have HV : Hid (recV m k = .agg #[.int .i64 ((p.quota : Int) - (lentL k m.loans : Nat) - (usedL k m.loans : Nat)), .int .i64 (lentL k m.loans : Nat), .int .i64 (usedL k m.loans : Nat)] ∧ m.recErr k = 0) := hid (by
      refine ⟨?_, (rec_some hp).2⟩
      unfold recV
      rw [(rec_some hp).1]
      have : ((m.left k p : Nat) : Int) = (p.quota : Int) - (lentL k m.loans : Nat) - (usedL k m.loans : Nat) := by
        have : m.left k p = p.quota - lentL k m.loans - usedL k m.loans := rfl
        omega
      rw [show ((m.left k p, m.lent k, m.chgd k) : Nat × Nat × Nat).1 = m.left k p from rfl, this]
      rfl)
    generalize recV m k = RV at *
    generalize m.recErr k = RE at *
    have hmany : m.loans.length ≤ 8796093022208 := by unfold manyN at hn; omega
    generalize hls : m.loans = ls at *
    generalize p.quota = Q at *
    clear h h2 hp hr hqu q4 q5 q6 q7 hn hlen hls hlb hub
    generalize hLL : ls.length = LL at *
    have HLL := hid hLL
    clear hLL
    subst ek
    unfold ptrV at *
    go_enter Try.func27, Try.ntmps27
    go_wp2_with (go_at_call 76; refine hkn.mono ?_; rintro e w1 ⟨rfl, rfl⟩)
    have HB0 : Hid (Below w.heap.size w ((w.alloc (.cells #[.int .i64 0, .int .i64 0, .int .i64 0] 74)).alloc (.cells #[.int .i64 0, .int .i64 0, .int .i64 0] 74)) ∧ At ((w.alloc (.cells #[.int .i64 0, .int .i64 0, .int .i64 0] 74)).alloc (.cells #[.int .i64 0, .int .i64 0, .int .i64 0] 74)) w.heap.size 74 [.int .i64 0, .int .i64 0, .int .i64 0] ∧ At ((w.alloc (.cells #[.int .i64 0, .int .i64 0, .int .i64 0] 74)).alloc (.cells #[.int .i64 0, .int .i64 0, .int .i64 0] 74)) (w.heap.size + 1) 74 [.int .i64 0, .int .i64 0, .int .i64 0]) := hid (by
      have hs : (w.alloc (.cells #[.int .i64 0, .int .i64 0, .int .i64 0] 74)).heap.size = w.heap.size + 1 := World.size_alloc _ _
      have hB := at_alloc (w.alloc (.cells #[.int .i64 0, .int .i64 0, .int .i64 0] 74)) 74 [.int .i64 0, .int .i64 0, .int .i64 0]
      rw [hs] at hB
      exact ⟨hb0.alloc (by simp) _, (at_alloc w 74 [.int .i64 0, .int .i64 0, .int .i64 0]).kept (S := []) ((Kept.refl _ _).alloc _) (by simp), hB⟩)
    clear hkn hb0
    generalize ((w.alloc (.cells #[.int .i64 0, .int .i64 0, .int .i64 0] 74)).alloc (.cells #[.int .i64 0, .int .i64 0, .int .i64 0] 74)) = w2 at *
    obtain ⟨rb, erb⟩ : ∃ rb, rb = w.heap.size + 1 := ⟨_, rfl⟩
    rw [← erb] at HB0 ⊢
    have HRB := hid erb
    clear erb
    go_loopw [7] (fun vi wr => ∃ i : Nat, i ≤ LL ∧ vi = .int .i64 (i : Int) ∧ Hid (Below w.heap.size w wr ∧ At wr w.heap.size 74 [.int .i64 0, .int .i64 0, .int .i64 0] ∧ At wr rb 74 [.int .i64 0, .int .i64 (lentL (kn : Int) (ls.take i) : Nat), .int .i64 (usedL (kn : Int) (ls.take i) : Nat)])) (fun vi _ => LL - (intOf vi).toNat)
    case atStart => exact ⟨0, by omega, rfl, HB0⟩
    case round =>
      clear HB0
      obtain ⟨i, hi, rfl, HI⟩ := hrel
      obtain ⟨hbw, hA4, hA6⟩ := HI.out
      obtain ⟨x86, xq, hls⟩ := HX.out wr hbw
      by_cases hlt : i < LL
      · obtain ⟨g, rfl, hC, u1, u2⟩ := hls i hlt
        have e1 := HLT.out i hlt
        have e2 := HUT.out i hlt
        have e3 := HLB.out (i + 1)
        have e4 := HUB.out (i + 1)
        obtain ⟨x, ex⟩ : ∃ x, x = ls.getD i .zero := ⟨_, rfl⟩
        rw [← ex] at hC e1 e2 u1 u2
        have c0 := hC.c0
        have c1 := hC.c1
        have c2 := hC.c2
        have c3 := hC.c3
        have c4 := hC.c4
        have r1 := hA6.cell 1
        have r2 := hA6.cell 2
        have f1 := hA6.free 1
        have f2 := hA6.free 2
        have hrl := hA6.lt
        have h4l := hA4.lt
        have hgl := World.block_lt_of_cell? _ _ c0
        simp only [LnM.lc, LnM.uc] at e1 e2
        have HW2 : Hid (Below w.heap.size w (wr.alloc (.cells #[.int .i64 x.who, .int .i64 (x.bytes : Nat), .int .i64 (x.used : Nat), .int .i64 (x.turn : Nat), .bool x.shut] 147)) ∧ At (wr.alloc (.cells #[.int .i64 x.who, .int .i64 (x.bytes : Nat), .int .i64 (x.used : Nat), .int .i64 (x.turn : Nat), .bool x.shut] 147)) w.heap.size 74 [.int .i64 0, .int .i64 0, .int .i64 0] ∧ At (wr.alloc (.cells #[.int .i64 x.who, .int .i64 (x.bytes : Nat), .int .i64 (x.used : Nat), .int .i64 (x.turn : Nat), .bool x.shut] 147)) rb 74 [.int .i64 0, .int .i64 (lentL (kn : Int) (ls.take i) : Nat), .int .i64 (usedL (kn : Int) (ls.take i) : Nat)] ∧ At (wr.alloc (.cells #[.int .i64 x.who, .int .i64 (x.bytes : Nat), .int .i64 (x.used : Nat), .int .i64 (x.turn : Nat), .bool x.shut] 147)) wr.heap.size 147 [.int .i64 x.who, .int .i64 (x.bytes : Nat), .int .i64 (x.used : Nat), .int .i64 (x.turn : Nat), .bool x.shut]) := hid
          ⟨hbw.alloc hbw.size _, hA4.kept (S := []) ((Kept.refl _ _).alloc _) (by simp), hA6.kept (S := []) ((Kept.refl _ _).alloc _) (by simp), at_alloc wr 147 [.int .i64 x.who, .int .i64 (x.bytes : Nat), .int .i64 (x.used : Nat), .int .i64 (x.turn : Nat), .bool x.shut]⟩
        have hne1 : rb ≠ w.heap.size := by have := HRB.out; omega
        clear hA4 hA6 hbw HI hC r1 r2 f1 f2 ex hls xq
        go_upto_region 8 with fail
        obtain ⟨hbA, hA4, hA6, hAl⟩ := HW2.out
        generalize wr.alloc (.cells #[.int .i64 x.who, .int .i64 (x.bytes : Nat), .int .i64 (x.used : Nat), .int .i64 (x.turn : Nat), .bool x.shut] 147) = wA at *
        generalize wr.heap.size = lb at *
        have l0 : wA.cell? ⟨lb, 0, none⟩ = some (.int .i64 x.who) := hAl.cell 0
        have l1 : wA.cell? ⟨lb, 1, none⟩ = some (.int .i64 (x.bytes : Nat)) := hAl.cell 1
        have l2 : wA.cell? ⟨lb, 2, none⟩ = some (.int .i64 (x.used : Nat)) := hAl.cell 2
        have l4 : wA.cell? ⟨lb, 4, none⟩ = some (.bool x.shut) := hAl.cell 4
        have hlr : ¬ lb = rb := by omega
        obtain ⟨xw, xb, xu, xt, xs⟩ := x
        dsimp only at *
        generalize hLa : lentL (kn : Int) (ls.take i) = La at *
        generalize hUa : usedL (kn : Int) (ls.take i) = Ua at *
        have r1 : wA.cell? ⟨rb, 1, none⟩ = some (.int .i64 (La : Nat)) := hA6.cell 1
        have r2 : wA.cell? ⟨rb, 2, none⟩ = some (.int .i64 (Ua : Nat)) := hA6.cell 2
        have f1 := hA6.free 1
        have f2 := hA6.free 2
        have hLa9 := HLB.out i
        have hUa9 := HUB.out i
        rw [hLa] at hLa9
        rw [hUa] at hUa9
        by_cases hw : xw = (kn : Int)
        · subst hw
          cases xs with
          | true =>
            simp only [Bool.true_eq_false, and_false, if_false, if_true] at e1 e2
            have HP : Hid (Below w.heap.size w (wA.setCell ⟨rb, 2, none⟩ (.int .i64 ((Ua : Int) + (xu : Int)))) ∧ At (wA.setCell ⟨rb, 2, none⟩ (.int .i64 ((Ua : Int) + (xu : Int)))) w.heap.size 74 [.int .i64 0, .int .i64 0, .int .i64 0] ∧ At (wA.setCell ⟨rb, 2, none⟩ (.int .i64 ((Ua : Int) + (xu : Int)))) rb 74 [.int .i64 0, .int .i64 (lentL (kn : Int) (ls.take (i + 1)) : Nat), .int .i64 (usedL (kn : Int) (ls.take (i + 1)) : Nat)]) := hid (by
              refine ⟨hbA.setCell (by show w.heap.size ≤ rb; have := HRB.out; omega) _, hA4.setOther _ _ (fun e => hne1 e.symm), ?_⟩
              have := hA6.setCell (o := 2) (.int .i64 ((Ua : Int) + (xu : Int)))
              rw [e1, e2, Nat.add_zero, show ((Ua + xu : Nat) : Int) = (Ua : Int) + (xu : Int) by omega]
              exact this)
            clear hA4 hA6 hAl hbA HW2 hLa hUa e1 e2
            go_wp2_with fail
            go_roundw
            case rel => exact ⟨i + 1, by omega, by go_num, HP⟩
            case measure => simp [intOf]; omega
          | false =>
            simp only [and_self, if_true] at e1 e2
            have HP : Hid (Below w.heap.size w ((wA.setCell ⟨rb, 2, none⟩ (.int .i64 ((Ua : Int) + (xu : Int)))).setCell ⟨rb, 1, none⟩ (.int .i64 ((La : Int) + ((xb : Int) - (xu : Int))))) ∧ At ((wA.setCell ⟨rb, 2, none⟩ (.int .i64 ((Ua : Int) + (xu : Int)))).setCell ⟨rb, 1, none⟩ (.int .i64 ((La : Int) + ((xb : Int) - (xu : Int))))) w.heap.size 74 [.int .i64 0, .int .i64 0, .int .i64 0] ∧ At ((wA.setCell ⟨rb, 2, none⟩ (.int .i64 ((Ua : Int) + (xu : Int)))).setCell ⟨rb, 1, none⟩ (.int .i64 ((La : Int) + ((xb : Int) - (xu : Int))))) rb 74 [.int .i64 0, .int .i64 (lentL (kn : Int) (ls.take (i + 1)) : Nat), .int .i64 (usedL (kn : Int) (ls.take (i + 1)) : Nat)]) := hid (by
              have hrb9 : w.heap.size ≤ rb := by have := HRB.out; omega
              refine ⟨(hbA.setCell (p := ⟨rb, 2, none⟩) hrb9 _).setCell (p := ⟨rb, 1, none⟩) hrb9 _, (hA4.setOther _ _ (fun e => hne1 e.symm)).setOther _ _ (fun e => hne1 e.symm), ?_⟩
              have := (hA6.setCell (o := 2) (.int .i64 ((Ua : Int) + (xu : Int)))).setCell (o := 1) (.int .i64 ((La : Int) + ((xb : Int) - (xu : Int))))
              rw [e1, e2, show ((Ua + xu : Nat) : Int) = (Ua : Int) + (xu : Int) by omega, show ((La + (xb - xu) : Nat) : Int) = (La : Int) + ((xb : Int) - (xu : Int)) by omega]
              exact this)
            clear hA4 hA6 hAl hbA HW2 hLa hUa e1 e2
            go_wp2_with fail
            go_roundw
            case rel => exact ⟨i + 1, by omega, by go_num, HP⟩
            case measure => simp [intOf]; omega
        · rw [if_neg (fun h => hw h.1)] at e1
          rw [if_neg hw] at e2
          have HP : Hid (Below w.heap.size w wA ∧ At wA w.heap.size 74 [.int .i64 0, .int .i64 0, .int .i64 0] ∧ At wA rb 74 [.int .i64 0, .int .i64 (lentL (kn : Int) (ls.take (i + 1)) : Nat), .int .i64 (usedL (kn : Int) (ls.take (i + 1)) : Nat)]) := hid (by
            rw [e1, e2]
            exact ⟨hbA, hA4, hA6⟩)
          clear hA4 hA6 hAl hbA HW2 hLa hUa e1 e2
          go_wp2_with fail
          go_roundw
          case rel => exact ⟨i + 1, by omega, by go_num, HP⟩
          case measure => simp [intOf]; omega
      · have ei : i = LL := by omega
        subst ei
        rw [List.take_of_length_le (by have := HLL.out; omega)] at hA6
        have r0 := hA6.cell 0
        have r1 := hA6.cell 1
        have r2 := hA6.cell 2
        have f0 := hA6.free 0
        have y0 := hA4.cell 0
        have y1 := hA4.cell 1
        have y2 := hA4.cell 2
        have z0 := hA4.free 0
        have z1 := hA4.free 1
        have z2 := hA4.free 2
        have hne1 : ¬ rb = w.heap.size := by have := HRB.out; omega
        have hne2 : ¬ w.heap.size = rb := by have := HRB.out; omega
        have hrb9 : w.heap.size ≤ rb := by have := HRB.out; omega
        clear hA4 hA6 HI hls HX HLT HUT HLB HUB hlt
        generalize lentL (kn : Int) ls = La at *
        generalize usedL (kn : Int) ls = Ua at *
        go_upto_region 12 with fail
        go_region
        go_wp2_with fail
        (try simp only [Exit.inBlock, Exit.then])
        refine bodyPost_ret (v := .tuple #[RV, .int .i64 RE]) ?_ rfl ⟨rfl, ?_⟩
        · rw [HV.out.1, HV.out.2, results_cell_tmp rfl]
          go_simp
        · repeat' (first | exact hbw | exact hrb9 | exact Nat.le_refl _ | apply Below.drew | refine Below.setCell ?_ ?_ _)
def areaN (c n : Nat) : List Int := ((List.range n).filter fun i => (i + 8) / 8 == (c + 7) / 8).map fun i => ((i + 1 : Nat) : Int)
theorem areaN_succ (c n : Nat) : areaN c (n + 1) = areaN c n ++ (if (n + 8) / 8 = (c + 7) / 8 then [((n + 1 : Nat) : Int)] else []) := by
  unfold areaN
  rw [List.range_succ, List.filter_append, List.map_append]
  congr 1
  rw [List.filter_cons, List.filter_nil]
  by_cases h : (n + 8) / 8 = (c + 7) / 8
  · rw [if_pos (by rw [beq_iff_eq]; exact h), if_pos h]
    rfl
  · rw [if_neg (by rw [beq_iff_eq]; exact h), if_neg h]
    rfl
theorem areaN_le (c n : Nat) : (areaN c n).length ≤ n := by
  unfold areaN
  rw [List.length_map]
  have := List.length_filter_le (fun i => (i + 8) / 8 == (c + 7) / 8) (List.range n)
  simpa using this
theorem areaN_all (c : Nat) : areaN c 100 = areaL c := rfl
set_option maxRecDepth 100000 in
set_option maxHeartbeats 4000000 in
theorem rpage_any {w : World} {r : Nat} {F : List Nat} {m : CoM} {n : Nat} {k : Int} (h : RCo w r F m n) : Calls Try.prog 29 #[ptrV r, .int .i64 k] w (PagePost w m k) := by
  obtain ⟨la, lc, pe, rfl, h⟩ := h
  have hkn := rknows_any h k
  cases hp : m.per k with
  | none =>
    rw [hp] at hkn
    have hE : m.pageErr k = 12 := by unfold CoM.pageErr CoM.askErr; rw [hp]
    have HP : Hid (PagePost w m k (.returned (.tuple #[.slice none 0 0, .int .i64 12])) w) := hid (by
      unfold PagePost
      rw [page_bad (by rw [hE]; simp), hE]
      exact ⟨none, 0, rfl, OwnI.nil _ _, Below.refl _ _⟩)
    generalize PagePost w m k = P at *
    clear h hp hE
    unfold ptrV at *
    go_enter Try.func29, Try.ntmps29
    go_wp2_with (go_at_call 76; refine hkn.mono ?_; rintro e w1 ⟨rfl, rfl⟩)
    exact HP.out
  | some p =>
    rw [hp] at hkn
    obtain ⟨q1, q2, q3, q4, q5, q6, q7⟩ := h.ok.pr k p hp
    obtain ⟨kn, ek⟩ : ∃ kn : Nat, k = (kn : Int) := ⟨k.toNat, by omega⟩
    have hk17 : kn < 17 := by omega
    have hC := h.pec hk17
    have hr := h.rl kn (by omega) (by omega)
    rw [← ek, hp] at hr
    have c0 := hC.c0
    have c1 := hC.c1
    have c2 := hC.c2
    have c3 := hC.c3
    have c4 := hC.c4
    rcases hr.st q4 with ⟨s0, t0, t1, t4⟩ | ⟨s0, t0, t1, t2, t3, t4⟩ | ⟨s0, t0, t1, t2, t3, t4⟩
    · have hE : m.pageErr k = 9 := by unfold CoM.pageErr CoM.askErr; rw [hp]; simp [tNot, s0]
      have HP : Hid (∀ w2, Below w.heap.size w w2 → PagePost w m k (.returned (.tuple #[.slice none 0 0, .int .i64 9])) w2) := hid fun w2 hb2 => by
        unfold PagePost
        rw [page_bad (by rw [hE]; simp), hE]
        exact ⟨none, 0, rfl, OwnI.nil _ _, hb2⟩
      generalize PagePost w m k = P at *
      rw [t0] at c0
      rw [t1] at c1
      generalize pe kn = x at *
      subst ek
      clear h hp hE hC hr
      unfold ptrV at *
      go_enter Try.func29, Try.ntmps29
      go_wp2_with (go_at_call 76; refine hkn.mono ?_; rintro e w1 ⟨rfl, rfl⟩)
      exact HP.out _ ((Below.refl _ _).alloc (Nat.le_refl _) _)
    · have hE : m.pageErr k = 0 := by unfold CoM.pageErr CoM.askErr; rw [hp]; simp [tNot, s0]
      have HP : Hid (∀ w3, Below w.heap.size w w3 → PagePost w m k (.returned (.tuple #[.slice (some ⟨w3.heap.size, 0, none⟩) 1 1, .int .i64 0])) (w3.alloc (.cells #[.int .i64 (p.cell : Nat)] 3))) := hid fun w3 hb3 => by
        unfold PagePost
        rw [page_one hp s0, hE]
        refine ⟨_, 1, rfl, ?_, hb3.alloc hb3.size _⟩
        exact ⟨rfl, .inr ⟨w3.heap.size, 1, #[.int .i64 (p.cell : Nat)], rfl, hb3.size, heap_alloc_new w3 _, Nat.le_refl _, by unfold maxLen; omega, rfl, rfl⟩⟩
      generalize PagePost w m k = P at *
      rw [t0] at c0
      rw [t1] at c1
      rw [t2] at c2
      rw [t3] at c3
      generalize p.cell = pc at *
      generalize (pe kn).qu = qu at *
      subst ek
      clear h hp hE hC hr t0 t1 t2 t3 t4
      unfold ptrV at *
      go_enter Try.func29, Try.ntmps29
      go_wp2_with (go_at_call 76; refine hkn.mono ?_; rintro e w1 ⟨rfl, rfl⟩)
      have := HP.out _ ((Below.refl _ w1).alloc (Nat.le_refl _) (.cells #[.bool true, .bool true, .bool false, .int .i64 (pc : Nat), .int .i64 qu] 63))
      simpa using this
    · have hE : m.pageErr k = 0 := by unfold CoM.pageErr CoM.askErr; rw [hp]; simp [tNot, s0]
      have HP : Hid (∀ w3 a cc, Below w.heap.size w w3 → OwnI w3 w.heap.size (.slice a (areaL p.cell).length cc) (areaL p.cell) → PagePost w m k (.returned (.tuple #[.slice a (areaL p.cell).length cc, .int .i64 0])) w3) := hid fun w3 a cc hb3 ho => by
        unfold PagePost
        rw [page_area hp s0, hE]
        exact ⟨a, cc, rfl, ho, hb3⟩
      generalize PagePost w m k = P at *
      rw [t0] at c0
      rw [t1] at c1
      rw [t2] at c2
      rw [t3] at c3
      have q6' := q6 (by omega)
      generalize p.cell = pc at *
      generalize (pe kn).qu = qu at *
      subst ek
      clear h hp hE hC hr t0 t1 t2 t3 t4 q6
      unfold ptrV at *
      go_enter Try.func29, Try.ntmps29
      go_wp2_with (go_at_call 76; refine hkn.mono ?_; rintro e w1 ⟨rfl, rfl⟩)
      have hA2 := at_alloc w1 63 [.bool true, .bool true, .bool true, .int .i64 (pc : Nat), .int .i64 qu]
      have hs2 : (w1.alloc (.cells #[.bool true, .bool true, .bool true, .int .i64 (pc : Nat), .int .i64 qu] 63)).heap.size = w1.heap.size + 1 := World.size_alloc _ _
      have hb2 : Below w1.heap.size w1 (w1.alloc (.cells #[.bool true, .bool true, .bool true, .int .i64 (pc : Nat), .int .i64 qu] 63)) := (Below.refl _ _).alloc (Nat.le_refl _) _
      have d3 : (w1.alloc (.cells #[.bool true, .bool true, .bool true, .int .i64 (pc : Nat), .int .i64 qu] 63)).cell? ⟨w1.heap.size, 3, none⟩ = some (.int .i64 (pc : Nat)) := hA2.cell 3
      generalize w1.alloc (.cells #[.bool true, .bool true, .bool true, .int .i64 (pc : Nat), .int .i64 qu] 63) = w2 at *
      have HB2 := hid hb2
      have HS2 := hid hs2
      have HD3 := hid d3
      clear hA2 hb2 hs2 hkn c0 c1 c2 c3 d3
      go_loopw [7, 8] (fun vm vi wr => ∃ (j cc : Nat) (a : Option Addr), j ≤ 100 ∧ vi = .int .i64 ((j : Int) + 1) ∧ vm = .slice a (areaN pc j).length cc ∧ Hid (OwnI wr w2.heap.size (.slice a (areaN pc j).length cc) (areaN pc j)) ∧ Hid (Below w2.heap.size w2 wr)) (fun _ vi _ => 101 - (intOf vi).toNat)
      case atStart => exact ⟨0, 0, none, by omega, rfl, rfl, hid (OwnI.nil _ _), hid (Below.refl _ _)⟩
      case round =>
        obtain ⟨j, cc, a, hj, rfl, rfl, HO, HB⟩ := hrel
        by_cases hlt : j < 100
        · have d3 : wr.cell? ⟨w1.heap.size, 3, none⟩ = some (.int .i64 (pc : Nat)) := (HB.out.cell (by show w1.heap.size < w2.heap.size; rw [HS2.out]; omega)).trans HD3.out
          have HLL : Hid ((areaN pc j).length < 8796093022208) := hid (by have := areaN_le pc j; omega)
          have hle := areaN_le pc j
          by_cases hin : (j + 8) / 8 = (pc + 7) / 8
          · have hib : ((j : Int) + 1 + 7) / 8 = ((pc : Int) + 7) / 8 := by omega
            have HE := hid (areaN_succ pc j)
            rw [if_pos hin] at HE
            go_wp2_with (at_builtin; refine wpList_pushI w2.heap.size w2 ((j : Int) + 1) HO.out rfl _ _ rfl rfl rfl HLL.out HB.out HB.out.size ?_; intro v3 w3 ho3 hb3; obtain ⟨a3, c3, ev3, -, -⟩ := OwnI.shape ho3; subst ev3; have HO3 := hid ho3; have HB3 := hid hb3; clear ho3 hb3)
            go_roundw
            case rel =>
              have h9 := HO3.out
              rw [show ((j : Int) + 1) = ((j + 1 : Nat) : Int) by omega, ← HE.out] at h9
              refine ⟨j + 1, c3, a3, by omega, by go_num, ?_, hid h9, HB3⟩
              rw [HE.out]
              simp
            case measure => simp [intOf]; omega
          · have hib : ¬ ((j : Int) + 1 + 7) / 8 = ((pc : Int) + 7) / 8 := by omega
            have HE := hid (areaN_succ pc j)
            rw [if_neg hin, List.append_nil] at HE
            go_wp2_with fail
            go_roundw
            case rel =>
              refine ⟨j + 1, cc, a, by omega, by go_num, by rw [HE.out], hid ?_, HB⟩
              rw [HE.out]
              exact HO.out
            case measure => simp [intOf]; omega
        · have ej : j = 100 := by omega
          subst ej
          rw [areaN_all] at HO ⊢
          have hPP := HP.out wr a cc (bthen HB2.out HB.out) (OwnI.mono HO.out HB2.out.size)
          generalize (areaL pc).length = AL at *
          go_wp2_with fail
          exact hPP
end Go.Proofs.Ytcnkcbipkchoiag
