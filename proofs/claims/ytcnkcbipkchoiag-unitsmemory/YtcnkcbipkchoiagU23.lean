import Derived.Test.YtcnkcbipkchoiagU17
namespace Go.Proofs.Ytcnkcbipkchoiag
open Go.ChangeShapes Go.WideShapes Go.ChangeAt Go.RowKit
theorem text_none {s : ByteArray} (h : s.size = 0) : s = { data := #[] } := by
  obtain ⟨⟨l⟩⟩ := s
  have h : l.length = 0 := h
  rw [List.eq_nil_of_length_eq_zero h]
theorem text_some {s : ByteArray} (h : s.size ≠ 0) : s.toList.isEmpty = false := by
  rw [ByteArray.toList_eq, List.isEmpty_eq_false_iff]
  intro e
  apply h
  show s.data.size = 0
  rw [← Array.length_toList, e]
  rfl
set_option maxRecDepth 100000 in
set_option maxHeartbeats 1000000 in
theorem checkPiece_any {w : World} (p : PieceM) (hs : p.data.size ≤ manyB) :
    Calls Try.prog 91 #[p.val] w fun e w' => e = .returned (.int .i64 (if p.bad = true then 3 else 0)) ∧ w' = w.alloc (.cells #[.int .i64 p.num, .int .i64 p.frm, .bool p.last, .string p.data] 100) := by
  have hA := at_alloc w 100 p.cells
  have x0 : (w.alloc (.cells #[.int .i64 p.num, .int .i64 p.frm, .bool p.last, .string p.data] 100)).cell? ⟨w.heap.size, 0, none⟩ = some (.int .i64 p.num) := hA.cell 0
  have x1 : (w.alloc (.cells #[.int .i64 p.num, .int .i64 p.frm, .bool p.last, .string p.data] 100)).cell? ⟨w.heap.size, 1, none⟩ = some (.int .i64 p.frm) := hA.cell 1
  have x3 : (w.alloc (.cells #[.int .i64 p.num, .int .i64 p.frm, .bool p.last, .string p.data] 100)).cell? ⟨w.heap.size, 3, none⟩ = some (.string p.data) := hA.cell 3
  have hnum := fun W => isNumber_any p.num W
  obtain ⟨V, hV⟩ : ∃ V : Int, V = if p.bad = true then 3 else 0 := ⟨_, rfl⟩
  rw [← hV]
  have hs' : p.data.size ≤ 140737488355328 := hs
  clear hA hs
  unfold PieceM.bad at hV
  obtain ⟨num, frm, last, data⟩ := p
  dsimp only [PieceM.val] at *
  by_cases q1 : 0 ≤ num ∧ num ≤ 63
  · rw [decide_eq_true q1] at hnum
    by_cases q2 : frm < 0
    · have HV := hid (show V = 3 by rw [hV, if_pos]; exact decide_eq_true (by omega))
      clear hV
      go_enter Try.func91, Try.ntmps91
      go_wp2_with (go_at_call 124; refine (hnum _).mono ?_; rintro e w1 ⟨rfl, rfl⟩)
      go_ret
      exact ⟨by rw [HV.out]; rfl, rfl⟩
    · by_cases q3 : data.size = 0
      · have HV := hid (show V = 3 by rw [hV, if_pos]; exact decide_eq_true (by omega))
        have e3 := text_none q3
        subst e3
        clear hV
        go_enter Try.func91, Try.ntmps91
        go_wp2_with (go_at_call 124; refine (hnum _).mono ?_; rintro e w1 ⟨rfl, rfl⟩)
        go_ret
        exact ⟨by rw [HV.out]; rfl, rfl⟩
      · have d3 := text_some q3
        by_cases q4 : 1500 - (data.size : Int) < frm
        · have HV := hid (show V = 3 by rw [hV, if_pos]; exact decide_eq_true (by omega))
          clear hV
          go_enter Try.func91, Try.ntmps91
          go_wp2_with (go_at_call 124; refine (hnum _).mono ?_; rintro e w1 ⟨rfl, rfl⟩)
          go_ret
          exact ⟨by rw [HV.out]; rfl, rfl⟩
        · have HV := hid (show V = 0 by rw [hV, if_neg]; rw [decide_eq_true_iff]; omega)
          clear hV
          go_enter Try.func91, Try.ntmps91
          go_wp2_with (go_at_call 124; refine (hnum _).mono ?_; rintro e w1 ⟨rfl, rfl⟩)
          go_ret
          exact ⟨by rw [HV.out]; rfl, rfl⟩
  · rw [decide_eq_false q1] at hnum
    have HV := hid (show V = 3 by rw [hV, if_pos]; exact decide_eq_true (by omega))
    clear hV q1
    go_enter Try.func91, Try.ntmps91
    go_wp2_with (go_at_call 124; refine (hnum _).mono ?_; rintro e w1 ⟨rfl, rfl⟩)
    go_ret
    exact ⟨by rw [HV.out]; rfl, rfl⟩
end Go.Proofs.Ytcnkcbipkchoiag
namespace Go.Proofs.Ytcnkcbipkchoiag
open Go.ChangeShapes Go.WideShapes Go.ChangeAt Go.RowKit
/-- Whether a piece is refused. -/
def TkP.clash (x : TkP) (p : PieceM) : Bool := (decide (0 < x.len) && (decide (x.len < p.b) || (p.last && x.len != p.b))) || (p.last && decide (p.b < endS x.th))
set_option maxRecDepth 100000 in
set_option maxHeartbeats 2000000 in
theorem tcheck_any {w : World} {g o : Nat} {x : TkP} (p : PieceM) (h : TkAt w g o x) (hl : x.len ≤ 3000) (_hE : endS x.th ≤ 3000) (hn : x.th.length ≤ 4000) (hf : 0 ≤ p.frm) (hb : p.b ≤ 3000) :
    Calls Try.prog 93 #[.pointer (some ⟨g, o, none⟩), p.val] w fun e w' => e = .returned (.int .i64 (if x.clash p = true then 3 else 0)) ∧ w' = w.alloc (.cells #[.int .i64 p.num, .int .i64 p.frm, .bool p.last, .string p.data] 100) := by
  have hA := at_alloc w 100 p.cells
  have x1 : (w.alloc (.cells #[.int .i64 p.num, .int .i64 p.frm, .bool p.last, .string p.data] 100)).cell? ⟨w.heap.size, 1, none⟩ = some (.int .i64 p.frm) := hA.cell 1
  have x2 : (w.alloc (.cells #[.int .i64 p.num, .int .i64 p.frm, .bool p.last, .string p.data] 100)).cell? ⟨w.heap.size, 2, none⟩ = some (.bool p.last) := hA.cell 2
  have x3 : (w.alloc (.cells #[.int .i64 p.num, .int .i64 p.frm, .bool p.last, .string p.data] 100)).cell? ⟨w.heap.size, 3, none⟩ = some (.string p.data) := hA.cell 3
  have hk : Kept [] w (w.alloc (.cells #[.int .i64 p.num, .int .i64 p.frm, .bool p.last, .string p.data] 100)) := (Kept.refl _ w).alloc _
  obtain ⟨a, c, e, -, -, -⟩ := h.ot.shape
  have c1 := keptCellQ hk h.c1 (by simp)
  have c2 := keptCellQ hk h.c2 (by simp)
  have hot := h.ot.kept hk (by simp)
  rw [e] at c1 hot
  have hend := spEnd_any hot hn
  obtain ⟨V, hV⟩ : ∃ V : Int, V = if x.clash p = true then 3 else 0 := ⟨_, rfl⟩
  rw [← hV]
  have eb : (p.b : Int) = p.frm + p.data.size := by unfold PieceM.b; omega
  unfold TkP.clash at hV
  clear hA hk e h hot
  generalize p.b = B at *
  generalize endS x.th = E at *
  generalize x.len = L at *
  generalize x.th.length = N at *
  obtain ⟨num, frm, last, data⟩ := p
  dsimp only [PieceM.val] at *
  obtain ⟨frm, rfl⟩ : ∃ f : Nat, frm = (f : Int) := ⟨frm.toNat, by omega⟩
  have hsum : frm + data.size = B := by omega
  have hsum' : (frm : Int) + (data.size : Int) = (B : Int) := by omega
  have hfs : frm ≤ 3000 := by omega
  have hds : data.size ≤ 3000 := by omega
  clear eb
  by_cases q0 : 0 < L
  · have d0 : decide ((0 : Int) < (L : Int)) = true := decide_eq_true (by omega)
    by_cases q1 : L < B
    · have d1 : decide ((L : Int) < (B : Int)) = true := decide_eq_true (by omega)
      have HV := hid (show V = 3 by rw [hV, if_pos]; rw [decide_eq_true q0, decide_eq_true q1]; rfl)
      clear hV
      go_enter Try.func93, Try.ntmps93
      go_wp2_with fail
      go_ret
      exact ⟨by rw [HV.out]; rfl, rfl⟩
    · have d1 : decide ((L : Int) < (B : Int)) = false := decide_eq_false (by omega)
      cases last with
      | false =>
        have HV := hid (show V = 0 by rw [hV, if_neg]; rw [decide_eq_false q1]; simp)
        clear hV
        go_enter Try.func93, Try.ntmps93
        go_wp2_with fail
        go_ret
        exact ⟨by rw [HV.out]; rfl, rfl⟩
      | true =>
        by_cases q2 : L = B
        · subst q2
          by_cases q3 : L < E
          · have d3 : decide ((L : Int) < (E : Int)) = true := decide_eq_true (by omega)
            have HV := hid (show V = 3 by rw [hV, if_pos]; simp [q3])
            clear hV
            go_enter Try.func93, Try.ntmps93
            go_wp2_with (go_at_call 125; refine hend.mono ?_; rintro e w1 ⟨rfl, rfl⟩)
            go_ret
            exact ⟨by rw [HV.out]; rfl, rfl⟩
          · have d3 : decide ((L : Int) < (E : Int)) = false := decide_eq_false (by omega)
            have HV := hid (show V = 0 by rw [hV, if_neg]; simp [q3])
            clear hV
            go_enter Try.func93, Try.ntmps93
            go_wp2_with (go_at_call 125; refine hend.mono ?_; rintro e w1 ⟨rfl, rfl⟩)
            go_ret
            exact ⟨by rw [HV.out]; rfl, rfl⟩
        · have d2 : ((B : Int) == (L : Int)) = false := by rw [beq_eq_false_iff_ne]; omega
          have d2' : ¬ ((B : Int) = (L : Int)) := by omega
          have HV := hid (show V = 3 by rw [hV, if_pos]; simp [q0, q2])
          clear hV
          go_enter Try.func93, Try.ntmps93
          go_wp2_with fail
          go_ret
          exact ⟨by rw [HV.out]; rfl, rfl⟩
  · have e0 : L = 0 := by omega
    subst e0
    cases last with
    | false =>
      have HV := hid (show V = 0 by rw [hV, if_neg]; simp)
      clear hV
      go_enter Try.func93, Try.ntmps93
      go_wp2_with fail
      go_ret
      exact ⟨by rw [HV.out]; rfl, rfl⟩
    | true =>
      by_cases q3 : B < E
      · have d3 : decide ((B : Int) < (E : Int)) = true := decide_eq_true (by omega)
        have HV := hid (show V = 3 by rw [hV, if_pos]; simp [q3])
        clear hV
        go_enter Try.func93, Try.ntmps93
        go_wp2_with (go_at_call 125; refine hend.mono ?_; rintro e w1 ⟨rfl, rfl⟩)
        go_ret
        exact ⟨by rw [HV.out]; rfl, rfl⟩
      · have d3 : decide ((B : Int) < (E : Int)) = false := decide_eq_false (by omega)
        have HV := hid (show V = 0 by rw [hV, if_neg]; simp [q3])
        clear hV
        go_enter Try.func93, Try.ntmps93
        go_wp2_with (go_at_call 125; refine hend.mono ?_; rintro e w1 ⟨rfl, rfl⟩)
        go_ret
        exact ⟨by rw [HV.out]; rfl, rfl⟩
theorem TuR.clash {r : InM} {u : Nat} {x : TkP} {p : PieceM} (h : TuR r u x) : r.clash u p = x.clash p := by
  unfold InM.clash TkP.clash
  rw [h.ln, h.fin]
  by_cases h0 : x.len = 0
  · rw [if_pos h0, decide_eq_false (show ¬ 0 < x.len by omega)]
    simp
  · rw [if_neg h0, decide_eq_true (show 0 < x.len by omega)]
    show (((p.last && x.len != p.b) || decide (x.len < p.b)) || _) = _
    rw [Bool.true_and, Bool.or_comm (p.last && x.len != p.b)]
end Go.Proofs.Ytcnkcbipkchoiag
