import Derived.Test.YtbjgfoiikhbonafK20
import Derived.Test.YtbjgfoiikhbonafK25
import Derived.Test.YtbjgfoiikhbonafK26
set_option linter.unusedVariables false
set_option linter.unusedSimpArgs false
namespace Go.Proofs.Ytbjgfoiikhbonaf
open Go.ChangeShapes Go.WideShapes Go.ChangeAt Go.RowKit
theorem text_none {s : ByteArray} (h : s.size = 0) : s = { data := #[] } := by
  obtain ⟨⟨l⟩⟩ := s
  have h : l.length = 0 := h
  rw [List.eq_nil_of_length_eq_zero h]
theorem text_some {s : ByteArray} (h : s.size ≠ 0) : s.toList.isEmpty = false := by
  rw [ByteArray.toList_eq, List.isEmpty_eq_false_iff]
  intro e
  apply h
  show s.data.size = 0
  rw [← Array.length_toList, e]
  rfl
set_option maxRecDepth 100000 in
set_option maxHeartbeats 1000000 in
theorem checkPiece_any {w : World} (p : PieceM) (hs : p.data.size ≤ manyB) :
    Calls Try.prog 39 #[p.val] w fun e w' => e = .returned (.int .i64 (if p.bad = true then 3 else 0)) ∧ w' = w.alloc (.cells #[.int .i64 p.num, .int .i64 p.frm, .bool p.last, .string p.data] 64) := by
  have hA := at_alloc w 64 p.cells
  have x0 : (w.alloc (.cells #[.int .i64 p.num, .int .i64 p.frm, .bool p.last, .string p.data] 64)).cell? ⟨w.heap.size, 0, none⟩ = some (.int .i64 p.num) := hA.cell 0
  have x1 : (w.alloc (.cells #[.int .i64 p.num, .int .i64 p.frm, .bool p.last, .string p.data] 64)).cell? ⟨w.heap.size, 1, none⟩ = some (.int .i64 p.frm) := hA.cell 1
  have x3 : (w.alloc (.cells #[.int .i64 p.num, .int .i64 p.frm, .bool p.last, .string p.data] 64)).cell? ⟨w.heap.size, 3, none⟩ = some (.string p.data) := hA.cell 3
  have hnum := fun W => isNumber_any p.num W
  obtain ⟨V, hV⟩ : ∃ V : Int, V = if p.bad = true then 3 else 0 := ⟨_, rfl⟩
  rw [← hV]
  have hs' : p.data.size ≤ 140737488355328 := hs
  clear hA hs
  unfold PieceM.bad at hV
  obtain ⟨num, frm, last, data⟩ := p
  dsimp only [PieceM.val] at *
  by_cases q1 : 0 ≤ num ∧ num ≤ 63
  · rw [decide_eq_true q1] at hnum
    by_cases q2 : frm < 0
    · have HV := hid (show V = 3 by rw [hV, if_pos]; exact decide_eq_true (by omega))
      clear hV
      go_enter Try.func39, Try.ntmps39
      go_wp2_with (go_at_call 59; refine (hnum _).mono ?_; rintro e w1 ⟨rfl, rfl⟩)
      go_ret
      exact ⟨by rw [HV.out]; rfl, rfl⟩
    · by_cases q3 : data.size = 0
      · have HV := hid (show V = 3 by rw [hV, if_pos]; exact decide_eq_true (by omega))
        have e3 := text_none q3
        subst e3
        clear hV
        go_enter Try.func39, Try.ntmps39
        go_wp2_with (go_at_call 59; refine (hnum _).mono ?_; rintro e w1 ⟨rfl, rfl⟩)
        go_ret
        exact ⟨by rw [HV.out]; rfl, rfl⟩
      · have d3 := text_some q3
        by_cases q4 : 1500 - (data.size : Int) < frm
        · have HV := hid (show V = 3 by rw [hV, if_pos]; exact decide_eq_true (by omega))
          clear hV
          go_enter Try.func39, Try.ntmps39
          go_wp2_with (go_at_call 59; refine (hnum _).mono ?_; rintro e w1 ⟨rfl, rfl⟩)
          go_ret
          exact ⟨by rw [HV.out]; rfl, rfl⟩
        · have HV := hid (show V = 0 by rw [hV, if_neg]; rw [decide_eq_true_iff]; omega)
          clear hV
          go_enter Try.func39, Try.ntmps39
          go_wp2_with (go_at_call 59; refine (hnum _).mono ?_; rintro e w1 ⟨rfl, rfl⟩)
          go_ret
          exact ⟨by rw [HV.out]; rfl, rfl⟩
  · rw [decide_eq_false q1] at hnum
    have HV := hid (show V = 3 by rw [hV, if_pos]; exact decide_eq_true (by omega))
    clear hV q1
    go_enter Try.func39, Try.ntmps39
    go_wp2_with (go_at_call 59; refine (hnum _).mono ?_; rintro e w1 ⟨rfl, rfl⟩)
    go_ret
    exact ⟨by rw [HV.out]; rfl, rfl⟩
end Go.Proofs.Ytbjgfoiikhbonaf
namespace Go.Proofs.Ytbjgfoiikhbonaf
open Go.ChangeShapes Go.WideShapes Go.ChangeAt Go.RowKit
/-- Whether a piece is refused. -/
def TkP.clash (x : TkP) (p : PieceM) : Bool := (decide (0 < x.len) && (decide (x.len < p.b) || (p.last && x.len != p.b))) || (p.last && decide (p.b < endS x.th))
set_option maxRecDepth 100000 in
set_option maxHeartbeats 2000000 in
theorem tcheck_any {w : World} {g o : Nat} {x : TkP} (p : PieceM) (h : TkAt w g o x) (hl : x.len ≤ 3000) (_hE : endS x.th ≤ 3000) (hn : x.th.length ≤ 4000) (hf : 0 ≤ p.frm) (hb : p.b ≤ 3000) :
    Calls Try.prog 41 #[.pointer (some ⟨g, o, none⟩), p.val] w fun e w' => e = .returned (.int .i64 (if x.clash p = true then 3 else 0)) ∧ w' = w.alloc (.cells #[.int .i64 p.num, .int .i64 p.frm, .bool p.last, .string p.data] 64) := by
  have hA := at_alloc w 64 p.cells
  have x1 : (w.alloc (.cells #[.int .i64 p.num, .int .i64 p.frm, .bool p.last, .string p.data] 64)).cell? ⟨w.heap.size, 1, none⟩ = some (.int .i64 p.frm) := hA.cell 1
  have x2 : (w.alloc (.cells #[.int .i64 p.num, .int .i64 p.frm, .bool p.last, .string p.data] 64)).cell? ⟨w.heap.size, 2, none⟩ = some (.bool p.last) := hA.cell 2
  have x3 : (w.alloc (.cells #[.int .i64 p.num, .int .i64 p.frm, .bool p.last, .string p.data] 64)).cell? ⟨w.heap.size, 3, none⟩ = some (.string p.data) := hA.cell 3
  have hk : Kept [] w (w.alloc (.cells #[.int .i64 p.num, .int .i64 p.frm, .bool p.last, .string p.data] 64)) := (Kept.refl _ w).alloc _
  obtain ⟨a, c, e, -, -, -⟩ := h.ot.shape
  have c1 := keptCellQ hk h.c1 (by simp)
  have c2 := keptCellQ hk h.c2 (by simp)
  have hot := h.ot.kept hk (by simp)
  rw [e] at c1 hot
  have hend := spEnd_any hot hn
  obtain ⟨V, hV⟩ : ∃ V : Int, V = if x.clash p = true then 3 else 0 := ⟨_, rfl⟩
  rw [← hV]
  have eb : (p.b : Int) = p.frm + p.data.size := by unfold PieceM.b; omega
  unfold TkP.clash at hV
  clear hA hk e h hot
  generalize p.b = B at *
  generalize endS x.th = E at *
  generalize x.len = L at *
  generalize x.th.length = N at *
  obtain ⟨num, frm, last, data⟩ := p
  dsimp only [PieceM.val] at *
  obtain ⟨frm, rfl⟩ : ∃ f : Nat, frm = (f : Int) := ⟨frm.toNat, by omega⟩
  have hsum : frm + data.size = B := by omega
  have hsum' : (frm : Int) + (data.size : Int) = (B : Int) := by omega
  have hfs : frm ≤ 3000 := by omega
  have hds : data.size ≤ 3000 := by omega
  clear eb
  by_cases q0 : 0 < L
  · have d0 : decide ((0 : Int) < (L : Int)) = true := decide_eq_true (by omega)
    by_cases q1 : L < B
    · have d1 : decide ((L : Int) < (B : Int)) = true := decide_eq_true (by omega)
      have HV := hid (show V = 3 by rw [hV, if_pos]; rw [decide_eq_true q0, decide_eq_true q1]; rfl)
      clear hV
      go_enter Try.func41, Try.ntmps41
      go_wp2_with fail
      go_ret
      exact ⟨by rw [HV.out]; rfl, rfl⟩
    · have d1 : decide ((L : Int) < (B : Int)) = false := decide_eq_false (by omega)
      cases last with
      | false =>
        have HV := hid (show V = 0 by rw [hV, if_neg]; rw [decide_eq_false q1]; simp)
        clear hV
        go_enter Try.func41, Try.ntmps41
        go_wp2_with fail
        go_ret
        exact ⟨by rw [HV.out]; rfl, rfl⟩
      | true =>
        by_cases q2 : L = B
        · subst q2
          by_cases q3 : L < E
          · have d3 : decide ((L : Int) < (E : Int)) = true := decide_eq_true (by omega)
            have HV := hid (show V = 3 by rw [hV, if_pos]; simp [q3])
            clear hV
            go_enter Try.func41, Try.ntmps41
            go_wp2_with (go_at_call 60; refine hend.mono ?_; rintro e w1 ⟨rfl, rfl⟩)
            go_ret
            exact ⟨by rw [HV.out]; rfl, rfl⟩
          · have d3 : decide ((L : Int) < (E : Int)) = false := decide_eq_false (by omega)
            have HV := hid (show V = 0 by rw [hV, if_neg]; simp [q3])
            clear hV
            go_enter Try.func41, Try.ntmps41
            go_wp2_with (go_at_call 60; refine hend.mono ?_; rintro e w1 ⟨rfl, rfl⟩)
            go_ret
            exact ⟨by rw [HV.out]; rfl, rfl⟩
        · have d2 : ((B : Int) == (L : Int)) = false := by rw [beq_eq_false_iff_ne]; omega
          have d2' : ¬ ((B : Int) = (L : Int)) := by omega
          have HV := hid (show V = 3 by rw [hV, if_pos]; simp [q0, q2])
          clear hV
          go_enter Try.func41, Try.ntmps41
          go_wp2_with fail
          go_ret
          exact ⟨by rw [HV.out]; rfl, rfl⟩
  · have e0 : L = 0 := by omega
    subst e0
    cases last with
    | false =>
      have HV := hid (show V = 0 by rw [hV, if_neg]; simp)
      clear hV
      go_enter Try.func41, Try.ntmps41
      go_wp2_with fail
      go_ret
      exact ⟨by rw [HV.out]; rfl, rfl⟩
    | true =>
      by_cases q3 : B < E
      · have d3 : decide ((B : Int) < (E : Int)) = true := decide_eq_true (by omega)
        have HV := hid (show V = 3 by rw [hV, if_pos]; simp [q3])
        clear hV
        go_enter Try.func41, Try.ntmps41
        go_wp2_with (go_at_call 60; refine hend.mono ?_; rintro e w1 ⟨rfl, rfl⟩)
        go_ret
        exact ⟨by rw [HV.out]; rfl, rfl⟩
      · have d3 : decide ((B : Int) < (E : Int)) = false := decide_eq_false (by omega)
        have HV := hid (show V = 0 by rw [hV, if_neg]; simp [q3])
        clear hV
        go_enter Try.func41, Try.ntmps41
        go_wp2_with (go_at_call 60; refine hend.mono ?_; rintro e w1 ⟨rfl, rfl⟩)
        go_ret
        exact ⟨by rw [HV.out]; rfl, rfl⟩
theorem TuR.clash {r : InM} {u : Nat} {x : TkP} {p : PieceM} (h : TuR r u x) : r.clash u p = x.clash p := by
  unfold InM.clash TkP.clash
  rw [h.ln, h.fin]
  by_cases h0 : x.len = 0
  · rw [if_pos h0, decide_eq_false (show ¬ 0 < x.len by omega)]
    simp
  · rw [if_neg h0, decide_eq_true (show 0 < x.len by omega)]
    show (((p.last && x.len != p.b) || decide (x.len < p.b)) || _) = _
    rw [Bool.true_and, Bool.or_comm (p.last && x.len != p.b)]
end Go.Proofs.Ytbjgfoiikhbonaf
namespace Go.Proofs.Ytbjgfoiikhbonaf
open Go.ChangeShapes Go.WideShapes Go.ChangeAt Go.RowKit
structure TkOk (x : TkP) : Prop where
  srt : Srt x.th
  hi : endS x.th ≤ 1500
  lh : x.len ≤ 1500
  dl : x.data.length = endS x.th
theorem TkOk.few {x : TkP} (h : TkOk x) : x.th.length ≤ 1500 := Nat.le_trans (h.srt.few h.srt.endLe) h.hi
theorem TkOk.zero : TkOk .zero := ⟨Srt.nil, Nat.zero_le _, Nat.zero_le _, rfl⟩
theorem TkOk.add {x x' : TkP} {a b : Nat} {s : ByteArray} {last : Bool} (h : TkOk x) (ha : AddM x x' a b s last) (hab : a < b) (hb : b ≤ 1500) : TkOk x' := by
  have he := ha.ends h.srt hab
  refine ⟨ha.srt, by rw [he]; have := h.hi; omega, ?_, by rw [he, ha.dl, h.dl]⟩
  rw [ha.ln]
  have := h.lh
  split <;> omega
theorem usOk_set {us : List TkP} {i : Nat} {x' : TkP} (h : ∀ j, TkOk (us.getD j .zero)) (hx : TkOk x') (hi : i < us.length) : ∀ j, TkOk ((us.set i x').getD j .zero) := fun j => by
  by_cases e : i = j
  · subst e; rw [getD_setTS hi]; exact hx
  · rw [getD_setTN e]; exact h j
theorem pieceOk {x : PieceM} (h : x.bad = false) : 0 ≤ x.num ∧ x.num ≤ 63 ∧ 0 ≤ x.frm ∧ x.a < x.b ∧ x.b ≤ 1500 ∧ 0 < x.data.size := by
  unfold PieceM.bad at h
  rw [decide_eq_false_iff_not] at h
  unfold PieceM.a PieceM.b
  omega
def RTakeOut (w : World) (b fs g c : Nat) (us : List TkP) (i : Nat) (x : PieceM) : Ending → World → Prop := fun e w' => ∃ x' w6, AddM (us.getD i .zero) x' x.a x.b x.data x.last ∧ PRcv w6 b fs g c (us.set i x') ∧ Kept (rcvF b g us) w w6 ∧ Grown w.heap.size (rcvF b g us) (rcvF b g (us.set i x')) ∧ ∃ k a cc, e = .returned (.tuple #[.slice a k cc, .int .i64 0]) ∧ TellPost w6 b fs g c (us.set i x') (.returned (.slice a k cc)) w'
def TAd (W : World) (b fs g c : Nat) (us : List TkP) (i : Nat) (x : PieceM) : Ending → World → Prop := fun e w' => e = .returned (.tuple #[]) ∧ ∃ x', AddM (us.getD i .zero) x' x.a x.b x.data x.last ∧ PRcv w' b fs g c (us.set i x') ∧ Kept (rcvF b g us) W w' ∧ Grown W.heap.size (rcvF b g us) (rcvF b g (us.set i x'))
theorem tad_any {W : World} {b fs g c i : Nat} {us : List TkP} {x : PieceM} (h : PRcv W b fs g c us) (hus : ∀ j, TkOk (us.getD j .zero)) (hi : i < us.length) (hx : x.bad = false) :
    Calls Try.prog 42 #[.pointer (some ⟨g, i * 3, none⟩), x.val] W (TAd W b fs g c us i x) := by
  obtain ⟨h1, h2, h3, h4, h5, h6⟩ := pieceOk hx
  obtain ⟨cur, hA, -⟩ := row_at h.own
  refine (tadd_any x (h.un hi) hA (hus i).srt (hus i).hi (hus i).dl h3 h5 h6).mono ?_
  rintro e w' ⟨rfl, x', hp, ha⟩
  refine ⟨rfl, x', ha, h.upd hi hp, hp.kept.wider (fun q hq => ?_), rcvF_upd hi hp.nk⟩
  rw [List.mem_cons, List.mem_append] at hq
  rcases hq with rfl | e | e
  · exact rcvF_g _ _ _
  · exact rcvF_k (i := i) (k := false) (by simpa using e)
  · exact rcvF_k (i := i) (k := true) (by simpa using e)
set_option maxRecDepth 100000 in
set_option maxHeartbeats 2000000 in
theorem rtake_none {w : World} {b fs g c : Nat} {us : List TkP} (x : PieceM) (h : PRcv w b fs g c us) (_hl : us.length ≤ 32) (hfs : fs < 64) (hus : ∀ j, TkOk (us.getD j .zero)) (hs : x.data.size ≤ manyB) (E : Int)
    (hE : (x.bad = true ∧ E = 3) ∨ (x.bad = false ∧ us.length ≤ aheadN x.num fs ∧ E = 8) ∨ (x.bad = false ∧ aheadN x.num fs < us.length ∧ (us.getD (aheadN x.num fs) .zero).clash x = true ∧ E = 3)) :
    Calls Try.prog 18 #[.pointer (some ⟨b, 0, none⟩), x.val] w fun e w' => e = .returned (.tuple #[.slice none 0 0, .int .i64 E]) ∧ Below w.heap.size w w' := by
  have c0 : w.cell? ⟨b, 0, none⟩ = some (.int .i64 (fs : Int)) := h.hd.cell 0
  have c1 : w.cell? ⟨b, 1, none⟩ = some (.slice (some ⟨g, 0, none⟩) us.length c) := h.hd.cell 1
  have hcp := fun W => checkPiece_any (w := W) x hs
  obtain ⟨W2, eW2⟩ : ∃ W2, W2 = (w.alloc (.cells #[.int .i64 x.num, .int .i64 x.frm, .bool x.last, .string x.data] 64)).alloc (.cells #[.int .i64 x.num, .int .i64 x.frm, .bool x.last, .string x.data] 64) := ⟨_, rfl⟩
  have hk : Kept [] w W2 := by rw [eW2]; exact ((Kept.refl _ w).alloc _).alloc _
  have hbW : Below w.heap.size w W2 := hk.below (Nat.le_refl _) (by simp)
  have hp2 : At W2 w.heap.size 64 x.cells := by
    rw [eW2]
    exact At.kept (at_alloc w _ x.cells) ((Kept.refl [] _).alloc _) (by simp)
  have x0 : W2.cell? ⟨w.heap.size, 0, none⟩ = some (.int .i64 x.num) := hp2.cell 0
  have x1 : W2.cell? ⟨w.heap.size, 1, none⟩ = some (.int .i64 x.frm) := hp2.cell 1
  have x2 : W2.cell? ⟨w.heap.size, 2, none⟩ = some (.bool x.last) := hp2.cell 2
  have x3 : W2.cell? ⟨w.heap.size, 3, none⟩ = some (.string x.data) := hp2.cell 3
  have k0 := keptCellQ hk c0 (by simp)
  have k1 := keptCellQ hk c1 (by simp)
  have hA0 := at_alloc w 64 x.cells
  have v0 : (w.alloc (.cells #[.int .i64 x.num, .int .i64 x.frm, .bool x.last, .string x.data] 64)).cell? ⟨w.heap.size, 0, none⟩ = some (.int .i64 x.num) := hA0.cell 0
  have v1 : (w.alloc (.cells #[.int .i64 x.num, .int .i64 x.frm, .bool x.last, .string x.data] 64)).cell? ⟨w.heap.size, 1, none⟩ = some (.int .i64 x.frm) := hA0.cell 1
  have v2 : (w.alloc (.cells #[.int .i64 x.num, .int .i64 x.frm, .bool x.last, .string x.data] 64)).cell? ⟨w.heap.size, 2, none⟩ = some (.bool x.last) := hA0.cell 2
  have v3 : (w.alloc (.cells #[.int .i64 x.num, .int .i64 x.frm, .bool x.last, .string x.data] 64)).cell? ⟨w.heap.size, 3, none⟩ = some (.string x.data) := hA0.cell 3
  obtain ⟨N, hN⟩ : ∃ N, N = us.length := ⟨_, rfl⟩
  rw [← hN] at k1 hE
  have HB := hid hbW
  generalize hP : (fun (e : Ending) (w' : World) => e = .returned (.tuple #[.slice none 0 0, .int .i64 E]) ∧ Below w.heap.size w w') = P
  have HP := hid hP
  have hPR := fun (n : Nat) => h.kept (w' := W2.drewN n) (hk.drewN n) (by simp)
  have HPR := hid hPR
  have HUS := hid hus
  have HN := hid hN
  clear h hk hbW hp2 hA0 hP hPR hus c0 c1 hN
  rcases hE with ⟨hb1, rfl⟩ | ⟨hb1, hq, rfl⟩ | ⟨hb1, hq, hcl, rfl⟩
  · rw [hb1, if_pos rfl] at hcp
    clear hb1
    obtain ⟨num, frm, last, data⟩ := x
    dsimp only [PieceM.val] at *
    go_enter Try.func18, Try.ntmps18
    go_wp2_with (go_at_call 39; refine (hcp _).mono ?_; rintro e w1 ⟨rfl, rfl⟩)
    rw [← HP.out, ← eW2]
    exact ⟨rfl, HB.out⟩
  · rw [hb1, if_neg (by simp)] at hcp
    obtain ⟨hn1, hn2, -⟩ := pieceOk hb1
    have hah := fun W => ahead_at (k := x.num) (bg := fs) W hfs hn1 hn2
    clear hb1
    obtain ⟨num, frm, last, data⟩ := x
    dsimp only [PieceM.val] at *
    have hA64 : aheadN num fs < 64 := by unfold aheadN; omega
    generalize aheadN num fs = A at *
    have d1 : decide ((N : Int) ≤ (A : Int)) = true := decide_eq_true (by omega)
    go_enter Try.func18, Try.ntmps18
    go_upto_region 4 with (go_at_call 39; refine (hcp _).mono ?_; rintro e w1 ⟨rfl, rfl⟩)
    rw [← eW2]
    clear eW2 v0 v1 v2 v3
    go_quiet (first | (go_at_call 40; exact Calls.quiet_of_same (hah _)))
    go_wp2_with fail
    rw [← HP.out]
    exact ⟨rfl, belowN HB.out _⟩
  · rw [hb1, if_neg (by simp)] at hcp
    obtain ⟨hn1, hn2, hn3, hn4, hn5, hn6⟩ := pieceOk hb1
    have hah := fun W => ahead_at (k := x.num) (bg := fs) W hfs hn1 hn2
    have hck := fun n => tcheck_any x ((HPR.out n).un (i := aheadN x.num fs) (by rw [← HN.out]; exact hq)) (by have := (HUS.out (aheadN x.num fs)).lh; omega) (by have := (HUS.out (aheadN x.num fs)).hi; omega) (by have := (HUS.out (aheadN x.num fs)).few; omega) hn3 (by omega)
    rw [hcl, if_pos rfl] at hck
    clear hb1 hcl
    obtain ⟨num, frm, last, data⟩ := x
    dsimp only [PieceM.val] at *
    have hA64 : aheadN num fs < 64 := by unfold aheadN; omega
    generalize aheadN num fs = A at *
    have d1 : decide ((N : Int) ≤ (A : Int)) = false := decide_eq_false (by omega)
    have hnle : ¬ (N ≤ A) := by omega
    go_enter Try.func18, Try.ntmps18
    go_upto_region 4 with (go_at_call 39; refine (hcp _).mono ?_; rintro e w1 ⟨rfl, rfl⟩)
    rw [← eW2]
    clear eW2 v0 v1 v2 v3
    go_quiet (first | (go_at_call 40; exact Calls.quiet_of_same (hah _)))
    go_wp2_with (go_at_call 41; refine (hck _).mono ?_; rintro e w5 ⟨rfl, rfl⟩)
    rw [← HP.out]
    exact ⟨rfl, (belowN HB.out _).alloc (by have := HB.out.size; simpa using this) _⟩
set_option maxRecDepth 100000 in
set_option maxHeartbeats 2000000 in
theorem rtake_some {w : World} {b fs g c : Nat} {us : List TkP} (x : PieceM) (h : PRcv w b fs g c us) (hl : us.length ≤ 32) (hfs : fs < 64) (hus : ∀ j, TkOk (us.getD j .zero)) (hs : x.data.size ≤ manyB) (hb1 : x.bad = false) (hE : aheadN x.num fs < us.length) (hcl : (us.getD (aheadN x.num fs) .zero).clash x = false) :
    Calls Try.prog 18 #[.pointer (some ⟨b, 0, none⟩), x.val] w (RTakeOut w b fs g c us (aheadN x.num fs) x) := by
  have c0 : w.cell? ⟨b, 0, none⟩ = some (.int .i64 (fs : Int)) := h.hd.cell 0
  have c1 : w.cell? ⟨b, 1, none⟩ = some (.slice (some ⟨g, 0, none⟩) us.length c) := h.hd.cell 1
  have hcp := fun W => checkPiece_any (w := W) x hs
  obtain ⟨W2, eW2⟩ : ∃ W2, W2 = (w.alloc (.cells #[.int .i64 x.num, .int .i64 x.frm, .bool x.last, .string x.data] 64)).alloc (.cells #[.int .i64 x.num, .int .i64 x.frm, .bool x.last, .string x.data] 64) := ⟨_, rfl⟩
  have hk : Kept [] w W2 := by rw [eW2]; exact ((Kept.refl _ w).alloc _).alloc _
  have hbW : Below w.heap.size w W2 := hk.below (Nat.le_refl _) (by simp)
  have hp2 : At W2 w.heap.size 64 x.cells := by
    rw [eW2]
    exact At.kept (at_alloc w _ x.cells) ((Kept.refl [] _).alloc _) (by simp)
  have x0 : W2.cell? ⟨w.heap.size, 0, none⟩ = some (.int .i64 x.num) := hp2.cell 0
  have x1 : W2.cell? ⟨w.heap.size, 1, none⟩ = some (.int .i64 x.frm) := hp2.cell 1
  have x2 : W2.cell? ⟨w.heap.size, 2, none⟩ = some (.bool x.last) := hp2.cell 2
  have x3 : W2.cell? ⟨w.heap.size, 3, none⟩ = some (.string x.data) := hp2.cell 3
  have k0 := keptCellQ hk c0 (by simp)
  have k1 := keptCellQ hk c1 (by simp)
  have hA0 := at_alloc w 64 x.cells
  have v0 : (w.alloc (.cells #[.int .i64 x.num, .int .i64 x.frm, .bool x.last, .string x.data] 64)).cell? ⟨w.heap.size, 0, none⟩ = some (.int .i64 x.num) := hA0.cell 0
  have v1 : (w.alloc (.cells #[.int .i64 x.num, .int .i64 x.frm, .bool x.last, .string x.data] 64)).cell? ⟨w.heap.size, 1, none⟩ = some (.int .i64 x.frm) := hA0.cell 1
  have v2 : (w.alloc (.cells #[.int .i64 x.num, .int .i64 x.frm, .bool x.last, .string x.data] 64)).cell? ⟨w.heap.size, 2, none⟩ = some (.bool x.last) := hA0.cell 2
  have v3 : (w.alloc (.cells #[.int .i64 x.num, .int .i64 x.frm, .bool x.last, .string x.data] 64)).cell? ⟨w.heap.size, 3, none⟩ = some (.string x.data) := hA0.cell 3
  obtain ⟨N, hN⟩ : ∃ N, N = us.length := ⟨_, rfl⟩
  rw [← hN] at k1 hE hl
  have HB := hid hbW
  generalize hP : RTakeOut w b fs g c us (aheadN x.num fs) x = P
  have HP := hid hP
  have hPR := fun (n : Nat) => h.kept (w' := W2.drewN n) (hk.drewN n) (by simp)
  have HPR := hid hPR
  have HUS := hid hus
  have HN := hid hN
  clear h hk hbW hp2 hA0 hP hPR hus c0 c1 hN
  have hq := hE
  rw [hb1, if_neg (by simp)] at hcp
  obtain ⟨hn1, hn2, hn3, hn4, hn5, hn6⟩ := pieceOk hb1
  have hah := fun W => ahead_at (k := x.num) (bg := fs) W hfs hn1 hn2
  have hck := fun n => tcheck_any x ((HPR.out n).un (i := aheadN x.num fs) (by rw [← HN.out]; exact hq)) (by have := (HUS.out (aheadN x.num fs)).lh; omega) (by have := (HUS.out (aheadN x.num fs)).hi; omega) (by have := (HUS.out (aheadN x.num fs)).few; omega) hn3 (by omega)
  rw [hcl, if_neg (by simp)] at hck
  have hHL : Hid (us.length ≤ 32) := hid (by rw [← HN.out]; exact hl)
  have had := fun n => tad_any (i := aheadN x.num fs) (x := x) (W := (W2.drewN n).alloc (.cells #[.int .i64 x.num, .int .i64 x.frm, .bool x.last, .string x.data] 64)) ((HPR.out n).kept ((Kept.refl [] _).alloc _) (by simp)) HUS.out (by rw [← HN.out]; exact hq) hb1
  have HFS := hid hfs
  have HT : Hid (∀ x' w6, AddM (us.getD (aheadN x.num fs) .zero) x' x.a x.b x.data x.last → PRcv w6 b fs g c (us.set (aheadN x.num fs) x') → Calls Try.prog 43 #[.pointer (some ⟨b, 0, none⟩)] w6 (TellPost w6 b fs g c (us.set (aheadN x.num fs) x'))) := hid fun x' w6 ha h6 => by
    have hu := usOk_set (i := aheadN x.num fs) HUS.out ((HUS.out (aheadN x.num fs)).add ha hn4 hn5) (by rw [← HN.out]; exact hq)
    exact tell_any h6 (by rw [List.length_set]; exact hHL.out) HFS.out (fun i => by have := (hu i).few; omega) (fun i => by have := (hu i).lh; omega) (fun i => by have := (hu i).hi; have := (hu i).dl; omega)
  have HXE : Hid (RTakeOut w b fs g c us (aheadN x.num fs) x = P) := HP
  obtain ⟨XV, eXV⟩ : ∃ XV, XV = x := ⟨_, rfl⟩
  have hA64 : aheadN x.num fs < 64 := by unfold aheadN; omega
  rw [← eXV] at HT HXE had
  have hxv : x.val = .agg #[.int .i64 x.num, .int .i64 x.frm, .bool x.last, .string x.data] := rfl
  have hxv2 : XV.val = .agg #[.int .i64 x.num, .int .i64 x.frm, .bool x.last, .string x.data] := by rw [eXV]; rfl
  rw [hxv2] at had
  rw [hxv] at hck hcp ⊢
  have eNum : XV.num = x.num := by rw [eXV]
  have eFrm : XV.frm = x.frm := by rw [eXV]
  have eLast : XV.last = x.last := by rw [eXV]
  have eData : XV.data = x.data := by rw [eXV]
  rw [eNum] at had HT HXE
  rw [eFrm, eLast, eData] at had
  clear hb1 hcl hxv hxv2 eNum eFrm eLast eData HP hE hs
  generalize aheadN x.num fs = A at *
  generalize x.num = num at *
  generalize x.frm = frm at *
  generalize x.last = last at *
  generalize x.data = data at *
  have d1 : decide ((N : Int) ≤ (A : Int)) = false := decide_eq_false (by omega)
  have hnle : ¬ (N ≤ A) := by omega
  go_enter Try.func18, Try.ntmps18
  go_upto_region 4 with (go_at_call 39; refine (hcp _).mono ?_; rintro e w1 ⟨rfl, rfl⟩)
  rw [← eW2]
  clear eW2 v0 v1 v2 v3
  go_quiet (first | (go_at_call 40; exact Calls.quiet_of_same (hah _)))
  have hadn := had nq
  have hckn := hck nq
  have hBn := hid (belowN HB.out nq)
  have hp0 : ((W2.drewN nq).alloc (.cells #[.int .i64 num, .int .i64 frm, .bool last, .string data] 64)).cell? ⟨w.heap.size, 0, none⟩ = some (.int .i64 num) := keptCellQ ((Kept.refl [] W2).drewN nq |>.alloc _) x0 (by simp)
  have hp1 : ((W2.drewN nq).alloc (.cells #[.int .i64 num, .int .i64 frm, .bool last, .string data] 64)).cell? ⟨w.heap.size, 1, none⟩ = some (.int .i64 frm) := keptCellQ ((Kept.refl [] W2).drewN nq |>.alloc _) x1 (by simp)
  have hp2 : ((W2.drewN nq).alloc (.cells #[.int .i64 num, .int .i64 frm, .bool last, .string data] 64)).cell? ⟨w.heap.size, 2, none⟩ = some (.bool last) := keptCellQ ((Kept.refl [] W2).drewN nq |>.alloc _) x2 (by simp)
  have hp3 : ((W2.drewN nq).alloc (.cells #[.int .i64 num, .int .i64 frm, .bool last, .string data] 64)).cell? ⟨w.heap.size, 3, none⟩ = some (.string data) := keptCellQ ((Kept.refl [] W2).drewN nq |>.alloc _) x3 (by simp)
  have hB5 := hid (hBn.out.alloc (by have := hBn.out.size; simpa using this) (.cells #[.int .i64 num, .int .i64 frm, .bool last, .string data] 64))
  clear had hck hcp hah hBn
  generalize (W2.drewN nq).alloc (.cells #[.int .i64 num, .int .i64 frm, .bool last, .string data] 64) = W5 at *
  go_wp2_with (first
    | (go_at_call 41; refine hckn.mono ?_; rintro e w5 ⟨rfl, ew5⟩; subst ew5)
    | (go_at_call 42; refine hadn.mono ?_; rintro e w6 ⟨rfl, x', ha, h6, hk6, hg6⟩; have HA6 := hid ha; have H6 := hid h6; have HK6 := hid hk6; have HG6 := hid hg6; have htl := HT.out x' w6 ha h6; clear ha h6 hk6 hg6)
    | (go_at_call 43; refine htl.mono ?_; rintro e w7 hT; obtain ⟨k, a, cc, q1, rfl, q2⟩ := id hT; have HT7 := hid hT; clear hT q1 q2))
  rw [← HXE.out]
  refine ⟨x', w6, HA6.out, H6.out, ?_, ?_, k, a, cc, rfl, HT7.out⟩
  · exact (Kept.of_below hB5.out).trans HK6.out
  · exact fun q hq => (HG6.out q hq).elim .inl (fun h => .inr (Nat.le_trans hB5.out.size h))
end Go.Proofs.Ytbjgfoiikhbonaf
