import Derived.Test.YtbjgfoiikhbonafK17
import Derived.Laws.StructEq
set_option linter.unusedVariables false
set_option linter.unusedSimpArgs false
namespace Go.Proofs.Ytbjgfoiikhbonaf
open Go.ChangeShapes Go.WideShapes Go.ChangeAt Go.RowKit
def GapM.val (g : GapM) : Value := .agg #[.int .i64 g.num, .int .i64 g.frm, .int .i64 g.til]
/-- A gap in one of the first d units. -/
def gapOkP (bg d : Nat) (us : List UnP) (g : GapM) : Bool :=
  decide (0 ≤ g.num ∧ g.num ≤ 63) && (decide (aheadN g.num bg < d) && decide (0 ≤ g.frm ∧ g.frm < (us.getD (aheadN g.num bg) .zero).text.size ∧ g.til ≤ (us.getD (aheadN g.num bg) .zero).text.size ∧ (g.til < 0 ∨ g.frm < g.til)))
def gapErr (bg d : Nat) (us : List UnP) (g : GapM) : Int := if gapOkP bg d us g = true then 0 else 3
theorem ahead_at {k : Int} {bg : Nat} (w : World) (hb : bg < 64) (h1 : 0 ≤ k) (h2 : k ≤ 63) : Calls Try.prog 40 #[.int .i64 k, .int .i64 (bg : Int)] w fun e w' => e = .returned (.int .i64 ((aheadN k bg : Nat) : Int)) ∧ w' = w := by
  have := ahead_any (k := k) (beg := bg) w h1 h2
  rwa [Nat.mod_eq_of_lt hb] at this
set_option maxRecDepth 100000 in
set_option maxHeartbeats 1000000 in
theorem checkGap_any {w : World} {b win bg d : Nat} {ua : Option Addr} {c : Nat} {us : List UnP} (g : GapM) (h : PSnd w b win bg ua c us) (hbg : bg < 64) (hd : d ≤ us.length) (_hl : us.length ≤ 4000) (hsz : ∀ i, i < us.length → (us.getD i .zero).text.size ≤ 1500) :
    Calls Try.prog 66 #[.pointer (some ⟨b, 0, none⟩), g.val, .int .i64 (d : Int)] w fun e w' => e = .returned (.int .i64 (gapErr bg d us g)) ∧ Below w.heap.size w w' := by
  obtain ⟨-, c1, c2⟩ := h.head
  have hA := at_alloc w 130 [.int .i64 g.num, .int .i64 g.frm, .int .i64 g.til]
  have hk : Kept [] w (w.alloc (.cells #[.int .i64 g.num, .int .i64 g.frm, .int .i64 g.til] 130)) := (Kept.refl _ w).alloc _
  have k1 := keptCellQ hk c1 (by simp)
  have k2 := keptCellQ hk c2 (by simp)
  have x0 : (w.alloc (.cells #[.int .i64 g.num, .int .i64 g.frm, .int .i64 g.til] 130)).cell? ⟨w.heap.size, 0, none⟩ = some (.int .i64 g.num) := hA.cell 0
  have x1 : (w.alloc (.cells #[.int .i64 g.num, .int .i64 g.frm, .int .i64 g.til] 130)).cell? ⟨w.heap.size, 1, none⟩ = some (.int .i64 g.frm) := hA.cell 1
  have x2 : (w.alloc (.cells #[.int .i64 g.num, .int .i64 g.frm, .int .i64 g.til] 130)).cell? ⟨w.heap.size, 2, none⟩ = some (.int .i64 g.til) := hA.cell 2
  have HB : Hid (∀ n, Below w.heap.size w ((w.alloc (.cells #[.int .i64 g.num, .int .i64 g.frm, .int .i64 g.til] 130)).drewN n)) := hid fun n => belowN ((Below.refl _ w).alloc (Nat.le_refl _) _) n
  have hnum := fun W => isNumber_any g.num W
  obtain ⟨V, hV⟩ : ∃ V, V = gapErr bg d us g := ⟨_, rfl⟩
  rw [← hV]
  have hun : ∀ i, i < us.length → ∃ gb, ua = some ⟨gb, 0, none⟩ ∧ (w.alloc (.cells #[.int .i64 g.num, .int .i64 g.frm, .int .i64 g.til] 130)).cell? ⟨gb, i * 4, none⟩ = some (.string (us.getD i .zero).text) := fun i hi => by
    obtain ⟨gb, e, -, hu⟩ := h.un hi
    exact ⟨gb, e, keptCellQ hk hu.c0 (by simp)⟩
  obtain ⟨N, hN⟩ : ∃ N, N = us.length := ⟨_, rfl⟩
  rw [← hN] at k2 hd hun hsz
  clear h hA hk c1 c2 hN
  have HU := hid hun
  clear hun
  by_cases q1 : 0 ≤ g.num ∧ g.num ≤ 63
  · have hah := fun W => ahead_at (k := g.num) (bg := bg) W hbg q1.1 q1.2
    rw [show decide (0 ≤ g.num ∧ g.num ≤ 63) = true from decide_eq_true q1] at hnum
    by_cases q2 : aheadN g.num bg < d
    · obtain ⟨gb, rfl, u0⟩ := HU.out _ (Nat.lt_of_lt_of_le q2 hd)
      have hs := hsz _ (Nat.lt_of_lt_of_le q2 hd)
      have d2 : decide ((d : Int) ≤ ((aheadN g.num bg : Nat) : Int)) = false := decide_eq_false (by omega)
      have hVV : V = if 0 ≤ g.frm ∧ g.frm < (us.getD (aheadN g.num bg) .zero).text.size ∧ g.til ≤ (us.getD (aheadN g.num bg) .zero).text.size ∧ (g.til < 0 ∨ g.frm < g.til) then 0 else 3 := by
        rw [hV]
        unfold gapErr gapOkP
        rw [decide_eq_true q1, decide_eq_true q2]
        simp
      generalize (us.getD (aheadN g.num bg) .zero).text = tx at *
      have hlt : aheadN g.num bg < N := by omega
      have hnge : ¬ (d ≤ aheadN g.num bg) := by omega
      generalize aheadN g.num bg = A at *
      clear hV q2 q1 HU hsz
      obtain ⟨num, frm, til⟩ := g
      dsimp only [GapM.val] at *
      go_enter Try.func66, Try.ntmps66
      go_upto_region 1 with fail
      go_quiet (first | (go_at_call 59; exact Calls.quiet_of_same (hnum _)) | (go_at_call 40; exact Calls.quiet_of_same (hah _)))
      go_upto_region 3 with fail
      have k1' : ((w.alloc (.cells #[.int .i64 num, .int .i64 frm, .int .i64 til] 130)).drewN nq).cell? ⟨b, 1, none⟩ = some (.int .i64 (bg : Int)) := k1
      have k2' : ((w.alloc (.cells #[.int .i64 num, .int .i64 frm, .int .i64 til] 130)).drewN nq).cell? ⟨b, 2, none⟩ = some (.slice (some ⟨gb, 0, none⟩) N c) := k2
      have u0' : ((w.alloc (.cells #[.int .i64 num, .int .i64 frm, .int .i64 til] 130)).drewN nq).cell? ⟨gb, A * 4, none⟩ = some (.string tx) := u0
      have x0' : ((w.alloc (.cells #[.int .i64 num, .int .i64 frm, .int .i64 til] 130)).drewN nq).cell? ⟨w.heap.size, 0, none⟩ = some (.int .i64 num) := x0
      have x1' : ((w.alloc (.cells #[.int .i64 num, .int .i64 frm, .int .i64 til] 130)).drewN nq).cell? ⟨w.heap.size, 1, none⟩ = some (.int .i64 frm) := x1
      have x2' : ((w.alloc (.cells #[.int .i64 num, .int .i64 frm, .int .i64 til] 130)).drewN nq).cell? ⟨w.heap.size, 2, none⟩ = some (.int .i64 til) := x2
      have HB1 : Hid (∀ n, Below w.heap.size w (((w.alloc (.cells #[.int .i64 num, .int .i64 frm, .int .i64 til] 130)).drewN nq).drewN n)) := hid fun n => belowN (HB.out nq) n
      clear k1 k2 u0 x0 x1 x2 HB
      generalize (w.alloc (.cells #[.int .i64 num, .int .i64 frm, .int .i64 til] 130)).drewN nq = W1 at *
      go_quiet (first | (go_at_call 40; exact Calls.quiet_of_same (hah _)))
      by_cases q3 : frm < 0
      · have HV := hid (show V = 3 by rw [hVV, if_neg (by omega)])
        clear hVV
        go_wp2_with fail
        go_ret
        exact ⟨by rw [HV.out]; rfl, HB1.out _⟩
      · by_cases q4 : (tx.size : Int) ≤ frm
        · have HV := hid (show V = 3 by rw [hVV, if_neg (by omega)])
          clear hVV
          go_wp2_with fail
          go_ret
          exact ⟨by rw [HV.out]; rfl, HB1.out _⟩
        · by_cases q5 : 0 ≤ til
          · by_cases q6 : til ≤ frm
            · have HV := hid (show V = 3 by rw [hVV, if_neg (by omega)])
              clear hVV
              go_wp2_with fail
              go_ret
              exact ⟨by rw [HV.out]; rfl, HB1.out _⟩
            · by_cases q7 : (tx.size : Int) < til
              · have HV := hid (show V = 3 by rw [hVV, if_neg (by omega)])
                clear hVV
                go_wp2_with fail
                go_ret
                exact ⟨by rw [HV.out]; rfl, HB1.out _⟩
              · have HV := hid (show V = 0 by rw [hVV, if_pos (by omega)])
                clear hVV
                go_wp2_with fail
                go_ret
                exact ⟨by rw [HV.out]; rfl, HB1.out _⟩
          · have HV := hid (show V = 0 by rw [hVV, if_pos (by omega)])
            clear hVV
            go_wp2_with fail
            go_ret
            exact ⟨by rw [HV.out]; rfl, HB1.out _⟩
    · have d2 : decide ((d : Int) ≤ ((aheadN g.num bg : Nat) : Int)) = true := decide_eq_true (by omega)
      have HV := hid (show V = 3 by
        rw [hV]
        unfold gapErr gapOkP
        rw [decide_eq_false q2]
        simp)
      have hge : d ≤ aheadN g.num bg := by omega
      clear hV q1 q2 HU hsz
      generalize aheadN g.num bg = A at *
      obtain ⟨num, frm, til⟩ := g
      dsimp only [GapM.val] at *
      go_enter Try.func66, Try.ntmps66
      go_upto_region 1 with fail
      go_quiet (first | (go_at_call 59; exact Calls.quiet_of_same (hnum _)) | (go_at_call 40; exact Calls.quiet_of_same (hah _)))
      go_wp2_with fail
      go_ret
      exact ⟨by rw [HV.out]; rfl, HB.out _⟩
  · rw [show decide (0 ≤ g.num ∧ g.num ≤ 63) = false from decide_eq_false q1] at hnum
    have HV := hid (show V = 3 by
      rw [hV]
      unfold gapErr gapOkP
      rw [decide_eq_false q1]
      simp)
    clear hV q1 HU hsz
    obtain ⟨num, frm, til⟩ := g
    dsimp only [GapM.val] at *
    go_enter Try.func66, Try.ntmps66
    go_upto_region 1 with fail
    go_quiet (first | (go_at_call 59; exact Calls.quiet_of_same (hnum _)))
    go_wp2_with fail
    go_ret
    exact ⟨by rw [HV.out]; rfl, HB.out _⟩
end Go.Proofs.Ytbjgfoiikhbonaf
namespace Go.Proofs.Ytbjgfoiikhbonaf
open Go.ChangeShapes Go.WideShapes Go.ChangeAt Go.RowKit
structure TkP where
  dv : Value
  data : List Int
  tv : Value
  th : Sps
  len : Nat
def TkP.zero : TkP := ⟨.slice none 0 0, [], .slice none 0 0, [], 0⟩
def TkP.cells (x : TkP) : List Value := [x.dv, x.tv, .int .i64 (x.len : Int)]
/-- A unit's cells, from o on. -/
structure TkAt (w : World) (g o : Nat) (x : TkP) : Prop where
  c0 : w.cell? ⟨g, o, none⟩ = some x.dv
  c1 : w.cell? ⟨g, o + 1, none⟩ = some x.tv
  c2 : w.cell? ⟨g, o + 2, none⟩ = some (.int .i64 (x.len : Int))
  fr : ∀ j, w.frozen? ⟨g, j, none⟩ = false
  od : Own w 0 x.dv x.data
  ot : OwnSp w x.tv x.th
  sd : ∀ g', x.dv.ownBlock = some g' → g' ≠ g
  st : ∀ g', x.tv.ownBlock = some g' → g' ≠ g
  dt : ∀ g', x.dv.ownBlock = some g' → x.tv.ownBlock ≠ some g'
def TkP.whole (x : TkP) : Bool := decide (0 < x.len) && (decide (x.th = [(0, x.len)]))
set_option maxRecDepth 100000 in
set_option maxHeartbeats 1000000 in
theorem whole_none {w : World} {g o : Nat} {x : TkP} (h : TkAt w g o x) (h0 : x.len = 0) :
    Calls Try.prog 63 #[.pointer (some ⟨g, o, none⟩)] w fun e w' => e = .returned (.bool false) ∧ ∃ n, w' = w.drewN n := by
  have c2 := h.c2
  rw [h0] at c2
  clear h
  go_enter Try.func63, Try.ntmps63
  go_wp2_with fail
  go_quiet (fail)
  go_wp2_with fail
  go_ret
  exact ⟨rfl, _, rfl⟩
set_option maxRecDepth 100000 in
set_option maxHeartbeats 1000000 in
theorem whole_many {w : World} {g o : Nat} {x : TkP} (h : TkAt w g o x) (h0 : 0 < x.len) (hl : x.len ≤ 3000) (h1 : x.th.length ≠ 1) (_h2 : x.th.length ≤ 4000) :
    Calls Try.prog 63 #[.pointer (some ⟨g, o, none⟩)] w fun e w' => e = .returned (.bool false) ∧ ∃ n, w' = w.drewN n := by
  have c2 := h.c2
  have c1 := h.c1
  obtain ⟨a, c, e, -, -, -⟩ := h.ot.shape
  rw [e] at c1
  have hne : ((x.th.length : Int) == 1) = false := by rw [beq_eq_false_iff_ne]; omega
  clear h e
  generalize x.len = L at *
  generalize x.th.length = N at *
  have d1 : decide ((0 : Int) < (L : Int)) = true := decide_eq_true (by omega)
  go_enter Try.func63, Try.ntmps63
  go_wp2_with fail
  go_quiet (fail)
  go_wp2_with fail
  go_ret
  exact ⟨rfl, _, rfl⟩
end Go.Proofs.Ytbjgfoiikhbonaf
