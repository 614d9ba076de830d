import Derived.Test.YtbjgfoiikhbonafK08
import Derived.Test.YtbjgfoiikhbonafK23
set_option linter.unusedVariables false
set_option linter.unusedSimpArgs false
namespace Go.Proofs.Ytbjgfoiikhbonaf
open Go.ChangeShapes Go.WideShapes Go.ChangeAt Go.RowKit
theorem Try.infoGpR : (Try.prog.info? 130).map (fun i => (i.zero, i.size, i.bytes)) = some (some (.agg #[.int .i64 0, .int .i64 0, .int .i64 0]), 3, 24) := by kernel_rfl
def optI (f : Option Nat) : Int := match f with
  | none => -1
  | some a => (a : Int)
theorem goR_len (p : Nat → Bool) (e : Nat) : ∀ k i f, (goR p e k i f).length ≤ k := by
  intro k
  induction k with
  | zero => intro i f; exact Nat.le_refl _
  | succ k ih =>
    intro i f
    cases f with
    | none => unfold goR; have := ih (i + 1) (if p i = true ∧ i < e then some i else none); omega
    | some a =>
      unfold goR
      split
      · have := ih (i + 1) (if p i = true ∧ i < e then some i else none)
        rw [List.length_cons]
        omega
      · have := ih (i + 1) (some a)
        omega
theorem gapsM_lenR {win fst u : Nat} {ts : List TakenM} (hok : ∀ t ∈ ts, t.ok) : ((inOf win fst ts).ends u) ≤ 1500 ∧ ((inOf win fst ts).gaps u).length ≤ 1502 := by
  have h1 : (inOf win fst ts).ends u ≤ 1500 := by
    unfold InM.ends
    show (lenL u none ts).getD (finL u 0 ts) ≤ 1500
    cases hx : lenL u none ts with
    | none => exact finL_le ts 0 (by omega) hok
    | some n => exact (lenL_lt hx hok).2
  refine ⟨h1, ?_⟩
  rw [gapsM_eqR, List.length_append, List.length_map]
  have h2 := goR_len (fun i => ((inOf win fst ts).got u i).isNone) ((inOf win fst ts).ends u) ((inOf win fst ts).ends u + 1) 0 none
  split <;> simp <;> omega
theorem gapsR_len {win fst : Nat} {ts : List TakenM} (hok : ∀ t ∈ ts, t.ok) : ∀ k, (gapsR (inOf win fst ts) k).length ≤ k * 1502
  | 0 => by simp [gapsR]
  | k + 1 => by
    rw [gapsR_succ, List.length_append]
    have h1 := gapsR_len (win := win) (fst := fst) hok k
    have h2 := (gapsM_lenR (win := win) (fst := fst) (u := fst + k) hok).2
    have e : (inOf win fst ts).fst + k = fst + k := rfl
    rw [e]
    omega
/-- A gap goes into the report. -/
theorem push_gap {w wr : World} {nx : Int} {L : List GapM} {a : Option Addr} {c : Nat} (h : RpAt w wr nx L a c) (q : GapM) {ops : Array Oper} {rest : List Oper} {o : Oper} {ac : Act} {Q : Exit → Act → World → Prop} (hL : L.length ≤ 100000) (hgd : o.guard = none) (s x : Operand) (ho : o.op = .call { callee := .builtin .append, args := #[s, x], argTypes := #[71, 71] }) (hs : ac.eval s = .slice a L.length c) (hx : ac.eval x = .slice (some ⟨wr.heap.size, 0, none⟩) 1 1)
    (hc : ∀ a' c' w4, w4.cell? ⟨w.heap.size + 1, 1, none⟩ = some (.slice a L.length c) → w4.frozen? ⟨w.heap.size + 1, 1, none⟩ = false → Hid (RpAt w (w4.setCell ⟨w.heap.size + 1, 1, none⟩ (.slice a' (L.length + 1) c')) nx (L ++ [q]) a' c') → wpList Try.prog ops Q rest (ac.put o.dst (.slice a' (L.length + 1) c')) w4) :
    wpList Try.prog ops Q (o :: rest) ac (wr.alloc (.cells #[.int .i64 q.num, .int .i64 q.frm, .int .i64 q.til] 130)) := by
  obtain ⟨i0, hi, hz0, hz1, hz2⟩ := info_parts Try.infoGpR
  have hA := at_alloc wr 130 [.int .i64 q.num, .int .i64 q.frm, .int .i64 q.til]
  have hsz := h.row.lt
  refine wpList_pushR (w.heap.size + 2) wr.heap.size Try.underlying71 hi hz0 hz1 hz2 rfl (by decide) (World.ownsRow.alloc h.own _) hgd s x ho hs hx (news := [.int .i64 q.num, .int .i64 q.frm, .int .i64 q.til]) rfl (fun k u hk => by rw [hA.cell]; exact hk) ?_ (by unfold maxLen; omega) (by omega) (by rw [World.size_alloc]; omega) ?_
  · intro u hu
    simp at hu
    rcases hu with rfl | rfl | rfl <;> rfl
  · intro v' w4 ho4 hg4 hb4
    obtain ⟨a', c', rfl, -, -, -⟩ := row_shape ho4
    have hWA : Below wr.heap.size wr (wr.alloc (.cells #[.int .i64 q.num, .int .i64 q.frm, .int .i64 q.til] 130)) := (Below.refl _ wr).alloc (Nat.le_refl _) _
    have hrow := ((h.later hWA).row).kept (Kept.grownR hg4) (fun hm => by
      have := (World.ownsRow.lt h.own (w.heap.size + 1) (by simpa using hm)).1
      omega)
    exact hc a' c' w4 (hrow.cell 1) (hrow.free 1) (hid (h.push hWA hg4 ho4))
set_option maxRecDepth 100000 in
set_option maxHeartbeats 4000000 in
theorem inreport_any {w : World} {B g : Nat} {vl : Value} {win fst : Nat} {ts : List TakenM} (h : RIn w B g vl win fst ts) (hl : ts.length ≤ manyU) (hf : fst ≤ manyU) (hh : hiL 0 ts ≤ fst + 32) :
    Calls Try.prog 21 #[.pointer (some ⟨g, 0, none⟩)] w fun e w' => ∃ a n c, e = .returned (.agg #[.int .i64 (inOf win fst ts).report.next, .slice a n c]) ∧ n = (inOf win fst ts).report.miss.length ∧ n ≤ 100000 ∧ w'.ownsRow (w.heap.size + 2) 130 3 (.slice a n c) n (cellsGp (inOf win fst ts).report.miss) ∧ Below w.heap.size w w' := by
  obtain ⟨RN, eRN⟩ : ∃ RN, RN = (inOf win fst ts).report.next := ⟨_, rfl⟩
  obtain ⟨RM, eRM⟩ : ∃ RM, RM = (inOf win fst ts).report.miss := ⟨_, rfl⟩
  rw [← eRN, ← eRM]
  have HRN := hid eRN
  have HRM := hid eRM
  clear eRN eRM
  obtain ⟨a0, c0, ev, -, -, -⟩ := row_shape h.own
  subst ev
  have hb : Below w.heap.size w (w.alloc (.cells #[.int .i64 0, .slice none 0 0] 73)) := (Below.refl _ w).alloc (Nat.le_refl _) _
  have H := hid h
  have HH := hid (h.below hb)
  obtain ⟨nt, ent⟩ : ∃ nt, nt = ts.length := ⟨_, rfl⟩
  have hnt : nt ≤ 70368744177664 := by rw [ent]; exact hl
  have HNT := hid ent
  have hf2 : fst ≤ 70368744177664 := hf
  have HL := hid hl
  obtain ⟨-, k1, k2⟩ := (h.below hb).cells
  rw [← ent] at k2
  have HB := hid hb
  have hres := at_alloc w 73 [.int .i64 0, .slice none 0 0]
  have HRES := hid hres
  have HOK := hid h.ok
  have HSZ : Hid ((w.alloc (.cells #[.int .i64 0, .slice none 0 0] 73)).heap.size = w.heap.size + 1) := by exact World.size_alloc _ _
  obtain ⟨NX, hNX⟩ : ∃ NX, NX = max fst (hiL 0 ts) := ⟨_, rfl⟩
  have hNX2 : NX ≤ fst + 32 := by omega
  have hNX3 : fst ≤ NX := by omega
  have HNX := hid hNX
  obtain ⟨w0, ew0⟩ : ∃ w0, w0 = w.heap.size := ⟨_, rfl⟩
  clear h hl ent hf hb hres hh hNX
  go_enter Try.func21, Try.ntmps21
  go_wp2_with fail
  generalize (w.alloc (.cells #[.int .i64 0, .slice none 0 0] 73)) = wA at *
  go_loopw [3, 4] (fun vn vi wr => ∃ k q : Nat, k ≤ nt ∧ q ≤ 70368744177664 + 100 ∧ vi = .int .i64 (k : Int) ∧ vn = .int .i64 (q : Int) ∧ Hid (q = max fst (hiL 0 (ts.take k))) ∧ wr = wA) (fun _ vi _ => nt - (intOf vi).toNat)
  case atStart => exact ⟨0, fst, Nat.zero_le _, by omega, rfl, rfl, hid (by simp [hiL]), rfl⟩
  case round =>
    obtain ⟨k, q, hk, hq, rfl, rfl, HQ, ew⟩ := hrel
    obtain rfl := ew.symm
    by_cases hkn : k < nt
    · have hkl : k < ts.length := by rw [← HNT.out]; exact hkn
      obtain ⟨gl, rfl, hgl, q0, -, -, -, -⟩ := row_tks HH.out.own hkl
      have e1 := hiL_snoc (ts.getD k .zero) (ts.take k) 0
      rw [← takeTn hkl] at e1
      have hok := (HOK.out _ (getD_mem hkl)).2.2
      unfold manyU at hok
      generalize ts.getD k TakenM.zero = t at *
      have HE1 := hid e1
      obtain ⟨tu, tp⟩ := t
      dsimp only at q0 hok
      clear e1 hgl
      by_cases hx : q ≤ tu
      · have x1 : decide ((q : Int) ≤ (tu : Int)) = true := decide_eq_true (by omega)
        go_wp2_with fail
        refine ⟨⟨k + 1, tu + 1, by omega, by omega, by go_num, by go_num, hid ?_, by first | rfl | trivial⟩, by simp [intOf]; omega⟩
        rw [HE1.out]
        have := HQ.out
        show tu + 1 = max fst (max _ (tu + 1))
        omega
      · have x1 : decide ((q : Int) ≤ (tu : Int)) = false := decide_eq_false (by omega)
        go_wp2_with fail
        refine ⟨⟨k + 1, q, by omega, hq, by go_num, rfl, hid ?_, by first | rfl | trivial⟩, by simp [intOf]; omega⟩
        rw [HE1.out]
        have := HQ.out
        show q = max fst (max _ (tu + 1))
        omega
    · have HQN : Hid (q = NX) := by
        have h3 := HQ.out
        rw [List.take_of_length_le (by rw [← HNT.out]; omega)] at h3
        exact h3.trans HNX.out.symm
      have hqn := HQN.out
      subst hqn
      have HNX2 : Hid (((inOf win fst ts).nxt) = q) := by exact HQN.out.symm ▸ HNX.out.symm
      go_upto_region 8 with fail
      obtain ⟨nx, enx⟩ : ∃ nx, nx = ((q : Int) % 64) := ⟨_, rfl⟩
      rw [← enx]
      have hRP : RpAt w (wA.alloc (.cells #[.int .i64 nx, .slice none 0 0] 73)) nx [] none 0 := by
        have hkA : Kept [] wA (wA.alloc (.cells #[.int .i64 nx, .slice none 0 0] 73)) := (Kept.refl _ wA).alloc _
        refine ⟨?_, HRES.out.kept hkA (by simp), World.ownsRow_nil _ _ _ _, HB.out.trans (Kept.below hkA HB.out.size (by simp))⟩
        rw [← HSZ.out]
        exact at_alloc wA 73 [.int .i64 nx, .slice none 0 0]
      have HRP := hid hRP
      obtain ⟨b1, eb1⟩ : ∃ b1, b1 = wA.heap.size := ⟨_, rfl⟩
      rw [← eb1]
      have EB1 : Hid (b1 = w.heap.size + 1) := by exact eb1.trans HSZ.out
      have HEN := hid enx
      have k1' := keptCellQ (S := []) ((Kept.refl [] wA).alloc (.cells #[.int .i64 nx, .slice none 0 0] 73)) k1 (by simp)
      generalize (wA.alloc (.cells #[.int .i64 nx, .slice none 0 0] 73)) = wB at *
      clear hRP eb1 enx k1 k2
      go_wp2_with fail
      clear k1'
      go_loopw [6] (fun vu wr => ∃ (U : Nat) (a : Option Addr) (c : Nat), fst ≤ U ∧ U ≤ q ∧ vu = .int .i64 (U : Int) ∧ Hid (RpAt w wr nx (gapsR (inOf win fst ts) (U - fst)) a c)) (fun vu _ => q - (intOf vu).toNat)
      case atStart => exact ⟨fst, none, 0, Nat.le_refl _, by omega, rfl, hid (by rw [Nat.sub_self]; exact HRP.out)⟩
      case round =>
        obtain ⟨U, ao, co, hU1, hU2, rfl, HR⟩ := hrel
        obtain ⟨wu, ewu⟩ : ∃ wu, wu = wr := ⟨_, rfl⟩
        subst ewu
        by_cases hUq : U < q
        · have HU2 : Hid (U ≤ manyU + 64) := by unfold manyU; exact (show U ≤ 70368744177664 + 64 by omega)
          have hle := rlength_any U (H.out.kept (S := []) (Kept.of_below HR.out.bel) (by simp) (by simp)) HL.out HU2.out
          have hel := (gapsM_lenR (win := win) (fst := fst) (u := U) HOK.out).1
          obtain ⟨E, hE⟩ : ∃ E, E = (inOf win fst ts).ends U := ⟨_, rfl⟩
          rw [← hE] at hel
          have HE : Hid ((inOf win fst ts).ends U = E) := by exact hE.symm
          cases hN : lenL U none ts with
          | none =>
            have HN := hid hN
            have hE2 : finL U 0 ts = E := by rw [hE]; unfold InM.ends; show _ = (lenL U none ts).getD (finL U 0 ts); rw [hN]; rfl
            rw [hN, hE2] at hle
            have hle : Calls Try.prog 45 #[.pointer (some ⟨g, 0, none⟩), .int .i64 (U : Int)] wu fun e w' => e = .returned (.tuple #[.int .i64 (-1), .int .i64 (E : Int)]) ∧ Below wu.heap.size wu w' := hle
            clear hE hN hE2
            go_wp2_with (go_at_call 45; refine hle.mono ?_; rintro e w3 ⟨rfl, hb3⟩)
            have HR3 := hid (HR.out.later hb3)
            clear hle hb3
            go_loopw [9, 10] (fun vf vi wr => ∃ (i : Nat) (f : Option Nat) (X : List GapM) (a : Option Addr) (c : Nat), i ≤ E + 1 ∧ vi = .int .i64 (i : Int) ∧ vf = .int .i64 (optI f) ∧ (∀ x, f = some x → x < i) ∧ Hid (X.length ≤ i ∧ X ++ (goR (fun i => (atL U i ts).isNone) E (E + 1 - i) i f).map (gapR U) = (goR (fun i => (atL U i ts).isNone) E (E + 1) 0 none).map (gapR U)) ∧ Hid (RpAt w wr nx (gapsR (inOf win fst ts) (U - fst) ++ X) a c)) (fun _ vi _ => E + 1 - (intOf vi).toNat)
            case atStart => exact ⟨0, none, [], ao, co, Nat.zero_le _, rfl, rfl, fun x hx => (by cases hx), hid ⟨Nat.le_refl _, rfl⟩, hid (by rw [List.append_nil]; exact HR3.out)⟩
            case round =>
              obtain ⟨i, f, X, ai, ci, hi, rfl, rfl, hfx, HX, HRI⟩ := hrel
              obtain ⟨wi, ewi⟩ : ∃ wi, wi = wr := ⟨_, rfl⟩
              subst ewi
              by_cases hiE : i ≤ E
              · have x0 : decide ((i : Int) ≤ (E : Int)) = true := decide_eq_true (by omega)
                have hat := rat_any U i (H.out.kept (S := []) (Kept.of_below HRI.out.bel) (by simp) (by simp)) HL.out HU2.out (by omega)
                have HGO : Hid (∀ f, goR (fun i => (atL U i ts).isNone) E (E + 1 - i) i f = goR (fun i => (atL U i ts).isNone) E (E - i + 1) i f) := fun f => by rw [show E + 1 - i = E - i + 1 by omega]
                have HSX : Hid (E + 1 - (i + 1) = E - i) := by exact (show E + 1 - (i + 1) = E - i by omega)
                have HLX : Hid ((gapsR (inOf win fst ts) (U - fst) ++ X).length ≤ 100000) := by
                  have h1 := gapsR_len (win := win) (fst := fst) HOK.out (U - fst)
                  have h2 := HX.out.1
                  have h3 : (gapsR (inOf win fst ts) (U - fst) ++ X).length ≤ 100000 := by
                    rw [List.length_append]
                    have : (U - fst) * 1502 ≤ 32 * 1502 := Nat.mul_le_mul_right _ (by omega)
                    omega
                  exact h3
                have c1 : wi.cell? ⟨b1, 1, none⟩ = some (.slice ai (gapsR (inOf win fst ts) (U - fst) ++ X).length ci) := by rw [EB1.out]; exact HRI.out.row.cell 1
                obtain ⟨Ln, eLn⟩ : ∃ Ln, Ln = (gapsR (inOf win fst ts) (U - fst) ++ X).length := ⟨_, rfl⟩
                rw [← eLn] at c1
                have HLN := hid eLn
                clear eLn
                cases hA : atL U i ts with
                | none =>
                  have HA := hid hA
                  rw [hA] at hat
                  have hat : Calls Try.prog 46 #[.pointer (some ⟨g, 0, none⟩), .int .i64 (U : Int), .int .i64 (i : Int)] wi fun e w' => e = .returned (.tuple #[.int .u8 0, .bool false]) ∧ Below wi.heap.size wi w' := hat
                  clear hA
                  by_cases hiE2 : i = E
                  · have x1 : ((i : Int) == (E : Int)) = true := by rw [beq_iff_eq]; omega
                    have x2 : decide ((i : Int) < (E : Int)) = false := decide_eq_false (by omega)
                    have hge : E ≤ i := by omega
                    have HIE := hid hiE2
                    clear hiE2
                    cases f with
                    | none =>
                      have hoI : optI none = -1 := rfl
                      rw [hoI]
                      clear hoI hfx
                      go_wp2_with (go_at_call 46; refine hat.mono ?_; rintro e w5 ⟨rfl, hb5⟩; have HR5 := hid (HRI.out.later hb5); clear c1)
                      refine ⟨⟨i + 1, none, X, ai, ci, by omega, by go_num, rfl, fun z hz => ?_, hid ⟨?_, ?_⟩, hid HR5.out⟩, by simp [intOf]; omega⟩
                      · cases hz
                      · have := HX.out.1; omega
                      · rw [HSX.out, ← HX.out.2, HGO.out]
                        have hp : (atL U i ts).isNone = true := by rw [HA.out]; rfl
                        have hie := HIE.out
                        rw [goR]
                        rw [if_neg (by rw [hp]; simp; omega)]
                    | some x =>
                      have hxi := hfx x rfl
                      have x3 : decide ((0 : Int) ≤ (x : Int)) = true := decide_eq_true (by omega)
                      have x4 : decide ((x : Int) < 0) = false := decide_eq_false (by omega)
                      have hoI : optI (some x) = (x : Int) := rfl
                      rw [hoI]
                      clear hoI hfx
                      go_wp2_with (first | (go_at_call 46; refine hat.mono ?_; rintro e w5 ⟨rfl, hb5⟩; have HR5 := hid (HRI.out.later hb5); have d1 := (hb5.cell (World.block_lt_of_cell? wi _ c1)).trans c1; clear c1) | (at_builtin; refine push_gap HR5.out ⟨(U : Int) % 64, (x : Int), (i : Int)⟩ HLX.out rfl _ _ rfl (by rw [← HLN.out]; rfl) rfl ?_; rw [← HLN.out, ← EB1.out]; intro a7 c7 w7 k7 f7 HR7))
                      have HR8 : Hid (RpAt w (w7.setCell ⟨b1, 1, none⟩ (.slice a7 (Ln + 1) c7)) nx (gapsR (inOf win fst ts) (U - fst) ++ (X ++ [gapR U (x, i)])) a7 c7) := by
                        have h9 := HR7.out
                        rw [List.append_assoc] at h9
                        exact h9
                      refine ⟨⟨i + 1, none, X ++ [gapR U (x, i)], a7, c7, by omega, by go_num, rfl, fun z hz => ?_, hid ⟨?_, ?_⟩, hid HR8.out⟩, by simp [intOf]; omega⟩
                      · cases hz
                      · rw [List.length_append]; have := HX.out.1; simp; omega
                      · rw [HSX.out, ← HX.out.2, HGO.out]
                        have hp : (atL U i ts).isNone = true := by rw [HA.out]; rfl
                        have hie := HIE.out
                        rw [goR]
                        rw [if_pos (.inr hie), if_neg (by rw [hp]; simp; omega)]
                        simp
                  · have x1 : ((i : Int) == (E : Int)) = false := by rw [beq_eq_false_iff_ne]; omega
                    have x2 : decide ((i : Int) < (E : Int)) = true := decide_eq_true (by omega)
                    have hlt2 : i < E := by omega
                    have HIE := hid hiE2
                    clear hiE2
                    cases f with
                    | none =>
                      have hoI : optI none = -1 := rfl
                      rw [hoI]
                      clear hoI hfx
                      go_wp2_with (go_at_call 46; refine hat.mono ?_; rintro e w5 ⟨rfl, hb5⟩; have HR5 := hid (HRI.out.later hb5); clear c1)
                      refine ⟨⟨i + 1, some i, X, ai, ci, by omega, by go_num, rfl, fun z hz => ?_, hid ⟨?_, ?_⟩, hid HR5.out⟩, by simp [intOf]; omega⟩
                      · cases hz; omega
                      · have := HX.out.1; omega
                      · rw [HSX.out, ← HX.out.2, HGO.out]
                        have hp : (atL U i ts).isNone = true := by rw [HA.out]; rfl
                        have hie := HIE.out
                        rw [goR]
                        rw [if_pos ⟨hp, by omega⟩]
                    | some x =>
                      have hxi := hfx x rfl
                      have x3 : decide ((0 : Int) ≤ (x : Int)) = true := decide_eq_true (by omega)
                      have x4 : decide ((x : Int) < 0) = false := decide_eq_false (by omega)
                      have hoI : optI (some x) = (x : Int) := rfl
                      rw [hoI]
                      clear hoI hfx
                      go_wp2_with (go_at_call 46; refine hat.mono ?_; rintro e w5 ⟨rfl, hb5⟩; have HR5 := hid (HRI.out.later hb5); clear c1)
                      refine ⟨⟨i + 1, some x, X, ai, ci, by omega, by go_num, rfl, fun z hz => ?_, hid ⟨?_, ?_⟩, hid HR5.out⟩, by simp [intOf]; omega⟩
                      · cases hz; omega
                      · have := HX.out.1; omega
                      · rw [HSX.out, ← HX.out.2, HGO.out]
                        have hp : (atL U i ts).isNone = true := by rw [HA.out]; rfl
                        have hie := HIE.out
                        rw [goR]
                        rw [if_neg (by rw [hp]; simp; omega)]
                | some y =>
                  have HA := hid hA
                  rw [hA] at hat
                  have hat : Calls Try.prog 46 #[.pointer (some ⟨g, 0, none⟩), .int .i64 (U : Int), .int .i64 (i : Int)] wi fun e w' => e = .returned (.tuple #[.int .u8 (y.toNat : Int), .bool true]) ∧ Below wi.heap.size wi w' := hat
                  clear hA
                  by_cases hiE2 : i = E
                  · have x1 : ((i : Int) == (E : Int)) = true := by rw [beq_iff_eq]; omega
                    have x2 : decide ((i : Int) < (E : Int)) = false := decide_eq_false (by omega)
                    have hge : E ≤ i := by omega
                    have HIE := hid hiE2
                    clear hiE2
                    cases f with
                    | none =>
                      have hoI : optI none = -1 := rfl
                      rw [hoI]
                      clear hoI hfx
                      go_wp2_with (go_at_call 46; refine hat.mono ?_; rintro e w5 ⟨rfl, hb5⟩; have HR5 := hid (HRI.out.later hb5); clear c1)
                      refine ⟨⟨i + 1, none, X, ai, ci, by omega, by go_num, rfl, fun z hz => ?_, hid ⟨?_, ?_⟩, hid HR5.out⟩, by simp [intOf]; omega⟩
                      · cases hz
                      · have := HX.out.1; omega
                      · rw [HSX.out, ← HX.out.2, HGO.out]
                        have hp : (atL U i ts).isNone = false := by rw [HA.out]; rfl
                        have hie := HIE.out
                        rw [goR]
                        rw [if_neg (by rw [hp]; simp)]
                    | some x =>
                      have hxi := hfx x rfl
                      have x3 : decide ((0 : Int) ≤ (x : Int)) = true := decide_eq_true (by omega)
                      have x4 : decide ((x : Int) < 0) = false := decide_eq_false (by omega)
                      have hoI : optI (some x) = (x : Int) := rfl
                      rw [hoI]
                      clear hoI hfx
                      go_wp2_with (first | (go_at_call 46; refine hat.mono ?_; rintro e w5 ⟨rfl, hb5⟩; have HR5 := hid (HRI.out.later hb5); have d1 := (hb5.cell (World.block_lt_of_cell? wi _ c1)).trans c1; clear c1) | (at_builtin; refine push_gap HR5.out ⟨(U : Int) % 64, (x : Int), (i : Int)⟩ HLX.out rfl _ _ rfl (by rw [← HLN.out]; rfl) rfl ?_; rw [← HLN.out, ← EB1.out]; intro a7 c7 w7 k7 f7 HR7))
                      have HR8 : Hid (RpAt w (w7.setCell ⟨b1, 1, none⟩ (.slice a7 (Ln + 1) c7)) nx (gapsR (inOf win fst ts) (U - fst) ++ (X ++ [gapR U (x, i)])) a7 c7) := by
                        have h9 := HR7.out
                        rw [List.append_assoc] at h9
                        exact h9
                      refine ⟨⟨i + 1, none, X ++ [gapR U (x, i)], a7, c7, by omega, by go_num, rfl, fun z hz => ?_, hid ⟨?_, ?_⟩, hid HR8.out⟩, by simp [intOf]; omega⟩
                      · cases hz
                      · rw [List.length_append]; have := HX.out.1; simp; omega
                      · rw [HSX.out, ← HX.out.2, HGO.out]
                        have hp : (atL U i ts).isNone = false := by rw [HA.out]; rfl
                        have hie := HIE.out
                        rw [goR]
                        rw [if_pos (.inl hp), if_neg (by rw [hp]; simp)]
                        simp
                  · have x1 : ((i : Int) == (E : Int)) = false := by rw [beq_eq_false_iff_ne]; omega
                    have x2 : decide ((i : Int) < (E : Int)) = true := decide_eq_true (by omega)
                    have hlt2 : i < E := by omega
                    have HIE := hid hiE2
                    clear hiE2
                    cases f with
                    | none =>
                      have hoI : optI none = -1 := rfl
                      rw [hoI]
                      clear hoI hfx
                      go_wp2_with (go_at_call 46; refine hat.mono ?_; rintro e w5 ⟨rfl, hb5⟩; have HR5 := hid (HRI.out.later hb5); clear c1)
                      refine ⟨⟨i + 1, none, X, ai, ci, by omega, by go_num, rfl, fun z hz => ?_, hid ⟨?_, ?_⟩, hid HR5.out⟩, by simp [intOf]; omega⟩
                      · cases hz
                      · have := HX.out.1; omega
                      · rw [HSX.out, ← HX.out.2, HGO.out]
                        have hp : (atL U i ts).isNone = false := by rw [HA.out]; rfl
                        have hie := HIE.out
                        rw [goR]
                        rw [if_neg (by rw [hp]; simp)]
                    | some x =>
                      have hxi := hfx x rfl
                      have x3 : decide ((0 : Int) ≤ (x : Int)) = true := decide_eq_true (by omega)
                      have x4 : decide ((x : Int) < 0) = false := decide_eq_false (by omega)
                      have hoI : optI (some x) = (x : Int) := rfl
                      rw [hoI]
                      clear hoI hfx
                      go_wp2_with (first | (go_at_call 46; refine hat.mono ?_; rintro e w5 ⟨rfl, hb5⟩; have HR5 := hid (HRI.out.later hb5); have d1 := (hb5.cell (World.block_lt_of_cell? wi _ c1)).trans c1; clear c1) | (at_builtin; refine push_gap HR5.out ⟨(U : Int) % 64, (x : Int), (i : Int)⟩ HLX.out rfl _ _ rfl (by rw [← HLN.out]; rfl) rfl ?_; rw [← HLN.out, ← EB1.out]; intro a7 c7 w7 k7 f7 HR7))
                      have HR8 : Hid (RpAt w (w7.setCell ⟨b1, 1, none⟩ (.slice a7 (Ln + 1) c7)) nx (gapsR (inOf win fst ts) (U - fst) ++ (X ++ [gapR U (x, i)])) a7 c7) := by
                        have h9 := HR7.out
                        rw [List.append_assoc] at h9
                        exact h9
                      refine ⟨⟨i + 1, none, X ++ [gapR U (x, i)], a7, c7, by omega, by go_num, rfl, fun z hz => ?_, hid ⟨?_, ?_⟩, hid HR8.out⟩, by simp [intOf]; omega⟩
                      · cases hz
                      · rw [List.length_append]; have := HX.out.1; simp; omega
                      · rw [HSX.out, ← HX.out.2, HGO.out]
                        have hp : (atL U i ts).isNone = false := by rw [HA.out]; rfl
                        have hie := HIE.out
                        rw [goR]
                        rw [if_pos (.inl hp), if_neg (by rw [hp]; simp)]
                        simp
              · have x0 : decide ((i : Int) ≤ (E : Int)) = false := decide_eq_false (by omega)
                have HIN : Hid (X = (goR (fun i => (atL U i ts).isNone) E (E + 1) 0 none).map (gapR U)) := by
                  have h2 := HX.out.2
                  rw [show E + 1 - i = 0 by omega, goR] at h2
                  have h3 : X = (goR (fun i => (atL U i ts).isNone) E (E + 1) 0 none).map (gapR U) := by simpa using h2
                  exact h3
                have HUF : Hid (U + 1 - fst = U - fst + 1) := by exact (show U + 1 - fst = U - fst + 1 by omega)
                have HGU : Hid ((inOf win fst ts).fst + (U - fst) = U) := by exact (show fst + (U - fst) = U by omega)
                have HLX : Hid ((gapsR (inOf win fst ts) (U - fst) ++ X).length ≤ 100000) := by
                  have h1 := gapsR_len (win := win) (fst := fst) HOK.out (U - fst)
                  have h2 := HX.out.1
                  have h3 : (gapsR (inOf win fst ts) (U - fst) ++ X).length ≤ 100000 := by
                    rw [List.length_append]
                    have : (U - fst) * 1502 ≤ 32 * 1502 := Nat.mul_le_mul_right _ (by omega)
                    omega
                  exact h3
                have c1 : wi.cell? ⟨b1, 1, none⟩ = some (.slice ai (gapsR (inOf win fst ts) (U - fst) ++ X).length ci) := by rw [EB1.out]; exact HRI.out.row.cell 1
                obtain ⟨Ln, eLn⟩ : ∃ Ln, Ln = (gapsR (inOf win fst ts) (U - fst) ++ X).length := ⟨_, rfl⟩
                rw [← eLn] at c1
                have HLN := hid eLn
                clear eLn hfx
                go_wp2_with (at_builtin; refine push_gap HRI.out ⟨(U : Int) % 64, (E : Int), -1⟩ HLX.out rfl _ _ rfl (by rw [← HLN.out]; rfl) rfl ?_; rw [← HLN.out, ← EB1.out]; intro a7 c7 w7 k7 f7 HR7)
                refine ⟨⟨U + 1, a7, c7, by omega, by omega, by go_num, hid ?_⟩, by simp [intOf]; omega⟩
                rw [HUF.out, gapsR_succ, HGU.out, gapsM_eqR]
                have e1 : (inOf win fst ts).len U = none := HN.out
                have e2 : (inOf win fst ts).ends U = E := HE.out
                rw [e1, e2]
                have h9 := HR7.out
                rw [HIN.out, List.append_assoc] at h9
                exact h9
          | some n =>
            have HN := hid hN
            have hE2 : n = E := by rw [hE]; unfold InM.ends; show _ = (lenL U none ts).getD (finL U 0 ts); rw [hN]; rfl
            subst hE2
            rw [hN] at hle
            have hle : Calls Try.prog 45 #[.pointer (some ⟨g, 0, none⟩), .int .i64 (U : Int)] wu fun e w' => e = .returned (.tuple #[.int .i64 (n : Int), .int .i64 ((finL U 0 ts : Nat) : Int)]) ∧ Below wu.heap.size wu w' := hle
            generalize finL U 0 ts = FN at hle
            clear hE hN
            go_wp2_with (go_at_call 45; refine hle.mono ?_; rintro e w3 ⟨rfl, hb3⟩)
            have HR3 := hid (HR.out.later hb3)
            clear hle hb3
            go_loopw [9, 10] (fun vf vi wr => ∃ (i : Nat) (f : Option Nat) (X : List GapM) (a : Option Addr) (c : Nat), i ≤ n + 1 ∧ vi = .int .i64 (i : Int) ∧ vf = .int .i64 (optI f) ∧ (∀ x, f = some x → x < i) ∧ Hid (X.length ≤ i ∧ X ++ (goR (fun i => (atL U i ts).isNone) n (n + 1 - i) i f).map (gapR U) = (goR (fun i => (atL U i ts).isNone) n (n + 1) 0 none).map (gapR U)) ∧ Hid (RpAt w wr nx (gapsR (inOf win fst ts) (U - fst) ++ X) a c)) (fun _ vi _ => n + 1 - (intOf vi).toNat)
            case atStart => exact ⟨0, none, [], ao, co, Nat.zero_le _, rfl, rfl, fun x hx => (by cases hx), hid ⟨Nat.le_refl _, rfl⟩, hid (by rw [List.append_nil]; exact HR3.out)⟩
            case round =>
              obtain ⟨i, f, X, ai, ci, hi, rfl, rfl, hfx, HX, HRI⟩ := hrel
              obtain ⟨wi, ewi⟩ : ∃ wi, wi = wr := ⟨_, rfl⟩
              subst ewi
              by_cases hiE : i ≤ n
              · have x0 : decide ((i : Int) ≤ (n : Int)) = true := decide_eq_true (by omega)
                have hat := rat_any U i (H.out.kept (S := []) (Kept.of_below HRI.out.bel) (by simp) (by simp)) HL.out HU2.out (by omega)
                have HGO : Hid (∀ f, goR (fun i => (atL U i ts).isNone) n (n + 1 - i) i f = goR (fun i => (atL U i ts).isNone) n (n - i + 1) i f) := fun f => by rw [show n + 1 - i = n - i + 1 by omega]
                have HSX : Hid (n + 1 - (i + 1) = n - i) := by exact (show n + 1 - (i + 1) = n - i by omega)
                have HLX : Hid ((gapsR (inOf win fst ts) (U - fst) ++ X).length ≤ 100000) := by
                  have h1 := gapsR_len (win := win) (fst := fst) HOK.out (U - fst)
                  have h2 := HX.out.1
                  have h3 : (gapsR (inOf win fst ts) (U - fst) ++ X).length ≤ 100000 := by
                    rw [List.length_append]
                    have : (U - fst) * 1502 ≤ 32 * 1502 := Nat.mul_le_mul_right _ (by omega)
                    omega
                  exact h3
                have c1 : wi.cell? ⟨b1, 1, none⟩ = some (.slice ai (gapsR (inOf win fst ts) (U - fst) ++ X).length ci) := by rw [EB1.out]; exact HRI.out.row.cell 1
                obtain ⟨Ln, eLn⟩ : ∃ Ln, Ln = (gapsR (inOf win fst ts) (U - fst) ++ X).length := ⟨_, rfl⟩
                rw [← eLn] at c1
                have HLN := hid eLn
                clear eLn
                cases hA : atL U i ts with
                | none =>
                  have HA := hid hA
                  rw [hA] at hat
                  have hat : Calls Try.prog 46 #[.pointer (some ⟨g, 0, none⟩), .int .i64 (U : Int), .int .i64 (i : Int)] wi fun e w' => e = .returned (.tuple #[.int .u8 0, .bool false]) ∧ Below wi.heap.size wi w' := hat
                  clear hA
                  by_cases hiE2 : i = n
                  · have x1 : ((i : Int) == (n : Int)) = true := by rw [beq_iff_eq]; omega
                    have x2 : decide ((i : Int) < (n : Int)) = false := decide_eq_false (by omega)
                    have hge : n ≤ i := by omega
                    have HIE := hid hiE2
                    clear hiE2
                    cases f with
                    | none =>
                      have hoI : optI none = -1 := rfl
                      rw [hoI]
                      clear hoI hfx
                      go_wp2_with (go_at_call 46; refine hat.mono ?_; rintro e w5 ⟨rfl, hb5⟩; have HR5 := hid (HRI.out.later hb5); clear c1)
                      refine ⟨⟨i + 1, none, X, ai, ci, by omega, by go_num, rfl, fun z hz => ?_, hid ⟨?_, ?_⟩, hid HR5.out⟩, by simp [intOf]; omega⟩
                      · cases hz
                      · have := HX.out.1; omega
                      · rw [HSX.out, ← HX.out.2, HGO.out]
                        have hp : (atL U i ts).isNone = true := by rw [HA.out]; rfl
                        have hie := HIE.out
                        rw [goR]
                        rw [if_neg (by rw [hp]; simp; omega)]
                    | some x =>
                      have hxi := hfx x rfl
                      have x3 : decide ((0 : Int) ≤ (x : Int)) = true := decide_eq_true (by omega)
                      have x4 : decide ((x : Int) < 0) = false := decide_eq_false (by omega)
                      have hoI : optI (some x) = (x : Int) := rfl
                      rw [hoI]
                      clear hoI hfx
                      go_wp2_with (first | (go_at_call 46; refine hat.mono ?_; rintro e w5 ⟨rfl, hb5⟩; have HR5 := hid (HRI.out.later hb5); have d1 := (hb5.cell (World.block_lt_of_cell? wi _ c1)).trans c1; clear c1) | (at_builtin; refine push_gap HR5.out ⟨(U : Int) % 64, (x : Int), (i : Int)⟩ HLX.out rfl _ _ rfl (by rw [← HLN.out]; rfl) rfl ?_; rw [← HLN.out, ← EB1.out]; intro a7 c7 w7 k7 f7 HR7))
                      have HR8 : Hid (RpAt w (w7.setCell ⟨b1, 1, none⟩ (.slice a7 (Ln + 1) c7)) nx (gapsR (inOf win fst ts) (U - fst) ++ (X ++ [gapR U (x, i)])) a7 c7) := by
                        have h9 := HR7.out
                        rw [List.append_assoc] at h9
                        exact h9
                      refine ⟨⟨i + 1, none, X ++ [gapR U (x, i)], a7, c7, by omega, by go_num, rfl, fun z hz => ?_, hid ⟨?_, ?_⟩, hid HR8.out⟩, by simp [intOf]; omega⟩
                      · cases hz
                      · rw [List.length_append]; have := HX.out.1; simp; omega
                      · rw [HSX.out, ← HX.out.2, HGO.out]
                        have hp : (atL U i ts).isNone = true := by rw [HA.out]; rfl
                        have hie := HIE.out
                        rw [goR]
                        rw [if_pos (.inr hie), if_neg (by rw [hp]; simp; omega)]
                        simp
                  · have x1 : ((i : Int) == (n : Int)) = false := by rw [beq_eq_false_iff_ne]; omega
                    have x2 : decide ((i : Int) < (n : Int)) = true := decide_eq_true (by omega)
                    have hlt2 : i < n := by omega
                    have HIE := hid hiE2
                    clear hiE2
                    cases f with
                    | none =>
                      have hoI : optI none = -1 := rfl
                      rw [hoI]
                      clear hoI hfx
                      go_wp2_with (go_at_call 46; refine hat.mono ?_; rintro e w5 ⟨rfl, hb5⟩; have HR5 := hid (HRI.out.later hb5); clear c1)
                      refine ⟨⟨i + 1, some i, X, ai, ci, by omega, by go_num, rfl, fun z hz => ?_, hid ⟨?_, ?_⟩, hid HR5.out⟩, by simp [intOf]; omega⟩
                      · cases hz; omega
                      · have := HX.out.1; omega
                      · rw [HSX.out, ← HX.out.2, HGO.out]
                        have hp : (atL U i ts).isNone = true := by rw [HA.out]; rfl
                        have hie := HIE.out
                        rw [goR]
                        rw [if_pos ⟨hp, by omega⟩]
                    | some x =>
                      have hxi := hfx x rfl
                      have x3 : decide ((0 : Int) ≤ (x : Int)) = true := decide_eq_true (by omega)
                      have x4 : decide ((x : Int) < 0) = false := decide_eq_false (by omega)
                      have hoI : optI (some x) = (x : Int) := rfl
                      rw [hoI]
                      clear hoI hfx
                      go_wp2_with (go_at_call 46; refine hat.mono ?_; rintro e w5 ⟨rfl, hb5⟩; have HR5 := hid (HRI.out.later hb5); clear c1)
                      refine ⟨⟨i + 1, some x, X, ai, ci, by omega, by go_num, rfl, fun z hz => ?_, hid ⟨?_, ?_⟩, hid HR5.out⟩, by simp [intOf]; omega⟩
                      · cases hz; omega
                      · have := HX.out.1; omega
                      · rw [HSX.out, ← HX.out.2, HGO.out]
                        have hp : (atL U i ts).isNone = true := by rw [HA.out]; rfl
                        have hie := HIE.out
                        rw [goR]
                        rw [if_neg (by rw [hp]; simp; omega)]
                | some y =>
                  have HA := hid hA
                  rw [hA] at hat
                  have hat : Calls Try.prog 46 #[.pointer (some ⟨g, 0, none⟩), .int .i64 (U : Int), .int .i64 (i : Int)] wi fun e w' => e = .returned (.tuple #[.int .u8 (y.toNat : Int), .bool true]) ∧ Below wi.heap.size wi w' := hat
                  clear hA
                  by_cases hiE2 : i = n
                  · have x1 : ((i : Int) == (n : Int)) = true := by rw [beq_iff_eq]; omega
                    have x2 : decide ((i : Int) < (n : Int)) = false := decide_eq_false (by omega)
                    have hge : n ≤ i := by omega
                    have HIE := hid hiE2
                    clear hiE2
                    cases f with
                    | none =>
                      have hoI : optI none = -1 := rfl
                      rw [hoI]
                      clear hoI hfx
                      go_wp2_with (go_at_call 46; refine hat.mono ?_; rintro e w5 ⟨rfl, hb5⟩; have HR5 := hid (HRI.out.later hb5); clear c1)
                      refine ⟨⟨i + 1, none, X, ai, ci, by omega, by go_num, rfl, fun z hz => ?_, hid ⟨?_, ?_⟩, hid HR5.out⟩, by simp [intOf]; omega⟩
                      · cases hz
                      · have := HX.out.1; omega
                      · rw [HSX.out, ← HX.out.2, HGO.out]
                        have hp : (atL U i ts).isNone = false := by rw [HA.out]; rfl
                        have hie := HIE.out
                        rw [goR]
                        rw [if_neg (by rw [hp]; simp)]
                    | some x =>
                      have hxi := hfx x rfl
                      have x3 : decide ((0 : Int) ≤ (x : Int)) = true := decide_eq_true (by omega)
                      have x4 : decide ((x : Int) < 0) = false := decide_eq_false (by omega)
                      have hoI : optI (some x) = (x : Int) := rfl
                      rw [hoI]
                      clear hoI hfx
                      go_wp2_with (first | (go_at_call 46; refine hat.mono ?_; rintro e w5 ⟨rfl, hb5⟩; have HR5 := hid (HRI.out.later hb5); have d1 := (hb5.cell (World.block_lt_of_cell? wi _ c1)).trans c1; clear c1) | (at_builtin; refine push_gap HR5.out ⟨(U : Int) % 64, (x : Int), (i : Int)⟩ HLX.out rfl _ _ rfl (by rw [← HLN.out]; rfl) rfl ?_; rw [← HLN.out, ← EB1.out]; intro a7 c7 w7 k7 f7 HR7))
                      have HR8 : Hid (RpAt w (w7.setCell ⟨b1, 1, none⟩ (.slice a7 (Ln + 1) c7)) nx (gapsR (inOf win fst ts) (U - fst) ++ (X ++ [gapR U (x, i)])) a7 c7) := by
                        have h9 := HR7.out
                        rw [List.append_assoc] at h9
                        exact h9
                      refine ⟨⟨i + 1, none, X ++ [gapR U (x, i)], a7, c7, by omega, by go_num, rfl, fun z hz => ?_, hid ⟨?_, ?_⟩, hid HR8.out⟩, by simp [intOf]; omega⟩
                      · cases hz
                      · rw [List.length_append]; have := HX.out.1; simp; omega
                      · rw [HSX.out, ← HX.out.2, HGO.out]
                        have hp : (atL U i ts).isNone = false := by rw [HA.out]; rfl
                        have hie := HIE.out
                        rw [goR]
                        rw [if_pos (.inl hp), if_neg (by rw [hp]; simp)]
                        simp
                  · have x1 : ((i : Int) == (n : Int)) = false := by rw [beq_eq_false_iff_ne]; omega
                    have x2 : decide ((i : Int) < (n : Int)) = true := decide_eq_true (by omega)
                    have hlt2 : i < n := by omega
                    have HIE := hid hiE2
                    clear hiE2
                    cases f with
                    | none =>
                      have hoI : optI none = -1 := rfl
                      rw [hoI]
                      clear hoI hfx
                      go_wp2_with (go_at_call 46; refine hat.mono ?_; rintro e w5 ⟨rfl, hb5⟩; have HR5 := hid (HRI.out.later hb5); clear c1)
                      refine ⟨⟨i + 1, none, X, ai, ci, by omega, by go_num, rfl, fun z hz => ?_, hid ⟨?_, ?_⟩, hid HR5.out⟩, by simp [intOf]; omega⟩
                      · cases hz
                      · have := HX.out.1; omega
                      · rw [HSX.out, ← HX.out.2, HGO.out]
                        have hp : (atL U i ts).isNone = false := by rw [HA.out]; rfl
                        have hie := HIE.out
                        rw [goR]
                        rw [if_neg (by rw [hp]; simp)]
                    | some x =>
                      have hxi := hfx x rfl
                      have x3 : decide ((0 : Int) ≤ (x : Int)) = true := decide_eq_true (by omega)
                      have x4 : decide ((x : Int) < 0) = false := decide_eq_false (by omega)
                      have hoI : optI (some x) = (x : Int) := rfl
                      rw [hoI]
                      clear hoI hfx
                      go_wp2_with (first | (go_at_call 46; refine hat.mono ?_; rintro e w5 ⟨rfl, hb5⟩; have HR5 := hid (HRI.out.later hb5); have d1 := (hb5.cell (World.block_lt_of_cell? wi _ c1)).trans c1; clear c1) | (at_builtin; refine push_gap HR5.out ⟨(U : Int) % 64, (x : Int), (i : Int)⟩ HLX.out rfl _ _ rfl (by rw [← HLN.out]; rfl) rfl ?_; rw [← HLN.out, ← EB1.out]; intro a7 c7 w7 k7 f7 HR7))
                      have HR8 : Hid (RpAt w (w7.setCell ⟨b1, 1, none⟩ (.slice a7 (Ln + 1) c7)) nx (gapsR (inOf win fst ts) (U - fst) ++ (X ++ [gapR U (x, i)])) a7 c7) := by
                        have h9 := HR7.out
                        rw [List.append_assoc] at h9
                        exact h9
                      refine ⟨⟨i + 1, none, X ++ [gapR U (x, i)], a7, c7, by omega, by go_num, rfl, fun z hz => ?_, hid ⟨?_, ?_⟩, hid HR8.out⟩, by simp [intOf]; omega⟩
                      · cases hz
                      · rw [List.length_append]; have := HX.out.1; simp; omega
                      · rw [HSX.out, ← HX.out.2, HGO.out]
                        have hp : (atL U i ts).isNone = false := by rw [HA.out]; rfl
                        have hie := HIE.out
                        rw [goR]
                        rw [if_pos (.inl hp), if_neg (by rw [hp]; simp)]
                        simp
              · have x0 : decide ((i : Int) ≤ (n : Int)) = false := decide_eq_false (by omega)
                have HIN : Hid (X = (goR (fun i => (atL U i ts).isNone) n (n + 1) 0 none).map (gapR U)) := by
                  have h2 := HX.out.2
                  rw [show n + 1 - i = 0 by omega, goR] at h2
                  have h3 : X = (goR (fun i => (atL U i ts).isNone) n (n + 1) 0 none).map (gapR U) := by simpa using h2
                  exact h3
                have HUF : Hid (U + 1 - fst = U - fst + 1) := by exact (show U + 1 - fst = U - fst + 1 by omega)
                have HGU : Hid ((inOf win fst ts).fst + (U - fst) = U) := by exact (show fst + (U - fst) = U by omega)
                go_wp2_with fail
                refine ⟨⟨U + 1, ai, ci, by omega, by omega, by go_num, hid ?_⟩, by simp [intOf]; omega⟩
                rw [HUF.out, gapsR_succ, HGU.out, gapsM_eqR]
                have e1 : (inOf win fst ts).len U = some n := HN.out
                have e2 : (inOf win fst ts).ends U = n := HE.out
                rw [e1, e2]
                have h9 := HRI.out
                rw [HIN.out] at h9
                rw [List.append_nil]
                exact h9
        · obtain rfl : U = q := by omega
          have e0 : (inOf win fst ts).nxt = U := HNX2.out
          have eM : RM = gapsR (inOf win fst ts) (U - fst) := by
            rw [HRM.out]
            show (List.range ((inOf win fst ts).nxt - fst)).flatMap _ = _
            rw [e0]
            rfl
          have HRQ : Hid (RpAt w wu nx RM ao co) := by
            rw [eM]
            exact HR.out
          have HNE : Hid (RN = nx) := by
            rw [HRN.out]
            have h1 : (((inOf win fst ts).nxt % 64 : Nat) : Int) = nx := by
              rw [e0, HEN.out]
              omega
            exact h1
          have HML : Hid (RM.length ≤ 100000) := by
            have h1 := gapsR_len (win := win) (fst := fst) HOK.out (U - fst)
            have h2 : RM.length ≤ 100000 := by
              rw [eM]
              have : (U - fst) * 1502 ≤ 32 * 1502 := Nat.mul_le_mul_right _ (by omega)
              exact Nat.le_trans h1 (by omega)
            exact h2
          clear e0 eM
          have c0' : wu.cell? ⟨b1, 0, none⟩ = some (.int .i64 nx) := by rw [EB1.out]; exact HRQ.out.row.cell 0
          have c1' : wu.cell? ⟨b1, 1, none⟩ = some (.slice ao RM.length co) := by rw [EB1.out]; exact HRQ.out.row.cell 1
          have r0 := HRQ.out.res.cell 0
          have r1 := HRQ.out.res.cell 1
          have f0 := HRQ.out.res.free 0
          have f1 := HRQ.out.res.free 1
          obtain ⟨ML, eML⟩ : ∃ ML, ML = RM.length := ⟨_, rfl⟩
          rw [← eML] at c1'
          have HMLN := hid eML
          clear eML
          go_wp2_with fail
          have hZ : At ((wu.setCell ⟨w.heap.size, 0, none⟩ (.int .i64 nx)).setCell ⟨w.heap.size, 1, none⟩ (.slice ao ML co)) w.heap.size 73 [.int .i64 nx, .slice ao ML co] := (HRQ.out.res.setCell _).setCell _
          have hKZ : Kept [w.heap.size] wu ((wu.setCell ⟨w.heap.size, 0, none⟩ (.int .i64 nx)).setCell ⟨w.heap.size, 1, none⟩ (.slice ao ML co)) := ((Kept.refl _ wu).setCell (by simp) _).setCell (by simp) _
          refine bodyPost_ret (results_cell_row (p := 2) (ty := 73) (by kernel_rfl) _ _ w.heap.size 73 _ (0, 0) _ rfl hZ Try.underlying73 rfl (by kernel_rfl)) rfl ?_
          refine ⟨ao, ML, co, by rw [HNE.out], HMLN.out, by rw [HMLN.out]; exact HML.out, ?_, HRQ.out.bel.trans (hKZ.below HRQ.out.bel.size (by simp))⟩
          have h9 := keptRow HRQ.out.own hKZ (fun q hq hm => by have := (World.ownsRow.lt HRQ.out.own q hq).1; simp at hm; omega)
          rw [← HMLN.out] at h9
          exact h9
end Go.Proofs.Ytbjgfoiikhbonaf
