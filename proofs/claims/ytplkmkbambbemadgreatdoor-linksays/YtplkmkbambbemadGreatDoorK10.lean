import Derived.Test.YtplkmkbambbemadGreatDoorK09
import Derived.Deep.CutRange
import Derived.Test.YtplkmkbambbemadGreatDoorK01
namespace Go.Proofs.YtplkmkbambbemadGreatDoor
open Go.ChangeShapes Go.WideShapes Go.ChangeAt Go.RowKit Go.Shelf
set_option maxHeartbeats 1000000 in
theorem pt_region {ops : Array Oper} {id : Nat} (hops : ∀ i, i < 15 → ∃ o : Oper, ops[i]? = some o ∧ o.op = ptOp i ∧ o.dst = some (if i = 14 then 8 else 46 + i) ∧ o.guard = none) (hdeps : ((List.range 15).all fun i => (ptDeps i).all fun j => waitsFor ops i j) = true)
    (htopo : ((List.range 15).all fun i => laterNone ops i) = true) (hk : ops.size = 15) (hm : Tryz.prog.follows .mixedOrders = true) (B : Nat) (wr : World) (a0 : Act) (hN : 60 ≤ a0.tmps.size) (v8 : Value) (ps : List (Int × Int)) (hB : B ≤ wr.heap.size) (hout : OwnP wr B v8 ps) (hv : ps.length ≤ 1000)
    (gL nL cL i0 : Nat) (l : List Int) (ai : Option Addr) (n h ci : Nat) (e8 : a0.eval (.tmp 8) = v8) (e4 : a0.eval (.tmp 4) = .slice (some ⟨gL, 0, none⟩) nL cL) (e9 : a0.eval (.tmp 9) = .int .i64 i0) (hi0 : i0 < nL)
    (hcell : wr.cell? ⟨gL, 0 + i0, none⟩ = some (.slice ai n ci)) (hrd : Rd .u8 wr ai l) (hl : l.length = n) (hn : n = 2 * h) (hh : h ≤ 3) :
    (Code.region id ops true).wp Tryz.prog (fun e a' w' => e = .normal ∧ ∃ v', a'.eval (.tmp 8) = v' ∧ PtF wr a0 B v8 ps (sideR l 0 h, sideR l 1 h) v' a' w') a0 wr := by
  have hD : ∀ i, i < 15 → ∀ j ∈ ptDeps i, waitsFor ops i j = true := fun i hi j hj => List.all_eq_true.1 (List.all_eq_true.1 hdeps i (List.mem_range.2 hi)) j hj
  have hE : Enters Tryz.prog 131 := enters_of Tryz.func131 (by kernel_rfl) rfl
  obtain ⟨x, ex⟩ : ∃ x, x = sideR l 0 h := ⟨_, rfl⟩
  obtain ⟨y, ey⟩ : ∃ y, y = sideR l 1 h := ⟨_, rfl⟩
  rw [← ex, ← ey]
  obtain ⟨pv, epv⟩ : ∃ pv, pv = ptPv v8 (.slice (some ⟨gL, 0, none⟩) nL cL) (.int .i64 i0) (.pointer (some ⟨gL, 0 + i0, none⟩)) (.slice ai n ci) x y := ⟨_, rfl⟩
  refine region_inv 15 (fun L a w => PtI wr a0 pv x y L a w ∨ (L 13 = true ∧ ClosP L ∧ ∃ v', a.eval (.tmp 59) = v' ∧ (L 14 = true → a.eval (.tmp 8) = v') ∧ PtF wr a0 B v8 ps (x, y) v' a w)) a0 wr hm hk htopo ?_ ?_ ?_
  · exact .inl ⟨rfl, rfl, (Below.refl _ wr).drew, fun s _ => rfl, fun i v _ h => (by cases h), fun i j _ h => (by cases h), fun h => (by cases h), rfl⟩
  · intro L a w i hI hi hLi hw
    obtain ⟨o, ho, hop, hdst, hgd⟩ := hops i hi
    have hd : ∀ j ∈ ptDeps i, L j = true := fun j hj => hw j (hD i hi j hj)
    rcases hI with hP | ⟨h13, hcl, v', h59, h8, hF⟩
    · have hsz := hP.below.size
      have hcase : i = 0 ∨ i = 1 ∨ i = 2 ∨ i = 3 ∨ i = 4 ∨ i = 5 ∨ i = 6 ∨ i = 7 ∨ i = 8 ∨ i = 9 ∨ i = 10 ∨ i = 11 ∨ i = 12 ∨ i = 13 ∨ i = 14 := by omega
      have hcw : w.cell? ⟨gL, 0 + i0, none⟩ = some (.slice ai n ci) := (hP.below.cell (World.block_lt_of_cell? wr _ hcell)).trans hcell
      have hrw : Rd .u8 w ai l := hrd.below hP.below
      rcases hcase with rfl | rfl | rfl | rfl | rfl | rfl | rfl | rfl | rfl | rfl | rfl | rfl | rfl | rfl | rfl
      · refine op_value ho hgd (run_moveQ w hop ((hP.frame 8 (by omega)).trans e8)) ?_
        rw [hdst]
        exact .inl (hP.step (by omega) hN hd (grown_refl w) (by rw [epv]; rfl))
      · refine op_value ho hgd (run_moveQ w hop ((hP.frame 4 (by omega)).trans e4)) ?_
        rw [hdst]
        exact .inl (hP.step (by omega) hN hd (grown_refl w) (by rw [epv]; rfl))
      · refine op_value ho hgd (run_moveQ w hop ((hP.frame 9 (by omega)).trans e9)) ?_
        rw [hdst]
        exact .inl (hP.step (by omega) hN hd (grown_refl w) (by rw [epv]; rfl))
      · refine op_value ho hgd (run_idxR w hop (hP.pure 1 _ (by rw [epv]; rfl) (hd 1 (by decide))) (hP.pure 2 _ (by rw [epv]; rfl) (hd 2 (by decide))) hi0) ?_
        rw [hdst]
        exact .inl (hP.step (by omega) hN hd (grown_refl w) (by rw [epv]; rfl))
      · refine op_value ho hgd (run_loadSB w hop (hP.pure 3 _ (by rw [epv]; rfl) (hd 3 (by decide))) hcw) ?_
        rw [hdst]
        exact .inl (hP.step (by omega) hN hd (grown_refl w) (by rw [epv]; rfl))
      · refine op_call2 ho hgd hop hE (hP.pure 4 _ (by rw [epv]; rfl) (hd 4 (by decide))) rfl (rsides_any l 0 h ai n ci w hrw hl hn hh (by omega)) fun e w' hr => ?_
        obtain ⟨rfl, hb⟩ := hr
        refine ⟨_, rfl, ?_⟩
        rw [hdst]
        exact .inl (hP.step (by omega) hN hd (grown_of_below hb) (by rw [epv, ← ex]; rfl))
      · refine op_value ho hgd (run_moveQ w hop ((hP.frame 4 (by omega)).trans e4)) ?_
        rw [hdst]
        exact .inl (hP.step (by omega) hN hd (grown_refl w) (by rw [epv]; rfl))
      · refine op_value ho hgd (run_moveQ w hop ((hP.frame 9 (by omega)).trans e9)) ?_
        rw [hdst]
        exact .inl (hP.step (by omega) hN hd (grown_refl w) (by rw [epv]; rfl))
      · refine op_value ho hgd (run_idxR w hop (hP.pure 6 _ (by rw [epv]; rfl) (hd 6 (by decide))) (hP.pure 7 _ (by rw [epv]; rfl) (hd 7 (by decide))) hi0) ?_
        rw [hdst]
        exact .inl (hP.step (by omega) hN hd (grown_refl w) (by rw [epv]; rfl))
      · refine op_value ho hgd (run_loadSB w hop (hP.pure 8 _ (by rw [epv]; rfl) (hd 8 (by decide))) hcw) ?_
        rw [hdst]
        exact .inl (hP.step (by omega) hN hd (grown_refl w) (by rw [epv]; rfl))
      · refine op_call2 ho hgd hop hE (hP.pure 9 _ (by rw [epv]; rfl) (hd 9 (by decide))) rfl (rsides_any l 1 h ai n ci w hrw hl hn hh (by omega)) fun e w' hr => ?_
        obtain ⟨rfl, hb⟩ := hr
        refine ⟨_, rfl, ?_⟩
        rw [hdst]
        exact .inl (hP.step (by omega) hN hd (grown_of_below hb) (by rw [epv, ← ey]; rfl))
      · refine op_value ho hgd (run_buildS w hop (hP.pure 5 _ (by rw [epv]; rfl) (hd 5 (by decide))) (hP.pure 10 _ (by rw [epv]; rfl) (hd 10 (by decide)))) ?_
        rw [hdst]
        exact .inl (hP.step (by omega) hN hd (grown_refl w) (by rw [epv]; rfl))
      · have hg := World.grownBy_alloc w (.cells #[.int .i64 x, .int .i64 y] 29) none
        refine op_value ho hgd (run_buildP w hop (hP.pure 11 _ (by rw [epv]; rfl) (hd 11 (by decide)))) ?_
        rw [hdst, show (if (12 : Nat) = 14 then 8 else 46 + 12) = 58 from rfl]
        refine .inl ⟨by simp [Act.put, hP.size], hP.defers, hP.below.grown hg hsz (fun g e => by cases e), fun s hs => ?_, fun j u hj hL => ?_, hP.clos.upd hd, fun _ => ⟨w.heap.size, hsz, Act.eval_put_same a _ _ (by rw [hP.size]; omega), by simp, by simp⟩, ?_⟩
        · rw [Act.eval_put_ne a _ _ _ (by omega)]
          exact hP.frame s hs
        · have hj12 : j ≠ 12 := by rintro rfl; rw [epv] at hj; cases hj
          have hL' : L j = true := by rw [← upd_other L hj12]; exact hL
          rw [Act.eval_put_ne a _ _ _ (by omega)]
          exact hP.pure j u hj hL'
        · show upd L 12 13 = false
          rw [upd_other L (by omega)]
          exact hP.no13
      · obtain ⟨g, hgl, e58, c1, c2⟩ := hP.last (hd 12 (by decide))
        have hnw : OwnP w B v8 ps := own_growN hout (grown_of_below hP.below) (fun k e => by cases e)
        obtain ⟨v', w', hrun, hown, hg, hat⟩ := run_pushP (p := (x, y)) w hop (hP.pure 0 _ (by rw [epv]; rfl) (hd 0 (by decide))) e58 hnw c1 c2 (by omega) (by omega)
        refine op_value ho hgd hrun ?_
        rw [hdst, show (if (13 : Nat) = 14 then 8 else 46 + 13) = 59 from rfl]
        refine .inr ⟨upd_same L 13, hP.clos.upd hd, v', Act.eval_put_same a _ _ (by rw [hP.size]; omega), fun h14 => ?_, ⟨by simp [Act.put, hP.size], hP.defers, fun s hs _ => ?_, ⟨w, hown, hP.below, hg, hat⟩⟩⟩
        · have h14' : L 14 = true := by rw [← upd_other L (show 14 ≠ 13 by omega)]; exact h14
          have := hP.clos 14 13 (by decide) h14'
          rw [hP.no13] at this
          cases this
        · rw [Act.eval_put_ne a _ _ _ (by omega)]
          exact hP.frame s hs
      · have := hd 13 (by decide)
        rw [hP.no13] at this
        cases this
    · by_cases h14 : i = 14
      · subst h14
        refine op_value ho hgd (run_assignQ w hop h59) ?_
        rw [hdst]
        refine .inr ⟨?_, hcl.upd hd, v', ?_, fun _ => ?_, ⟨by simp [Act.put, hF.size], hF.defers, fun s hs hs8 => ?_, hF.facts⟩⟩
        · show upd L 14 13 = true
          rw [upd_other L (by omega)]
          exact h13
        · rw [if_pos rfl, Act.eval_put_ne a _ _ _ (by omega)]
          exact h59
        · rw [if_pos rfl]
          exact Act.eval_put_same a _ _ (by rw [hF.size]; omega)
        · rw [if_pos rfl, Act.eval_put_ne a _ _ _ (by omega)]
          exact hF.frame s hs hs8
      · have := hcl.all13 h13 i (by omega)
        rw [hLi] at this
        cases this
  · rintro L a w hL (hP | ⟨_, _, v', h59, h8, hF⟩)
    · have := hL 13 (by omega)
      rw [hP.no13] at this
      cases this
    · exact ⟨rfl, v', h8 (hL 14 (by omega)), hF⟩
end Go.Proofs.YtplkmkbambbemadGreatDoor
namespace Go.Proofs.YtplkmkbambbemadGreatDoor
open Go.ChangeShapes Go.WideShapes Go.ChangeAt Go.RowKit Go.Shelf
/-- A frame is what its slots are: pre, then m of any kind, then post. -/
theorem act_frame (a : Act) (m : Nat) (pre post : List Value) (hd : a.defers = []) (hs : a.tmps.size = pre.length + m + post.length) (h1 : ∀ s : Nat, s < pre.length → a.eval (.tmp s) = pre.getD s undef) (h2 : ∀ s : Nat, s < post.length → a.eval (.tmp (pre.length + m + s)) = post.getD s undef) :
    ∃ mid : List Value, mid.length = m ∧ a = { tmps := (pre ++ (mid ++ post)).toArray, defers := [] } := by
  refine ⟨(List.range m).map fun s => a.eval (.tmp (pre.length + s)), by simp, ?_⟩
  obtain ⟨t, d⟩ := a
  simp only at hd hs
  subst hd
  congr 1
  have hev : ∀ s : Nat, ({ tmps := t, defers := [] } : Act).eval (.tmp s) = t.getD s undef := fun s => rfl
  simp only [hev] at h1 h2 ⊢
  refine Array.ext (by simp; omega) fun i i1 i2 => ?_
  have hti : t[i] = t.getD i undef := by simp [Array.getD, i1]
  rw [hti]
  simp only [List.getElem_toArray]
  by_cases c1 : i < pre.length
  · rw [h1 i c1, List.getElem_append_left c1]
    simp [List.getD, c1]
  · rw [List.getElem_append_right (by omega)]
    by_cases c2 : i - pre.length < m
    · rw [List.getElem_append_left (by simp; exact c2)]
      simp only [List.getElem_map, List.getElem_range]
      rw [show pre.length + (i - pre.length) = i by omega]
    · rw [List.getElem_append_right (by simp; omega)]
      have h3 := h2 (i - pre.length - m) (by omega)
      rw [show pre.length + m + (i - pre.length - m) = i by omega] at h3
      rw [h3]
      simp [List.getD, show i - pre.length - m < post.length by omega]
theorem apart_sizes {w : World} {B B' : Nat} {e e' : TypeId} {z z' : Nat} {v u : Value} {n n' : Nat} {xs ys : List Value} (h : w.ownsRow B e z v n xs) (h' : w.ownsRow B' e' z' u n' ys) (he : e ≠ e') : ∀ k, v.ownBlock = some k → u.ownBlock ≠ some k := by
  intro k hk hu
  rcases h.2 with ⟨rfl, _⟩ | ⟨g, cap, cur, rfl, _, hg, _⟩
  · cases hk
  · rcases h'.2 with ⟨rfl, _⟩ | ⟨g', cap', cur', rfl, _, hg', _⟩
    · cases hu
    · have e1 : g = k := by simpa [Value.ownBlock] using hk
      have e2 : g' = k := by simpa [Value.ownBlock] using hu
      subst e1
      subst e2
      rw [hg] at hg'
      simp only [Option.some.injEq, Obj.cells.injEq] at hg'
      exact he hg'.2.1
theorem seventeen (l : List Value) (h : l.length = 17) : ∃ u22 u23 u24 u25 u26 u27 u28 u29 u30 u31 u32 u33 u34 u35 u36 u37 u38, l = [u22, u23, u24, u25, u26, u27, u28, u29, u30, u31, u32, u33, u34, u35, u36, u37, u38] :=
  match l, h with
  | [u22, u23, u24, u25, u26, u27, u28, u29, u30, u31, u32, u33, u34, u35, u36, u37, u38], _ => ⟨u22, u23, u24, u25, u26, u27, u28, u29, u30, u31, u32, u33, u34, u35, u36, u37, u38, rfl⟩
theorem fourteen (l : List Value) (h : l.length = 14) : ∃ u46 u47 u48 u49 u50 u51 u52 u53 u54 u55 u56 u57 u58 u59, l = [u46, u47, u48, u49, u50, u51, u52, u53, u54, u55, u56, u57, u58, u59] :=
  match l, h with
  | [u46, u47, u48, u49, u50, u51, u52, u53, u54, u55, u56, u57, u58, u59], _ => ⟨u46, u47, u48, u49, u50, u51, u52, u53, u54, u55, u56, u57, u58, u59, rfl⟩
set_option maxRecDepth 100000 in
set_option maxHeartbeats 2000000 in
theorem constellation_any (order h : Nat) (w : World) (ho : order = 2 * h) (h1 : 1 ≤ h) (hh : h ≤ 3) :
    Calls Tryz.prog 114 #[.int .i64 order] w fun e w' => ∃ v4 v8 vs, e = .returned (.tuple #[v4, v8]) ∧ OwnR w' w.heap.size v4 vs ∧ RowsB w' w.heap.size vs (wordsM order) ∧ OwnP w' w.heap.size v8 ((wordsM order).map fun l => (sideR l 0 h, sideR l 1 h)) ∧ Below w.heap.size w w' := by
  have HO := hid ho
  have ho6 : order ≤ 6 := by omega
  clear ho
  go_enter Tryz.func114, Tryz.ntmps114
  go_wp2
  have hown0 : OwnR (w.alloc (.cells #[.slice none 0 0] 22)) w.heap.size (.slice (some ⟨w.heap.size, 0, none⟩) 1 1) [.slice none 0 0] := World.ownsRow_lit w #[.slice none 0 0] 1 (Nat.le_refl _) (by unfold maxLen; omega) rfl
  have hrow0 : RowsB (w.alloc (.cells #[.slice none 0 0] 22)) w.heap.size [.slice none 0 0] (wordsM 0) := ⟨rfl, fun i hi => by
    have : i = 0 := by simp [wordsM] at hi; exact hi
    subst this
    exact World.ownsRow_nil _ _ _ _⟩
  go_loopw [4, 5] (fun v4 q wr => ∃ (k : Nat) (vs : List Value), k ≤ order ∧ q = .int .i64 k ∧ OwnR wr w.heap.size v4 vs ∧ RowsB wr w.heap.size vs (wordsM k) ∧ Hid (k = 0 → vs = [.slice none 0 0]) ∧ Below w.heap.size w wr) (fun _ q _ => order - (intOf q).toNat)
  case atStart => exact ⟨0, _, Nat.zero_le _, rfl, hown0, hrow0, fun _ => rfl, (Below.refl _ w).alloc (Nat.le_refl _) _⟩
  case round =>
    obtain ⟨k, vs4, hk, rfl, hown4, hrow4, HV0, hbel⟩ := hrel
    have hl4 : vs4.length = 2 ^ k := by rw [hrow4.1, wordsM_length]
    have hp1 : 1 ≤ 2 ^ k := Nat.one_le_two_pow
    have hp6 : 2 ^ k ≤ 64 := Nat.le_trans (Nat.pow_le_pow_right (by decide) (show k ≤ 6 by omega)) (by decide)
    by_cases hlt : k < order
    · obtain ⟨gL, cL, e4, hc4, hm4, hg4⟩ := hown4.shape1 (by omega)
      subst e4
      rw [hl4] at hown4 hc4
      obtain ⟨nL, enL⟩ : ∃ nL, nL = 2 ^ k := ⟨_, rfl⟩
      rw [← enL] at hl4 hp1 hp6 hown4 hc4
      rw [hl4]
      have HNL := hid enL
      have HKO := hid hlt
      unfold maxLen at hm4
      clear enL
      go_wp2
      go_loopw [6, 7] (fun v6 q ws => ∃ (i : Nat) (vs6 : List Value), i ≤ nL ∧ q = .int .i64 i ∧ OwnR ws w.heap.size v6 vs6 ∧ RowsB ws w.heap.size vs6 (growW (wordsM k) i) ∧ OwnR ws w.heap.size (.slice (some ⟨gL, 0, none⟩) nL cL) vs4 ∧ RowsB ws w.heap.size vs4 (wordsM k) ∧ (∀ x, v6.ownBlock = some x → (Value.slice (some ⟨gL, 0, none⟩) nL cL).ownBlock ≠ some x) ∧ Below w.heap.size w ws) (fun _ q _ => nL - (intOf q).toNat)
      case atStart => exact ⟨0, [], Nat.zero_le _, rfl, World.ownsRow_nil _ _ _ _, ⟨rfl, fun i hi => by simp [growW] at hi⟩, hown4, hrow4, fun x e => (by cases e), hbel⟩
      case round =>
        clear hown4 hrow4 hbel
        obtain ⟨i, vs6, hi, rfl, hown6, hrow6, hown4, hrow4, hap, hbel⟩ := hrel
        by_cases hil : i < nL
        · have hil' : i < (wordsM k).length := by rw [wordsM_length]; have := HNL.out; omega
          have hiv : i < vs4.length := by omega
          have hcell := hown4.cell hiv
          have hOi := hrow4.2 i hil'
          obtain ⟨ai, ci, ei, -, hci, hmi⟩ := hOi.shape
          have hwl : ((wordsM k).getD i []).length = k := words_len (words_at (by rw [← HNL.out]; exact hil))
          rw [ei] at hcell hOi
          have hz : ((wordsM k).getD i []).length = 0 → ai = none ∧ ci = 0 := fun hz => by
            have hk0 : k = 0 := by omega
            subst hk0
            have hi0 : i = 0 := by rw [wordsM_length] at hil'; simp at hil'; exact hil'
            subst hi0
            rw [HV0.out rfl] at ei
            simp [List.getD] at ei
            exact ⟨ei.1.symm, by omega⟩
          have hmix : Tryz.prog.follows .mixedOrders = true := by kernel_rfl
          go_upto_region 9 with fail
          refine wp_mono (con_region ?_ (by kernel_rfl) (by kernel_rfl) rfl hmix w.heap.size wr _ (by simp) u6 vs6 hbel.size hown6 (by rw [hrow6.1, growW_length _ _ (by omega)]; omega) gL nL cL i ((wordsM k).getD i []) ai _ ci rfl rfl rfl hil (by rw [Nat.zero_add]; exact hcell) hOi.rd rfl hz (by omega)) ?_
          · intro j hj
            have hj18 : j = 0 ∨ j = 1 ∨ j = 2 ∨ j = 3 ∨ j = 4 ∨ j = 5 ∨ j = 6 ∨ j = 7 ∨ j = 8 ∨ j = 9 ∨ j = 10 ∨ j = 11 ∨ j = 12 ∨ j = 13 ∨ j = 14 ∨ j = 15 ∨ j = 16 ∨ j = 17 := by omega
            rcases hj18 with rfl | rfl | rfl | rfl | rfl | rfl | rfl | rfl | rfl | rfl | rfl | rfl | rfl | rfl | rfl | rfl | rfl | rfl <;> exact ⟨_, rfl, rfl, rfl, rfl⟩
          · rintro e a' w' ⟨rfl, v', e6, hF⟩
            obtain ⟨g4, g4r, ⟨vs', g6, g6r⟩, gap, gb⟩ := con_step hF hil' hbel.size hown4 hrow4 hown6 hrow6 hap
            obtain ⟨mid, hmid, rfl⟩ := act_frame a' 17 [.int .i64 order, undef, .slice none 0 0, .slice none 0 0, .slice (some ⟨gL, 0, none⟩) nL cL, .int .i64 k, v', .int .i64 i, undef, undef, .slice (some ⟨w.heap.size, 0, none⟩) 1 1, .int .i64 k, .int .i64 order, .bool true, u14, u15, .int .i64 i, .slice (some ⟨gL, 0, none⟩) nL cL, .int .i64 nL, .bool true, u20, u21] [u39, undef, undef, undef, undef, undef, undef, undef, undef, undef, undef, undef, undef, undef, undef, undef, undef, undef, undef, undef, undef, undef, undef] hF.defers hF.size (fun t ht => by
              simp only [List.length_cons, List.length_nil] at ht
              by_cases h6 : t = 6
              · subst h6; exact e6
              · have ht22 : t = 0 ∨ t = 1 ∨ t = 2 ∨ t = 3 ∨ t = 4 ∨ t = 5 ∨ t = 7 ∨ t = 8 ∨ t = 9 ∨ t = 10 ∨ t = 11 ∨ t = 12 ∨ t = 13 ∨ t = 14 ∨ t = 15 ∨ t = 16 ∨ t = 17 ∨ t = 18 ∨ t = 19 ∨ t = 20 ∨ t = 21 := by omega
                rw [hF.frame t (by omega) h6]
                rcases ht22 with rfl | rfl | rfl | rfl | rfl | rfl | rfl | rfl | rfl | rfl | rfl | rfl | rfl | rfl | rfl | rfl | rfl | rfl | rfl | rfl | rfl <;> rfl) (fun t ht => by
              simp only [List.length_cons, List.length_nil] at ht ⊢
              rw [hF.frame (0 + 1 + 1 + 1 + 1 + 1 + 1 + 1 + 1 + 1 + 1 + 1 + 1 + 1 + 1 + 1 + 1 + 1 + 1 + 1 + 1 + 1 + 1 + 17 + t) (by omega) (by omega)]
              have ht23 : t = 0 ∨ t = 1 ∨ t = 2 ∨ t = 3 ∨ t = 4 ∨ t = 5 ∨ t = 6 ∨ t = 7 ∨ t = 8 ∨ t = 9 ∨ t = 10 ∨ t = 11 ∨ t = 12 ∨ t = 13 ∨ t = 14 ∨ t = 15 ∨ t = 16 ∨ t = 17 ∨ t = 18 ∨ t = 19 ∨ t = 20 ∨ t = 21 ∨ t = 22 := by omega
              rcases ht23 with rfl | rfl | rfl | rfl | rfl | rfl | rfl | rfl | rfl | rfl | rfl | rfl | rfl | rfl | rfl | rfl | rfl | rfl | rfl | rfl | rfl | rfl | rfl <;> rfl)
            obtain ⟨u22, u23, u24, u25, u26, u27, u28, u29, u30, u31, u32, u33, u34, u35, u36, u37, u38, rfl⟩ := seventeen mid hmid
            simp only [List.cons_append, List.nil_append]
            have HIL := hid hil
            clear hF hown4 hrow4 hown6 hrow6 e6 hcell hOi
            go_wp2
            go_roundw
            case rel =>
              have := HIL.out
              first | exact ⟨i + 1, vs', by omega, by go_num, g6, g6r, g4, g4r, gap, hbel.trans gb⟩ | ((repeat apply Exists.intro); exact ⟨⟨i + 1, vs', by omega, by go_num, g6, g6r, g4, g4r, gap, hbel.trans gb⟩, rfl⟩)
            case measure =>
              have := HIL.out
              simp [intOf]
              omega
        · have hin : i = nL := by omega
          have hrow6' : RowsB wr w.heap.size vs6 (wordsM (k + 1)) := by
            rw [wordsM_succ, wordsM_length, ← HNL.out, ← hin]
            exact hrow6
          clear hrow6 hown4 hrow4
          go_wp2
          go_roundw
          case rel =>
            have := HKO.out
            first | exact ⟨k + 1, vs6, by omega, by go_num, hown6, hrow6', fun h => (by omega), hbel⟩ | ((repeat apply Exists.intro); exact ⟨⟨k + 1, vs6, by omega, by go_num, hown6, hrow6', fun h => (by omega), hbel⟩, rfl⟩)
          case measure =>
            have := HKO.out
            simp [intOf]
            omega
    · obtain rfl : k = order := by omega
      obtain ⟨gL, cL, e4, hc4, hm4, hg4⟩ := hown4.shape1 (by omega)
      subst e4
      rw [hl4] at hown4 hc4
      obtain ⟨nL, enL⟩ : ∃ nL, nL = 2 ^ k := ⟨_, rfl⟩
      rw [← enL] at hl4 hp1 hp6 hown4 hc4
      rw [hl4]
      have HNL := hid enL
      unfold maxLen at hm4
      clear enL
      go_wp2
      go_loopw [8, 9] (fun v8 q ws => ∃ i : Nat, i ≤ nL ∧ q = .int .i64 i ∧ OwnP ws w.heap.size v8 (((wordsM k).take i).map fun l => (sideR l 0 h, sideR l 1 h)) ∧ OwnR ws w.heap.size (.slice (some ⟨gL, 0, none⟩) nL cL) vs4 ∧ RowsB ws w.heap.size vs4 (wordsM k) ∧ Below w.heap.size w ws) (fun _ q _ => nL - (intOf q).toNat)
      case atStart => exact ⟨0, Nat.zero_le _, rfl, World.ownsRow_nil _ _ _ _, hown4, hrow4, hbel⟩
      case round =>
        clear hown4 hrow4 hbel
        obtain ⟨i, hi, rfl, hown8, hown4, hrow4, hbel⟩ := hrel
        by_cases hil : i < nL
        · have hil' : i < (wordsM k).length := by rw [wordsM_length]; have := HNL.out; omega
          have hiv : i < vs4.length := by omega
          have hcell := hown4.cell hiv
          have hOi := hrow4.2 i hil'
          obtain ⟨ai, ci, ei, -, hci, hmi⟩ := hOi.shape
          have hwl : ((wordsM k).getD i []).length = k := words_len (words_at (by rw [← HNL.out]; exact hil))
          rw [ei] at hcell hOi
          have hmix : Tryz.prog.follows .mixedOrders = true := by kernel_rfl
          have hnext : ((wordsM k).take (i + 1)).map (fun l => (sideR l 0 h, sideR l 1 h)) = ((wordsM k).take i).map (fun l => (sideR l 0 h, sideR l 1 h)) ++ [(sideR ((wordsM k).getD i []) 0 h, sideR ((wordsM k).getD i []) 1 h)] := by
            rw [List.take_succ_eq_append_getElem hil', List.map_append]
            simp [List.getD, hil']
          have HNX := hid hnext
          clear hnext
          go_upto_region 15 with fail
          refine wp_mono (pt_region ?_ (by kernel_rfl) (by kernel_rfl) rfl hmix w.heap.size wr _ (by simp) u8 _ hbel.size hown8 (by rw [List.length_map, List.length_take, wordsM_length]; have := HNL.out; omega) gL nL cL i ((wordsM k).getD i []) ai _ h ci rfl rfl rfl hil (by rw [Nat.zero_add]; exact hcell) hOi.rd rfl (by rw [hwl]; exact HO.out) hh) ?_
          · intro j hj
            have hj15 : j = 0 ∨ j = 1 ∨ j = 2 ∨ j = 3 ∨ j = 4 ∨ j = 5 ∨ j = 6 ∨ j = 7 ∨ j = 8 ∨ j = 9 ∨ j = 10 ∨ j = 11 ∨ j = 12 ∨ j = 13 ∨ j = 14 := by omega
            rcases hj15 with rfl | rfl | rfl | rfl | rfl | rfl | rfl | rfl | rfl | rfl | rfl | rfl | rfl | rfl | rfl <;> exact ⟨_, rfl, rfl, rfl, rfl⟩
          · rintro e a' w' ⟨rfl, v', e8, hF⟩
            obtain ⟨x1, f1, f2, f3, f4⟩ := hF.facts
            have lt8 : ∀ g, u8.ownBlock = some g → w.heap.size ≤ g ∧ g < wr.heap.size := fun g e => World.ownsRow.lt hown8 g e
            have g8 := own_growN hown8 (grown_of_below f2) (fun k e => by cases e)
            have g4 := own_growN hown4 (grown_of_below f2) (fun k e => by cases e)
            have g4r := hrow4.below f2
            have k4 : OwnR w' w.heap.size (.slice (some ⟨gL, 0, none⟩) nL cL) vs4 := own_growN g4 f3 (fun x hx he => apart_sizes g8 g4 (by decide) x hx he)
            have k4r : RowsB w' w.heap.size vs4 (wordsM k) := g4r.grow f3 (fun g e j hj he => apart_sizes g8 (g4r.2 j hj) (by decide) g e he)
            have kb : Below w.heap.size w w' := hbel.trans ((f2.mono hbel.size).grown f3 (by have := f2.size; have := hbel.size; omega) (fun g e => (lt8 g e).1))
            obtain ⟨mid, hmid, rfl⟩ := act_frame a' 14 [.int .i64 k, undef, .slice none 0 0, .slice none 0 0, .slice (some ⟨gL, 0, none⟩) nL cL, .int .i64 k, u6, u7, v', .int .i64 i, .slice (some ⟨w.heap.size, 0, none⟩) 1 1, .int .i64 k, .int .i64 k, .bool false, u14, u15, u16, u17, u18, u19, u20, u21, u22, u23, u24, u25, u26, u27, u28, u29, u30, u31, u32, u33, u34, u35, u36, u37, u38, u39, .int .i64 i, .slice (some ⟨gL, 0, none⟩) nL cL, .int .i64 nL, .bool true, u44, u45] [undef, undef] hF.defers hF.size (fun t ht => by
              simp only [List.length_cons, List.length_nil] at ht
              by_cases h8 : t = 8
              · subst h8; exact e8
              · have ht46 : t = 0 ∨ t = 1 ∨ t = 2 ∨ t = 3 ∨ t = 4 ∨ t = 5 ∨ t = 6 ∨ t = 7 ∨ t = 9 ∨ t = 10 ∨ t = 11 ∨ t = 12 ∨ t = 13 ∨ t = 14 ∨ t = 15 ∨ t = 16 ∨ t = 17 ∨ t = 18 ∨ t = 19 ∨ t = 20 ∨ t = 21 ∨ t = 22 ∨ t = 23 ∨ t = 24 ∨ t = 25 ∨ t = 26 ∨ t = 27 ∨ t = 28 ∨ t = 29 ∨ t = 30 ∨ t = 31 ∨ t = 32 ∨ t = 33 ∨ t = 34 ∨ t = 35 ∨ t = 36 ∨ t = 37 ∨ t = 38 ∨ t = 39 ∨ t = 40 ∨ t = 41 ∨ t = 42 ∨ t = 43 ∨ t = 44 ∨ t = 45 := by omega
                rw [hF.frame t (by omega) h8]
                rcases ht46 with rfl | rfl | rfl | rfl | rfl | rfl | rfl | rfl | rfl | rfl | rfl | rfl | rfl | rfl | rfl | rfl | rfl | rfl | rfl | rfl | rfl | rfl | rfl | rfl | rfl | rfl | rfl | rfl | rfl | rfl | rfl | rfl | rfl | rfl | rfl | rfl | rfl | rfl | rfl | rfl | rfl | rfl | rfl | rfl | rfl <;> rfl) (fun t ht => by
              simp only [List.length_cons, List.length_nil] at ht ⊢
              rw [hF.frame (0 + 1 + 1 + 1 + 1 + 1 + 1 + 1 + 1 + 1 + 1 + 1 + 1 + 1 + 1 + 1 + 1 + 1 + 1 + 1 + 1 + 1 + 1 + 1 + 1 + 1 + 1 + 1 + 1 + 1 + 1 + 1 + 1 + 1 + 1 + 1 + 1 + 1 + 1 + 1 + 1 + 1 + 1 + 1 + 1 + 1 + 1 + 14 + t) (by omega) (by omega)]
              have ht2 : t = 0 ∨ t = 1 := by omega
              rcases ht2 with rfl | rfl <;> rfl)
            obtain ⟨u46, u47, u48, u49, u50, u51, u52, u53, u54, u55, u56, u57, u58, u59, rfl⟩ := fourteen mid hmid
            simp only [List.cons_append, List.nil_append]
            rw [← HNX.out] at f1
            have HIL := hid hil
            clear hF hown4 hrow4 hown8 e8 hcell hOi g8 g4 g4r
            go_wp2
            go_roundw
            case rel =>
              have := HIL.out
              first | exact ⟨i + 1, by omega, by go_num, f1, k4, k4r, kb⟩ | ((repeat apply Exists.intro); exact ⟨⟨i + 1, by omega, by go_num, f1, k4, k4r, kb⟩, rfl⟩)
            case measure =>
              have := HIL.out
              simp [intOf]
              omega
        · obtain rfl : i = nL := by omega
          have hall : OwnP wr w.heap.size u8 ((wordsM k).map fun l => (sideR l 0 h, sideR l 1 h)) := by
            rw [List.take_of_length_le (by rw [wordsM_length, ← HNL.out]; exact Nat.le_refl _)] at hown8
            exact hown8
          clear hown8
          go_wp2
          go_ret2
          exact ⟨_, _, vs4, rfl, hown4, hrow4, hall, hbel⟩
end Go.Proofs.YtplkmkbambbemadGreatDoor
namespace Go.Proofs.YtplkmkbambbemadGreatDoor
open Go.ChangeShapes Go.WideShapes Go.ChangeAt Go.RowKit
theorem take_ext {xs ys : List Int} {k : Nat} (hl : ys.length = xs.length) (hk : k < xs.length) (h : xs.take k = ys.take k) (e : xs[k]?.getD 0 = ys[k]?.getD 0) : xs.take (k + 1) = ys.take (k + 1) := by
  rw [List.take_add_one, List.take_add_one, h]
  have h1 : xs[k]? = some xs[k] := List.getElem?_eq_getElem hk
  have h2 : ys[k]? = some (ys[k]'(by omega)) := List.getElem?_eq_getElem (by omega)
  rw [h1, h2] at e
  simp at e
  rw [h1, h2, e]
theorem take_ext' {xs ys : List Int} {k : Nat} (hl : ys.length = xs.length) (hk : k < xs.length) (h : xs.take k = ys.take k) (e : (xs[k] != ys[k]?.getD 0) = false) : xs.take (k + 1) = ys.take (k + 1) := by
  refine take_ext hl hk h ?_
  rw [List.getElem?_eq_getElem hk]
  simpa using e
theorem dec_ne {xs ys : List Int} {k : Nat} (hk : k < xs.length) (e : (xs[k] != ys[k]?.getD 0) = true) : Ending.returned (.bool false) = .returned (.bool (decide (xs = ys))) := by
  have : ¬ xs = ys := by
    intro h
    subst h
    simp [List.getElem?_eq_getElem hk] at e
  simp [this]
theorem dec_eq {xs ys : List Int} {k : Nat} (hl : ys.length = xs.length) (hk : xs.length ≤ k) (h : xs.take k = ys.take k) : Ending.returned (.bool true) = .returned (.bool (decide (xs = ys))) := by
  rw [List.take_of_length_le hk, List.take_of_length_le (by omega)] at h
  simp [h]
set_option maxHeartbeats 400000 in
theorem same_bits (xs ys : List Int) (a b : Option Addr) (ca cb : Nat) (w : World) (ha : Rd .u8 w a xs) (hb : Rd .u8 w b ys) (hx : xs.length ≤ maxLen) (hy : ys.length ≤ maxLen) :
    Calls Tryz.prog 23 #[.slice a xs.length ca, .slice b ys.length cb] w fun e w' => e = .returned (.bool (decide (xs = ys))) ∧ Below w.heap.size w w' := by
  unfold maxLen at hx hy
  by_cases hl : ys.length = xs.length
  · have hne : (((xs.length : Nat) : Int) != ((ys.length : Nat) : Int)) = false := by rw [hl]; simp
    rw [hl] at hne ⊢
    clear hy
    have HL : Hid (ys.length = xs.length) := hl
    clear hl
    go_enter Tryz.func23, Tryz.ntmps23
    go_wp2
    go_loopw [5] (fun i wr => ∃ k : Nat, k ≤ xs.length ∧ i = .int .i64 k ∧ Hid (xs.take k = ys.take k) ∧ Below w.heap.size w wr) (fun i _ => xs.length - (intOf i).toNat)
    case atStart => exact ⟨0, Nat.zero_le _, rfl, rfl, Below.refl _ _⟩
    case round =>
      obtain ⟨k, hk, rfl, htk, hbel⟩ := hrel
      by_cases hlt : k < xs.length
      · obtain ⟨b1, o1, rfl, hc1⟩ := (ha.below hbel).at hlt
        obtain ⟨b2, o2, rfl, hc2⟩ := (hb.below hbel).at (i := k) (by rw [HL.out]; exact hlt)
        have g1 := hc1 k hlt
        have g2 := hc2 k (by rw [HL.out]; exact hlt)
        clear hc1 hc2
        go_wp2_with fail
        go_quiet (fail)
        go_wp2
        · go_ret
          exact ⟨dec_ne hlt ‹_›, below_drewN hbel _⟩
        · go_roundw
          case rel => exact ⟨k + 1, by omega, by go_num, take_ext' HL.out hlt htk.out ‹_›, below_drewN hbel _⟩
          case measure => simp [intOf]; omega
      · go_wp2
        go_ret
        exact ⟨dec_eq HL.out (by omega) htk.out, hbel⟩
  · have hne : (((xs.length : Nat) : Int) != ((ys.length : Nat) : Int)) = true := by simp; omega
    have hd : decide (xs = ys) = false := by simp; intro h; subst h; exact hl rfl
    rw [hd]
    clear hl
    go_enter Tryz.func23, Tryz.ntmps23
    go_wp2
    go_ret
    exact ⟨rfl, Below.refl _ _⟩
end Go.Proofs.YtplkmkbambbemadGreatDoor
