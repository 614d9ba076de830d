import Derived.Test.YtjpohfghibhkiadGwF
import Derived.Test.YtjpohfghibhkiadGwR
import Derived.Test.YtjpohfghibhkiadGridQ
import Derived.Laws.Tables
namespace Go.Proofs.Ytjpohfghibhkiad
open Go.ChangeShapes Go.WideShapes Go.ChangeAt Go.RowKit

/-! ROWS OF ONE'S OWN; THE PROGRAM'S bareRows. -/

def rowV (gs : Nat → Nat) (N k t : Nat) : Value := if t < k then .slice (some ⟨gs t, 0, none⟩) N N else .slice none 0 0
/-- The first k of 14 rows, each in a block of its own. -/
structure RowsO (w : World) (B g N : Nat) (gs : Nat → Nat) (ls : Nat → List (Int × Int)) (k : Nat) : Prop where
  top : w.heap[g]? = some (.cells ((List.range 14).map (rowV gs N k)).toArray 34 (0, 0))
  row : ∀ t, t < k → PArr w (gs t) (ls t)
  len : ∀ t, t < k → (ls t).length = N
  inj : ∀ t t', t < k → t' < k → gs t = gs t' → t = t'
  ge : ∀ t, t < k → B ≤ gs t
  gt : B ≤ g
theorem RowsO.ne {w : World} {B g N k : Nat} {gs : Nat → Nat} {ls : Nat → List (Int × Int)} (h : RowsO w B g N gs ls k) {t : Nat} (ht : t < k) : gs t ≠ g := by
  intro e
  have h1 := h.row t ht
  unfold PArr at h1
  rw [e, h.top] at h1
  simp at h1
theorem RowsO.lt {w : World} {B g N k : Nat} {gs : Nat → Nat} {ls : Nat → List (Int × Int)} (h : RowsO w B g N gs ls k) : g < w.heap.size := (Array.getElem?_eq_some_iff.1 h.top).1
theorem RowsO.below {w w' : World} {B g N k : Nat} {gs : Nat → Nat} {ls : Nat → List (Int × Int)} (h : RowsO w B g N gs ls k) (hb : Below w.heap.size w w') : RowsO w' B g N gs ls k :=
  ⟨(hb.block g h.lt).trans h.top, fun t ht => (h.row t ht).below hb (h.row t ht).lt, h.len, h.inj, h.ge, h.gt⟩
theorem RowsO.cell {w : World} {B g N k : Nat} {gs : Nat → Nat} {ls : Nat → List (Int × Int)} (h : RowsO w B g N gs ls k) {t : Nat} (ht : t < k) (h14 : t < 14) : w.cell? ⟨g, t, none⟩ = some (.slice (some ⟨gs t, 0, none⟩) N N) := by
  rw [cell_of_row w g t _ _ (0, 0) h.top]
  simp [h14, rowV, ht]
/-- A point is written. -/
theorem RowsO.set {w : World} {B g N k : Nat} {gs : Nat → Nat} {ls : Nat → List (Int × Int)} (h : RowsO w B g N gs ls k) {t z : Nat} (ht : t < k) (hz : z < N) (p : Int × Int) : RowsO (w.setCells (gs t) (z * 2) [.int .i64 p.1, .int .i64 p.2]) B g N gs (fun t' => if t' = t then (ls t).set z p else ls t') k := by
  have hoth : ∀ b, b ≠ gs t → (w.setCells (gs t) (z * 2) [.int .i64 p.1, .int .i64 p.2]).heap[b]? = w.heap[b]? := fun b hb => by
    show ((w.setCell ⟨gs t, z * 2, none⟩ (.int .i64 p.1)).setCell ⟨gs t, z * 2 + 1, none⟩ (.int .i64 p.2)).heap[b]? = _
    rw [heap_setCell_other _ _ b _ (by simpa using hb), heap_setCell_other _ _ b _ (by simpa using hb)]
  refine ⟨(hoth g (fun e => h.ne ht e.symm)).trans h.top, fun t' ht' => ?_, fun t' ht' => ?_, h.inj, h.ge, h.gt⟩
  · by_cases e : t' = t
    · subst e
      rw [if_pos rfl]
      exact (h.row t' ht').set (by rw [h.len t' ht']; exact hz) p
    · rw [if_neg e]
      exact (hoth (gs t') (fun e' => e (h.inj t' t ht' ht e'))).trans (h.row t' ht')
  · by_cases e : t' = t
    · subst e
      rw [if_pos rfl, List.length_set]
      exact h.len t' ht'
    · rw [if_neg e]
      exact h.len t' ht'
theorem RowsO.ext {w : World} {B g N k : Nat} {gs : Nat → Nat} {ls ls' : Nat → List (Int × Int)} (h : RowsO w B g N gs ls k) (e : ∀ t, t < k → ls t = ls' t) : RowsO w B g N gs ls' k :=
  ⟨h.top, fun t ht => by rw [← e t ht]; exact h.row t ht, fun t ht => by rw [← e t ht]; exact h.len t ht, h.inj, h.ge, h.gt⟩
def bareP (t z : Nat) : Int × Int := if pilotM z t then (1, pilQ t) else (0, 0)
def bareTo (N t z : Nat) : List (Int × Int) := (List.range N).map fun j => if j < z then bareP t j else (0, 0)
theorem bareTo_length (N t z : Nat) : (bareTo N t z).length = N := by simp [bareTo]
theorem bareTo_zero (N t : Nat) : bareTo N t 0 = List.replicate N (0, 0) := by
  refine List.ext_getElem (by simp [bareTo]) fun j h1 h2 => ?_
  simp [bareTo]
theorem bareTo_set (N t z : Nat) (h : pilotM z t = true) : (bareTo N t z).set z (1, pilQ t) = bareTo N t (z + 1) := by
  refine List.ext_getElem (by simp [bareTo]) fun j h1 h2 => ?_
  rw [List.getElem_set]
  by_cases e : z = j
  · subst e
    simp [bareTo, bareP, h]
  · rw [if_neg e]
    simp only [bareTo, List.getElem_map, List.getElem_range]
    by_cases hj : j < z
    · rw [if_pos hj, if_pos (by omega)]
    · rw [if_neg hj, if_neg (by omega)]
theorem bareTo_skip (N t z : Nat) (h : pilotM z t = false) : bareTo N t z = bareTo N t (z + 1) := by
  refine List.ext_getElem (by simp [bareTo]) fun j h1 h2 => ?_
  simp only [bareTo, List.getElem_map, List.getElem_range]
  by_cases hj : j < z
  · rw [if_pos hj, if_pos (by omega)]
  · rw [if_neg hj]
    by_cases e : j = z
    · subst e
      rw [if_pos (by omega)]
      simp [bareP, h]
    · rw [if_neg (by omega)]
theorem below_setCells2 {B g : Nat} (w : World) (hg : B ≤ g) (i : Nat) (u v : Value) : Below B w (w.setCells g i [u, v]) := by
  refine ⟨rfl, rfl, rfl, ?_, fun b hb => ?_⟩
  · show w.heap.size ≤ ((w.setCell ⟨g, i, none⟩ u).setCell ⟨g, i + 1, none⟩ v).heap.size
    simp [World.setCell]
  · show ((w.setCell ⟨g, i, none⟩ u).setCell ⟨g, i + 1, none⟩ v).heap[b]? = _
    rw [heap_setCell_other _ _ b _ (by simp; omega), heap_setCell_other _ _ b _ (by simp; omega)]
def bareLs (N k z : Nat) : Nat → List (Int × Int) := fun t => if t = k then bareTo N k z else bareTo N t N
theorem RowsO.push {w w3 : World} {B g N k gn : Nat} {gs : Nat → Nat} {ls : Nat → List (Int × Int)} {L : List (Int × Int)} (h : RowsO w B g N gs ls k) (hb : Below w.heap.size w w3) (hk : k < 14) (hP : PArr w3 gn L) (hL : L.length = N) (hgn : w.heap.size ≤ gn) (hB : B ≤ w.heap.size) :
    RowsO (w3.setCell ⟨g, k, none⟩ (.slice (some ⟨gn, 0, none⟩) N N)) B g N (fun t => if t = k then gn else gs t) (fun t => if t = k then L else ls t) (k + 1) := by
  have h3 := h.below hb
  have hlt := h.lt
  have hoth : ∀ b, b ≠ g → (w3.setCell ⟨g, k, none⟩ (.slice (some ⟨gn, 0, none⟩) N N)).heap[b]? = w3.heap[b]? := fun b hne => heap_setCell_other _ _ b _ (by simpa using hne)
  refine ⟨?_, fun t ht => ?_, fun t ht => ?_, fun t t' ht ht' e => ?_, fun t ht => ?_, h.gt⟩
  · rw [heap_setCell_same w3 g k _ _ _ h3.top]
    congr 2
    apply Array.ext'
    simp only [List.setIfInBounds_toArray]
    refine List.ext_getElem (by simp) fun j h1 h2 => ?_
    rw [List.getElem_set]
    simp only [List.getElem_map, List.getElem_range, rowV]
    by_cases e : k = j
    · subst e
      rw [if_pos rfl, if_pos (by omega), if_pos rfl]
    · rw [if_neg e]
      by_cases hj : j < k
      · rw [if_pos hj, if_pos (by omega), if_neg (fun e' => e e'.symm)]
      · rw [if_neg hj, if_neg (by omega)]
  · by_cases e : t = k
    · subst e
      rw [if_pos rfl, if_pos rfl]
      exact (hoth gn (by omega)).trans hP
    · rw [if_neg e, if_neg e]
      exact (hoth (gs t) (h3.ne (by omega))).trans (h3.row t (by omega))
  · by_cases e : t = k
    · rw [if_pos e]; exact hL
    · rw [if_neg e]; exact h.len t (by omega)
  · by_cases e1 : t = k
    · by_cases e2 : t' = k
      · omega
      · rw [if_pos e1, if_neg e2] at e
        have := (h.row t' (by omega)).lt
        omega
    · by_cases e2 : t' = k
      · rw [if_neg e1, if_pos e2] at e
        have := (h.row t (by omega)).lt
        omega
      · rw [if_neg e1, if_neg e2] at e
        exact h.inj t t' (by omega) (by omega) e
  · by_cases e : t = k
    · rw [if_pos e]; omega
    · rw [if_neg e]; exact h.ge t (by omega)
theorem run_idxPt0 {ρ : Operand → Value} (w : World) {o : Oper} {x y : Operand} {g j n c : Nat} (ho : o.op = .indexAddr 34 x y) (h : ρ x = .slice (some ⟨g, 0, none⟩) n c) (h' : ρ y = .int .i64 j) (hj : j < n) : (execOp ρ o).run Try.prog w = .ok (.value (.pointer (some ⟨g, j * 2, none⟩))) w := by
  have := run_idxPt w ho h h' hj
  rwa [Nat.zero_add] at this
theorem run_idxRw0 {ρ : Operand → Value} (w : World) {o : Oper} {x y : Operand} {g j n c : Nat} (ho : o.op = .indexAddr 26 x y) (h : ρ x = .slice (some ⟨g, 0, none⟩) n c) (h' : ρ y = .int .i64 j) (hj : j < n) : (execOp ρ o).run Try.prog w = .ok (.value (.pointer (some ⟨g, j, none⟩))) w := by
  have := run_idxRw w ho h h' hj
  rwa [Nat.zero_add] at this

theorem Try.infoRw : (Try.prog.info? 34).map (fun i => (i.zero, i.size, i.bytes)) = some (some (.slice none 0 0), 1, 24) := by kernel_rfl
theorem wpList_makeRows {w : World} {ops : Array Oper} {rest : List Oper} {o : Oper} {a : Act} {Q : Exit → Act → World → Prop} (hgd : o.guard = none) (l c : Operand)
    (ho : o.op = Op.makeSlice 26 l c) (hl : a.eval l = .int .i64 14) (hc : a.eval c = .int .i64 14)
    (h : ∀ w', w'.heap[w.heap.size]? = some (.cells (List.replicate 14 (.slice none 0 0)).toArray 34 (0, 0)) → Below w.heap.size w w' → wpList Try.prog ops Q rest (a.put o.dst (.slice (some ⟨w.heap.size, 0, none⟩) 14 14)) w') :
    wpList Try.prog ops Q (o :: rest) a w := by
  obtain ⟨i0, hi, hz0, hz1, hz2⟩ := info_parts Try.infoRw
  refine wpList_make_full w hgd l c 26 ho w.heap.size 34 i0 (.slice none 0 0) 1 Try.underlying26 hi hz0 hz1 .i64 .i64 14 14 14 hl hc rfl rfl (by rw [hz2]; omega) (by unfold maxLen; omega) (Nat.le_refl _) fun w' h1 h2 => ?_
  have hb := (Below.refl w.heap.size w).grown h2 (Nat.le_refl _) (by intro k hk; cases hk)
  refine h w' ?_ hb
  have e : (madeCells (Value.cells (.slice none 0 0)) (14 * 1)).toList = List.replicate 14 (.slice none 0 0) := toList_madeCells_one _ _
  rw [e] at h1
  rcases h1.2 with ⟨h', _⟩ | ⟨g', cap, cur, h', hB, hg, _, hm, hcs, ht⟩
  · simp at h'
  · simp only [Value.slice.injEq, Option.some.injEq, Addr.mk.injEq, and_true] at h'
    obtain ⟨rfl, _, rfl⟩ := h'
    rw [hg, ← ht, List.take_of_length_le (by simp; omega)]

set_option maxRecDepth 100000 in
set_option maxHeartbeats 4000000 in
theorem bareRows_any (N : Nat) (w : World) (hN : N ≤ 144) :
    Calls Try.prog 24 #[.int .i64 (N : Int)] w fun e w' => ∃ g gs, e = .returned (.slice (some ⟨g, 0, none⟩) 14 14) ∧ RowsO w' w.heap.size g N gs (fun t => bareTo N t N) 14 ∧ Below w.heap.size w w' := by
  have hmix : Try.prog.follows .mixedOrders = true := by kernel_rfl
  go_enter Try.func24, Try.ntmps24
  go_wp2_with (first | (at_make; refine wpList_makeRows rfl _ _ rfl rfl rfl ?_; intro w2 htop hb2))
  obtain ⟨g, eg⟩ : ∃ g, g = w.heap.size := ⟨_, rfl⟩
  rw [← eg] at htop
  rw [← eg]
  have HG := hid eg
  clear eg
  have hR2 : RowsO w2 w.heap.size g N (fun _ => 0) (fun t => bareTo N t N) 0 := ⟨htop, fun t ht => by omega, fun t ht => by omega, fun t t' ht => by omega, fun t ht => by omega, by rw [HG.out]; exact Nat.le_refl _⟩
  clear htop
  go_loopw [9] (fun q wr => ∃ k : Nat, k ≤ 14 ∧ q = .int .i64 k ∧ (∃ gs, RowsO wr w.heap.size g N gs (fun t => bareTo N t N) k) ∧ Below w.heap.size w wr) (fun q _ => 14 - (intOf q).toNat)
  case atStart => exact ⟨0, Nat.zero_le _, rfl, ⟨_, hR2⟩, hb2⟩
  case round =>
    clear hR2 hb2
    obtain ⟨k, hk, rfl, ⟨gs, hR⟩, hbel⟩ := hrel
    by_cases hlt : k < 14
    · have HLT := hid hlt
      have hct : ∀ (w3 : World), Below wr.heap.size wr w3 → w3.cell? ⟨g, k, none⟩ = some (.slice none 0 0) ∧ w3.frozen? ⟨g, k, none⟩ = false := fun w3 hb3 => by
        have h3 := (hR.below hb3).top
        refine ⟨?_, frozen_of_row w3 g k _ _ h3⟩
        rw [cell_of_row w3 g k _ _ (0, 0) h3]
        simp [hlt, rowV]
      go_wp2_with (first | (at_make; refine wpList_makePts N rfl _ _ rfl _ _ rfl rfl rfl rfl (by omega) ?_; intro w3 hP3 hb3; have hc3 := (hct w3 hb3).1; have hf3 := (hct w3 hb3).2))
      obtain ⟨gn, egn⟩ : ∃ gn, gn = wr.heap.size := ⟨_, rfl⟩
      have hR4 := hR.push (L := bareTo N k 0) (gn := gn) hb3 hlt (by rw [egn, bareTo_zero]; exact hP3) (bareTo_length _ _ _) (by omega) hbel.size
      have hb4 : Below w.heap.size w (w3.setCell ⟨g, k, none⟩ (.slice (some ⟨gn, 0, none⟩) N N)) := (hbel.trans (hb3.mono hbel.size)).trans ⟨rfl, rfl, rfl, by simp [World.setCell], fun b hb => heap_setCell_other _ _ b _ (by have := HG.out; simp; omega)⟩
      rw [← egn]
      clear egn hct hc3 hf3 hP3 hb3 hR hbel
      generalize w3.setCell ⟨g, k, none⟩ (.slice (some ⟨gn, 0, none⟩) N N) = w4 at *
      obtain ⟨gs4, eg4⟩ : ∃ gs4, gs4 = fun t => if t = k then gn else gs t := ⟨_, rfl⟩
      have hR5 : RowsO w4 w.heap.size g N gs4 (bareLs N k 0) (k + 1) := by rw [eg4]; exact hR4
      have hg4 : gs4 k = gn := by rw [eg4]; simp
      clear hR4 eg4
      go_loopw [18] (fun q wr => ∃ z : Nat, z ≤ N ∧ q = .int .i64 z ∧ RowsO wr w.heap.size g N gs4 (bareLs N k z) (k + 1) ∧ Below w.heap.size w wr) (fun q _ => N - (intOf q).toNat)
      case atStart => exact ⟨0, Nat.zero_le _, rfl, hR5, hb4⟩
      case round =>
        clear hR5 hb4
        obtain ⟨z, hz, rfl, hR, hbel⟩ := hrel
        by_cases hltz : z < N
        · have HLZ := hid hltz
          have hpl := fun wz => isPilot_any (z : Int) (k : Int) wz (by omega)
          have HPS := hid (fun (h : pilotM z k = true) => bareTo_set N k z h)
          have HPK := hid (fun (h : pilotM z k = false) => bareTo_skip N k z h)
          obtain ⟨pb, epb⟩ : ∃ pb, pilotM (z : Int) (k : Int) = pb := ⟨_, rfl⟩
          simp only [epb] at hpl HPS HPK
          clear epb
          go_wp2_with fail
          refine (hpl _).mono ?_
          rintro e w5 ⟨rfl, hb5⟩
          have hR5 := hR.below hb5
          have hbel5 := hbel.trans (hb5.mono hbel.size)
          clear hpl hR hbel hb5
          cases pb with
          | true =>
            have HPS' := hid (HPS.out rfl)
            clear HPS HPK
            go_upto_region 10 with fail
            have hpa := fun wz => pilotAt_any k wz hlt
            have hPE : Enters Try.prog 31 := enters_of Try.func31 (by kernel_rfl) rfl
            have hk1 : k < k + 1 := Nat.lt_succ_self k
            refine wp_mono (region_last (Q := fun e a' w' => e = .normal ∧ a' = { tmps := (_ : List Value).toArray, defers := [] } ∧ ∃ wc, Below w5.heap.size w5 wc ∧ w' = wc.setCells (gs4 k) (z * 2) [.int .i64 ((1 : Int), pilQ k).1, .int .i64 ((1 : Int), pilQ k).2]) 8 25 (.slice (some ⟨g, 0, none⟩) 14 14) [(26, .int .i64 k), (27, .pointer (some ⟨g, k, none⟩)), (28, .slice (some ⟨gs4 k, 0, none⟩) N N), (29, .int .i64 z), (30, .int .i64 k), (31, .agg #[.int .i64 1, .int .i64 (pilQ k)]), (32, .pointer (some ⟨gs4 k, z * 2, none⟩))]
              [[3], [4], [25, 26], [27], [5], [4], [30], [28, 29]] [2, 2, 3, 7, 7, 6, 8, 8] w5 hmix rfl rfl (show ([25, 26, 27, 28, 29, 30, 31, 32] : List Nat).Nodup by decide) (by kernel_rfl) (by kernel_rfl) (by kernel_rfl) (by kernel_rfl) (by kernel_rfl) (fun i' hi' ac wc hbc hr Q K hK => by
              have h8 : i' = 0 ∨ i' = 1 ∨ i' = 2 ∨ i' = 3 ∨ i' = 4 ∨ i' = 5 ∨ i' = 6 ∨ i' = 7 := by omega
              rcases h8 with rfl | rfl | rfl | rfl | rfl | rfl | rfl | rfl
              · exact op_value rfl rfl (run_moveQ wc rfl (hr 3 (by decide))) (hK wc (grownG wc))
              · exact op_value rfl rfl (run_moveQ wc rfl (hr 4 (by decide))) (hK wc (grownG wc))
              · exact op_value rfl rfl (run_idxRw0 wc rfl (hr 25 (by decide)) (hr 26 (by decide)) hlt) (hK wc (grownG wc))
              · exact op_value rfl rfl (run_loadRw wc rfl (hr 27 (by decide)) ((hR5.below hbc).cell hk1 hlt)) (hK wc (grownG wc))
              · exact op_value rfl rfl (run_moveQ wc rfl (hr 5 (by decide))) (hK wc (grownG wc))
              · exact op_value rfl rfl (run_moveQ wc rfl (hr 4 (by decide))) (hK wc (grownG wc))
              · exact op_callG (us := #[.int .i64 k]) rfl rfl rfl hPE (by simp only [List.map_toArray, List.map_cons, List.map_nil]; rw [hr 30 (by decide)]; rfl) (hpa wc) (fun e w' h => ⟨_, h.1, hK w' ⟨h.2.os, h.2.tape, h.2.output, h.2.size, fun b hb _ => h.2.block b hb⟩⟩)
              · exact op_value rfl rfl (run_idxPt0 wc rfl (hr 28 (by decide)) (hr 29 (by decide)) hltz) (hK wc (grownG wc)))
              (fun wc hbc => by
                have hRc := hR5.below hbc
                exact op_skip rfl rfl (run_storeQ (p := (1, pilQ k)) wc rfl (eval_setAll 32 (show ([25, 26, 27, 28, 29, 30, 31, 32] : List Nat).Nodup by decide) (by kernel_rfl)) (eval_setAll 31 (show ([25, 26, 27, 28, 29, 30, 31, 32] : List Nat).Nodup by decide) (by kernel_rfl)) (hRc.row k hk1) (by rw [hRc.len k hk1]; exact hltz)) ⟨rfl, rfl, wc, hbc, rfl⟩)) ?_
            rintro e a' w' ⟨rfl, rfl, wc, hbc, rfl⟩
            have hR6 := (hR5.below hbc).set hk1 hltz (1, pilQ k)
            have hge := hR5.ge k hk1
            have hb6 : Below w.heap.size w (wc.setCells (gs4 k) (z * 2) [.int .i64 ((1 : Int), pilQ k).1, .int .i64 ((1 : Int), pilQ k).2]) := (hbel5.trans (hbc.mono hbel5.size)).trans (below_setCells2 wc hge _ _ _)
            generalize wc.setCells (gs4 k) (z * 2) [.int .i64 ((1 : Int), pilQ k).1, .int .i64 ((1 : Int), pilQ k).2] = wn at *
            clear hpa hbc hR5 hbel5
            dsimp only [setAll, List.set, List.append_nil, List.cons_append, List.nil_append]
            go_wp2_with fail
            go_roundw
            case rel =>
              refine ⟨z + 1, by have := HLZ.out; omega, by go_num, hR6.ext (fun t _ => ?_), hb6⟩
              unfold bareLs
              by_cases e : t = k
              · simp only [e, if_true]; exact HPS'.out
              · simp only [e, if_false]
            case measure => have := HLZ.out; simp [intOf]; omega
          | false =>
            have HPK' := hid (HPK.out rfl)
            clear HPS HPK
            go_wp2_with fail
            go_roundw
            case rel => exact ⟨z + 1, by have := HLZ.out; omega, by go_num, hR5.ext (fun t _ => by unfold bareLs; rw [HPK'.out]), hbel5⟩
            case measure => have := HLZ.out; simp [intOf]; omega
        · obtain rfl : z = N := by omega
          go_wp2_with fail
          go_roundw
          case rel => exact ⟨k + 1, by have := HLT.out; omega, by go_num, ⟨gs4, hR.ext (fun t _ => by unfold bareLs; by_cases e : t = k <;> simp [e])⟩, hbel⟩
          case measure => have := HLT.out; simp [intOf]; omega
    · obtain rfl : k = 14 := by omega
      go_wp2_with fail
      go_ret
      exact ⟨g, gs, rfl, hR, hbel⟩
end Go.Proofs.Ytjpohfghibhkiad
