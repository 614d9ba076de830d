import Derived.Test.YtbjgfoiikhbonafK12
import Derived.Test.YtbjgfoiikhbonafK01
import Derived.OrdersIn
import Derived.OwnWalkIn
import Derived.Great.Frames
set_option linter.unusedVariables false
set_option linter.unusedSimpArgs false
namespace Go.Proofs.Ytbjgfoiikhbonaf
open Go.ChangeShapes Go.WideShapes Go.ChangeAt Go.RowKit
/-- A cell has been written; else only blocks of S are changed. -/
structure PtrPost (w w' : World) (b o : Nat) (S : List Nat) (v' : Value) : Prop where
  kept : Kept (b :: S) w w'
  row : ∀ T cur, At w b T cur → At w' b T (cur.set o v')
theorem At.setCell {w : World} {b o : Nat} {T : TypeId} {cur : List Value} (h : At w b T cur) (v : Value) : At (w.setCell ⟨b, o, none⟩ v) b T (cur.set o v) := by
  unfold At at h ⊢
  rw [heap_setCell_same w b o _ _ v h, List.setIfInBounds_toArray]
theorem At.setOther {w : World} {b : Nat} {T : TypeId} {cur : List Value} (h : At w b T cur) (p : Addr) (v : Value) (hne : b ≠ p.block) : At (w.setCell p v) b T cur := (heap_setCell_other w p b v hne).trans h
theorem kept_setCell (w : World) (b o : Nat) (v : Value) : Kept [b] w (w.setCell ⟨b, o, none⟩ v) := (Kept.refl _ w).setCell (by simp) _
theorem PtrPost.store {w W : World} {b o : Nat} {S : List Nat} {v : Value} (hk : Kept S w W) (hn : b ∉ S) : PtrPost w (W.setCell ⟨b, o, none⟩ v) b o S v :=
  ⟨(hk.wider (fun x hx => List.mem_cons_of_mem _ hx)).trans ((kept_setCell W b o v).wider (fun x hx => by rw [List.mem_singleton] at hx; rw [hx]; exact List.mem_cons_self)), fun T cur h => (h.kept hk hn).setCell v⟩
theorem PtrPost.same {w w' : World} {b o : Nat} {S : List Nat} {v : Value} (hk : Kept S w w') (hn : b ∉ S) (hc : w.cell? ⟨b, o, none⟩ = some v) : PtrPost w w' b o S v := by
  refine ⟨hk.wider (fun x hx => List.mem_cons_of_mem _ hx), fun T cur h => ?_⟩
  have h1 := h.cell o
  rw [hc] at h1
  have h2 : cur.set o v = cur := by
    refine List.ext_getElem? fun i => ?_
    rw [List.getElem?_set]
    split
    · rename_i e; subst e; split
      · exact h1
      · rename_i h3; rw [List.getElem?_eq_none (by omega)]
    · rfl
  rw [h2]
  exact h.kept hk hn
theorem PtrPost.later {w w' w'' : World} {b o : Nat} {S : List Nat} {v : Value} (h : PtrPost w w' b o S v) (hk : Kept [w.heap.size] w' w'') (hb : b < w.heap.size) : PtrPost w w'' b o S v := by
  have h1 := h.kept
  refine ⟨⟨hk.os.trans h1.os, hk.tape.trans h1.tape, hk.output.trans h1.output, Nat.le_trans h1.size hk.size, fun k hk' hn => ?_⟩, fun T cur hA => (h.row T cur hA).kept hk (by simp; omega)⟩
  rw [hk.block k (Nat.lt_of_lt_of_le hk' h1.size) (by simp; omega), h1.block k hk' hn]
theorem keptFree {S : List Nat} {w w' : World} (hk : Kept S w w') {a : Addr} (h : w.frozen? a = false) (hb : a.block < w.heap.size) (hn : a.block ∉ S) : w'.frozen? a = false := by
  unfold World.frozen? at *
  rw [hk.block _ hb hn]
  exact h
def CutPost (w : World) (b o g x m : Nat) (l : Sps) : Ending → World → Prop := fun e w' => ∃ v', e = .returned (.agg #[.int .i64 (x : Int), .int .i64 ((m : Nat) : Int)]) ∧ PtrPost w w' b o [g] v' ∧ OwnSp w' v' l ∧ v'.ownBlock = some g
set_option maxHeartbeats 1000000 in
set_option maxRecDepth 100000 in
theorem spCut_any {w : World} {b o g n c x y : Nat} {r : Sps} {size : Nat} (hp : w.cell? ⟨b, o, none⟩ = some (.slice (some ⟨g, 0, none⟩) n c)) (hfp : w.frozen? ⟨b, o, none⟩ = false) (h : OwnSp w (.slice (some ⟨g, 0, none⟩) n c) ((x, y) :: r)) (hgb : g ≠ b) (hr : r.length ≤ 4000) (hxy : x < y) (hy : y ≤ 4000) (h1 : 1 ≤ size) (h2 : size ≤ 4000) :
    Calls Try.prog 37 #[.pointer (some ⟨b, o, none⟩), .int .i64 (size : Int)] w (CutPost w b o g x (min y (x + size)) (if y ≤ x + size then r else (x + size, y) :: r)) := by
  have hl := row_len h
  subst hl
  obtain ⟨cur, hA, -, hn, hc, hcl, hct, hxl⟩ := row_at h
  have hC := (h.at (i := 0) (by simp))
  obtain ⟨g', e, hgl, hC⟩ := hC
  cases e
  obtain ⟨c0, c1⟩ := hC 0 (by simp)
  have c0 : w.cell? ⟨g, 0, none⟩ = some (.int .i64 (x : Int)) := c0
  have c1 : w.cell? ⟨g, 1, none⟩ = some (.int .i64 (y : Int)) := c1
  have hg0 := hA.free 0
  have hbl := World.block_lt_of_cell? w _ hp
  obtain ⟨n', hn'⟩ : ∃ n', n' = ((x, y) :: r).length := ⟨_, rfl⟩
  have hn0 : 0 < n' := by rw [hn']; simp
  rw [← hn'] at hp
  have HA := hid hA
  have HN := hid hn'
  have H := hid h
  clear h hA hC hn'
  obtain ⟨m, em⟩ : ∃ m, m = min y (x + size) := ⟨_, rfl⟩
  have hm : (if (x : Int) + (size : Int) < (y : Int) then (x : Int) + (size : Int) else (y : Int)) = (m : Int) := by
    rw [em]
    split <;> omega
  have hw1 : IntKind.i64.wrap ((x : Int) + (size : Int)) = (x : Int) + (size : Int) := by rw [IntKind.wrap_i64]; omega
  have EM := hid em
  obtain ⟨lr, elr⟩ : ∃ lr, lr = (if y ≤ x + size then r else (x + size, y) :: r) := ⟨_, rfl⟩
  have ELR := hid elr
  rw [← em, ← elr]
  clear em elr
  go_enter Try.func37, Try.ntmps37
  go_upto_region 2 with fail
  go_region
  go_upto_region 4 with fail
  have f1 : Kept [g] w (((w.setCell ⟨g, 0, none⟩ (.int .i64 (m : Int))).alloc (.cells #[.int .i64 0, .int .i64 0] 114)).alloc (.cells #[.int .i64 (x : Int), .int .i64 (m : Int)] 114)).drew := ((((Kept.refl _ w).setCell (by simp) _).alloc _).alloc _).drew
  have f2 : At (((w.setCell ⟨g, 0, none⟩ (.int .i64 (m : Int))).alloc (.cells #[.int .i64 0, .int .i64 0] 114)).alloc (.cells #[.int .i64 (x : Int), .int .i64 (m : Int)] 114)).drew g 114 (cur.set 0 (.int .i64 (m : Int))) := (HA.out.setCell (.int .i64 (m : Int))).kept (S := []) ((((Kept.refl _ _).alloc _).alloc _).drew) (by simp)
  have f3 : At (((w.setCell ⟨g, 0, none⟩ (.int .i64 (m : Int))).alloc (.cells #[.int .i64 0, .int .i64 0] 114)).alloc (.cells #[.int .i64 (x : Int), .int .i64 (m : Int)] 114)).drew w.heap.size 114 [.int .i64 0, .int .i64 0] := by
    have h0 : At ((w.setCell ⟨g, 0, none⟩ (.int .i64 (m : Int))).alloc (.cells #[.int .i64 0, .int .i64 0] 114)) w.heap.size 114 [.int .i64 0, .int .i64 0] := by
      have := at_alloc (w.setCell ⟨g, 0, none⟩ (.int .i64 (m : Int))) 114 [.int .i64 0, .int .i64 0]
      rwa [World.size_setCell] at this
    exact h0.kept (S := []) (((Kept.refl _ _).alloc _).drew) (by simp)
  have f4 : At (((w.setCell ⟨g, 0, none⟩ (.int .i64 (m : Int))).alloc (.cells #[.int .i64 0, .int .i64 0] 114)).alloc (.cells #[.int .i64 (x : Int), .int .i64 (m : Int)] 114)).drew (w.heap.size + 1) 114 [.int .i64 (x : Int), .int .i64 (m : Int)] := by
    have := at_alloc ((w.setCell ⟨g, 0, none⟩ (.int .i64 (m : Int))).alloc (.cells #[.int .i64 0, .int .i64 0] 114)) 114 [.int .i64 (x : Int), .int .i64 (m : Int)]
    rw [World.size_alloc, World.size_setCell] at this
    exact this
  generalize (((w.setCell ⟨g, 0, none⟩ (.int .i64 (m : Int))).alloc (.cells #[.int .i64 0, .int .i64 0] 114)).alloc (.cells #[.int .i64 (x : Int), .int .i64 (m : Int)] 114)).drew = W at *
  have hcn : 0 < cur.length := by
    have := HN.out
    simp only [List.length_cons] at hn
    rw [hcl]
    omega
  have d0 : W.cell? ⟨g, 0, none⟩ = some (.int .i64 (m : Int)) := by
    rw [f2.cell]
    simp [hcn]
  have d1 : W.cell? ⟨g, 1, none⟩ = some (.int .i64 (y : Int)) := by
    rw [f2.cell, List.getElem?_set_ne (by omega), ← HA.out.cell]
    exact c1
  have hbg : b ∉ [g] := by simpa using fun e => hgb e.symm
  have dp := keptCellQ f1 hp hbg
  have dfp := keptFree f1 hfp hbl hbg
  have x0 : W.cell? ⟨w.heap.size + 1, 0, none⟩ = some (.int .i64 (x : Int)) := f4.cell 0
  have x1 : W.cell? ⟨w.heap.size + 1, 1, none⟩ = some (.int .i64 (m : Int)) := f4.cell 1
  have z0 : W.cell? ⟨w.heap.size, 0, none⟩ = some (.int .i64 0) := f3.cell 0
  have z1 : W.cell? ⟨w.heap.size, 1, none⟩ = some (.int .i64 0) := f3.cell 1
  have zf0 := f3.free 0
  have zf1 := f3.free 1
  have hown : W.ownsRow 0 114 2 (.slice (some ⟨g, 0, none⟩) n' c) n' (cellsSp ((m, y) :: r)) := by
    rw [HN.out]
    refine f2.row (by rw [cellsSp_len]; rfl) hn hc (by rw [List.length_set, hcl]) ?_
    rw [List.take_set, hct]
    rfl
  have hszW : w.heap.size + 1 < W.heap.size := f4.lt
  have F1 := hid f1
  have F2 := hid f2
  have F3 := hid f3
  have hrl : n' - 1 = r.length := by rw [HN.out]; rfl
  by_cases hle : y ≤ x + size
  · have emy : m = y := by rw [EM.out]; omega
    have hdel := (deleteSp_any (w := W.drew) hown (cellsSp_one _) (show 1 ≤ n' by omega))
    have hOw := hid hown
    have E2 := hid (show lr = r by rw [ELR.out, if_pos hle])
    subst emy
    have hF : ∀ w1, Kept (Value.slice (some ⟨g, 0, none⟩) n' c).ownBlock.toList W.drew w1 → w1.cell? ⟨b, o, none⟩ = some (.slice (some ⟨g, 0, none⟩) n' c) ∧ w1.frozen? ⟨b, o, none⟩ = false ∧ w1.cell? ⟨w.heap.size + 1, 0, none⟩ = some (.int .i64 (x : Int)) ∧ w1.cell? ⟨w.heap.size + 1, 1, none⟩ = some (.int .i64 (m : Int)) ∧ w1.cell? ⟨w.heap.size, 0, none⟩ = some (.int .i64 0) ∧ w1.cell? ⟨w.heap.size, 1, none⟩ = some (.int .i64 0) ∧ w1.frozen? ⟨w.heap.size, 0, none⟩ = false ∧ w1.frozen? ⟨w.heap.size, 1, none⟩ = false := fun w1 hk1 => by
      have hk1 : Kept [g] W.drew w1 := hk1
      have hN1 : w.heap.size + 1 ∉ [g] := by simp; omega
      have hN0 : w.heap.size ∉ [g] := by simp; omega
      exact ⟨keptCellQ hk1 dp hbg, keptFree hk1 dfp (Nat.lt_of_lt_of_le hbl f1.size) hbg, keptCellQ hk1 x0 hN1, keptCellQ hk1 x1 hN1, keptCellQ hk1 z0 hN0, keptCellQ hk1 z1 hN0, keptFree hk1 zf0 (show w.heap.size < W.heap.size by omega) hN0, keptFree hk1 zf1 (show w.heap.size < W.heap.size by omega) hN0⟩
    clear hown f1 f2 f3 f4 c0 c1 hm hcl hct hxl
    go_region
    go_upto_region 6 with (go_at_call 58; refine hdel.mono ?_; rintro e w1 ⟨rfl, ho1, hk1⟩; obtain ⟨dp1, dfp1, x01, x11, z01, z11, zf01, zf11⟩ := hF _ hk1)
    have G1 := hid ho1
    have G2 := hid hk1
    clear ho1 hk1
    have hbN : ¬ (b = w.heap.size) := by have : b < w.heap.size := hbl; omega
    have hbN' : ¬ (w.heap.size = b) := fun e => hbN e.symm
    have hsz1 : w.heap.size < w1.heap.size := Nat.lt_of_lt_of_le (show w.heap.size < W.drew.heap.size by show _ < W.heap.size; omega) G2.out.size
    have hZ : At w1 w.heap.size 114 [.int .i64 0, .int .i64 0] := At.kept (w := W.drew) F3.out G2.out (by simp [Value.ownBlock]; omega)
    go_wp2
    have hP : PtrPost w (w1.setCell ⟨b, o, none⟩ (.slice (some ⟨g, 0, none⟩) r.length c)) b o [g] (.slice (some ⟨g, 0, none⟩) r.length c) := PtrPost.store (F1.out.drew.trans G2.out) hbg
    have hO : OwnSp (w1.setCell ⟨b, o, none⟩ (.slice (some ⟨g, 0, none⟩) r.length c)) (.slice (some ⟨g, 0, none⟩) r.length c) r := by
      have h1 : OwnSp w1 (.slice (some ⟨g, 0, none⟩) r.length c) r := by
        have := G1.out
        rw [hrl, cellsSp_drop] at this
        exact this
      exact h1.kept (kept_setCell w1 b o _) (fun g' hg' => by simp [Value.ownBlock] at hg'; subst hg'; simpa using hgb)
    have hZ1 := hZ.setOther ⟨b, o, none⟩ (.slice (some ⟨g, 0, none⟩) r.length c) hbN'
    generalize w1.setCell ⟨b, o, none⟩ (.slice (some ⟨g, 0, none⟩) r.length c) = W2 at *
    have hZ2 : At ((W2.setCell ⟨w.heap.size, 0, none⟩ (.int .i64 (x : Int))).setCell ⟨w.heap.size, 1, none⟩ (.int .i64 (m : Int))) w.heap.size 114 [.int .i64 (x : Int), .int .i64 (m : Int)] := (hZ1.setCell (o := 0) (.int .i64 (x : Int))).setCell (o := 1) (.int .i64 (m : Int))
    have hkN : Kept [w.heap.size] W2 ((W2.setCell ⟨w.heap.size, 0, none⟩ (.int .i64 (x : Int))).setCell ⟨w.heap.size, 1, none⟩ (.int .i64 (m : Int))) := ((Kept.refl _ _).setCell (by simp) _).setCell (by simp) _
    refine bodyPost_ret (results_cell_row (p := 4) (ty := 114) (by kernel_rfl) _ _ w.heap.size 114 _ (0, 0) _ rfl hZ2 Try.underlying114 rfl (by kernel_rfl)) rfl ?_
    rw [E2.out]
    exact ⟨_, rfl, hP.later hkN hbl, hO.kept hkN (fun g' hg' => by simp [Value.ownBlock] at hg'; subst hg'; simp; omega), rfl⟩
  · have emy : m = x + size := by rw [EM.out]; omega
    have hlt : ¬ ((m : Int) = (y : Int)) := by omega
    have hOw := hid hown
    have e2 : lr = (x + size, y) :: r := by rw [ELR.out, if_neg hle]
    have hbN : ¬ (b = w.heap.size) := by have : b < w.heap.size := hbl; omega
    have hbN' : ¬ (w.heap.size = b) := fun e => hbN e.symm
    clear hown f1 f2 f3 f4 c0 c1 hm hcl hct hxl
    rw [← emy] at e2
    have E2 := hid e2
    clear e2 emy
    go_region
    go_wp2
    have hP : PtrPost w W b o [g] (.slice (some ⟨g, 0, none⟩) n' c) := PtrPost.same F1.out hbg hp
    have hO : OwnSp W (.slice (some ⟨g, 0, none⟩) n' c) ((m, y) :: r) := by
      have := hOw.out
      rw [HN.out] at this ⊢
      exact this
    have hZ1 : At W w.heap.size 114 [.int .i64 0, .int .i64 0] := F3.out
    have hZ2 : At ((W.setCell ⟨w.heap.size, 0, none⟩ (.int .i64 (x : Int))).setCell ⟨w.heap.size, 1, none⟩ (.int .i64 (m : Int))).drew w.heap.size 114 [.int .i64 (x : Int), .int .i64 (m : Int)] := (hZ1.setCell (o := 0) (.int .i64 (x : Int))).setCell (o := 1) (.int .i64 (m : Int))
    have hkN : Kept [w.heap.size] W ((W.setCell ⟨w.heap.size, 0, none⟩ (.int .i64 (x : Int))).setCell ⟨w.heap.size, 1, none⟩ (.int .i64 (m : Int))).drew := (((Kept.refl _ _).setCell (by simp) _).setCell (by simp) _).drew
    refine bodyPost_ret (results_cell_row (p := 4) (ty := 114) (by kernel_rfl) _ _ w.heap.size 114 _ (0, 0) _ rfl hZ2 Try.underlying114 rfl (by kernel_rfl)) rfl ?_
    rw [E2.out]
    exact ⟨_, rfl, hP.later hkN hbl, hO.kept hkN (fun g' hg' => by simp [Value.ownBlock] at hg'; subst hg'; simp; omega), rfl⟩
end Go.Proofs.Ytbjgfoiikhbonaf
namespace Go.Proofs.Ytbjgfoiikhbonaf
open Go.ChangeShapes Go.WideShapes Go.ChangeAt Go.RowKit
/-- Operation i waits for operation j. -/
def waitsFor (ops : Array Oper) (i j : Nat) : Bool := ((ops[i]?).map fun o => o.after.any fun e => e.on == j && Region.binds .any e).getD false
/-- Operation i waits for none behind it. -/
def laterNone (ops : Array Oper) (i : Nat) : Bool := ((ops[i]?).map fun o => o.after.all fun e => !Region.binds .any e || decide (e.on < i)).getD true
theorem ready_waits {ops : Array Oper} {listed : Array Bool} {i j : Nat} (h : i ∈ Region.ready .any ops listed) (hw : waitsFor ops i j = true) : listed.getD j false = true := by
  unfold Region.ready at h
  rw [List.mem_filter] at h
  obtain ⟨_, h⟩ := h
  unfold waitsFor at hw
  cases ho : ops[i]? with
  | none => rw [ho] at hw; simp at hw
  | some o =>
    rw [ho] at h hw
    simp only [Option.map_some, Option.getD_some, Bool.and_eq_true, Array.any_eq_true, Array.all_eq_true] at h hw
    obtain ⟨x, hx, he⟩ := hw
    have h2 := h.2 x hx
    simp only [beq_iff_eq, Bool.or_eq_true, Bool.not_eq_true'] at he h2
    rw [← he.1]
    rcases h2 with h2 | h2
    · rw [he.2] at h2; cases h2
    · exact h2
theorem ready_un {ops : Array Oper} {listed : Array Bool} {i : Nat} (h : i ∈ Region.ready .any ops listed) : i < ops.size ∧ listed.getD i true = false := by
  unfold Region.ready at h
  rw [List.mem_filter] at h
  simp only [List.mem_range, Bool.and_eq_true, Bool.not_eq_true'] at h
  exact ⟨h.1, h.2.1⟩
/-- The first that is not listed is ready. -/
theorem ready_first {ops : Array Oper} {listed : Array Bool} {i : Nat} (hi : i < ops.size) (hl : listed.getD i true = false) (hp : ∀ j, j < i → listed.getD j false = true) (ht : laterNone ops i = true) : i ∈ Region.ready .any ops listed := by
  unfold Region.ready
  rw [List.mem_filter]
  refine ⟨List.mem_range.2 hi, ?_⟩
  unfold laterNone at ht
  have ho : ops[i]? = some ops[i] := Array.getElem?_eq_getElem hi
  rw [ho] at ht ⊢
  simp only [Option.map_some, Option.getD_some, Array.all_eq_true, decide_eq_true_eq, Bool.and_eq_true, Bool.not_eq_true', Bool.or_eq_true] at ht ⊢
  exact ⟨hl, fun x hx => (ht x hx).imp id (hp _)⟩
theorem ready_done {ops : Array Oper} {listed : Array Bool} (h : ∀ i, i < ops.size → listed.getD i true = true) : Region.ready .any ops listed = [] := by
  unfold Region.ready
  rw [List.filter_eq_nil_iff]
  intro i hi
  rw [List.mem_range] at hi
  rw [h i hi]
  simp
theorem getD_set (L : Array Bool) (i j : Nat) (b : Bool) : (L.setIfInBounds i true).getD j b = if i = j ∧ j < L.size then true else L.getD j b := by
  simp only [Array.getD_eq_getD_getElem?, Array.getElem?_setIfInBounds]
  by_cases h : i = j
  · subst h
    by_cases h2 : i < L.size
    · simp [h2]
    · simp [h2]
  · simp [h]
theorem count_set (L : Array Bool) (i : Nat) (h : L.getD i true = false) : (L.setIfInBounds i true).toList.count false + 1 = L.toList.count false := by
  have hi : i < L.size := by
    rcases Nat.lt_or_ge i L.size with h' | h'
    · exact h'
    · rw [Array.getD_eq_getD_getElem?, Array.getElem?_eq_none h'] at h; cases h
  have he : L.toList[i]'(by simpa using hi) = false := by
    rw [Array.getD_eq_getD_getElem?, Array.getElem?_eq_getElem hi] at h
    simpa using h
  rw [Array.toList_setIfInBounds, List.count_set (by simpa using hi), he]
  have : 0 < L.toList.count false := List.count_pos_iff.2 (he ▸ List.getElem_mem _)
  show L.toList.count false - 1 + 0 + 1 = L.toList.count false
  omega
theorem least {p : Nat → Prop} : ∀ n, p n → ∃ m, p m ∧ ∀ j, j < m → ¬ p j := by
  intro n
  induction n using Nat.strongRecOn with
  | ind n ih =>
    intro hn
    by_cases h : ∃ j, j < n ∧ p j
    · obtain ⟨j, hj, hp⟩ := h
      exact ih j hj hp
    · exact ⟨n, hn, fun j hj hp => h ⟨j, hj, hp⟩⟩
end Go.Proofs.Ytbjgfoiikhbonaf
