import Derived.Test.YtdndeegpbjlibadGreatDoorK28
import Derived.Shelf.RegionOpen
namespace Go.Proofs.YtdndeegpbjlibadGreatDoor
open Go.ChangeShapes Go.WideShapes Go.ChangeAt Go.RowKit Go.Shelf

attribute [local go_sem] Oper.semAt_some

set_option maxRecDepth 100000 in
set_option maxHeartbeats 2000000 in
/-- 'orderOf(n)': the turn as a list. -/
theorem orderOf_any (n : Nat) (w : World) (hC : Col w) (hn : n ≤ 4096) :
    Calls Tryz.prog 58 #[.int .i64 n] w fun e w' => ∃ v, e = .returned v ∧ OwnI w' w.heap.size v (intsM (ordM n)) ∧ Below w.heap.size w w' := by
  obtain ⟨i0, hi, hz0, hz1, hz2⟩ := info_parts Tryz.info3
  refine (callsIn_wide (n := 3)).1 ?_
  refine callsIn_of_wp_marks Tryz.func58 rfl trivial ?_ rfl
  simp only [Tryz.ntmps58, List.size_toArray, List.length_cons, List.length_nil, Nat.reduceAdd, Nat.reduceSub, Array.replicate_succ, Array.replicate_zero, List.push_toArray, List.append_toArray, List.nil_append, List.cons_append]
  gi_wp2_with (first
    | (gi_at_make; refine wpListIn_make_own w rfl _ _ 23 rfl w.heap.size 3 i0 (.int .i64 0) 1 Tryz.underlying23 hi hz0 hz1 .i64 .i64 _ n rfl rfl rfl (by rw [hz2]; omega) (by unfold maxLen; omega) (Nat.le_refl _) ?_; intro w1 hown1 hg1)
    | (refine ⟨trivial, ?_⟩; gi_at_call 70; refine (turnI_in Fence.wide 2 trivial rfl n _).mono ?_; rintro e w' ⟨rfl, rfl⟩))
  have hgs := hg1.size
  have hlt1 := (hown1.lt w.heap.size rfl).2
  have bO := Boxed.new w1 23 (.slice (some ⟨w.heap.size, 0, none⟩) 0 n)
  have bN := Boxed.new (w1.alloc (.cells #[.slice (some ⟨w.heap.size, 0, none⟩) 0 n] 23)) 3 (.int .i64 n)
  rw [World.size_alloc] at bN
  have hB1 : Below w.heap.size w w1 := (Below.refl _ _).grown hg1 (Nat.le_refl _) (fun k e => by cases e)
  have hB0 : Below w.heap.size w ((w1.alloc (.cells #[.slice (some ⟨w.heap.size, 0, none⟩) 0 n] 23)).alloc (.cells #[.int .i64 n] 3)) := (hB1.alloc hgs _).alloc (by simp; omega) _
  refine wpIn_rangeFunc_ownG rfl (by decide) (gf := 75) (lb := #[.pointer (some ⟨w1.heap.size + 1, 0, none⟩)]) rfl trivial (enters_of Tryz.func75 (by kernel_rfl) rfl)
    (turn_stops Fence.wide 2 trivial rfl (by decide) (w1.heap.size + 1) n [w.heap.size, w1.heap.size] hn _ (hC.later hB0) (by simp; omega) bN.cell) KeptC.trans keptC_b (Below.refl _ _) (fun _ => rfl)
    (fun pre W => Boxed W w1.heap.size 23 (.slice (some ⟨w.heap.size, 0, none⟩) pre.length n) ∧ OwnI W w.heap.size (.slice (some ⟨w.heap.size, 0, none⟩) pre.length n) pre ∧ Below w.heap.size w W)
    (fun _ _ _ => False)
    ?own
    (fun _ _ _ _ _ hs _ _ => hs)
    ⟨bO.alloc _, World.ownsRow.alloc (World.ownsRow.alloc hown1 _) _, hB0⟩
    (fun x => { tmps := #[.int .i64 n, undef, .slice none 0 0, .pointer (some ⟨w1.heap.size, 0, none⟩), .int .i64 x, .int .i64 n, .slice (some ⟨w.heap.size, 0, none⟩) 0 n, .int .i64 n, .func (.func 75) #[] #[.pointer (some ⟨w1.heap.size + 1, 0, none⟩)], .int .i64 x, undef, undef, undef, undef, undef], defers := [] }) ?assign ?body ?done ?stop
  case own =>
    rintro pre X Y row ⟨hv, hr, hb⟩ hg hrow
    refine ⟨hv.kept hg (fun e' => ?_), World.ownsRow.kept hr hg (.inr fun e' => ?_), hb.grown hg hb.size (fun k e => by have := (hrow k e).1; simp at this; omega)⟩
    · obtain ⟨_, o, ho, hc⟩ := hrow _ e'.symm
      rw [show X.heap[w1.heap.size]? = _ from hv] at ho; cases ho; cases hc
    · have := (hrow _ (show row = some w.heap.size from e'.symm)).1
      simp at this
      omega
  case assign =>
    intro l x W K hK
    gi_wp2
    exact hK
  case body =>
    rintro l pre x W ⟨hv, hrow, hB⟩ hlt
    have hc := hv.cell
    have hszW := hB.size
    gi_wp2_with (gi_at_builtin; refine wpListIn_append_fits _ rfl _ _ 23 rfl w.heap.size 3 i0 1 Tryz.underlying23 hi hz1 w.heap.size pre.length n _ rfl (World.ownsRow.alloc hrow _) ⟨W.heap.size, 0, none⟩ 1 1 [.int .i64 x] rfl rfl (cell_one_new _ _ _) (by simp [Value.oneCell']) (by omega) ?_; intro w2 hown' hgrow; have hv2 := (hv.alloc (.cells #[.int .i64 x] 3)).kept hgrow (by simp; omega); have hc1 := hv2.cell; have hf1 := hv2.frozen)
    have hb2 : Below w.heap.size W (w2.setCell ⟨w1.heap.size, 0, none⟩ (.slice (some ⟨w.heap.size, 0, none⟩) (pre.length + 1) n)) := (((Below.refl w.heap.size W).alloc hszW _).grown hgrow (by simp; omega) (fun k e => by cases e; exact Nat.le_refl _)).setCell (p := ⟨w1.heap.size, 0, none⟩) hgs _
    refine ⟨(((KeepsOthers.alloc W _).trans (KeepsOthers.of_grownBy hgrow fun j o ej hj => ?_)).trans (KeepsOthers.setCell _ _ _)).from _, ((KeptC.alloc W _).trans (KeptC.of_grown hgrow (by simp))).trans (KeptC.setCell _ (by simp) _), ?_, ?_, hB.trans hb2⟩
    · cases ej
      rcases (World.ownsRow.alloc hrow (.cells #[.int .i64 x] 3)).2 with ⟨e, _⟩ | ⟨g, cap, cur, e, _, hgb, _⟩
      · cases e
      · cases e
        rw [hgb] at hj
        cases hj
        rfl
    · rw [List.length_append]
      exact hv2.set _
    · rw [List.length_append]
      refine OwnI.snoc (World.ownsRow.kept hown' (grownBy_setCell' w2 w1.heap.size _) (.inr (by simp [Value.ownBlock]; omega)))
  case done =>
    rintro D ys W hD rfl ⟨hv, hrow, hB⟩ hK
    have hc := hv.cell
    gi_wp2
    refine ⟨by simp, .inl ⟨_, _, rfl, run_takeDeferred hK, ?_⟩⟩
    exact ⟨_, results_tmp rfl _ _ _, .slice (some ⟨w.heap.size, 0, none⟩) (intsM (ordM n)).length n, rfl, ownsRow_putObj hrow _ hK rfl, hB.trans (belowK_b (w := w) (Nat.le_refl _) W D _ _ (by simp at hD; omega) hK rfl rfl)⟩
  case stop =>
    rintro D c pre W _ _ h _
    exact h.elim
end Go.Proofs.YtdndeegpbjlibadGreatDoor
