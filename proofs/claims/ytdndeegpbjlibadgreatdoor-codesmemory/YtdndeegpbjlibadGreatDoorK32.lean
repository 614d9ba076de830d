import Derived.Test.YtdndeegpbjlibadGreatDoorK30
import Derived.Test.YtdndeegpbjlibadGreatDoorK31
namespace Go.Proofs.YtdndeegpbjlibadGreatDoor
open Go.ChangeShapes Go.WideShapes Go.ChangeAt Go.RowKit Go.Shelf

/-! WHAT IS PICKED. -/

attribute [local go_sem] Oper.semAt_some

theorem cellsKept {X Y : World} {row : Option Nat} {B k : Nat} {cs : Array Value} {t : TypeId} {fr : Nat × Nat} (h : X.heap[k]? = some (.cells cs t fr)) (hg : X.grownBy Y row) (hrow : ∀ r, row = some r → B ≤ r ∧ ∃ o : Obj, X.heap[r]? = some o ∧ o.isCells = false) : Y.heap[k]? = some (.cells cs t fr) :=
  (hg.block k (Array.getElem?_eq_some_iff.1 h).1 (fun e => by obtain ⟨_, o, ho, hc⟩ := hrow k e.symm; rw [h] at ho; cases ho; cases hc)).trans h

theorem keeps_drew (W : World) : KeepsOthers W W.drew := ⟨Nat.le_refl _, fun _ _ h _ => h⟩
theorem boxed_other {W : World} {B : Nat} {t : TypeId} {v : Value} (h : Boxed W B t v) {p : Addr} (hne : B ≠ p.block) (u : Value) : Boxed (W.setCell p u).drew B t v := (Below.heap_setCell W p u B hne).trans h

set_option maxRecDepth 100000 in
set_option maxHeartbeats 2000000 in
/-- 'Pick' where nothing is refused. -/
theorem pick_good (cs : List Int) (a : Option Addr) (n c v k : Nat) (w : World) (hC : Col w) (ha : Rd .u8 w a cs) (hl : cs.length = n) (h1 : 1 ≤ n) (hn : n ≤ 4096) (he : errOf cs = 0) (hv : v ≤ 3) (hk : k ≤ 4096) :
    Calls Tryz.prog 15 #[.slice a n c, .int .i64 v, .int .i64 k] w fun e w' => ∃ a' c', e = .returned (.tuple #[.slice a' k c', .int .i64 0]) ∧ Below w.heap.size w w' ∧ Own w' w.heap.size (.slice a' k c') (pickedM cs v k) := by
  have hB0 : Below w.heap.size w (w.alloc (.cells #[.slice a n c] 22)) := (Below.refl _ w).alloc (Nat.le_refl _) _
  have hck := check_any cs a c (w.alloc (.cells #[.slice a n c] 22)) (ha.below hB0) (by unfold maxLen; omega)
  rw [hl, he] at hck
  have hcz : sizeErrM (n : Int) = 0 := by unfold sizeErrM; rw [show sizeOk (n : Int) = true from decide_eq_true (by omega)]; rfl
  have hcv : verErr (v : Int) = 0 := by unfold verErr; rw [show verOk (v : Int) = true from decide_eq_true (by omega)]; rfl
  have hsz := checkSize_any (n : Int) (w.alloc (.cells #[.slice a n c] 22))
  have hvr := checkVersion_any (v : Int) (w.alloc (.cells #[.slice a n c] 22))
  rw [hcz] at hsz
  rw [hcv] at hvr
  have HL := hid hl
  have dk0 : decide ((k : Int) < 0) = false := decide_eq_false (by omega)
  have dk1 : decide (4096 < (k : Int)) = false := decide_eq_false (by omega)
  clear hcz hcv he hl
  refine (callsIn_wide (n := 3)).1 ?_
  refine callsIn_of_wp_marks Tryz.func15 rfl trivial ?_ rfl
  simp only [Tryz.ntmps15, List.size_toArray, List.length_cons, List.length_nil, Nat.reduceAdd, Nat.reduceSub, Array.replicate_succ, Array.replicate_zero, List.push_toArray, List.append_toArray, List.nil_append, List.cons_append]
  gi_wp2_with (first
    | (refine ⟨trivial, ?_⟩; gi_at_call 28; refine (callsIn_wide.2 hck).mono ?_; rintro e w' ⟨rfl, rfl⟩)
    | (refine ⟨trivial, ?_⟩; gi_at_call 37; refine (callsIn_wide.2 hsz).mono ?_; rintro e w' ⟨rfl, rfl⟩)
    | (refine ⟨trivial, ?_⟩; gi_at_call 38; refine (callsIn_wide.2 hvr).mono ?_; rintro e w' ⟨rfl, rfl⟩)
    | (gi_at_make; refine wpListIn_makeBytes k rfl _ _ rfl _ _ rfl rfl rfl rfl (by omega) ?_; intro w2 hown2 hb2 hlt2; have bC : Boxed w2 w.heap.size 22 (.slice a n c) := (hb2.block w.heap.size (by simp)).trans (Boxed.new w 22 (.slice a n c)); simp only [World.size_alloc] at hown2 hb2 hlt2; have q2 := (bC.alloc (.cells #[.slice (some ⟨w.heap.size + 1, 0, none⟩) k k] 22)).cell)
    | (refine ⟨trivial, ?_⟩; gi_at_call 39; refine (round_in 2 n v k _).mono ?_; rintro e w' ⟨rfl, rfl⟩))
  clear hck hsz hvr q2 dk0 dk1
  obtain ⟨har2, -, -⟩ := hown2.arr
  have bP := Boxed.new w2 22 (.slice (some ⟨w.heap.size + 1, 0, none⟩) k k)
  obtain ⟨w3, ew3⟩ : ∃ w3, w3 = w2.alloc (.cells #[.slice (some ⟨w.heap.size + 1, 0, none⟩) k k] 22) := ⟨_, rfl⟩
  have hs3 : w3.heap.size = w2.heap.size + 1 := by rw [ew3]; simp
  have bC3 : Boxed w3 w.heap.size 22 (.slice a n c) := by rw [ew3]; exact bC.alloc _
  have har3 : ArrAt .u8 5 w3 (w.heap.size + 1) (List.replicate k 0) := by rw [ew3]; exact har2.alloc _
  have hb3 : Below w.heap.size w w3 := by rw [ew3]; exact (hB0.trans (hb2.mono (by omega))).alloc (by omega) _
  rw [← ew3] at bP
  rw [← ew3, ← hs3]
  obtain ⟨w4, ew4⟩ : ∃ w4, w4 = ((w3.alloc (.cells #[.int .i64 n] 3)).alloc (.cells #[.int .i64 v] 3)).alloc (.cells #[.int .i64 k] 3) := ⟨_, rfl⟩
  have b1 : Boxed w4 w3.heap.size 3 (.int .i64 n) := by rw [ew4]; exact ((Boxed.new w3 _ _).alloc _).alloc _
  have b2 : Boxed w4 (w3.heap.size + 1) 3 (.int .i64 v) := by rw [ew4]; have := (Boxed.new (w3.alloc (.cells #[.int .i64 n] 3)) 3 (.int .i64 v)).alloc (.cells #[.int .i64 k] 3); rwa [World.size_alloc] at this
  have b3 : Boxed w4 (w3.heap.size + 2) 3 (.int .i64 k) := by rw [ew4]; have := Boxed.new ((w3.alloc (.cells #[.int .i64 n] 3)).alloc (.cells #[.int .i64 v] 3)) 3 (.int .i64 k); rwa [World.size_alloc, World.size_alloc] at this
  have bC4 : Boxed w4 w.heap.size 22 (.slice a n c) := by rw [ew4]; exact ((bC3.alloc _).alloc _).alloc _
  have bP4 : Boxed w4 w2.heap.size 22 (.slice (some ⟨w.heap.size + 1, 0, none⟩) k k) := by rw [ew4]; exact ((bP.alloc _).alloc _).alloc _
  have har4 : ArrAt .u8 5 w4 (w.heap.size + 1) (List.replicate k 0) := by rw [ew4]; exact ((har3.alloc _).alloc _).alloc _
  have hb4 : Below w.heap.size w w4 := by rw [ew4]; exact ((hb3.alloc hb3.size _).alloc (by simp; have := hb3.size; omega) _).alloc (by simp; have := hb3.size; omega) _
  have hs4 : w4.heap.size = w3.heap.size + 3 := by rw [ew4]; simp
  rw [← ew4]
  clear ew3 ew4 bC bP har2 hown2 hb2 bC3 har3 hb3 hB0
  have HS3 := hid hs3
  have HS4 := hid hs4
  have hw2 : w2.heap.size < w3.heap.size := by omega
  have hw3 : w3.heap.size < w4.heap.size := by omega
  clear hs3 hs4
  refine wpIn_rangeFunc_ownG rfl (by decide) (gf := 57) (lb := #[.pointer (some ⟨w3.heap.size, 0, none⟩), .pointer (some ⟨w3.heap.size + 1, 0, none⟩), .pointer (some ⟨w3.heap.size + 2, 0, none⟩)]) rfl trivial (enters_of Tryz.func57 (by kernel_rfl) rfl)
    (round_stops n v k h1 hn hv hk w3.heap.size (w3.heap.size + 1) (w3.heap.size + 2) [w.heap.size + 1] w4 (hC.later hb4) b1.cell b2.cell b3.cell (by simp; omega) (by simp; omega)) KeptC.trans keptC_b (Below.refl _ _) (fun _ => rfl)
    (fun pre W => Boxed W w.heap.size 22 (.slice a n c) ∧ Boxed W w2.heap.size 22 (.slice (some ⟨w.heap.size + 1, 0, none⟩) k k) ∧ ArrAt .u8 5 W (w.heap.size + 1) (pickF n v cs (List.replicate k 0) (pre.map Fin.val)) ∧ Below w.heap.size w W)
    (fun _ _ _ => False)
    (fun pre X Y row hs hg hrow => ⟨cellsKept hs.1 hg hrow, cellsKept hs.2.1 hg hrow, cellsKept hs.2.2.1 hg hrow, hs.2.2.2.grown hg hs.2.2.2.size (fun j e => by have := (hrow j e).1; omega)⟩)
    (fun _ _ _ _ _ hs _ _ => hs)
    ⟨bC4, bP4, har4, hb4⟩
    (fun x => { tmps := #[.slice a n c, .int .i64 v, .int .i64 k, .pointer (some ⟨w.heap.size, 0, none⟩), undef, undef, .slice none 0 0, .int .i64 0, .int .i64 0, .int .i64 0, .int .i64 0, .pointer (some ⟨w2.heap.size, 0, none⟩), .int .i64 (x.val : Int), .int .i64 ((pickM n v x.val : Nat) : Int), .slice a n c, .int .i64 0, .int .i64 0, .bool false, undef, .slice a n c, .int .i64 n, .int .i64 0, .int .i64 0, .bool false, undef, .int .i64 v, .int .i64 0, .int .i64 0, .bool false, undef, .int .i64 k, .bool false, .bool false, .int .i64 k, .bool false, .bool false, .int .i64 k, .slice (some ⟨w.heap.size + 1, 0, none⟩) k k, .slice a n c, .int .i64 n, .int .i64 v, .int .i64 k, .func (.func 57) #[] #[.pointer (some ⟨w3.heap.size, 0, none⟩), .pointer (some ⟨w3.heap.size + 1, 0, none⟩), .pointer (some ⟨w3.heap.size + 2, 0, none⟩)], .int .i64 (x.val : Int), .int .i64 ((pickM n v x.val : Nat) : Int), undef, undef, undef, undef, undef, undef, undef, undef], defers := [] }) ?assign ?body ?done ?stop
  case assign =>
    intro l x W K hK
    unfold encR
    gi_wp2
    exact hK
  case body =>
    rintro l pre ⟨x, hx⟩ W ⟨bC, bP, har, hB⟩ hlt
    dsimp only
    have hpx := pickM_lt (n := n) (v := v) (i := x) h1
    obtain ⟨bx, ox, rfl, hcx⟩ := (ha.below hB).at (i := pickM n v x) (by rw [HL.out]; exact hpx)
    have g1 := hcx (pickM n v x) (by rw [HL.out]; exact hpx)
    have cC := bC.cell
    have cP := bP.cell
    have HF := hid ((pickF_length n v cs (pre.map Fin.val) (List.replicate k 0)).trans (List.length_replicate ..))
    have g2 := har.cell (j := x) (by rw [HF.out]; exact hx)
    have hfr := har.free x
    have HS := hid (pickF_snoc n v cs (List.replicate k 0) (pre.map Fin.val) x)
    obtain ⟨pk, epk⟩ : ∃ pk, pk = pickM n v x := ⟨_, rfl⟩
    rw [← epk] at hpx g1 HS
    obtain ⟨z, ez⟩ : ∃ z, z = cs.getD pk 0 := ⟨_, rfl⟩
    rw [← ez] at g1 HS
    rw [← epk]
    have hset := har.set x z
    rw [← HS.out] at hset
    have hsetX : ArrAt .u8 5 (W.setCell ⟨w.heap.size + 1, x, none⟩ (.int .u8 z)).drew (w.heap.size + 1) (pickF n v cs (List.replicate k 0) ((pre ++ [(⟨x, hx⟩ : Fin k)]).map Fin.val)) := by rw [List.map_append]; exact hset
    have hfin : KeepsFrom w4.heap.size W (W.setCell ⟨w.heap.size + 1, x, none⟩ (.int .u8 z)).drew ∧ KeptC [w.heap.size + 1] W (W.setCell ⟨w.heap.size + 1, x, none⟩ (.int .u8 z)).drew ∧ Boxed (W.setCell ⟨w.heap.size + 1, x, none⟩ (.int .u8 z)).drew w.heap.size 22 (.slice (some ⟨bx, ox, none⟩) n c) ∧ Boxed (W.setCell ⟨w.heap.size + 1, x, none⟩ (.int .u8 z)).drew w2.heap.size 22 (.slice (some ⟨w.heap.size + 1, 0, none⟩) k k) ∧ ArrAt .u8 5 (W.setCell ⟨w.heap.size + 1, x, none⟩ (.int .u8 z)).drew (w.heap.size + 1) (pickF n v cs (List.replicate k 0) ((pre ++ [(⟨x, hx⟩ : Fin k)]).map Fin.val)) ∧ Below w.heap.size w (W.setCell ⟨w.heap.size + 1, x, none⟩ (.int .u8 z)).drew :=
      ⟨((KeepsOthers.setCell _ _ _).trans (keeps_drew _)).from _, (KeptC.setCell _ (by simp) _).drew, boxed_other bC (by simp) _, boxed_other bP (by simp; omega) _, hsetX, (hB.setCell (p := ⟨w.heap.size + 1, x, none⟩) (by simp) _).drew⟩
    have hmix : Tryz.prog.follows .mixedOrders = true := by kernel_rfl
    clear hcx epk ez
    gi_wp2
    refine wpIn_mono (Q := fun e _ w' => e = .normal ∧ w' = (W.setCell ⟨w.heap.size + 1, x, none⟩ (.int .u8 z)).drew) ?_ ?_
    · clear hfin
      refine region_quiet 7 45 [.slice (some ⟨w.heap.size + 1, 0, none⟩) k k, .int .i64 (x : Int), .slice (some ⟨bx, ox, none⟩) n c, .int .i64 (pk : Int), .pointer (some ⟨bx, ox + pk, none⟩), .int .u8 z, .pointer (some ⟨w.heap.size + 1, 0 + x, none⟩)]
        [[], [], [], [], [2, 3], [4], [0, 1]] _ W hmix rfl (by simp) (by kernel_rfl) (by kernel_rfl) (by kernel_rfl) ?_ ?_
      · intro i hi ac hu hs K hK
        have hi7 : i = 0 ∨ i = 1 ∨ i = 2 ∨ i = 3 ∨ i = 4 ∨ i = 5 ∨ i = 6 := by omega
        rcases hi7 with rfl | rfl | rfl | rfl | rfl | rfl | rfl
        · exact opIn_value rfl rfl (fun c h => by cases h) rfl (run_loadSB _ rfl (hs 11 (by omega)) cP) hK
        · exact opIn_value rfl rfl (fun c h => by cases h) rfl (run_moveQ _ rfl (hs 12 (by omega))) hK
        · exact opIn_value rfl rfl (fun c h => by cases h) rfl (run_loadSB _ rfl (hs 3 (by omega)) cC) hK
        · exact opIn_value rfl rfl (fun c h => by cases h) rfl (run_moveQ _ rfl (hs 13 (by omega))) hK
        · exact opIn_value rfl rfl (fun c h => by cases h) rfl (run_idxB _ rfl (hu 2 (by decide)) (hu 3 (by decide)) hpx) hK
        · exact opIn_value rfl rfl (fun c h => by cases h) rfl (run_loadB _ rfl (hu 4 (by decide)) g1) hK
        · exact opIn_value rfl rfl (fun c h => by cases h) rfl (run_idxB _ rfl (hu 0 (by decide)) (hu 1 (by decide)) hx) hK
      · intro ac hu hs
        exact opIn_skip rfl rfl (fun c h => by cases h) rfl (run_storeB _ rfl (hu 6 (by decide)) (hu 5 (by decide)) (by rw [Nat.zero_add]; exact g2) (by rw [Nat.zero_add]; exact hfr)) ⟨rfl, by rw [Nat.zero_add]; rfl⟩
    · rintro e a' w' ⟨rfl, rfl⟩
      exact hfin
  case done =>
    rintro D ys W hD hys ⟨bC, bP, har, hB⟩ hK
    have cP := bP.cell
    have harD : ArrAt .u8 5 (W.putObj D (.deferred none)) (w.heap.size + 1) (pickedM cs v k) := by
      rw [hys, ← HL.out, pickF_all] at har
      exact cellsKept (B := 0) har (grownBy_putObj' W D (.deferred none)) (fun r e => by cases e; exact ⟨Nat.zero_le _, _, hK, rfl⟩)
    have hpl := pickedM_length cs v k
    gi_wp2
    refine ⟨by simp, .inl ⟨_, _, rfl, run_takeDeferred hK, ?_⟩⟩
    refine ⟨_, results_tmp2 rfl _ _ _, some ⟨w.heap.size + 1, 0, none⟩, k, rfl, hB.trans (belowK_b (w := w) (Nat.le_refl _) W D _ _ (by omega) hK rfl rfl), ?_⟩
    exact own_of_arr harD (by omega) hpl (by unfold maxLen; omega)
  case stop =>
    rintro D c pre W _ _ h _
    exact h.elim
end Go.Proofs.YtdndeegpbjlibadGreatDoor
