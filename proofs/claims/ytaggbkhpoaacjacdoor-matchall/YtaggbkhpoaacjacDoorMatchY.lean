import Derived.Test.YtaggbkhpoaacjacDoorMatchU
import Derived.Test.YtaggbkhpoaacjacDoorQuietL
namespace Go.Proofs.YtaggbkhpoaacjacDoor
open Go.ChangeShapes Go.WideShapes Go.ChangeAt Go.RowKit Go.Shelf

/-! 'Add' WHERE IT MAY BE TOLD. -/

attribute [local go_sem] Oper.semAt_some

theorem boxed_old {w w' : World} {B : Nat} {t : TypeId} {u : Value} (h : Boxed w B t u) (hb : Below w.heap.size w w') : Boxed w' B t u := (hb.block B h.lt).trans h

theorem kept_put {S : List Nat} {w W : World} (h : Kept S w W) {D : Nat} (hD : w.heap.size ≤ D) (o : Obj) : Kept S w (W.putObj D o) :=
  ⟨h.os, h.tape, h.output, by have := h.size; simp only [World.putObj, Array.size_setIfInBounds]; omega, fun i hi hn => (World.putObj_heap_other (by omega)).trans (h.block i hi hn)⟩

set_option maxRecDepth 100000 in
set_option maxHeartbeats 4000000 in
theorem add_good {w : World} {b g : Nat} {s : List Int} (a : Option Addr) (m n c v : Nat) (xs : List Int) (hC : Col w) (hne : b ≠ g) (hbx : Boxed w b 70 (.slice (some ⟨g, 0, none⟩) n n)) (hg : ArrAt .i64 3 w g s)
    (hsl : s.length = n) (h1 : 1 ≤ n) (hn : n ≤ 4096) (hs : softOk s = true) (ha : Rd .i64 w a xs) (hxs : softOk xs = true) (hxl : xs.length = m) (hm : m ≤ 4096) (hv : v ≤ 3) (G : List Int) (HG : Hid (gathF n v xs s (List.range m) = G)) :
    Calls Tryd.prog 23 #[.pointer (some ⟨b, 0, none⟩), .slice a m c, .int .i64 v] w fun e w' =>
      (softOk G = true → e = .returned (.int .i64 0) ∧ (∃ g', w.heap.size ≤ g' ∧ Boxed w' b 70 (.slice (some ⟨g', 0, none⟩) n n) ∧ ArrAt .i64 3 w' g' G) ∧ Kept [b, g] w w') ∧
      (softOk G = false → e = .returned (.int .i64 2) ∧ Below w.heap.size w w') := by
  have hB0 : Below w.heap.size w (w.alloc (.cells #[.slice a m c] 23)) := (Below.refl _ w).alloc (Nat.le_refl _) _
  have bS := Boxed.new w 23 (.slice a m c)
  have hck := csoft_any xs a c (w.alloc (.cells #[.slice a m c] 23)) (ha.below hB0) (by unfold maxLen; omega)
  rw [hxl, show softErr xs = 0 by unfold softErr; rw [hxs]; rfl] at hck
  have hvr := checkVersion_any (v : Int) (w.alloc (.cells #[.slice a m c] 23))
  rw [show verErr (v : Int) = 0 by unfold verErr; rw [show verOk (v : Int) = true from decide_eq_true (by omega)]; rfl] at hvr
  have hsg := soft_get (w := w.alloc (.cells #[.slice a m c] 23)) (p := ⟨b, 0, none⟩) (S := [b, g]) (s := s) ⟨b, g, rfl, rfl, hne, by rw [hsl]; exact boxed_old hbx hB0, hg.below hB0 hg.lt⟩ (by omega) (by omega)
  rw [hsl] at hsg
  have d2 : decide ((4096 : Int) < (m : Int)) = false := decide_eq_false (by omega)
  have HXL := hid hxl
  have HSL := hid hsl
  have cS := bS.cell
  clear hxl hsl
  refine (callsIn_wide (n := 3)).1 ?_
  refine callsIn_of_wp_marks Tryd.func23 rfl trivial ?_ rfl
  simp only [Tryd.ntmps23, List.size_toArray, List.length_cons, List.length_nil, Nat.reduceAdd, Nat.reduceSub, Array.replicate_succ, Array.replicate_zero, List.push_toArray, List.append_toArray, List.nil_append, List.cons_append]
  gi_wp2_with (first
    | (refine ⟨trivial, ?_⟩; gi_at_call 29; refine (callsIn_wide.2 hck).mono ?_; rintro e w' ⟨rfl, rfl⟩)
    | (refine ⟨trivial, ?_⟩; gi_at_call 33; refine (callsIn_wide.2 hvr).mono ?_; rintro e w' ⟨rfl, rfl⟩)
    | (refine ⟨trivial, ?_⟩; gi_at_call 24; refine (callsIn_wide.2 hsg).mono ?_; rintro e w2 ⟨g', rfl, har2, hg', hb2⟩; have bS2 := boxed_old bS hb2; have cS2 := (bS2.alloc (.cells #[.slice (some ⟨g', 0, none⟩) n n] 23)).cell)
    | (refine ⟨trivial, ?_⟩; gi_at_call 35; refine (round_in 2 n v m _).mono ?_; rintro e w' ⟨rfl, rfl⟩))
  have hz2 : w.heap.size + 1 ≤ w2.heap.size := by have := hb2.size; rwa [World.size_alloc] at this
  have hg1 : w.heap.size + 1 ≤ g' := by rwa [World.size_alloc] at hg'
  have hgl := har2.lt
  have hbw2 : Below w.heap.size w w2 := hB0.trans (hb2.mono (by simp))
  have bP := Boxed.new w2 23 (.slice (some ⟨g', 0, none⟩) n n)
  obtain ⟨w3, ew3⟩ : ∃ w3, w3 = w2.alloc (.cells #[.slice (some ⟨g', 0, none⟩) n n] 23) := ⟨_, rfl⟩
  have hs3 : w3.heap.size = w2.heap.size + 1 := by rw [ew3]; simp
  have bS3 : Boxed w3 w.heap.size 23 (.slice a m c) := by rw [ew3]; exact bS2.alloc _
  have har3 : ArrAt .i64 3 w3 g' s := by rw [ew3]; exact har2.alloc _
  have hb3 : Below w.heap.size w w3 := by rw [ew3]; exact hbw2.alloc (by omega) _
  rw [← ew3] at bP
  rw [← ew3, ← hs3]
  obtain ⟨w4, ew4⟩ : ∃ w4, w4 = ((w3.alloc (.cells #[.int .i64 n] 3)).alloc (.cells #[.int .i64 v] 3)).alloc (.cells #[.int .i64 m] 3) := ⟨_, rfl⟩
  have b1 : Boxed w4 w3.heap.size 3 (.int .i64 n) := by rw [ew4]; exact ((Boxed.new w3 _ _).alloc _).alloc _
  have b2 : Boxed w4 (w3.heap.size + 1) 3 (.int .i64 v) := by rw [ew4]; have := (Boxed.new (w3.alloc (.cells #[.int .i64 n] 3)) 3 (.int .i64 v)).alloc (.cells #[.int .i64 m] 3); rwa [World.size_alloc] at this
  have b3 : Boxed w4 (w3.heap.size + 2) 3 (.int .i64 m) := by rw [ew4]; have := Boxed.new ((w3.alloc (.cells #[.int .i64 n] 3)).alloc (.cells #[.int .i64 v] 3)) 3 (.int .i64 m); rwa [World.size_alloc, World.size_alloc] at this
  have bS4 : Boxed w4 w.heap.size 23 (.slice a m c) := by rw [ew4]; exact ((bS3.alloc _).alloc _).alloc _
  have bP4 : Boxed w4 w2.heap.size 23 (.slice (some ⟨g', 0, none⟩) n n) := by rw [ew4]; exact ((bP.alloc _).alloc _).alloc _
  have har4 : ArrAt .i64 3 w4 g' s := by rw [ew4]; exact ((har3.alloc _).alloc _).alloc _
  have hb4 : Below w.heap.size w w4 := by rw [ew4]; exact ((hb3.alloc hb3.size _).alloc (by simp; have := hb3.size; omega) _).alloc (by simp; have := hb3.size; omega) _
  have hs4 : w4.heap.size = w3.heap.size + 3 := by rw [ew4]; simp
  rw [← ew4]
  have HS3 := hid hs3
  have HS4 := hid hs4
  have hw2 : w2.heap.size < w3.heap.size := by omega
  have hw3 : w3.heap.size < w4.heap.size := by omega
  clear hs3 hs4 ew3 ew4 bS2 bP har2 hb2 bS3 har3 hb3 hB0 cS2 cS bS hck hvr hsg d2 hbw2
  refine wpIn_rangeFunc_ownG rfl (by decide) (gf := 43) (lb := #[.pointer (some ⟨w3.heap.size, 0, none⟩), .pointer (some ⟨w3.heap.size + 1, 0, none⟩), .pointer (some ⟨w3.heap.size + 2, 0, none⟩)]) rfl trivial (enters_of Tryd.func43 (by kernel_rfl) rfl)
    (round_stops n v m h1 hn hv hm w3.heap.size (w3.heap.size + 1) (w3.heap.size + 2) [g'] w4 (hC.later hb4) b1.cell b2.cell b3.cell (by simp; omega) (by simp; omega)) KeptC.trans keptC_b (Below.refl _ _) (fun _ => rfl)
    (fun pre W => Boxed W w.heap.size 23 (.slice a m c) ∧ Boxed W w2.heap.size 23 (.slice (some ⟨g', 0, none⟩) n n) ∧ ArrAt .i64 3 W g' (gathF n v xs s (pre.map Fin.val)) ∧ Below w.heap.size w W)
    (fun _ _ _ => False)
    (fun pre X Y row hs hg hrow => ⟨cellsKept hs.1 hg hrow, cellsKept hs.2.1 hg hrow, cellsKept hs.2.2.1 hg hrow, hs.2.2.2.grown hg hs.2.2.2.size (fun j e => by have := (hrow j e).1; omega)⟩)
    (fun _ _ _ _ _ hs _ _ => hs)
    ⟨bS4, bP4, har4, hb4⟩
    (fun x => { tmps := #[.pointer (some ⟨b, 0, none⟩), .slice a m c, .int .i64 v, undef, .pointer (some ⟨w.heap.size, 0, none⟩), undef, .int .i64 0, .int .i64 0, .int .i64 0, .pointer (some ⟨w2.heap.size, 0, none⟩), .int .i64 (x.val : Int), .int .i64 ((pickM n v x.val : Nat) : Int), .slice a m c, .int .i64 0, .int .i64 0, .bool false, undef, .slice a m c, .int .i64 m, .bool false, .int .i64 v, .int .i64 0, .int .i64 0, .bool false, undef, .pointer (some ⟨b, 0, none⟩), .slice (some ⟨g', 0, none⟩) n n, .slice (some ⟨g', 0, none⟩) n n, .int .i64 n, .int .i64 v, .slice a m c, .int .i64 m, .func (.func 43) #[] #[.pointer (some ⟨w3.heap.size, 0, none⟩), .pointer (some ⟨w3.heap.size + 1, 0, none⟩), .pointer (some ⟨w3.heap.size + 2, 0, none⟩)], .int .i64 (x.val : Int), .int .i64 ((pickM n v x.val : Nat) : Int), undef, undef, undef, undef, undef, undef, undef, undef, undef, undef, undef, undef, undef, undef, undef, undef, undef], defers := [] }) ?assign ?body ?done ?stop
  case assign =>
    intro l x W K hK
    unfold encR
    gi_wp2
    exact hK
  case body =>
    rintro l pre ⟨x, hx⟩ W ⟨bS, bP, har, hB⟩ hlt
    dsimp only
    have hpx := pickM_lt (n := n) (v := v) (i := x) h1
    obtain ⟨bx, ox, rfl, hcx⟩ := (ha.below hB).at (i := x) (by rw [HXL.out]; exact hx)
    have g1 := hcx x (by rw [HXL.out]; exact hx)
    have cC := bS.cell
    have cP := bP.cell
    have HF := hid ((gathF_length n v xs (pre.map Fin.val) s).trans HSL.out)
    have g2 := har.cell (j := pickM n v x) (by rw [HF.out]; exact hpx)
    have hfr := har.free (pickM n v x)
    have HS := hid (gathF_snoc n v xs s (pre.map Fin.val) x)
    have hyb := gathF_bd n v hs hxs (pre.map Fin.val) (pickM n v x)
    rw [List.length_map] at hyb
    have hzb := soft_at hxs x
    obtain ⟨pk, epk⟩ : ∃ pk, pk = pickM n v x := ⟨_, rfl⟩
    rw [← epk] at hpx g2 HS hfr hyb
    obtain ⟨z, ez⟩ : ∃ z, z = xs.getD x 0 := ⟨_, rfl⟩
    rw [← ez] at g1 HS hzb
    obtain ⟨y, ey⟩ : ∃ y, y = (gathF n v xs s (pre.map Fin.val)).getD pk 0 := ⟨_, rfl⟩
    rw [← ey] at g2 HS hyb
    have hyb' : -409700000 ≤ y ∧ y ≤ 409700000 := by omega
    rw [← epk]
    have hset := har.set pk (y + z)
    rw [← HS.out] at hset
    have hsetX : ArrAt .i64 3 (W.setCell ⟨g', pk, none⟩ (.int .i64 (y + z))).drew g' (gathF n v xs s ((pre ++ [(⟨x, hx⟩ : Fin m)]).map Fin.val)) := by rw [List.map_append]; exact hset
    have hfin : KeepsFrom w4.heap.size W (W.setCell ⟨g', pk, none⟩ (.int .i64 (y + z))).drew ∧ KeptC [g'] W (W.setCell ⟨g', pk, none⟩ (.int .i64 (y + z))).drew ∧ Boxed (W.setCell ⟨g', pk, none⟩ (.int .i64 (y + z))).drew w.heap.size 23 (.slice (some ⟨bx, ox, none⟩) m c) ∧ Boxed (W.setCell ⟨g', pk, none⟩ (.int .i64 (y + z))).drew w2.heap.size 23 (.slice (some ⟨g', 0, none⟩) n n) ∧ ArrAt .i64 3 (W.setCell ⟨g', pk, none⟩ (.int .i64 (y + z))).drew g' (gathF n v xs s ((pre ++ [(⟨x, hx⟩ : Fin m)]).map Fin.val)) ∧ Below w.heap.size w (W.setCell ⟨g', pk, none⟩ (.int .i64 (y + z))).drew :=
      ⟨((KeepsOthers.setCell _ _ _).trans (keeps_drew _)).from _, (KeptC.setCell _ (by simp) _).drew, boxed_other bS (by simp; omega) _, boxed_other bP (by simp; omega) _, hsetX, (hB.setCell (p := ⟨g', pk, none⟩) (by simp; omega) _).drew⟩
    have hmix : Tryd.prog.follows .mixedOrders = true := by kernel_rfl
    clear hcx epk ez ey hset hsetX HS har HF hyb bS bP hB hlt bS4 bP4 har4 hb4 ha
    gi_wp2
    refine wpIn_mono (Q := fun e _ w' => e = .normal ∧ w' = (W.setCell ⟨g', pk, none⟩ (.int .i64 (y + z))).drew) ?_ ?_
    · clear hfin
      have hwr : IntKind.i64.wrap (y + z) = y + z := by rw [IntKind.wrap_i64]; omega
      refine region_quiet 10 35 [.slice (some ⟨g', 0, none⟩) n n, .int .i64 (pk : Int), .pointer (some ⟨g', 0 + pk, none⟩), .int .i64 y, .slice (some ⟨bx, ox, none⟩) m c, .int .i64 (x : Int), .pointer (some ⟨bx, ox + x, none⟩), .int .i64 z, .int .i64 (y + z), .pointer (some ⟨g', 0 + pk, none⟩)]
        [[], [], [0, 1], [2], [], [], [4, 5], [6], [3, 7], [0, 1]] _ W hmix rfl (by simp) (by kernel_rfl) (by kernel_rfl) (by kernel_rfl) ?_ ?_
      · intro i hi ac hu hs K hK
        have hi10 : i = 0 ∨ i = 1 ∨ i = 2 ∨ i = 3 ∨ i = 4 ∨ i = 5 ∨ i = 6 ∨ i = 7 ∨ i = 8 ∨ i = 9 := by omega
        rcases hi10 with rfl | rfl | rfl | rfl | rfl | rfl | rfl | rfl | rfl | rfl
        · exact opIn_value rfl rfl (fun c h => by cases h) rfl (run_loadSI _ rfl (hs 9 (by omega)) cP) hK
        · exact opIn_value rfl rfl (fun c h => by cases h) rfl (run_moveQ _ rfl (hs 11 (by omega))) hK
        · exact opIn_value rfl rfl (fun c h => by cases h) rfl (run_idxI _ rfl (hu 0 (by decide)) (hu 1 (by decide)) hpx) hK
        · exact opIn_value rfl rfl (fun c h => by cases h) rfl (run_loadI _ rfl (hu 2 (by decide)) (by rw [Nat.zero_add]; exact g2)) hK
        · exact opIn_value rfl rfl (fun c h => by cases h) rfl (run_loadSI _ rfl (hs 4 (by omega)) cC) hK
        · exact opIn_value rfl rfl (fun c h => by cases h) rfl (run_moveQ _ rfl (hs 10 (by omega))) hK
        · exact opIn_value rfl rfl (fun c h => by cases h) rfl (run_idxI _ rfl (hu 4 (by decide)) (hu 5 (by decide)) hx) hK
        · exact opIn_value rfl rfl (fun c h => by cases h) rfl (run_loadI _ rfl (hu 6 (by decide)) g1) hK
        · exact opIn_value rfl rfl (fun c h => by cases h) rfl (run_addI _ rfl (hu 3 (by decide)) (hu 7 (by decide)) hwr) hK
        · exact opIn_value rfl rfl (fun c h => by cases h) rfl (run_idxI _ rfl (hu 0 (by decide)) (hu 1 (by decide)) hpx) hK
      · intro ac hu hs
        exact opIn_skip rfl rfl (fun c h => by cases h) rfl (run_storeI _ rfl (hu 9 (by decide)) (hu 8 (by decide)) (by rw [Nat.zero_add]; exact g2) (by rw [Nat.zero_add]; exact hfr)) ⟨rfl, by rw [Nat.zero_add]; rfl⟩
    · rintro e a' w' ⟨rfl, rfl⟩
      exact hfin
  case done =>
    rintro D ys W hD hys ⟨bS, bP, har, hB⟩ hK
    rw [hys, HG.out] at har
    have cP := bP.cell
    have hgl' := har.lt
    have hGL := hid ((congrArg List.length HG.out).symm.trans ((gathF_length n v xs (List.range m) s).trans HSL.out))
    have hcs := csoft_any G (some ⟨g', 0, none⟩) n W (ArrAt.rd (A := []) (Z := []) (by simpa using har) rfl) (by rw [hGL.out]; unfold maxLen; omega)
    rw [hGL.out] at hcs
    have hbW := boxed_old hbx hB
    have cB := hbW.cell
    have fB := hbW.frozen
    have hbl := hbx.lt
    clear bS4 bP4 har4 hb4 b1 b2 b3
    cases hsg : softOk G with
    | true =>
      rw [show softErr G = 0 by unfold softErr; rw [hsg]; rfl] at hcs
      have HSG := hid hsg
      clear hsg
      gi_wp2_with (first | (refine ⟨trivial, ?_⟩; gi_at_call 29; refine (callsIn_wide.2 hcs).mono ?_; rintro e w' ⟨rfl, rfl⟩))
      have hK5 : (W.setCell ⟨b, 0, none⟩ (.slice (some ⟨g', 0, none⟩) n n)).heap[D]? = some (.deferred (some [])) := (KeepsOthers.setCell W _ _).same D _ hK rfl
      have hrow : ∀ r, some D = some r → 0 ≤ r ∧ ∃ o : Obj, (W.setCell ⟨b, 0, none⟩ (.slice (some ⟨g', 0, none⟩) n n)).heap[r]? = some o ∧ o.isCells = false := fun r e => by cases e; exact ⟨Nat.zero_le _, _, hK5, rfl⟩
      refine ⟨by simp, .inl ⟨_, _, rfl, run_takeDeferred hK5, ?_⟩⟩
      exact ⟨_, results_tmp rfl _ _ _, fun _ => ⟨rfl, ⟨g', by omega, cellsKept (hbW.set _) (grownBy_putObj' _ D (.deferred none)) hrow, cellsKept (har.other ⟨b, 0, none⟩ _ (by simp; omega)) (grownBy_putObj' _ D (.deferred none)) hrow⟩, kept_put ((Kept.of_below hB).setCell (p := ⟨b, 0, none⟩) (by simp) _) (by omega) _⟩, fun h => by rw [HSG.out] at h; cases h⟩
    | false =>
      rw [show softErr G = 1 by unfold softErr; rw [hsg]; rfl] at hcs
      have HSG := hid hsg
      clear hsg
      gi_wp2_with (first | (refine ⟨trivial, ?_⟩; gi_at_call 29; refine (callsIn_wide.2 hcs).mono ?_; rintro e w' ⟨rfl, rfl⟩))
      refine ⟨by simp, .inl ⟨_, _, rfl, run_takeDeferred hK, ?_⟩⟩
      exact ⟨_, results_tmp rfl _ _ _, fun h => (by rw [HSG.out] at h; cases h), fun _ => ⟨rfl, hB.trans (belowK_b (w := w) (Nat.le_refl _) W D _ _ (by omega) hK rfl rfl)⟩⟩
  case stop =>
    rintro D c pre W _ _ h _
    exact h.elim

theorem add_any {w : World} {p : Addr} {S : List Nat} {s : List Int} (a : Option Addr) (c : Nat) (xs : List Int) (v : Int) (hC : Col w) (hB : BufP w p S s) (h1 : 1 ≤ s.length) (hn : s.length ≤ 4096) (hs : softOk s = true) (ha : Rd .i64 w a xs) (hz : xs.length ≤ maxLen) :
    Calls Tryd.prog 23 #[.pointer (some p), .slice a xs.length c, .int .i64 v] w fun e w' => ∃ S', e = .returned (.int .i64 (addErr s xs v)) ∧ BufP w' p S' (addM s xs v) ∧ (∀ x ∈ S', x ∈ S ∨ w.heap.size ≤ x) ∧ Kept S w w' := by
  cases ht : tellOk xs v with
  | false =>
    refine (add_bad a c xs v ha hz ht).mono fun e w' h => ?_
    obtain ⟨rfl, hb⟩ := h
    refine ⟨S, by unfold addErr; rw [ht]; rfl, ?_, fun x hx => .inl hx, Kept.of_below hb⟩
    have hM : addM s xs v = s := by unfold addM; rw [ht]; rfl
    rw [hM]
    exact hB.kept (Kept.of_below (S := []) hb) (fun x _ => by simp)
  | true =>
    obtain ⟨b, g, rfl, rfl, hne, hbx, hg⟩ := id hB
    obtain ⟨hxs, hx4, hvo⟩ : softOk xs = true ∧ xs.length ≤ 4096 ∧ verOk v = true := by
      have ht' := ht
      unfold tellOk at ht'
      simp at ht'
      exact ⟨ht'.1.1, ht'.1.2, ht'.2⟩
    obtain ⟨vn, rfl, hvn⟩ : ∃ vn : Nat, v = (vn : Int) ∧ vn ≤ 3 := by
      unfold verOk at hvo
      simp at hvo
      exact ⟨v.toNat, by omega, by omega⟩
    have hG : gathF s.length vn xs s (List.range xs.length) = nextM s xs (vn : Int) := gathF_range s.length vn xs s xs.length xs.length (Nat.le_refl _)
    refine (add_good a xs.length s.length c vn xs hC hne hbx hg rfl h1 hn hs ha hxs rfl hx4 hvn (nextM s xs (vn : Int)) hG).mono fun e w' h => ?_
    obtain ⟨hy, hno⟩ := h
    cases hsn : softOk (nextM s xs (vn : Int)) with
    | true =>
      obtain ⟨rfl, ⟨g', hg', hb', ha'⟩, hk⟩ := hy hsn
      have hM : addM s xs (vn : Int) = nextM s xs (vn : Int) := by unfold addM; rw [ht, hsn]; rfl
      refine ⟨[b, g'], by unfold addErr; rw [ht, hsn]; rfl, ?_, ?_, hk⟩
      · rw [hM]
        exact ⟨b, g', rfl, rfl, by have := hbx.lt; omega, by rw [nextM_length]; exact hb', ha'⟩
      · intro x hx
        simp at hx
        rcases hx with rfl | rfl
        · exact .inl (by simp)
        · exact .inr hg'
    | false =>
      obtain ⟨rfl, hb'⟩ := hno hsn
      have hM : addM s xs (vn : Int) = s := by unfold addM; rw [ht, hsn]; rfl
      refine ⟨[b, g], by unfold addErr; rw [ht, hsn]; rfl, ?_, fun x hx => .inl hx, Kept.of_below hb'⟩
      rw [hM]
      exact hB.kept (Kept.of_below (S := []) hb') (fun x _ => by simp)

theorem buf_laws : BufLaws BufP := ⟨fun h => BufP.lt h, fun h hk hs => BufP.kept h hk hs, fun n w h1 hn => new_any n w h1 hn, fun n w h => new_bad n w h, fun a c xs v hC hB h1 hn hs ha hz _ => add_any a c xs v hC hB h1 hn hs ha hz, fun hB h1 hn => soft_any hB h1 hn⟩
end Go.Proofs.YtaggbkhpoaacjacDoor
