import Derived.Test.YtplkmkbambbemaeGreatDoorM17
import Derived.Test.YtplkmkbambbemaeGreatDoorM04
import Derived.Test.YtplkmkbambbemaeGreatDoorM13
import Derived.Test.YtplkmkbambbemaeGreatDoorM16
namespace Go.Proofs.YtplkmkbambbemaeGreatDoor
open Go.ChangeShapes Go.WideShapes Go.ChangeAt Go.RowKit Go.Shelf
attribute [local go_sem] Oper.semAt_some
theorem boxed_old {w w' : World} {B : Nat} {t : TypeId} {u : Value} (h : Boxed w B t u) (hb : Below w.heap.size w w') : Boxed w' B t u := (hb.block B h.lt).trans h
theorem kept_put {S : List Nat} {w W : World} (h : Kept S w W) {D : Nat} (hD : w.heap.size ≤ D) (o : Obj) : Kept S w (W.putObj D o) :=
  ⟨h.os, h.tape, h.output, by have := h.size; simp only [World.putObj, Array.size_setIfInBounds]; omega, fun i hi hn => (World.putObj_heap_other (by omega)).trans (h.block i hi hn)⟩
set_option maxRecDepth 100000 in
set_option maxHeartbeats 4000000 in
theorem add_good {t : TypeId} {r : List Value} {w : World} {b g : Nat} {s : List Int} (a : Option Addr) (m n c v : Nat) (xs : List Int) (hC : Col w) (hne : b ≠ g) (hbx : BoxR w b t r (.slice (some ⟨g, 0, none⟩) n n)) (hg : ArrAt .i64 3 w g s)
    (hsl : s.length = n) (h1 : 1 ≤ n) (hn : n ≤ 4096) (hs : softOk s = true) (ha : Rd .i64 w a xs) (hxs : softOk xs = true) (hxl : xs.length = m) (hm : m ≤ 4096) (hv : v ≤ 3) (G : List Int) (HG : Hid (gathF n v xs s (List.range m) = G)) :
    Calls Tryz.prog 7 #[.pointer (some ⟨b, 0, none⟩), .slice a m c, .int .i64 v] w fun e w' =>
      (softOk G = true → e = .returned (.int .i64 0) ∧ (∃ g', w.heap.size ≤ g' ∧ BoxR w' b t r (.slice (some ⟨g', 0, none⟩) n n) ∧ ArrAt .i64 3 w' g' G) ∧ Kept [b] w w') ∧
      (softOk G = false → e = .returned (.int .i64 2) ∧ Below w.heap.size w w') := by
  have hB0 : Below w.heap.size w (w.alloc (.cells #[.slice a m c] 22)) := (Below.refl _ w).alloc (Nat.le_refl _) _
  have bS := Boxed.new w 22 (.slice a m c)
  have hck := csoft_any xs a c (w.alloc (.cells #[.slice a m c] 22)) (ha.below hB0) (by unfold maxLen; omega)
  rw [hxl, show softErr xs = 0 by unfold softErr; rw [hxs]; rfl] at hck
  have hvr := checkVersion_any (v : Int) (w.alloc (.cells #[.slice a m c] 22))
  rw [show verErr (v : Int) = 0 by unfold verErr; rw [show verOk (v : Int) = true from decide_eq_true (by omega)]; rfl] at hvr
  have hsg := soft_get (t := t) (r := r) (w := w.alloc (.cells #[.slice a m c] 22)) (p := ⟨b, 0, none⟩) (S := [b, g]) (s := s) ⟨b, g, rfl, rfl, hne, by rw [hsl]; exact hbx.old hB0, hg.below hB0 hg.lt⟩ (by omega) (by omega)
  rw [hsl] at hsg
  have d2 : decide ((4096 : Int) < (m : Int)) = false := decide_eq_false (by omega)
  have HXL := hid hxl
  have HSL := hid hsl
  have cS := bS.cell
  clear hxl hsl
  refine (callsIn_wide (n := 3)).1 ?_
  refine callsIn_of_wp_marks Tryz.func7 rfl trivial ?_ rfl
  simp only [Tryz.ntmps7, List.size_toArray, List.length_cons, List.length_nil, Nat.reduceAdd, Nat.reduceSub, Array.replicate_succ, Array.replicate_zero, List.push_toArray, List.append_toArray, List.nil_append, List.cons_append]
  gi_wp2_with (first
    | (refine ⟨trivial, ?_⟩; gi_at_call 20; refine (callsIn_wide.2 hck).mono ?_; rintro e w' ⟨rfl, rfl⟩)
    | (refine ⟨trivial, ?_⟩; gi_at_call 21; refine (callsIn_wide.2 hvr).mono ?_; rintro e w' ⟨rfl, rfl⟩)
    | (refine ⟨trivial, ?_⟩; gi_at_call 10; refine (callsIn_wide.2 hsg).mono ?_; rintro e w2 ⟨g', rfl, har2, hg', hb2⟩; have bS2 := boxed_old bS hb2; have cS2 := (bS2.alloc (.cells #[.slice (some ⟨g', 0, none⟩) n n] 22)).cell)
    | (refine ⟨trivial, ?_⟩; gi_at_call 22; refine (round_in 2 n v m _).mono ?_; rintro e w' ⟨rfl, rfl⟩))
  have hz2 : w.heap.size + 1 ≤ w2.heap.size := by have := hb2.size; rwa [World.size_alloc] at this
  have hg1 : w.heap.size + 1 ≤ g' := by rwa [World.size_alloc] at hg'
  have hgl := har2.lt
  have hbw2 : Below w.heap.size w w2 := hB0.trans (hb2.mono (by simp))
  have bP := Boxed.new w2 22 (.slice (some ⟨g', 0, none⟩) n n)
  obtain ⟨w3, ew3⟩ : ∃ w3, w3 = w2.alloc (.cells #[.slice (some ⟨g', 0, none⟩) n n] 22) := ⟨_, rfl⟩
  have hs3 : w3.heap.size = w2.heap.size + 1 := by rw [ew3]; simp
  have bS3 : Boxed w3 w.heap.size 22 (.slice a m c) := by rw [ew3]; exact bS2.alloc _
  have har3 : ArrAt .i64 3 w3 g' s := by rw [ew3]; exact har2.alloc _
  have hb3 : Below w.heap.size w w3 := by rw [ew3]; exact hbw2.alloc (by omega) _
  rw [← ew3] at bP
  rw [← ew3, ← hs3]
  obtain ⟨w4, ew4⟩ : ∃ w4, w4 = ((w3.alloc (.cells #[.int .i64 n] 3)).alloc (.cells #[.int .i64 v] 3)).alloc (.cells #[.int .i64 m] 3) := ⟨_, rfl⟩
  have b1 : Boxed w4 w3.heap.size 3 (.int .i64 n) := by rw [ew4]; exact ((Boxed.new w3 _ _).alloc _).alloc _
  have b2 : Boxed w4 (w3.heap.size + 1) 3 (.int .i64 v) := by rw [ew4]; have := (Boxed.new (w3.alloc (.cells #[.int .i64 n] 3)) 3 (.int .i64 v)).alloc (.cells #[.int .i64 m] 3); rwa [World.size_alloc] at this
  have b3 : Boxed w4 (w3.heap.size + 2) 3 (.int .i64 m) := by rw [ew4]; have := Boxed.new ((w3.alloc (.cells #[.int .i64 n] 3)).alloc (.cells #[.int .i64 v] 3)) 3 (.int .i64 m); rwa [World.size_alloc, World.size_alloc] at this
  have bS4 : Boxed w4 w.heap.size 22 (.slice a m c) := by rw [ew4]; exact ((bS3.alloc _).alloc _).alloc _
  have bP4 : Boxed w4 w2.heap.size 22 (.slice (some ⟨g', 0, none⟩) n n) := by rw [ew4]; exact ((bP.alloc _).alloc _).alloc _
  have har4 : ArrAt .i64 3 w4 g' s := by rw [ew4]; exact ((har3.alloc _).alloc _).alloc _
  have hb4 : Below w.heap.size w w4 := by rw [ew4]; exact ((hb3.alloc hb3.size _).alloc (by simp; have := hb3.size; omega) _).alloc (by simp; have := hb3.size; omega) _
  have hs4 : w4.heap.size = w3.heap.size + 3 := by rw [ew4]; simp
  rw [← ew4]
  have HS3 := hid hs3
  have HS4 := hid hs4
  have hw2 : w2.heap.size < w3.heap.size := by omega
  have hw3 : w3.heap.size < w4.heap.size := by omega
  clear hs3 hs4 ew3 ew4 bS2 bP har2 hb2 bS3 har3 hb3 hB0 cS2 cS bS hck hvr hsg d2 hbw2
  refine wpIn_rangeFunc_ownG rfl (by decide) (gf := 39) (lb := #[.pointer (some ⟨w3.heap.size, 0, none⟩), .pointer (some ⟨w3.heap.size + 1, 0, none⟩), .pointer (some ⟨w3.heap.size + 2, 0, none⟩)]) rfl trivial (enters_of Tryz.func39 (by kernel_rfl) rfl)
    (round_stops n v m h1 hn hv hm w3.heap.size (w3.heap.size + 1) (w3.heap.size + 2) [g'] w4 (hC.later hb4) b1.cell b2.cell b3.cell (by simp; omega) (by simp; omega)) KeptC.trans keptC_b (Below.refl _ _) (fun _ => rfl)
    (fun pre W => Boxed W w.heap.size 22 (.slice a m c) ∧ Boxed W w2.heap.size 22 (.slice (some ⟨g', 0, none⟩) n n) ∧ ArrAt .i64 3 W g' (gathF n v xs s (pre.map Fin.val)) ∧ Below w.heap.size w W)
    (fun _ _ _ => False)
    (fun pre X Y row hs hg hrow => ⟨cellsKept hs.1 hg hrow, cellsKept hs.2.1 hg hrow, cellsKept hs.2.2.1 hg hrow, hs.2.2.2.grown hg hs.2.2.2.size (fun j e => by have := (hrow j e).1; omega)⟩)
    (fun _ _ _ _ _ hs _ _ => hs)
    ⟨bS4, bP4, har4, hb4⟩
    (fun x => { tmps := #[.pointer (some ⟨b, 0, none⟩), .slice a m c, .int .i64 v, undef, .pointer (some ⟨w.heap.size, 0, none⟩), undef, .int .i64 0, .int .i64 0, .int .i64 0, .pointer (some ⟨w2.heap.size, 0, none⟩), .int .i64 (x.val : Int), .int .i64 ((pickM n v x.val : Nat) : Int), .slice a m c, .int .i64 0, .int .i64 0, .bool false, undef, .slice a m c, .int .i64 m, .bool false, .int .i64 v, .int .i64 0, .int .i64 0, .bool false, undef, .pointer (some ⟨b, 0, none⟩), .slice (some ⟨g', 0, none⟩) n n, .slice (some ⟨g', 0, none⟩) n n, .int .i64 n, .int .i64 v, .slice a m c, .int .i64 m, .func (.func 39) #[] #[.pointer (some ⟨w3.heap.size, 0, none⟩), .pointer (some ⟨w3.heap.size + 1, 0, none⟩), .pointer (some ⟨w3.heap.size + 2, 0, none⟩)], .int .i64 (x.val : Int), .int .i64 ((pickM n v x.val : Nat) : Int), undef, undef, undef, undef, undef, undef, undef, undef, undef, undef, undef, undef, undef, undef, undef, undef, undef], defers := [] }) ?assign ?body ?done ?stop
  case assign =>
    intro l x W K hK
    unfold encR
    gi_wp2
    exact hK
  case body =>
    rintro l pre ⟨x, hx⟩ W ⟨bS, bP, har, hB⟩ hlt
    dsimp only
    have hpx := pickM_lt (n := n) (v := v) (i := x) h1
    obtain ⟨bx, ox, rfl, hcx⟩ := (ha.below hB).at (i := x) (by rw [HXL.out]; exact hx)
    have g1 := hcx x (by rw [HXL.out]; exact hx)
    have cC := bS.cell
    have cP := bP.cell
    have HF := hid ((gathF_length n v xs (pre.map Fin.val) s).trans HSL.out)
    have g2 := har.cell (j := pickM n v x) (by rw [HF.out]; exact hpx)
    have hfr := har.free (pickM n v x)
    have HS := hid (gathF_snoc n v xs s (pre.map Fin.val) x)
    have hyb := gathF_bd n v hs hxs (pre.map Fin.val) (pickM n v x)
    rw [List.length_map] at hyb
    have hzb := soft_at hxs x
    obtain ⟨pk, epk⟩ : ∃ pk, pk = pickM n v x := ⟨_, rfl⟩
    rw [← epk] at hpx g2 HS hfr hyb
    obtain ⟨z, ez⟩ : ∃ z, z = xs.getD x 0 := ⟨_, rfl⟩
    rw [← ez] at g1 HS hzb
    obtain ⟨y, ey⟩ : ∃ y, y = (gathF n v xs s (pre.map Fin.val)).getD pk 0 := ⟨_, rfl⟩
    rw [← ey] at g2 HS hyb
    have hyb' : -409700000 ≤ y ∧ y ≤ 409700000 := by omega
    rw [← epk]
    have hset := har.set pk (y + z)
    rw [← HS.out] at hset
    have hsetX : ArrAt .i64 3 (W.setCell ⟨g', pk, none⟩ (.int .i64 (y + z))).drew g' (gathF n v xs s ((pre ++ [(⟨x, hx⟩ : Fin m)]).map Fin.val)) := by rw [List.map_append]; exact hset
    have hfin : KeepsFrom w4.heap.size W (W.setCell ⟨g', pk, none⟩ (.int .i64 (y + z))).drew ∧ KeptC [g'] W (W.setCell ⟨g', pk, none⟩ (.int .i64 (y + z))).drew ∧ Boxed (W.setCell ⟨g', pk, none⟩ (.int .i64 (y + z))).drew w.heap.size 22 (.slice (some ⟨bx, ox, none⟩) m c) ∧ Boxed (W.setCell ⟨g', pk, none⟩ (.int .i64 (y + z))).drew w2.heap.size 22 (.slice (some ⟨g', 0, none⟩) n n) ∧ ArrAt .i64 3 (W.setCell ⟨g', pk, none⟩ (.int .i64 (y + z))).drew g' (gathF n v xs s ((pre ++ [(⟨x, hx⟩ : Fin m)]).map Fin.val)) ∧ Below w.heap.size w (W.setCell ⟨g', pk, none⟩ (.int .i64 (y + z))).drew :=
      ⟨((KeepsOthers.setCell _ _ _).trans (keeps_drew _)).from _, (KeptC.setCell _ (by simp) _).drew, boxed_other bS (by simp; omega) _, boxed_other bP (by simp; omega) _, hsetX, (hB.setCell (p := ⟨g', pk, none⟩) (by simp; omega) _).drew⟩
    have hmix : Tryz.prog.follows .mixedOrders = true := by kernel_rfl
    clear hcx epk ez ey hset hsetX HS har HF hyb bS bP hB hlt bS4 bP4 har4 hb4 ha
    gi_wp2
    refine wpIn_mono (Q := fun e _ w' => e = .normal ∧ w' = (W.setCell ⟨g', pk, none⟩ (.int .i64 (y + z))).drew) ?_ ?_
    · clear hfin
      have hwr : IntKind.i64.wrap (y + z) = y + z := by rw [IntKind.wrap_i64]; omega
      refine region_quiet 10 35 [.slice (some ⟨g', 0, none⟩) n n, .int .i64 (pk : Int), .pointer (some ⟨g', 0 + pk, none⟩), .int .i64 y, .slice (some ⟨bx, ox, none⟩) m c, .int .i64 (x : Int), .pointer (some ⟨bx, ox + x, none⟩), .int .i64 z, .int .i64 (y + z), .pointer (some ⟨g', 0 + pk, none⟩)]
        [[], [], [0, 1], [2], [], [], [4, 5], [6], [3, 7], [0, 1]] _ W hmix rfl (by simp) (by kernel_rfl) (by kernel_rfl) (by kernel_rfl) ?_ ?_
      · intro i hi ac hu hs K hK
        have hi10 : i = 0 ∨ i = 1 ∨ i = 2 ∨ i = 3 ∨ i = 4 ∨ i = 5 ∨ i = 6 ∨ i = 7 ∨ i = 8 ∨ i = 9 := by omega
        rcases hi10 with rfl | rfl | rfl | rfl | rfl | rfl | rfl | rfl | rfl | rfl
        · exact opIn_value rfl rfl (fun c h => by cases h) rfl (run_loadSI _ rfl (hs 9 (by omega)) cP) hK
        · exact opIn_value rfl rfl (fun c h => by cases h) rfl (run_moveQ _ rfl (hs 11 (by omega))) hK
        · exact opIn_value rfl rfl (fun c h => by cases h) rfl (run_idxI _ rfl (hu 0 (by decide)) (hu 1 (by decide)) hpx) hK
        · exact opIn_value rfl rfl (fun c h => by cases h) rfl (run_loadI _ rfl (hu 2 (by decide)) (by rw [Nat.zero_add]; exact g2)) hK
        · exact opIn_value rfl rfl (fun c h => by cases h) rfl (run_loadSI _ rfl (hs 4 (by omega)) cC) hK
        · exact opIn_value rfl rfl (fun c h => by cases h) rfl (run_moveQ _ rfl (hs 10 (by omega))) hK
        · exact opIn_value rfl rfl (fun c h => by cases h) rfl (run_idxI _ rfl (hu 4 (by decide)) (hu 5 (by decide)) hx) hK
        · exact opIn_value rfl rfl (fun c h => by cases h) rfl (run_loadI _ rfl (hu 6 (by decide)) g1) hK
        · exact opIn_value rfl rfl (fun c h => by cases h) rfl (run_addI _ rfl (hu 3 (by decide)) (hu 7 (by decide)) hwr) hK
        · exact opIn_value rfl rfl (fun c h => by cases h) rfl (run_idxI _ rfl (hu 0 (by decide)) (hu 1 (by decide)) hpx) hK
      · intro ac hu hs
        exact opIn_skip rfl rfl (fun c h => by cases h) rfl (run_storeI _ rfl (hu 9 (by decide)) (hu 8 (by decide)) (by rw [Nat.zero_add]; exact g2) (by rw [Nat.zero_add]; exact hfr)) ⟨rfl, by rw [Nat.zero_add]; rfl⟩
    · rintro e a' w' ⟨rfl, rfl⟩
      exact hfin
  case done =>
    rintro D ys W hD hys ⟨bS, bP, har, hB⟩ hK
    rw [hys, HG.out] at har
    have cP := bP.cell
    have hgl' := har.lt
    have hGL := hid ((congrArg List.length HG.out).symm.trans ((gathF_length n v xs (List.range m) s).trans HSL.out))
    have hcs := csoft_any G (some ⟨g', 0, none⟩) n W (ArrAt.rd (A := []) (Z := []) (by simpa using har) rfl) (by rw [hGL.out]; unfold maxLen; omega)
    rw [hGL.out] at hcs
    have hbW := hbx.old hB
    have cB := hbW.cell
    have fB := hbW.frozen
    have hbl := hbx.lt
    clear bS4 bP4 har4 hb4 b1 b2 b3
    cases hsg : softOk G with
    | true =>
      rw [show softErr G = 0 by unfold softErr; rw [hsg]; rfl] at hcs
      have HSG := hid hsg
      clear hsg
      gi_wp2_with (first | (refine ⟨trivial, ?_⟩; gi_at_call 20; refine (callsIn_wide.2 hcs).mono ?_; rintro e w' ⟨rfl, rfl⟩))
      have hK5 : (W.setCell ⟨b, 0, none⟩ (.slice (some ⟨g', 0, none⟩) n n)).heap[D]? = some (.deferred (some [])) := (KeepsOthers.setCell W _ _).same D _ hK rfl
      have hrow : ∀ r, some D = some r → 0 ≤ r ∧ ∃ o : Obj, (W.setCell ⟨b, 0, none⟩ (.slice (some ⟨g', 0, none⟩) n n)).heap[r]? = some o ∧ o.isCells = false := fun r e => by cases e; exact ⟨Nat.zero_le _, _, hK5, rfl⟩
      refine ⟨by simp, .inl ⟨_, _, rfl, run_takeDeferred hK5, ?_⟩⟩
      exact ⟨_, results_tmp rfl _ _ _, fun _ => ⟨rfl, ⟨g', by omega, cellsKept (hbW.set _) (grownBy_putObj' _ D (.deferred none)) hrow, cellsKept (har.other ⟨b, 0, none⟩ _ (by simp; omega)) (grownBy_putObj' _ D (.deferred none)) hrow⟩, kept_put ((Kept.of_below hB).setCell (p := ⟨b, 0, none⟩) (by simp) _) (by omega) _⟩, fun h => by rw [HSG.out] at h; cases h⟩
    | false =>
      rw [show softErr G = 1 by unfold softErr; rw [hsg]; rfl] at hcs
      have HSG := hid hsg
      clear hsg
      gi_wp2_with (first | (refine ⟨trivial, ?_⟩; gi_at_call 20; refine (callsIn_wide.2 hcs).mono ?_; rintro e w' ⟨rfl, rfl⟩))
      refine ⟨by simp, .inl ⟨_, _, rfl, run_takeDeferred hK, ?_⟩⟩
      exact ⟨_, results_tmp rfl _ _ _, fun h => (by rw [HSG.out] at h; cases h), fun _ => ⟨rfl, hB.trans (belowK_b (w := w) (Nat.le_refl _) W D _ _ (by omega) hK rfl rfl)⟩⟩
  case stop =>
    rintro D c pre W _ _ h _
    exact h.elim
theorem add_any {t : TypeId} {r : List Value} {w : World} {p : Addr} {S : List Nat} {s : List Int} (a : Option Addr) (c : Nat) (xs : List Int) (v : Int) (hC : Col w) (hB : BufR t r w p S s) (h1 : 1 ≤ s.length) (hn : s.length ≤ 4096) (hs : softOk s = true) (ha : Rd .i64 w a xs) (hz : xs.length ≤ maxLen) :
    Calls Tryz.prog 7 #[.pointer (some p), .slice a xs.length c, .int .i64 v] w fun e w' => ∃ S', e = .returned (.int .i64 (addErr s xs v)) ∧ BufR t r w' p S' (addM s xs v) ∧ (∀ x ∈ S', x ∈ S ∨ w.heap.size ≤ x) ∧ Kept [p.block] w w' := by
  cases ht : tellOk xs v with
  | false =>
    refine (add_bad a c xs v ha hz ht).mono fun e w' h => ?_
    obtain ⟨rfl, hb⟩ := h
    refine ⟨S, by unfold addErr; rw [ht]; rfl, ?_, fun x hx => .inl hx, Kept.of_below hb⟩
    have hM : addM s xs v = s := by unfold addM; rw [ht]; rfl
    rw [hM]
    exact hB.kept (Kept.of_below (S := []) hb) (fun x _ => by simp)
  | true =>
    obtain ⟨b, g, rfl, rfl, hne, hbx, hg⟩ := id hB
    obtain ⟨hxs, hx4, hvo⟩ : softOk xs = true ∧ xs.length ≤ 4096 ∧ verOk v = true := by
      have ht' := ht
      unfold tellOk at ht'
      simp at ht'
      exact ⟨ht'.1.1, ht'.1.2, ht'.2⟩
    obtain ⟨vn, rfl, hvn⟩ : ∃ vn : Nat, v = (vn : Int) ∧ vn ≤ 3 := by
      unfold verOk at hvo
      simp at hvo
      exact ⟨v.toNat, by omega, by omega⟩
    have hG : gathF s.length vn xs s (List.range xs.length) = nextM s xs (vn : Int) := gathF_range s.length vn xs s xs.length xs.length (Nat.le_refl _)
    refine (add_good a xs.length s.length c vn xs hC hne hbx hg rfl h1 hn hs ha hxs rfl hx4 hvn (nextM s xs (vn : Int)) hG).mono fun e w' h => ?_
    obtain ⟨hy, hno⟩ := h
    cases hsn : softOk (nextM s xs (vn : Int)) with
    | true =>
      obtain ⟨rfl, ⟨g', hg', hb', ha'⟩, hk⟩ := hy hsn
      have hM : addM s xs (vn : Int) = nextM s xs (vn : Int) := by unfold addM; rw [ht, hsn]; rfl
      refine ⟨[b, g'], by unfold addErr; rw [ht, hsn]; rfl, ?_, ?_, hk⟩
      · rw [hM]
        exact ⟨b, g', rfl, rfl, by have := hbx.lt; omega, by rw [nextM_length]; exact hb', ha'⟩
      · intro x hx
        simp at hx
        rcases hx with rfl | rfl
        · exact .inl (by simp)
        · exact .inr hg'
    | false =>
      obtain ⟨rfl, hb'⟩ := hno hsn
      have hM : addM s xs (vn : Int) = s := by unfold addM; rw [ht, hsn]; rfl
      refine ⟨[b, g], by unfold addErr; rw [ht, hsn]; rfl, ?_, fun x hx => .inl hx, Kept.of_below hb'⟩
      rw [hM]
      exact hB.kept (Kept.of_below (S := []) hb') (fun x _ => by simp)
end Go.Proofs.YtplkmkbambbemaeGreatDoor
namespace Go.Proofs.YtplkmkbambbemaeGreatDoor
open Go.ChangeShapes Go.WideShapes Go.ChangeAt Go.RowKit
def earTail (S : Setg) (B : Nat) : List Value := [.int .i64 S.code, .int .i64 S.size, .int .i64 S.order, .int .i64 S.seed, .int .i64 S.count, .int .i64 (B : Int)]
def EarP (w : World) (p : Addr) (F : List Nat) (S : Setg) (B : Nat) (s : List Int) : Prop := BufR 72 (earTail S B) w p F s
/-- What New goes through: a buffer with an error, a buffer, what it holds, an ear. -/
def bufH (N B0 b g : Nat) (w : World) : Prop := BoxR w b 52 [] (.slice (some ⟨g, 0, none⟩) N N) ∧ ArrAt .i64 3 w g (List.replicate N 0) ∧ B0 ≤ g
def bufT (N B0 : Nat) : Value → World → Prop := fun x w => ∃ b g, x = .tuple #[.pointer (some ⟨b, 0, none⟩), .int .i64 0] ∧ bufH N B0 b g w
def bufQ (N B0 : Nat) : Value → World → Prop := fun x w => ∃ b g, x = .pointer (some ⟨b, 0, none⟩) ∧ bufH N B0 b g w
def bufV (N B0 : Nat) : Value → World → Prop := fun x w => ∃ g, x = .agg #[.slice (some ⟨g, 0, none⟩) N N] ∧ ArrAt .i64 3 w g (List.replicate N 0) ∧ B0 ≤ g
def earAgg (S : Setg) (B N g : Nat) : Value := .agg #[.slice (some ⟨g, 0, none⟩) N N, .int .i64 S.code, .int .i64 S.size, .int .i64 S.order, .int .i64 S.seed, .int .i64 S.count, .int .i64 (B : Int)]
def bufW (N B0 : Nat) (S : Setg) (B : Nat) : Value → World → Prop := fun x w => ∃ g, x = earAgg S B N g ∧ ArrAt .i64 3 w g (List.replicate N 0) ∧ B0 ≤ g
def earR (N B0 : Nat) (S : Setg) (B : Nat) : Value → World → Prop := fun x w => ∃ b g, x = .pointer (some ⟨b, 0, none⟩) ∧ (BoxR w b 72 (earTail S B) (.slice (some ⟨g, 0, none⟩) N N) ∧ ArrAt .i64 3 w g (List.replicate N 0) ∧ B0 ≤ g ∧ B0 ≤ b ∧ b ≠ g)
theorem arr_grown {k : IntKind} {T : TypeId} {w w' : World} {g : Nat} {L : List Int} (h : ArrAt k T w g L) (hg : w.grownBy w' none) : ArrAt k T w' g L := h.below (below_of_grown hg) h.lt
theorem bufH_grown {N B0 b g : Nat} {w w' : World} (h : bufH N B0 b g w) (hg : w.grownBy w' none) : bufH N B0 b g w' := ⟨h.1.old (below_of_grown hg), arr_grown h.2.1 hg, h.2.2⟩
theorem bufT_mono (N B0 : Nat) : MonoR (bufT N B0) := fun _ _ _ ⟨b, g, h1, h2⟩ hg => ⟨b, g, h1, bufH_grown h2 hg⟩
theorem bufQ_mono (N B0 : Nat) : MonoR (bufQ N B0) := fun _ _ _ ⟨b, g, h1, h2⟩ hg => ⟨b, g, h1, bufH_grown h2 hg⟩
theorem bufV_mono (N B0 : Nat) : MonoR (bufV N B0) := fun _ _ _ ⟨g, h1, h2, h3⟩ hg => ⟨g, h1, arr_grown h2 hg, h3⟩
theorem bufW_mono (N B0 : Nat) (S : Setg) (B : Nat) : MonoR (bufW N B0 S B) := fun _ _ _ ⟨g, h1, h2, h3⟩ hg => ⟨g, h1, arr_grown h2 hg, h3⟩
theorem earR_mono (N B0 : Nat) (S : Setg) (B : Nat) : MonoR (earR N B0 S B) := fun _ _ _ ⟨b, g, h1, h2, h3, h4⟩ hg => ⟨b, g, h1, h2.old (below_of_grown hg), arr_grown h3 hg, h4⟩
theorem bufT.mk {N B0 : Nat} {w : World} {p : Addr} {F : List Nat} (h : BufP w p F (List.replicate N 0)) (hF : ∀ x ∈ F, B0 ≤ x) : bufT N B0 (.tuple #[.pointer (some p), .int .i64 0]) w := by
  obtain ⟨b, g, rfl, rfl, _, hb, hg⟩ := h
  rw [List.length_replicate] at hb
  exact ⟨b, g, rfl, hb, hg, hF g (by simp)⟩
theorem earR.mk {N B0 : Nat} {S : Setg} {B : Nat} {w : World} {g : Nat} (hB : B0 ≤ w.heap.size) (h : ArrAt .i64 3 w g (List.replicate N 0) ∧ B0 ≤ g) : earR N B0 S B (.pointer (some ⟨w.heap.size, 0, none⟩)) (w.alloc (.cells #[.slice (some ⟨g, 0, none⟩) N N, .int .i64 S.code, .int .i64 S.size, .int .i64 S.order, .int .i64 S.seed, .int .i64 S.count, .int .i64 (B : Int)] 72)) :=
  ⟨w.heap.size, g, rfl, heap_alloc_new w _, h.1.alloc _, h.2, hB, by have := h.1.lt; omega⟩
theorem run_loadBuf {ρ : Operand → Value} (w : World) {o : Oper} {x : Operand} {g : Nat} {v : Value} (ho : o.op = .load 52 x) (h : ρ x = .pointer (some ⟨g, 0, none⟩)) (hc : w.cell? ⟨g, 0, none⟩ = some v) : (execOp ρ o).run Tryz.prog w = .ok (.value (.agg #[v])) w := by
  unfold execOp
  simp only [ho, h]
  simp [go_sem, hc]
theorem run_buildLink {ρ : Operand → Value} (w : World) {o : Oper} {x y z : Operand} {S : Setg} {B N g : Nat} (ho : o.op = .build 72 #[(0, x), (1, y), (2, z)]) (hx : ρ x = .agg #[.slice (some ⟨g, 0, none⟩) N N]) (hy : ρ y = S.val) (hz : ρ z = .int .i64 (B : Int)) : (execOp ρ o).run Tryz.prog w = .ok (.value (earAgg S B N g)) w := by
  unfold execOp
  simp only [ho]
  simp [hx, hy, hz, go_sem, Setg.val, earAgg]
theorem run_boxLink {ρ : Operand → Value} (w : World) {o : Oper} {x : Operand} {S : Setg} {B N g : Nat} (ho : o.op = .box 72 x) (h : ρ x = earAgg S B N g) : (execOp ρ o).run Tryz.prog w = .ok (.value (.pointer (some ⟨w.heap.size, 0, none⟩))) (w.alloc (.cells #[.slice (some ⟨g, 0, none⟩) N N, .int .i64 S.code, .int .i64 S.size, .int .i64 S.order, .int .i64 S.seed, .int .i64 S.count, .int .i64 (B : Int)] 72)) := by
  unfold earAgg at h
  unfold execOp
  simp only [ho, h]
  simp [go_sem]
theorem codedN_nat {S : Setg} {B : Nat} (hS : SetOk S B) : ∃ N : Nat, codedN S B = N ∧ 1 ≤ N ∧ N ≤ 4096 := by
  refine ⟨(codedN S B).toNat, ?_⟩
  have hf := hS.few
  unfold codedN
  rcases hS.code with h | h
  · rw [if_pos h]; omega
  · rw [if_neg (by omega)]
    have hp := (hS.size1 h).1
    unfold powI at hp
    have := of_decide_eq_true hp
    omega
theorem zeros_all (n : Nat) : AllBits (List.replicate n (0 : Int)) := fun x hx => by
  rw [List.eq_of_mem_replicate hx]; omega
set_option maxRecDepth 100000 in
set_option maxHeartbeats 2000000 in
theorem lnew_ok (S : Setg) (B : Nat) (w : World) (hR : ReadyL w) (hIn : S.In) (hE : setErr S B = 0) : Calls Tryz.prog 13 #[S.val, .int .i64 B] w fun e w' => ∃ p F, e = .returned (.tuple #[.pointer (some p), .int .i64 0]) ∧ EarP w' p F S B (List.replicate (codedN S B).toNat 0) ∧ (∀ x ∈ F, w.heap.size ≤ x) ∧ Below w.heap.size w w' := by
  have hS := setOk_of hE
  have hB : B ≤ 40 := by have := hS.few; omega
  have hchk := fun wz => lcheck_any S (B : Int) wz hIn ⟨by omega, by omega⟩
  rw [hE] at hchk
  obtain ⟨N, eN, hN1, hN4⟩ := codedN_nat hS
  rw [eN, Int.toNat_natCast]
  have hss := fun wz => sealedSize_any (B : Int) wz ⟨by omega, by omega⟩
  have hen := fun (wz : World) (a : Option Addr) (c : Nat) (hr : ReadyL wz) (h : Rd .u8 wz a (List.replicate (8 * B + 24) 0)) => lencode_any S B (List.replicate (8 * B + 24) 0) a (8 * B + 24) c wz hS hr h (zeros_all _) (by simp) rfl
  have hcl := codeL_length (S := S) (z := List.replicate (8 * B + 24) 0) (n := B) (by simp) hS.code fun e => (hS.size1 e).1
  obtain ⟨L, eL⟩ : ∃ L, L = codeL S (List.replicate (8 * B + 24) 0) := ⟨_, rfl⟩
  rw [← eL] at hen hcl
  have HL : Hid (L.length = N) := by show L.length = N; omega
  obtain ⟨KK, eK⟩ : ∃ KK, KK = 8 * B + 24 := ⟨_, rfl⟩
  have HK : Hid ((8 * (B : Int) + 24) = (KK : Int)) := by show _ = _; omega
  rw [← eK] at hen
  have hKs : KK ≤ 400 := by omega
  have hnw := fun wz => new_any N wz hN1 hN4
  have hmix : Tryz.prog.follows .mixedOrders = true := by kernel_rfl
  have HCC : Hid (∀ wz, Below (w.alloc (.cells #[.int .i64 S.code, .int .i64 S.size, .int .i64 S.order, .int .i64 S.seed, .int .i64 S.count] 24)).heap.size (w.alloc (.cells #[.int .i64 S.code, .int .i64 S.size, .int .i64 S.order, .int .i64 S.seed, .int .i64 S.count] 24)) wz → wz.cell? ⟨w.heap.size, 0, none⟩ = some (.int .i64 S.code) ∧ wz.cell? ⟨w.heap.size, 1, none⟩ = some (.int .i64 S.size) ∧ wz.cell? ⟨w.heap.size, 2, none⟩ = some (.int .i64 S.order) ∧ wz.cell? ⟨w.heap.size, 3, none⟩ = some (.int .i64 S.seed) ∧ wz.cell? ⟨w.heap.size, 4, none⟩ = some (.int .i64 S.count)) := fun wz h => set_cells h
  have hb0 : Below w.heap.size w (w.alloc (.cells #[.int .i64 S.code, .int .i64 S.size, .int .i64 S.order, .int .i64 S.seed, .int .i64 S.count] 24)) := (Below.refl _ w).alloc (Nat.le_refl _) _
  have hl0 : w.heap.size < (w.alloc (.cells #[.int .i64 S.code, .int .i64 S.size, .int .i64 S.order, .int .i64 S.seed, .int .i64 S.count] 24)).heap.size := by simp
  have hR0 := hR.below hb0
  clear hS hE hIn eL hcl eN eK
  unfold Setg.val
  go_enter Tryz.func13, Tryz.ntmps13
  go_wp2_with fail
  generalize w.alloc (.cells #[.int .i64 S.code, .int .i64 S.size, .int .i64 S.order, .int .i64 S.seed, .int .i64 S.count] 24) = w0 at *
  refine (hchk _).mono ?_
  rintro e w1 ⟨rfl, hb1⟩
  have hB1 := hb1
  have hRd : ∀ wz, Below w0.heap.size w0 wz → ReadyL wz := fun wz h => hR0.below h
  go_wp2_with fail
  refine wp_mono (region_each (Q := fun e a' w' => e = .normal ∧ ∃ σ : Nat → Value, a' = ({ tmps := ((setAll _ (tbS [14, 15, 16, 17, 18, 19] 6 σ)).set 7 (.int .i64 (N : Int))).toArray, defers := [] } : Act) ∧ Below w1.heap.size w1 w') 7 6 [14, 15, 16, 17, 18, 19]
    [[1], [14], [15], [2], [16, 17], [18]] [1, 2, 4, 4, 5, 6]
    [eqR (.int .i64 (B : Int)), eqR (.int .i64 (KK : Int)), sliR .u8 KK (List.replicate KK 0), eqR S.val, sliR .u8 N L, eqR (.int .i64 (N : Int))] w1 hmix rfl (by decide) rfl (by decide) (by kernel_rfl) (by kernel_rfl) (by kernel_rfl) (by kernel_rfl) (by kernel_rfl) (by kernel_rfl)
    (by intro R hR; simp only [List.mem_cons, List.not_mem_nil, or_false] at hR; rcases hR with rfl | rfl | rfl | rfl | rfl | rfl <;> (first | (exact eqR_mono _) | (exact sliR_mono _ _ _)))
    (fun i' hi' σ ac wc hbc hp hr Q K hK => by
      have hor : i' = 0 ∨ i' = 1 ∨ i' = 2 ∨ i' = 3 ∨ i' = 4 ∨ i' = 5 := by omega
      rcases hor with rfl | rfl | rfl | rfl | rfl | rfl
      · have e1 := hr 1 (by decide)
        exact op_value rfl rfl (run_moveQ wc rfl e1) (hK _ wc (grownL wc) rfl)
      · have e14 : ac.eval (.tmp 14) = (.int .i64 (B : Int)) := (hr 14 (by decide)).trans (hp 0 (by decide) (by kernel_rfl))
        refine op_callNL rfl rfl rfl (enters_of Tryz.func33 (by kernel_rfl) rfl) (map1L e14) (hss wc) fun e w' hr' => ?_
        obtain ⟨rfl, rfl⟩ := hr'
        exact ⟨_, rfl, hK _ _ (grownL _) (congrArg (Value.int .i64) HK.out)⟩
      · have e15 : ac.eval (.tmp 15) = (.int .i64 (KK : Int)) := (hr 15 (by decide)).trans (hp 1 (by decide) (by kernel_rfl))
        exact op_value rfl rfl (run_makeBL wc rfl e15 e15 (by omega)) (hK _ _ (grown_allocL _ _) (sliR.mk (Nat.le_refl _) (by unfold maxLen; omega) (ArrAt.rdL (heap_alloc_new wc _))))
      · have e2 := hr 2 (by decide)
        obtain ⟨c0, c1, c2, c3, c4⟩ := HCC.out wc (hB1.trans (hbc.mono hB1.size))
        exact op_value rfl rfl (run_loadSetL (S := S) wc rfl e2 c0 c1 c2 c3 c4) (hK _ wc (grownL wc) rfl)
      · obtain ⟨a16, c16, q16, k16, m16, r16⟩ := hp 2 (by decide) (by kernel_rfl)
        have e16 := (hr 16 (by decide)).trans q16
        have e17 : ac.eval (.tmp 17) = S.val := (hr 17 (by decide)).trans (hp 3 (by decide) (by kernel_rfl))
        refine op_callNL rfl rfl rfl (enters_of Tryz.func29 (by kernel_rfl) rfl) (map2L e16 e17) (hen wc a16 c16 (hRd wc (hB1.trans (hbc.mono hB1.size))) r16) fun e w' hr' => ?_
        obtain ⟨v18, rfl, ho18, hb'⟩ := hr'
        exact ⟨_, rfl, hK _ w' (grown_of_below hb') (by obtain ⟨a18, c18, rfl, k18, m18, r18, -⟩ := ho18.slice HL.out; exact sliR.mk k18 m18 r18)⟩
      · obtain ⟨a18, c18, q18, k18, m18, r18⟩ := hp 4 (by decide) (by kernel_rfl)
        have e18 := (hr 18 (by decide)).trans q18
        exact op_value rfl rfl (run_lenBL wc rfl e18) (hK _ wc (grownL wc) rfl))
    (fun σ wc hbc hp => by
      refine op_value rfl rfl (run_assignL wc rfl ((eval_setAll (t := tbS [14, 15, 16, 17, 18, 19] 6 σ) 19 (show ([14, 15, 16, 17, 18, 19] : List Nat).Nodup by decide) (by kernel_rfl)).trans (hp 5 (by decide)))) ⟨rfl, σ, put_list _ _ _, hbc⟩)) ?_
  rintro e a' w4 ⟨rfl, σ4, rfl, hb4⟩
  have hB1 := hB1.trans (hb4.mono hB1.size)
  clear hb1
  rw [show tbS [14, 15, 16, 17, 18, 19] 6 σ4 = [(14, σ4 0), (15, σ4 1), (16, σ4 2), (17, σ4 3), (18, σ4 4), (19, σ4 5)] from rfl]
  dsimp only [setAll, List.set, List.append_nil, List.cons_append, List.nil_append]
  go_wp2_with fail
  refine wp_mono (region_each (Q := fun e a' w' => e = .normal ∧ ∃ σ : Nat → Value, a' = ({ tmps := ((setAll _ (tbS [20, 21, 22, 23, 24, 25, 26, 27, 28, 29, 30, 4] 12 σ)).set 5 (.int .i64 0)).toArray, defers := [] } : Act) ∧ earR N w.heap.size S B (σ 11) w' ∧ Below w4.heap.size w4 w') 13 12 [20, 21, 22, 23, 24, 25, 26, 27, 28, 29, 30, 4]
    [[7], [20], [21], [21], [22, 23], [24], [25], [2], [1], [26, 27, 28], [29], [30]] [1, 2, 4, 4, 5, 6, 9, 9, 9, 10, 11, 12]
    [eqR (.int .i64 (N : Int)), bufT N w.heap.size, bufQ N w.heap.size, eqR (.int .i64 0), bufQ N w.heap.size, bufQ N w.heap.size, bufV N w.heap.size, eqR S.val, eqR (.int .i64 (B : Int)), bufW N w.heap.size S B, earR N w.heap.size S B, earR N w.heap.size S B] w4 hmix rfl (by decide) rfl (by decide) (by kernel_rfl) (by kernel_rfl) (by kernel_rfl) (by kernel_rfl) (by kernel_rfl) (by kernel_rfl)
    (by intro R hR; simp only [List.mem_cons, List.not_mem_nil, or_false] at hR; rcases hR with rfl | rfl | rfl | rfl | rfl | rfl | rfl | rfl | rfl | rfl | rfl | rfl <;> (first | (exact eqR_mono _) | (exact bufT_mono _ _) | (exact bufQ_mono _ _) | (exact bufV_mono _ _) | (exact bufW_mono _ _ _ _) | (exact earR_mono _ _ _ _)))
    (fun i' hi' σ ac wc hbc hp hr Q K hK => by
      have hor : i' = 0 ∨ i' = 1 ∨ i' = 2 ∨ i' = 3 ∨ i' = 4 ∨ i' = 5 ∨ i' = 6 ∨ i' = 7 ∨ i' = 8 ∨ i' = 9 ∨ i' = 10 ∨ i' = 11 := by omega
      rcases hor with rfl | rfl | rfl | rfl | rfl | rfl | rfl | rfl | rfl | rfl | rfl | rfl
      · have e7 := hr 7 (by decide)
        exact op_value rfl rfl (run_moveQ wc rfl e7) (hK _ wc (grownL wc) rfl)
      · have e20 : ac.eval (.tmp 20) = (.int .i64 (N : Int)) := (hr 20 (by decide)).trans (hp 0 (by decide) (by kernel_rfl))
        refine op_callNL rfl rfl rfl (enters_of Tryz.func4 (by kernel_rfl) rfl) (map1L e20) (hnw wc) fun e w' hr' => ?_
        obtain ⟨p4, F4, rfl, hB4, hF4, hb'⟩ := hr'
        exact ⟨_, rfl, hK _ w' (grown_of_below hb') (bufT.mk hB4 (fun x hx => Nat.le_trans (Nat.le_trans (Nat.le_of_lt hl0) (Nat.le_trans hB1.size hbc.size)) (hF4 x hx)))⟩
      · obtain ⟨b21, g21, q21, h21⟩ := hp 1 (by decide) (by kernel_rfl)
        have e21 := (hr 21 (by decide)).trans q21
        exact op_value rfl rfl (run_extractL wc rfl e21 rfl) (hK _ wc (grownL wc) (show bufQ N w.heap.size _ _ from ⟨b21, g21, rfl, h21⟩))
      · obtain ⟨b21, g21, q21, h21⟩ := hp 1 (by decide) (by kernel_rfl)
        have e21 := (hr 21 (by decide)).trans q21
        exact op_value rfl rfl (run_extractL wc rfl e21 rfl) (hK _ wc (grownL wc) rfl)
      · obtain ⟨b22, g22, q22, h22⟩ := hp 2 (by decide) (by kernel_rfl)
        have e22 := (hr 22 (by decide)).trans q22
        have e23 : ac.eval (.tmp 23) = (.int .i64 0) := (hr 23 (by decide)).trans (hp 3 (by decide) (by kernel_rfl))
        refine op_callNL rfl rfl rfl (enters_of Tryz.func34 (by kernel_rfl) rfl) (map2L e22 e23) (mustF _ wc) fun e w' hr' => ?_
        obtain ⟨rfl, rfl⟩ := hr'
        exact ⟨_, rfl, hK _ _ (grownL _) (show bufQ N w.heap.size _ _ from ⟨b22, g22, rfl, h22⟩)⟩
      · obtain ⟨b24, g24, q24, h24⟩ := hp 4 (by decide) (by kernel_rfl)
        have e24 := (hr 24 (by decide)).trans q24
        exact op_value rfl rfl (run_nilL wc rfl e24) (hK _ wc (grownL wc) (show bufQ N w.heap.size _ _ from ⟨b24, g24, rfl, h24⟩))
      · obtain ⟨b25, g25, q25, h25⟩ := hp 5 (by decide) (by kernel_rfl)
        have e25 := (hr 25 (by decide)).trans q25
        exact op_value rfl rfl (run_loadBuf wc rfl e25 h25.1.cell) (hK _ wc (grownL wc) (show bufV N w.heap.size _ _ from ⟨g25, rfl, h25.2⟩))
      · have e2 := hr 2 (by decide)
        obtain ⟨c0, c1, c2, c3, c4⟩ := HCC.out wc (hB1.trans (hbc.mono hB1.size))
        exact op_value rfl rfl (run_loadSetL (S := S) wc rfl e2 c0 c1 c2 c3 c4) (hK _ wc (grownL wc) rfl)
      · have e1 := hr 1 (by decide)
        exact op_value rfl rfl (run_moveQ wc rfl e1) (hK _ wc (grownL wc) rfl)
      · obtain ⟨g26, q26, h26⟩ := hp 6 (by decide) (by kernel_rfl)
        have e26 := (hr 26 (by decide)).trans q26
        have e27 : ac.eval (.tmp 27) = S.val := (hr 27 (by decide)).trans (hp 7 (by decide) (by kernel_rfl))
        have e28 : ac.eval (.tmp 28) = (.int .i64 (B : Int)) := (hr 28 (by decide)).trans (hp 8 (by decide) (by kernel_rfl))
        exact op_value rfl rfl (run_buildLink (S := S) wc rfl e26 e27 e28) (hK _ wc (grownL wc) (show bufW N w.heap.size S B _ _ from ⟨g26, rfl, h26⟩))
      · obtain ⟨g29, q29, h29⟩ := hp 9 (by decide) (by kernel_rfl)
        have e29 := (hr 29 (by decide)).trans q29
        exact op_value rfl rfl (run_boxLink wc rfl e29) (hK _ _ (grown_allocL _ _) (earR.mk (Nat.le_trans (Nat.le_of_lt hl0) (Nat.le_trans hB1.size hbc.size)) h29))
      · obtain ⟨b30, g30, q30, h30⟩ := hp 10 (by decide) (by kernel_rfl)
        have e30 := (hr 30 (by decide)).trans q30
        exact op_value rfl rfl (run_assignL wc rfl e30) (hK _ wc (grownL wc) (show earR N w.heap.size S B _ _ from ⟨b30, g30, rfl, h30⟩)))
    (fun σ wc hbc hp => by
      refine op_value rfl rfl (run_assignL wc rfl rfl) ⟨rfl, σ, put_list _ _ _, hp 11 (by decide), hbc⟩)) ?_
  rintro e a' w5 ⟨rfl, σ5, rfl, ⟨b5, g5, q5, hE5⟩, hb5⟩
  rw [show tbS [20, 21, 22, 23, 24, 25, 26, 27, 28, 29, 30, 4] 12 σ5 = [(20, σ5 0), (21, σ5 1), (22, σ5 2), (23, σ5 3), (24, σ5 4), (25, σ5 5), (26, σ5 6), (27, σ5 7), (28, σ5 8), (29, σ5 9), (30, σ5 10), (4, σ5 11)] from rfl, q5]
  dsimp only [setAll, List.set, List.append_nil, List.cons_append, List.nil_append]
  have hBB := hb0.trans ((hB1.trans (hb5.mono hB1.size)).mono hb0.size)
  clear hb5 hb4 hB1
  go_wp2_with fail
  go_ret2
  exact ⟨_, [b5, g5], rfl, ⟨b5, g5, rfl, rfl, hE5.2.2.2.2, by rw [List.length_replicate]; exact hE5.1, hE5.2.1⟩, by simp; exact ⟨hE5.2.2.2.1, hE5.2.2.1⟩, hBB⟩
end Go.Proofs.YtplkmkbambbemaeGreatDoor
namespace Go.Proofs.YtplkmkbambbemaeGreatDoor
open Go.ChangeShapes Go.WideShapes Go.ChangeAt Go.RowKit
theorem sum_anyN (W : Nat) (R : Nat) (zs : List Int) (n : Nat) (hn : zs.length = n) (a : Option Addr) (c : Nat) (w : World) (ha : Rd .u8 w a zs) (hb : Bits zs) (hz : n ≤ 4096) (hD : Div W (2 ^ W ||| R)) (hW1 : 1 ≤ W) (hW : W ≤ 24) (hR : R < 16777216) :
    Calls Tryz.prog 47 #[.agg #[.int .i64 W, .int .u32 R], .slice a n c] w fun e w' => ∃ v, e = .returned v ∧ Own w' w.heap.size v (sumL W (2 ^ W ||| R) zs) ∧ Below w.heap.size w w' := by
  subst hn
  exact sum_any W R zs a c w ha hb hz hD hW1 hW hR
theorem conv_rdN {w : World} {a : Option Addr} {L : List Int} (h : Rd .u8 w a L) (c n : Nat) (hn : L.length = n) : (convert 55 9 (.slice a n c)).run Tryz.prog w = .ok (.string (strOfNums L)) w := by
  subst hn
  exact conv_rd h c
theorem laid_one (zs : List Int) (n : Nat) (hn : n ≤ zs.length) : laidOver (List.replicate n 0) 0 (zs.take n) = zs.take n := by
  simp [laidOver]; omega
set_option maxRecDepth 100000 in
set_option maxHeartbeats 2000000 in
theorem open_ok (zs : List Int) (k : Int) (a : Option Addr) (c : Nat) (w : World) (ha : Rd .u8 w a zs) (hcap : zs.length ≤ c) (hcm : c ≤ maxLen) (hy : Bytes zs) (h : errSum zs k = 0) (n : Nat) (hl : zs.length = n + kW k) (hs : ksum (zs.take n) k = zs.drop n) :
    Calls Tryz.prog 56 #[.slice a zs.length c, .int .i64 k] w fun e w' => ∃ v, e = .returned (.tuple #[v, .bool true, .int .i64 0]) ∧ Own w' w.heap.size v (zs.take n) ∧ Below w.heap.size w w' := by
  obtain ⟨he, hk⟩ := errSum_ok h
  obtain ⟨hD, hW1, hW, hR⟩ := kind_div hk
  have hb : Bits zs := fun j => ⟨(hy.at j).1, (err_zero he).1 j⟩
  have hbt := bits_take hb n
  have hz := (err_zero he).2
  have HE : Hid (errOf zs = 0) := he
  have HK : Hid (isKind k = true) := hk
  have HL : Hid (zs.length = n + kW k) := hl
  have hlt : n < zs.length := by omega
  have hsub : (zs.length : Int) - (kW k : Int) = n := by omega
  have hlt' : (zs.take n).length = n := by rw [List.length_take]; omega
  have HT : Hid ((zs.take n).length = n) := hlt'
  have hld' : (zs.drop n).length = zs.length - n := by rw [List.length_drop]
  have HD : Hid ((zs.drop n).length = zs.length - n) := hld'
  unfold ksum kP at hs
  unfold kP at hD
  have HS : Hid (sumL (kW k) (2 ^ kW k ||| kR k) (zs.take n) = zs.drop n) := hs
  unfold maxLen at hcm
  clear h hy he hk hl hlt' hld' hs
  obtain ⟨b1, o1, rfl, hc1⟩ := ha.at hlt
  go_enter Tryz.func56, Tryz.ntmps56
  go_wp2_with fail
  refine (checksum_ok zs k _ c _ ha (by unfold maxLen; omega) HE.out HK.out).mono ?_
  rintro e w1 ⟨rfl, hb1⟩
  have hbb : Below w.heap.size w (w1.alloc (.cells #[.int .i64 (kW k), .int .u32 (kR k)] 85)) := hb1.alloc hb1.size _
  obtain ⟨p0, p1, -⟩ := box2 (w := w1) (x := .int .i64 (kW k)) (y := .int .u32 (kR k)) (T := 85) (w1 := w1.alloc (.cells #[.int .i64 (kW k), .int .u32 (kR k)] 85)) (Below.refl _ _)
  have hcb : ∀ j, j < zs.length → (w1.alloc (.cells #[.int .i64 (kW k), .int .u32 (kR k)] 85)).cell? ⟨b1, o1 + j, none⟩ = some (.int .u8 (zs.getD j 0)) := fun j hj => keep1 hbb (hc1 j hj)
  have hrt := Rd.take hcb n
  have hrd := Rd.drop hcb n
  clear hc1 hcb
  have hrz := ha.below hbb
  have P0 := hid p0
  have P1 := hid p1
  clear p0 p1
  go_wp2_with fail
  have hA1 : (n : Int) ≤ (c : Int) := by omega
  have hA2 : (n : Int) ≤ (zs.length : Int) := by omega
  have hrd' : Rd .u8 (w1.alloc (.cells #[.int .i64 (kW k), .int .u32 (kR k)] 85)).drew (some ⟨b1, o1 + n, none⟩) (zs.drop n) := hrd
  go_region_held (fun w' => w'.cell? ⟨w1.heap.size, 0, none⟩ = some (.int .i64 (kW k)) ∧ w'.cell? ⟨w1.heap.size, 1, none⟩ = some (.int .u32 (kR k)) ∧ (convert 55 9 (.slice (some ⟨b1, o1 + n, none⟩) (zs.length - n) (c - n))).run Tryz.prog w' = .ok (.string (strOfNums (zs.drop n))) w')
    (first | exact ⟨P0.out, P1.out, conv_rdN hrd' _ _ HD.out⟩ | exact ⟨keep1 hb2 P0.out, keep1 hb2 P1.out, conv_rdN (hrd'.below hb2) _ _ HD.out⟩)
    (first | (go_at_call 47; refine (sum_anyN (kW k) (kR k) (zs.take n) n HT.out _ _ _ ?_ hbt (by omega) hD hW1 hW hR).mono ?_; exact hrt; rintro e w2 ⟨v2, rfl, hown2, hb2⟩; rw [HS.out] at hown2; obtain ⟨a2, c2, rfl, -⟩ := hown2.shape; have hcv2 := conv_rdN hown2.rd c2 _ HD.out))
  all_goals
    have hbw : Below w.heap.size w w2 := bthen hbb.drew hb2
    have hrz2 : Rd .u8 w2 (some ⟨b1, o1, none⟩) zs := ha.below hbw
    clear hcv2 hown2 hb2 hrd hrd' hrt hrz
    go_wp2_with (at_make; refine wpList_makeBytes w2.heap.size w2 n rfl _ _ rfl _ _ rfl rfl rfl rfl (by omega) (Below.refl _ _) (Nat.le_refl _) ?_)
    intro w3 hown3 hbel3 hsz3
    have hrz3 := hrz2.below hbel3
    go_wp2_with (refine wpList_copyBytes w2 hown3 hrz3 rfl (.tmp 42) (.tmp 43) rfl (some ⟨w2.heap.size, 0, none⟩) n n c 0 n (by omega) rfl rfl (fun _ => rfl) (by omega) hbel3 ?_)
    intro w4 hown4 hbel4 hsz4
    rw [laid_one zs n (by omega)] at hown4
    go_wp2
    go_ret3
    exact ⟨_, rfl, hown4.mono hbw.size, bthen hbw hbel4⟩
end Go.Proofs.YtplkmkbambbemaeGreatDoor
