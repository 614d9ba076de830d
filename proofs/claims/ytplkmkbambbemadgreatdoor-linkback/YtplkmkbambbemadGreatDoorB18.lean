import Derived.Test.YtplkmkbambbemadGreatDoorB14
import Derived.Test.YtplkmkbambbemadGreatDoorB10
import Derived.Test.YtplkmkbambbemadGreatDoorB11
import Derived.Test.YtplkmkbambbemadGreatDoorB04
import Derived.Test.YtplkmkbambbemadGreatDoorB12
import Derived.Test.YtplkmkbambbemadGreatDoorB17
namespace Go.Proofs.YtplkmkbambbemadGreatDoor
open Go.ChangeShapes Go.WideShapes Go.ChangeAt Go.RowKit
/-- A block whose first cell is u, the others r. -/
def BoxR (W : World) (B : Nat) (t : TypeId) (r : List Value) (u : Value) : Prop := W.heap[B]? = some (.cells (u :: r).toArray t (0, 0))
theorem BoxR.lt {W : World} {B : Nat} {t : TypeId} {r : List Value} {v : Value} (h : BoxR W B t r v) : B < W.heap.size := (Array.getElem?_eq_some_iff.1 h).1
theorem BoxR.cell {W : World} {B : Nat} {t : TypeId} {r : List Value} {v : Value} (h : BoxR W B t r v) : W.cell? ⟨B, 0, none⟩ = some v := by simp [World.cell?, show W.heap[B]? = _ from h]
theorem BoxR.frozen {W : World} {B : Nat} {t : TypeId} {r : List Value} {v : Value} (h : BoxR W B t r v) : W.frozen? ⟨B, 0, none⟩ = false := by simp [World.frozen?, show W.heap[B]? = _ from h]
theorem BoxR.set {W : World} {B : Nat} {t : TypeId} {r : List Value} {v : Value} (v' : Value) (h : BoxR W B t r v) : BoxR (W.setCell ⟨B, 0, none⟩ v') B t r v' := by
  obtain ⟨hlt, hk⟩ := Array.getElem?_eq_some_iff.1 h
  show (W.heap.modify B _)[B]? = _
  rw [Array.getElem?_eq_getElem (by rw [Array.size_modify]; exact hlt), Array.getElem_modify_self, hk]
  simp
theorem BoxR.of {W : World} {B : Nat} {t : TypeId} {v : Value} (h : Boxed W B t v) : BoxR W B t [] v := h
theorem BoxR.old {w w' : World} {B : Nat} {t : TypeId} {r : List Value} {u : Value} (h : BoxR w B t r u) (hb : Below w.heap.size w w') : BoxR w' B t r u := (hb.block B h.lt).trans h
def BufR (t : TypeId) (r : List Value) (w : World) (p : Addr) (S : List Nat) (s : List Int) : Prop :=
  ∃ b g, p = ⟨b, 0, none⟩ ∧ S = [b, g] ∧ b ≠ g ∧ BoxR w b t r (.slice (some ⟨g, 0, none⟩) s.length s.length) ∧ ArrAt .i64 3 w g s
def BufP (w : World) (p : Addr) (S : List Nat) (s : List Int) : Prop := BufR 111 [] w p S s
theorem BufR.lt {t : TypeId} {r : List Value} {w : World} {p : Addr} {S : List Nat} {s : List Int} (h : BufR t r w p S s) : ∀ x ∈ S, x < w.heap.size := by
  obtain ⟨b, g, rfl, rfl, _, hb, hg⟩ := h
  intro x hx
  simp at hx
  rcases hx with rfl | rfl
  · exact hb.lt
  · exact hg.lt
theorem BufR.kept {t : TypeId} {r : List Value} {w w' : World} {p : Addr} {S T : List Nat} {s : List Int} (h : BufR t r w p S s) (hk : Kept T w w') (hs : ∀ x ∈ S, x ∉ T) : BufR t r w' p S s := by
  obtain ⟨b, g, rfl, rfl, hne, hb, hg⟩ := h
  exact ⟨b, g, rfl, rfl, hne, (hk.block b hb.lt (hs b (by simp))).trans hb, hg.kept hk (hs g (by simp))⟩
set_option maxHeartbeats 1000000 in
theorem new_any (n : Nat) (w : World) (h1 : 1 ≤ n) (hn : n ≤ 4096) : Calls Tryz.prog 69 #[.int .i64 n] w fun e w' => ∃ p S, e = .returned (.tuple #[.pointer (some p), .int .i64 0]) ∧ BufP w' p S (List.replicate n 0) ∧ (∀ x ∈ S, w.heap.size ≤ x) ∧ Below w.heap.size w w' := by
  have hsz := checkSize_any (n : Int) w
  rw [show sizeErrM (n : Int) = 0 by unfold sizeErrM; rw [show sizeOk (n : Int) = true from decide_eq_true (by omega)]; rfl] at hsz
  go_enter Tryz.func69, Tryz.ntmps69
  go_wp2_with (first | (go_at_call 51; refine hsz.mono ?_; rintro e w1 ⟨rfl, rfl⟩) | (refine wpList_makeInts w.heap.size w n rfl _ _ rfl _ _ rfl rfl rfl rfl (by omega) (Below.refl _ _) (Nat.le_refl _) ?_; intro w1 hown1 hbel1 hlt1 _hx1; obtain ⟨har1, -, -⟩ := hown1.arr; clear hown1 _hx1))
  go_ret2
  exact ⟨_, _, rfl, ⟨w1.heap.size, w.heap.size, rfl, rfl, by omega, by rw [List.length_replicate]; exact BoxR.of (Boxed.new w1 _ _), har1.alloc _⟩, by simp; omega, hbel1.alloc (by omega) _⟩
set_option maxHeartbeats 1000000 in
theorem soft_get {t : TypeId} {r : List Value} {w : World} {p : Addr} {S : List Nat} {s : List Int} (hB : BufR t r w p S s) (h1 : 1 ≤ s.length) (hn : s.length ≤ 4096) :
    Calls Tryz.prog 115 #[.pointer (some p)] w fun e w' => ∃ g', e = .returned (.slice (some ⟨g', 0, none⟩) s.length s.length) ∧ ArrAt .i64 3 w' g' s ∧ w.heap.size ≤ g' ∧ Below w.heap.size w w' := by
  obtain ⟨b, g, rfl, rfl, hne, hb, hg⟩ := hB
  have hc := hb.cell
  obtain ⟨n, en⟩ : ∃ n, n = s.length := ⟨_, rfl⟩
  have HN := hid en
  rw [← en] at h1 hn hc hb
  rw [← en]
  clear en
  go_enter Tryz.func115, Tryz.ntmps115
  go_wp2_with (first
    | (refine wpList_makeInts w.heap.size w n rfl _ _ rfl _ _ rfl rfl rfl rfl (by omega) (Below.refl _ _) (Nat.le_refl _) ?_; intro w1 hown1 hbel1 hlt1 _hx1; obtain ⟨har1, -, -⟩ := hown1.arr; clear hown1 _hx1; have hc1 := (hbel1.cell (World.block_lt_of_cell? w _ hc)).trans hc)
    | (refine wpList_copyInts har1 (by simp) (src_cells (hg.below hbel1 hg.lt) HN.out.symm) HN.out.symm (Nat.le_refl _) rfl _ _ rfl rfl rfl ?_; intro w2 har2 hk2))
  go_ret
  refine ⟨w.heap.size, rfl, ?_, Nat.le_refl _, hbel1.trans (hk2.below hbel1.size (by simp))⟩
  rwa [List.take_of_length_le (by rw [← HN.out]; exact Nat.le_refl _)] at har2
set_option maxHeartbeats 1000000 in
/-- 'Add' of what may not be told. -/
theorem add_bad {w : World} {p : Addr} (a : Option Addr) (c : Nat) (xs : List Int) (v : Int) (ha : Rd .i64 w a xs) (hz : xs.length ≤ maxLen) (ht : tellOk xs v = false) :
    Calls Tryz.prog 82 #[.pointer (some p), .slice a xs.length c, .int .i64 v] w fun e w' => e = .returned (.int .i64 1) ∧ Below w.heap.size w w' := by
  have hB0 : Below w.heap.size w (w.alloc (.cells #[.slice a xs.length c] 23)) := (Below.refl _ w).alloc (Nat.le_refl _) _
  have hck := csoft_any xs a c (w.alloc (.cells #[.slice a xs.length c] 23)) (ha.below hB0) hz
  have hvr := checkVersion_any v (w.alloc (.cells #[.slice a xs.length c] 23))
  have hz' : xs.length ≤ 9223372036854775807 := by unfold maxLen at hz; omega
  cases h1 : softOk xs with
  | false =>
    rw [show softErr xs = 1 by unfold softErr; rw [h1]; rfl] at hck
    clear hvr ht h1 hz
    go_enter Tryz.func82, Tryz.ntmps82
    go_wp2_with (first | (go_at_call 45; refine hck.mono ?_; rintro e w1 ⟨rfl, rfl⟩))
    go_ret
    exact ⟨rfl, hB0⟩
  | true =>
    rw [show softErr xs = 0 by unfold softErr; rw [h1]; rfl] at hck
    by_cases h2 : 4096 < xs.length
    · have d2 : decide ((4096 : Int) < (xs.length : Int)) = true := decide_eq_true (by omega)
      clear hvr ht h1 h2 hz
      go_enter Tryz.func82, Tryz.ntmps82
      go_wp2_with (first | (go_at_call 45; refine hck.mono ?_; rintro e w1 ⟨rfl, rfl⟩))
      go_ret
      exact ⟨rfl, hB0⟩
    · have d2 : decide ((4096 : Int) < (xs.length : Int)) = false := decide_eq_false (by omega)
      have h3 : verOk v = false := by
        cases h : verOk v with
        | false => rfl
        | true => unfold tellOk at ht; rw [h1, h, decide_eq_true (show xs.length ≤ 4096 by omega)] at ht; cases ht
      rw [show verErr v = 1 by unfold verErr; rw [h3]; rfl] at hvr
      clear ht h1 h2 h3 hz
      go_enter Tryz.func82, Tryz.ntmps82
      go_wp2_with (first | (go_at_call 45; refine hck.mono ?_; rintro e w1 ⟨rfl, rfl⟩) | (go_at_call 52; refine hvr.mono ?_; rintro e w1 ⟨rfl, rfl⟩))
      go_ret
      exact ⟨rfl, hB0⟩
end Go.Proofs.YtplkmkbambbemadGreatDoor
namespace Go.Proofs.YtplkmkbambbemadGreatDoor
open Go.ChangeShapes Go.WideShapes Go.ChangeAt Go.RowKit Go.Shelf
attribute [local go_sem] Oper.semAt_some
theorem boxed_old {w w' : World} {B : Nat} {t : TypeId} {u : Value} (h : Boxed w B t u) (hb : Below w.heap.size w w') : Boxed w' B t u := (hb.block B h.lt).trans h
theorem kept_put {S : List Nat} {w W : World} (h : Kept S w W) {D : Nat} (hD : w.heap.size ≤ D) (o : Obj) : Kept S w (W.putObj D o) :=
  ⟨h.os, h.tape, h.output, by have := h.size; simp only [World.putObj, Array.size_setIfInBounds]; omega, fun i hi hn => (World.putObj_heap_other (by omega)).trans (h.block i hi hn)⟩
set_option maxRecDepth 100000 in
set_option maxHeartbeats 4000000 in
theorem add_good {t : TypeId} {r : List Value} {w : World} {b g : Nat} {s : List Int} (a : Option Addr) (m n c v : Nat) (xs : List Int) (hC : Col w) (hne : b ≠ g) (hbx : BoxR w b t r (.slice (some ⟨g, 0, none⟩) n n)) (hg : ArrAt .i64 3 w g s)
    (hsl : s.length = n) (h1 : 1 ≤ n) (hn : n ≤ 4096) (hs : softOk s = true) (ha : Rd .i64 w a xs) (hxs : softOk xs = true) (hxl : xs.length = m) (hm : m ≤ 4096) (hv : v ≤ 3) (G : List Int) (HG : Hid (gathF n v xs s (List.range m) = G)) :
    Calls Tryz.prog 82 #[.pointer (some ⟨b, 0, none⟩), .slice a m c, .int .i64 v] w fun e w' =>
      (softOk G = true → e = .returned (.int .i64 0) ∧ (∃ g', w.heap.size ≤ g' ∧ BoxR w' b t r (.slice (some ⟨g', 0, none⟩) n n) ∧ ArrAt .i64 3 w' g' G) ∧ Kept [b] w w') ∧
      (softOk G = false → e = .returned (.int .i64 2) ∧ Below w.heap.size w w') := by
  have hB0 : Below w.heap.size w (w.alloc (.cells #[.slice a m c] 23)) := (Below.refl _ w).alloc (Nat.le_refl _) _
  have bS := Boxed.new w 23 (.slice a m c)
  have hck := csoft_any xs a c (w.alloc (.cells #[.slice a m c] 23)) (ha.below hB0) (by unfold maxLen; omega)
  rw [hxl, show softErr xs = 0 by unfold softErr; rw [hxs]; rfl] at hck
  have hvr := checkVersion_any (v : Int) (w.alloc (.cells #[.slice a m c] 23))
  rw [show verErr (v : Int) = 0 by unfold verErr; rw [show verOk (v : Int) = true from decide_eq_true (by omega)]; rfl] at hvr
  have hsg := soft_get (t := t) (r := r) (w := w.alloc (.cells #[.slice a m c] 23)) (p := ⟨b, 0, none⟩) (S := [b, g]) (s := s) ⟨b, g, rfl, rfl, hne, by rw [hsl]; exact hbx.old hB0, hg.below hB0 hg.lt⟩ (by omega) (by omega)
  rw [hsl] at hsg
  have d2 : decide ((4096 : Int) < (m : Int)) = false := decide_eq_false (by omega)
  have HXL := hid hxl
  have HSL := hid hsl
  have cS := bS.cell
  clear hxl hsl
  refine (callsIn_wide (n := 3)).1 ?_
  refine callsIn_of_wp_marks Tryz.func82 rfl trivial ?_ rfl
  simp only [Tryz.ntmps82, List.size_toArray, List.length_cons, List.length_nil, Nat.reduceAdd, Nat.reduceSub, Array.replicate_succ, Array.replicate_zero, List.push_toArray, List.append_toArray, List.nil_append, List.cons_append]
  gi_wp2_with (first
    | (refine ⟨trivial, ?_⟩; gi_at_call 45; refine (callsIn_wide.2 hck).mono ?_; rintro e w' ⟨rfl, rfl⟩)
    | (refine ⟨trivial, ?_⟩; gi_at_call 52; refine (callsIn_wide.2 hvr).mono ?_; rintro e w' ⟨rfl, rfl⟩)
    | (refine ⟨trivial, ?_⟩; gi_at_call 115; refine (callsIn_wide.2 hsg).mono ?_; rintro e w2 ⟨g', rfl, har2, hg', hb2⟩; have bS2 := boxed_old bS hb2; have cS2 := (bS2.alloc (.cells #[.slice (some ⟨g', 0, none⟩) n n] 23)).cell)
    | (refine ⟨trivial, ?_⟩; gi_at_call 53; refine (round_in 2 n v m _).mono ?_; rintro e w' ⟨rfl, rfl⟩))
  have hz2 : w.heap.size + 1 ≤ w2.heap.size := by have := hb2.size; rwa [World.size_alloc] at this
  have hg1 : w.heap.size + 1 ≤ g' := by rwa [World.size_alloc] at hg'
  have hgl := har2.lt
  have hbw2 : Below w.heap.size w w2 := hB0.trans (hb2.mono (by simp))
  have bP := Boxed.new w2 23 (.slice (some ⟨g', 0, none⟩) n n)
  obtain ⟨w3, ew3⟩ : ∃ w3, w3 = w2.alloc (.cells #[.slice (some ⟨g', 0, none⟩) n n] 23) := ⟨_, rfl⟩
  have hs3 : w3.heap.size = w2.heap.size + 1 := by rw [ew3]; simp
  have bS3 : Boxed w3 w.heap.size 23 (.slice a m c) := by rw [ew3]; exact bS2.alloc _
  have har3 : ArrAt .i64 3 w3 g' s := by rw [ew3]; exact har2.alloc _
  have hb3 : Below w.heap.size w w3 := by rw [ew3]; exact hbw2.alloc (by omega) _
  rw [← ew3] at bP
  rw [← ew3, ← hs3]
  obtain ⟨w4, ew4⟩ : ∃ w4, w4 = ((w3.alloc (.cells #[.int .i64 n] 3)).alloc (.cells #[.int .i64 v] 3)).alloc (.cells #[.int .i64 m] 3) := ⟨_, rfl⟩
  have b1 : Boxed w4 w3.heap.size 3 (.int .i64 n) := by rw [ew4]; exact ((Boxed.new w3 _ _).alloc _).alloc _
  have b2 : Boxed w4 (w3.heap.size + 1) 3 (.int .i64 v) := by rw [ew4]; have := (Boxed.new (w3.alloc (.cells #[.int .i64 n] 3)) 3 (.int .i64 v)).alloc (.cells #[.int .i64 m] 3); rwa [World.size_alloc] at this
  have b3 : Boxed w4 (w3.heap.size + 2) 3 (.int .i64 m) := by rw [ew4]; have := Boxed.new ((w3.alloc (.cells #[.int .i64 n] 3)).alloc (.cells #[.int .i64 v] 3)) 3 (.int .i64 m); rwa [World.size_alloc, World.size_alloc] at this
  have bS4 : Boxed w4 w.heap.size 23 (.slice a m c) := by rw [ew4]; exact ((bS3.alloc _).alloc _).alloc _
  have bP4 : Boxed w4 w2.heap.size 23 (.slice (some ⟨g', 0, none⟩) n n) := by rw [ew4]; exact ((bP.alloc _).alloc _).alloc _
  have har4 : ArrAt .i64 3 w4 g' s := by rw [ew4]; exact ((har3.alloc _).alloc _).alloc _
  have hb4 : Below w.heap.size w w4 := by rw [ew4]; exact ((hb3.alloc hb3.size _).alloc (by simp; have := hb3.size; omega) _).alloc (by simp; have := hb3.size; omega) _
  have hs4 : w4.heap.size = w3.heap.size + 3 := by rw [ew4]; simp
  rw [← ew4]
  have HS3 := hid hs3
  have HS4 := hid hs4
  have hw2 : w2.heap.size < w3.heap.size := by omega
  have hw3 : w3.heap.size < w4.heap.size := by omega
  clear hs3 hs4 ew3 ew4 bS2 bP har2 hb2 bS3 har3 hb3 hB0 cS2 cS bS hck hvr hsg d2 hbw2
  refine wpIn_rangeFunc_ownG rfl (by decide) (gf := 101) (lb := #[.pointer (some ⟨w3.heap.size, 0, none⟩), .pointer (some ⟨w3.heap.size + 1, 0, none⟩), .pointer (some ⟨w3.heap.size + 2, 0, none⟩)]) rfl trivial (enters_of Tryz.func101 (by kernel_rfl) rfl)
    (round_stops n v m h1 hn hv hm w3.heap.size (w3.heap.size + 1) (w3.heap.size + 2) [g'] w4 (hC.later hb4) b1.cell b2.cell b3.cell (by simp; omega) (by simp; omega)) KeptC.trans keptC_b (Below.refl _ _) (fun _ => rfl)
    (fun pre W => Boxed W w.heap.size 23 (.slice a m c) ∧ Boxed W w2.heap.size 23 (.slice (some ⟨g', 0, none⟩) n n) ∧ ArrAt .i64 3 W g' (gathF n v xs s (pre.map Fin.val)) ∧ Below w.heap.size w W)
    (fun _ _ _ => False)
    (fun pre X Y row hs hg hrow => ⟨cellsKept hs.1 hg hrow, cellsKept hs.2.1 hg hrow, cellsKept hs.2.2.1 hg hrow, hs.2.2.2.grown hg hs.2.2.2.size (fun j e => by have := (hrow j e).1; omega)⟩)
    (fun _ _ _ _ _ hs _ _ => hs)
    ⟨bS4, bP4, har4, hb4⟩
    (fun x => { tmps := #[.pointer (some ⟨b, 0, none⟩), .slice a m c, .int .i64 v, undef, .pointer (some ⟨w.heap.size, 0, none⟩), undef, .int .i64 0, .int .i64 0, .int .i64 0, .pointer (some ⟨w2.heap.size, 0, none⟩), .int .i64 (x.val : Int), .int .i64 ((pickM n v x.val : Nat) : Int), .slice a m c, .int .i64 0, .int .i64 0, .bool false, undef, .slice a m c, .int .i64 m, .bool false, .int .i64 v, .int .i64 0, .int .i64 0, .bool false, undef, .pointer (some ⟨b, 0, none⟩), .slice (some ⟨g', 0, none⟩) n n, .slice (some ⟨g', 0, none⟩) n n, .int .i64 n, .int .i64 v, .slice a m c, .int .i64 m, .func (.func 101) #[] #[.pointer (some ⟨w3.heap.size, 0, none⟩), .pointer (some ⟨w3.heap.size + 1, 0, none⟩), .pointer (some ⟨w3.heap.size + 2, 0, none⟩)], .int .i64 (x.val : Int), .int .i64 ((pickM n v x.val : Nat) : Int), undef, undef, undef, undef, undef, undef, undef, undef, undef, undef, undef, undef, undef, undef, undef, undef, undef], defers := [] }) ?assign ?body ?done ?stop
  case assign =>
    intro l x W K hK
    unfold encR
    gi_wp2
    exact hK
  case body =>
    rintro l pre ⟨x, hx⟩ W ⟨bS, bP, har, hB⟩ hlt
    dsimp only
    have hpx := pickM_lt (n := n) (v := v) (i := x) h1
    obtain ⟨bx, ox, rfl, hcx⟩ := (ha.below hB).at (i := x) (by rw [HXL.out]; exact hx)
    have g1 := hcx x (by rw [HXL.out]; exact hx)
    have cC := bS.cell
    have cP := bP.cell
    have HF := hid ((gathF_length n v xs (pre.map Fin.val) s).trans HSL.out)
    have g2 := har.cell (j := pickM n v x) (by rw [HF.out]; exact hpx)
    have hfr := har.free (pickM n v x)
    have HS := hid (gathF_snoc n v xs s (pre.map Fin.val) x)
    have hyb := gathF_bd n v hs hxs (pre.map Fin.val) (pickM n v x)
    rw [List.length_map] at hyb
    have hzb := soft_at hxs x
    obtain ⟨pk, epk⟩ : ∃ pk, pk = pickM n v x := ⟨_, rfl⟩
    rw [← epk] at hpx g2 HS hfr hyb
    obtain ⟨z, ez⟩ : ∃ z, z = xs.getD x 0 := ⟨_, rfl⟩
    rw [← ez] at g1 HS hzb
    obtain ⟨y, ey⟩ : ∃ y, y = (gathF n v xs s (pre.map Fin.val)).getD pk 0 := ⟨_, rfl⟩
    rw [← ey] at g2 HS hyb
    have hyb' : -409700000 ≤ y ∧ y ≤ 409700000 := by omega
    rw [← epk]
    have hset := har.set pk (y + z)
    rw [← HS.out] at hset
    have hsetX : ArrAt .i64 3 (W.setCell ⟨g', pk, none⟩ (.int .i64 (y + z))).drew g' (gathF n v xs s ((pre ++ [(⟨x, hx⟩ : Fin m)]).map Fin.val)) := by rw [List.map_append]; exact hset
    have hfin : KeepsFrom w4.heap.size W (W.setCell ⟨g', pk, none⟩ (.int .i64 (y + z))).drew ∧ KeptC [g'] W (W.setCell ⟨g', pk, none⟩ (.int .i64 (y + z))).drew ∧ Boxed (W.setCell ⟨g', pk, none⟩ (.int .i64 (y + z))).drew w.heap.size 23 (.slice (some ⟨bx, ox, none⟩) m c) ∧ Boxed (W.setCell ⟨g', pk, none⟩ (.int .i64 (y + z))).drew w2.heap.size 23 (.slice (some ⟨g', 0, none⟩) n n) ∧ ArrAt .i64 3 (W.setCell ⟨g', pk, none⟩ (.int .i64 (y + z))).drew g' (gathF n v xs s ((pre ++ [(⟨x, hx⟩ : Fin m)]).map Fin.val)) ∧ Below w.heap.size w (W.setCell ⟨g', pk, none⟩ (.int .i64 (y + z))).drew :=
      ⟨((KeepsOthers.setCell _ _ _).trans (keeps_drew _)).from _, (KeptC.setCell _ (by simp) _).drew, boxed_other bS (by simp; omega) _, boxed_other bP (by simp; omega) _, hsetX, (hB.setCell (p := ⟨g', pk, none⟩) (by simp; omega) _).drew⟩
    have hmix : Tryz.prog.follows .mixedOrders = true := by kernel_rfl
    clear hcx epk ez ey hset hsetX HS har HF hyb bS bP hB hlt bS4 bP4 har4 hb4 ha
    gi_wp2
    refine wpIn_mono (Q := fun e _ w' => e = .normal ∧ w' = (W.setCell ⟨g', pk, none⟩ (.int .i64 (y + z))).drew) ?_ ?_
    · clear hfin
      have hwr : IntKind.i64.wrap (y + z) = y + z := by rw [IntKind.wrap_i64]; omega
      refine region_quiet 10 35 [.slice (some ⟨g', 0, none⟩) n n, .int .i64 (pk : Int), .pointer (some ⟨g', 0 + pk, none⟩), .int .i64 y, .slice (some ⟨bx, ox, none⟩) m c, .int .i64 (x : Int), .pointer (some ⟨bx, ox + x, none⟩), .int .i64 z, .int .i64 (y + z), .pointer (some ⟨g', 0 + pk, none⟩)]
        [[], [], [0, 1], [2], [], [], [4, 5], [6], [3, 7], [0, 1]] _ W hmix rfl (by simp) (by kernel_rfl) (by kernel_rfl) (by kernel_rfl) ?_ ?_
      · intro i hi ac hu hs K hK
        have hi10 : i = 0 ∨ i = 1 ∨ i = 2 ∨ i = 3 ∨ i = 4 ∨ i = 5 ∨ i = 6 ∨ i = 7 ∨ i = 8 ∨ i = 9 := by omega
        rcases hi10 with rfl | rfl | rfl | rfl | rfl | rfl | rfl | rfl | rfl | rfl
        · exact opIn_value rfl rfl (fun c h => by cases h) rfl (run_loadSI _ rfl (hs 9 (by omega)) cP) hK
        · exact opIn_value rfl rfl (fun c h => by cases h) rfl (run_moveQ _ rfl (hs 11 (by omega))) hK
        · exact opIn_value rfl rfl (fun c h => by cases h) rfl (run_idxI _ rfl (hu 0 (by decide)) (hu 1 (by decide)) hpx) hK
        · exact opIn_value rfl rfl (fun c h => by cases h) rfl (run_loadI _ rfl (hu 2 (by decide)) (by rw [Nat.zero_add]; exact g2)) hK
        · exact opIn_value rfl rfl (fun c h => by cases h) rfl (run_loadSI _ rfl (hs 4 (by omega)) cC) hK
        · exact opIn_value rfl rfl (fun c h => by cases h) rfl (run_moveQ _ rfl (hs 10 (by omega))) hK
        · exact opIn_value rfl rfl (fun c h => by cases h) rfl (run_idxI _ rfl (hu 4 (by decide)) (hu 5 (by decide)) hx) hK
        · exact opIn_value rfl rfl (fun c h => by cases h) rfl (run_loadI _ rfl (hu 6 (by decide)) g1) hK
        · exact opIn_value rfl rfl (fun c h => by cases h) rfl (run_addI _ rfl (hu 3 (by decide)) (hu 7 (by decide)) hwr) hK
        · exact opIn_value rfl rfl (fun c h => by cases h) rfl (run_idxI _ rfl (hu 0 (by decide)) (hu 1 (by decide)) hpx) hK
      · intro ac hu hs
        exact opIn_skip rfl rfl (fun c h => by cases h) rfl (run_storeI _ rfl (hu 9 (by decide)) (hu 8 (by decide)) (by rw [Nat.zero_add]; exact g2) (by rw [Nat.zero_add]; exact hfr)) ⟨rfl, by rw [Nat.zero_add]; rfl⟩
    · rintro e a' w' ⟨rfl, rfl⟩
      exact hfin
  case done =>
    rintro D ys W hD hys ⟨bS, bP, har, hB⟩ hK
    rw [hys, HG.out] at har
    have cP := bP.cell
    have hgl' := har.lt
    have hGL := hid ((congrArg List.length HG.out).symm.trans ((gathF_length n v xs (List.range m) s).trans HSL.out))
    have hcs := csoft_any G (some ⟨g', 0, none⟩) n W (ArrAt.rd (A := []) (Z := []) (by simpa using har) rfl) (by rw [hGL.out]; unfold maxLen; omega)
    rw [hGL.out] at hcs
    have hbW := hbx.old hB
    have cB := hbW.cell
    have fB := hbW.frozen
    have hbl := hbx.lt
    clear bS4 bP4 har4 hb4 b1 b2 b3
    cases hsg : softOk G with
    | true =>
      rw [show softErr G = 0 by unfold softErr; rw [hsg]; rfl] at hcs
      have HSG := hid hsg
      clear hsg
      gi_wp2_with (first | (refine ⟨trivial, ?_⟩; gi_at_call 45; refine (callsIn_wide.2 hcs).mono ?_; rintro e w' ⟨rfl, rfl⟩))
      have hK5 : (W.setCell ⟨b, 0, none⟩ (.slice (some ⟨g', 0, none⟩) n n)).heap[D]? = some (.deferred (some [])) := (KeepsOthers.setCell W _ _).same D _ hK rfl
      have hrow : ∀ r, some D = some r → 0 ≤ r ∧ ∃ o : Obj, (W.setCell ⟨b, 0, none⟩ (.slice (some ⟨g', 0, none⟩) n n)).heap[r]? = some o ∧ o.isCells = false := fun r e => by cases e; exact ⟨Nat.zero_le _, _, hK5, rfl⟩
      refine ⟨by simp, .inl ⟨_, _, rfl, run_takeDeferred hK5, ?_⟩⟩
      exact ⟨_, results_tmp rfl _ _ _, fun _ => ⟨rfl, ⟨g', by omega, cellsKept (hbW.set _) (grownBy_putObj' _ D (.deferred none)) hrow, cellsKept (har.other ⟨b, 0, none⟩ _ (by simp; omega)) (grownBy_putObj' _ D (.deferred none)) hrow⟩, kept_put ((Kept.of_below hB).setCell (p := ⟨b, 0, none⟩) (by simp) _) (by omega) _⟩, fun h => by rw [HSG.out] at h; cases h⟩
    | false =>
      rw [show softErr G = 1 by unfold softErr; rw [hsg]; rfl] at hcs
      have HSG := hid hsg
      clear hsg
      gi_wp2_with (first | (refine ⟨trivial, ?_⟩; gi_at_call 45; refine (callsIn_wide.2 hcs).mono ?_; rintro e w' ⟨rfl, rfl⟩))
      refine ⟨by simp, .inl ⟨_, _, rfl, run_takeDeferred hK, ?_⟩⟩
      exact ⟨_, results_tmp rfl _ _ _, fun h => (by rw [HSG.out] at h; cases h), fun _ => ⟨rfl, hB.trans (belowK_b (w := w) (Nat.le_refl _) W D _ _ (by omega) hK rfl rfl)⟩⟩
  case stop =>
    rintro D c pre W _ _ h _
    exact h.elim
theorem add_any {t : TypeId} {r : List Value} {w : World} {p : Addr} {S : List Nat} {s : List Int} (a : Option Addr) (c : Nat) (xs : List Int) (v : Int) (hC : Col w) (hB : BufR t r w p S s) (h1 : 1 ≤ s.length) (hn : s.length ≤ 4096) (hs : softOk s = true) (ha : Rd .i64 w a xs) (hz : xs.length ≤ maxLen) :
    Calls Tryz.prog 82 #[.pointer (some p), .slice a xs.length c, .int .i64 v] w fun e w' => ∃ S', e = .returned (.int .i64 (addErr s xs v)) ∧ BufR t r w' p S' (addM s xs v) ∧ (∀ x ∈ S', x ∈ S ∨ w.heap.size ≤ x) ∧ Kept [p.block] w w' := by
  cases ht : tellOk xs v with
  | false =>
    refine (add_bad a c xs v ha hz ht).mono fun e w' h => ?_
    obtain ⟨rfl, hb⟩ := h
    refine ⟨S, by unfold addErr; rw [ht]; rfl, ?_, fun x hx => .inl hx, Kept.of_below hb⟩
    have hM : addM s xs v = s := by unfold addM; rw [ht]; rfl
    rw [hM]
    exact hB.kept (Kept.of_below (S := []) hb) (fun x _ => by simp)
  | true =>
    obtain ⟨b, g, rfl, rfl, hne, hbx, hg⟩ := id hB
    obtain ⟨hxs, hx4, hvo⟩ : softOk xs = true ∧ xs.length ≤ 4096 ∧ verOk v = true := by
      have ht' := ht
      unfold tellOk at ht'
      simp at ht'
      exact ⟨ht'.1.1, ht'.1.2, ht'.2⟩
    obtain ⟨vn, rfl, hvn⟩ : ∃ vn : Nat, v = (vn : Int) ∧ vn ≤ 3 := by
      unfold verOk at hvo
      simp at hvo
      exact ⟨v.toNat, by omega, by omega⟩
    have hG : gathF s.length vn xs s (List.range xs.length) = nextM s xs (vn : Int) := gathF_range s.length vn xs s xs.length xs.length (Nat.le_refl _)
    refine (add_good a xs.length s.length c vn xs hC hne hbx hg rfl h1 hn hs ha hxs rfl hx4 hvn (nextM s xs (vn : Int)) hG).mono fun e w' h => ?_
    obtain ⟨hy, hno⟩ := h
    cases hsn : softOk (nextM s xs (vn : Int)) with
    | true =>
      obtain ⟨rfl, ⟨g', hg', hb', ha'⟩, hk⟩ := hy hsn
      have hM : addM s xs (vn : Int) = nextM s xs (vn : Int) := by unfold addM; rw [ht, hsn]; rfl
      refine ⟨[b, g'], by unfold addErr; rw [ht, hsn]; rfl, ?_, ?_, hk⟩
      · rw [hM]
        exact ⟨b, g', rfl, rfl, by have := hbx.lt; omega, by rw [nextM_length]; exact hb', ha'⟩
      · intro x hx
        simp at hx
        rcases hx with rfl | rfl
        · exact .inl (by simp)
        · exact .inr hg'
    | false =>
      obtain ⟨rfl, hb'⟩ := hno hsn
      have hM : addM s xs (vn : Int) = s := by unfold addM; rw [ht, hsn]; rfl
      refine ⟨[b, g], by unfold addErr; rw [ht, hsn]; rfl, ?_, fun x hx => .inl hx, Kept.of_below hb'⟩
      rw [hM]
      exact hB.kept (Kept.of_below (S := []) hb') (fun x _ => by simp)
end Go.Proofs.YtplkmkbambbemadGreatDoor
namespace Go.Proofs.YtplkmkbambbemadGreatDoor
open Go.ChangeShapes Go.WideShapes Go.ChangeAt Go.RowKit
def earTail (S : Setg) (B : Nat) : List Value := [.int .i64 S.code, .int .i64 S.size, .int .i64 S.order, .int .i64 S.seed, .int .i64 S.count, .int .i64 (B : Int)]
def EarP (w : World) (p : Addr) (F : List Nat) (S : Setg) (B : Nat) (s : List Int) : Prop := BufR 117 (earTail S B) w p F s
set_option maxHeartbeats 1000000 in
theorem lnew_bad (S : Setg) (bytes : Int) (w : World) (hIn : S.In) (hb : I64k bytes) (hE : setErr S bytes ≠ 0) : Calls Tryz.prog 30 #[S.val, .int .i64 bytes] w fun e w' => e = .returned (.tuple #[.pointer none, .int .i64 (setErr S bytes)]) ∧ Below w.heap.size w w' := by
  have hchk := fun wz => lcheck_any S bytes wz hIn hb
  obtain ⟨E, eE⟩ : ∃ E, E = setErr S bytes := ⟨_, rfl⟩
  rw [← eE] at hE hchk ⊢
  have q0 : (E != 0) = true := by simpa using hE
  unfold Setg.val at *
  clear eE hE hIn hb
  go_enter Tryz.func30, Tryz.ntmps30
  go_wp2_with (first | (go_at_call 28; refine (hchk _).mono ?_; rintro e w1 ⟨rfl, hb1⟩))
  go_ret2
  exact ⟨rfl, ((Below.refl _ w).alloc (Nat.le_refl _) _).trans (hb1.mono (by simp))⟩
/-- What New goes through: a buffer with an error, a buffer, what it holds, an ear. -/
def bufH (N B0 b g : Nat) (w : World) : Prop := BoxR w b 111 [] (.slice (some ⟨g, 0, none⟩) N N) ∧ ArrAt .i64 3 w g (List.replicate N 0) ∧ B0 ≤ g
def bufT (N B0 : Nat) : Value → World → Prop := fun x w => ∃ b g, x = .tuple #[.pointer (some ⟨b, 0, none⟩), .int .i64 0] ∧ bufH N B0 b g w
def bufQ (N B0 : Nat) : Value → World → Prop := fun x w => ∃ b g, x = .pointer (some ⟨b, 0, none⟩) ∧ bufH N B0 b g w
def bufV (N B0 : Nat) : Value → World → Prop := fun x w => ∃ g, x = .agg #[.slice (some ⟨g, 0, none⟩) N N] ∧ ArrAt .i64 3 w g (List.replicate N 0) ∧ B0 ≤ g
def earAgg (S : Setg) (B N g : Nat) : Value := .agg #[.slice (some ⟨g, 0, none⟩) N N, .int .i64 S.code, .int .i64 S.size, .int .i64 S.order, .int .i64 S.seed, .int .i64 S.count, .int .i64 (B : Int)]
def bufW (N B0 : Nat) (S : Setg) (B : Nat) : Value → World → Prop := fun x w => ∃ g, x = earAgg S B N g ∧ ArrAt .i64 3 w g (List.replicate N 0) ∧ B0 ≤ g
def earR (N B0 : Nat) (S : Setg) (B : Nat) : Value → World → Prop := fun x w => ∃ b g, x = .pointer (some ⟨b, 0, none⟩) ∧ (BoxR w b 117 (earTail S B) (.slice (some ⟨g, 0, none⟩) N N) ∧ ArrAt .i64 3 w g (List.replicate N 0) ∧ B0 ≤ g ∧ B0 ≤ b ∧ b ≠ g)
theorem arr_grown {k : IntKind} {T : TypeId} {w w' : World} {g : Nat} {L : List Int} (h : ArrAt k T w g L) (hg : w.grownBy w' none) : ArrAt k T w' g L := h.below (below_of_grown hg) h.lt
theorem bufH_grown {N B0 b g : Nat} {w w' : World} (h : bufH N B0 b g w) (hg : w.grownBy w' none) : bufH N B0 b g w' := ⟨h.1.old (below_of_grown hg), arr_grown h.2.1 hg, h.2.2⟩
theorem bufT_mono (N B0 : Nat) : MonoR (bufT N B0) := fun _ _ _ ⟨b, g, h1, h2⟩ hg => ⟨b, g, h1, bufH_grown h2 hg⟩
theorem bufQ_mono (N B0 : Nat) : MonoR (bufQ N B0) := fun _ _ _ ⟨b, g, h1, h2⟩ hg => ⟨b, g, h1, bufH_grown h2 hg⟩
theorem bufV_mono (N B0 : Nat) : MonoR (bufV N B0) := fun _ _ _ ⟨g, h1, h2, h3⟩ hg => ⟨g, h1, arr_grown h2 hg, h3⟩
theorem bufW_mono (N B0 : Nat) (S : Setg) (B : Nat) : MonoR (bufW N B0 S B) := fun _ _ _ ⟨g, h1, h2, h3⟩ hg => ⟨g, h1, arr_grown h2 hg, h3⟩
theorem earR_mono (N B0 : Nat) (S : Setg) (B : Nat) : MonoR (earR N B0 S B) := fun _ _ _ ⟨b, g, h1, h2, h3, h4⟩ hg => ⟨b, g, h1, h2.old (below_of_grown hg), arr_grown h3 hg, h4⟩
theorem bufT.mk {N B0 : Nat} {w : World} {p : Addr} {F : List Nat} (h : BufP w p F (List.replicate N 0)) (hF : ∀ x ∈ F, B0 ≤ x) : bufT N B0 (.tuple #[.pointer (some p), .int .i64 0]) w := by
  obtain ⟨b, g, rfl, rfl, _, hb, hg⟩ := h
  rw [List.length_replicate] at hb
  exact ⟨b, g, rfl, hb, hg, hF g (by simp)⟩
theorem earR.mk {N B0 : Nat} {S : Setg} {B : Nat} {w : World} {g : Nat} (hB : B0 ≤ w.heap.size) (h : ArrAt .i64 3 w g (List.replicate N 0) ∧ B0 ≤ g) : earR N B0 S B (.pointer (some ⟨w.heap.size, 0, none⟩)) (w.alloc (.cells #[.slice (some ⟨g, 0, none⟩) N N, .int .i64 S.code, .int .i64 S.size, .int .i64 S.order, .int .i64 S.seed, .int .i64 S.count, .int .i64 (B : Int)] 117)) :=
  ⟨w.heap.size, g, rfl, heap_alloc_new w _, h.1.alloc _, h.2, hB, by have := h.1.lt; omega⟩
theorem run_loadBuf {ρ : Operand → Value} (w : World) {o : Oper} {x : Operand} {g : Nat} {v : Value} (ho : o.op = .load 111 x) (h : ρ x = .pointer (some ⟨g, 0, none⟩)) (hc : w.cell? ⟨g, 0, none⟩ = some v) : (execOp ρ o).run Tryz.prog w = .ok (.value (.agg #[v])) w := by
  unfold execOp
  simp only [ho, h]
  simp [go_sem, hc]
theorem run_buildLink {ρ : Operand → Value} (w : World) {o : Oper} {x y z : Operand} {S : Setg} {B N g : Nat} (ho : o.op = .build 117 #[(0, x), (1, y), (2, z)]) (hx : ρ x = .agg #[.slice (some ⟨g, 0, none⟩) N N]) (hy : ρ y = S.val) (hz : ρ z = .int .i64 (B : Int)) : (execOp ρ o).run Tryz.prog w = .ok (.value (earAgg S B N g)) w := by
  unfold execOp
  simp only [ho]
  simp [hx, hy, hz, go_sem, Setg.val, earAgg]
theorem run_boxLink {ρ : Operand → Value} (w : World) {o : Oper} {x : Operand} {S : Setg} {B N g : Nat} (ho : o.op = .box 117 x) (h : ρ x = earAgg S B N g) : (execOp ρ o).run Tryz.prog w = .ok (.value (.pointer (some ⟨w.heap.size, 0, none⟩))) (w.alloc (.cells #[.slice (some ⟨g, 0, none⟩) N N, .int .i64 S.code, .int .i64 S.size, .int .i64 S.order, .int .i64 S.seed, .int .i64 S.count, .int .i64 (B : Int)] 117)) := by
  unfold earAgg at h
  unfold execOp
  simp only [ho, h]
  simp [go_sem]
theorem codedN_nat {S : Setg} {B : Nat} (hS : SetOk S B) : ∃ N : Nat, codedN S B = N ∧ 1 ≤ N ∧ N ≤ 4096 := by
  refine ⟨(codedN S B).toNat, ?_⟩
  have hf := hS.few
  unfold codedN
  rcases hS.code with h | h
  · rw [if_pos h]; omega
  · rw [if_neg (by omega)]
    have hp := (hS.size1 h).1
    unfold powI at hp
    have := of_decide_eq_true hp
    omega
theorem zeros_all (n : Nat) : AllBits (List.replicate n (0 : Int)) := fun x hx => by
  rw [List.eq_of_mem_replicate hx]; omega
set_option maxRecDepth 100000 in
set_option maxHeartbeats 2000000 in
theorem lnew_ok (S : Setg) (B : Nat) (w : World) (hR : ReadyL w) (hIn : S.In) (hE : setErr S B = 0) : Calls Tryz.prog 30 #[S.val, .int .i64 B] w fun e w' => ∃ p F, e = .returned (.tuple #[.pointer (some p), .int .i64 0]) ∧ EarP w' p F S B (List.replicate (codedN S B).toNat 0) ∧ (∀ x ∈ F, w.heap.size ≤ x) ∧ Below w.heap.size w w' := by
  have hS := setOk_of hE
  have hB : B ≤ 40 := by have := hS.few; omega
  have hchk := fun wz => lcheck_any S (B : Int) wz hIn ⟨by omega, by omega⟩
  rw [hE] at hchk
  obtain ⟨N, eN, hN1, hN4⟩ := codedN_nat hS
  rw [eN, Int.toNat_natCast]
  have hss := fun wz => sealedSize_any (B : Int) wz ⟨by omega, by omega⟩
  have hen := fun (wz : World) (a : Option Addr) (c : Nat) (hr : ReadyL wz) (h : Rd .u8 wz a (List.replicate (8 * B + 24) 0)) => lencode_any S B (List.replicate (8 * B + 24) 0) a (8 * B + 24) c wz hS hr h (zeros_all _) (by simp) rfl
  have hcl := codeL_length (S := S) (z := List.replicate (8 * B + 24) 0) (n := B) (by simp) hS.code fun e => (hS.size1 e).1
  obtain ⟨L, eL⟩ : ∃ L, L = codeL S (List.replicate (8 * B + 24) 0) := ⟨_, rfl⟩
  rw [← eL] at hen hcl
  have HL : Hid (L.length = N) := by show L.length = N; omega
  obtain ⟨KK, eK⟩ : ∃ KK, KK = 8 * B + 24 := ⟨_, rfl⟩
  have HK : Hid ((8 * (B : Int) + 24) = (KK : Int)) := by show _ = _; omega
  rw [← eK] at hen
  have hKs : KK ≤ 400 := by omega
  have hnw := fun wz => new_any N wz hN1 hN4
  have hmix : Tryz.prog.follows .mixedOrders = true := by kernel_rfl
  have HCC : Hid (∀ wz, Below (w.alloc (.cells #[.int .i64 S.code, .int .i64 S.size, .int .i64 S.order, .int .i64 S.seed, .int .i64 S.count] 55)).heap.size (w.alloc (.cells #[.int .i64 S.code, .int .i64 S.size, .int .i64 S.order, .int .i64 S.seed, .int .i64 S.count] 55)) wz → wz.cell? ⟨w.heap.size, 0, none⟩ = some (.int .i64 S.code) ∧ wz.cell? ⟨w.heap.size, 1, none⟩ = some (.int .i64 S.size) ∧ wz.cell? ⟨w.heap.size, 2, none⟩ = some (.int .i64 S.order) ∧ wz.cell? ⟨w.heap.size, 3, none⟩ = some (.int .i64 S.seed) ∧ wz.cell? ⟨w.heap.size, 4, none⟩ = some (.int .i64 S.count)) := fun wz h => set_cells h
  have hb0 : Below w.heap.size w (w.alloc (.cells #[.int .i64 S.code, .int .i64 S.size, .int .i64 S.order, .int .i64 S.seed, .int .i64 S.count] 55)) := (Below.refl _ w).alloc (Nat.le_refl _) _
  have hl0 : w.heap.size < (w.alloc (.cells #[.int .i64 S.code, .int .i64 S.size, .int .i64 S.order, .int .i64 S.seed, .int .i64 S.count] 55)).heap.size := by simp
  have hR0 := hR.below hb0
  clear hS hE hIn eL hcl eN eK
  unfold Setg.val
  go_enter Tryz.func30, Tryz.ntmps30
  go_wp2_with fail
  generalize w.alloc (.cells #[.int .i64 S.code, .int .i64 S.size, .int .i64 S.order, .int .i64 S.seed, .int .i64 S.count] 55) = w0 at *
  refine (hchk _).mono ?_
  rintro e w1 ⟨rfl, hb1⟩
  have hB1 := hb1
  have hRd : ∀ wz, Below w0.heap.size w0 wz → ReadyL wz := fun wz h => hR0.below h
  go_wp2_with fail
  refine wp_mono (region_each (Q := fun e a' w' => e = .normal ∧ ∃ σ : Nat → Value, a' = ({ tmps := ((setAll _ (tbS [14, 15, 16, 17, 18, 19] 6 σ)).set 7 (.int .i64 (N : Int))).toArray, defers := [] } : Act) ∧ Below w1.heap.size w1 w') 7 6 [14, 15, 16, 17, 18, 19]
    [[1], [14], [15], [2], [16, 17], [18]] [1, 2, 4, 4, 5, 6]
    [eqR (.int .i64 (B : Int)), eqR (.int .i64 (KK : Int)), sliR .u8 KK (List.replicate KK 0), eqR S.val, sliR .u8 N L, eqR (.int .i64 (N : Int))] w1 hmix rfl (by decide) rfl (by decide) (by kernel_rfl) (by kernel_rfl) (by kernel_rfl) (by kernel_rfl) (by kernel_rfl) (by kernel_rfl)
    (by intro R hR; simp only [List.mem_cons, List.not_mem_nil, or_false] at hR; rcases hR with rfl | rfl | rfl | rfl | rfl | rfl <;> (first | (exact eqR_mono _) | (exact sliR_mono _ _ _)))
    (fun i' hi' σ ac wc hbc hp hr Q K hK => by
      have hor : i' = 0 ∨ i' = 1 ∨ i' = 2 ∨ i' = 3 ∨ i' = 4 ∨ i' = 5 := by omega
      rcases hor with rfl | rfl | rfl | rfl | rfl | rfl
      · have e1 := hr 1 (by decide)
        exact op_value rfl rfl (run_moveQ wc rfl e1) (hK _ wc (grownL wc) rfl)
      · have e14 : ac.eval (.tmp 14) = (.int .i64 (B : Int)) := (hr 14 (by decide)).trans (hp 0 (by decide) (by kernel_rfl))
        refine op_callNL rfl rfl rfl (enters_of Tryz.func64 (by kernel_rfl) rfl) (map1L e14) (hss wc) fun e w' hr' => ?_
        obtain ⟨rfl, rfl⟩ := hr'
        exact ⟨_, rfl, hK _ _ (grownL _) (congrArg (Value.int .i64) HK.out)⟩
      · have e15 : ac.eval (.tmp 15) = (.int .i64 (KK : Int)) := (hr 15 (by decide)).trans (hp 1 (by decide) (by kernel_rfl))
        exact op_value rfl rfl (run_makeBL wc rfl e15 e15 (by omega)) (hK _ _ (grown_allocL _ _) (sliR.mk (Nat.le_refl _) (by unfold maxLen; omega) (ArrAt.rdL (heap_alloc_new wc _))))
      · have e2 := hr 2 (by decide)
        obtain ⟨c0, c1, c2, c3, c4⟩ := HCC.out wc (hB1.trans (hbc.mono hB1.size))
        exact op_value rfl rfl (run_loadSetL (S := S) wc rfl e2 c0 c1 c2 c3 c4) (hK _ wc (grownL wc) rfl)
      · obtain ⟨a16, c16, q16, k16, m16, r16⟩ := hp 2 (by decide) (by kernel_rfl)
        have e16 := (hr 16 (by decide)).trans q16
        have e17 : ac.eval (.tmp 17) = S.val := (hr 17 (by decide)).trans (hp 3 (by decide) (by kernel_rfl))
        refine op_callNL rfl rfl rfl (enters_of Tryz.func67 (by kernel_rfl) rfl) (map2L e16 e17) (hen wc a16 c16 (hRd wc (hB1.trans (hbc.mono hB1.size))) r16) fun e w' hr' => ?_
        obtain ⟨v18, rfl, ho18, hb'⟩ := hr'
        exact ⟨_, rfl, hK _ w' (grown_of_below hb') (by obtain ⟨a18, c18, rfl, k18, m18, r18, -⟩ := ho18.slice HL.out; exact sliR.mk k18 m18 r18)⟩
      · obtain ⟨a18, c18, q18, k18, m18, r18⟩ := hp 4 (by decide) (by kernel_rfl)
        have e18 := (hr 18 (by decide)).trans q18
        exact op_value rfl rfl (run_lenBL wc rfl e18) (hK _ wc (grownL wc) rfl))
    (fun σ wc hbc hp => by
      refine op_value rfl rfl (run_assignL wc rfl ((eval_setAll (t := tbS [14, 15, 16, 17, 18, 19] 6 σ) 19 (show ([14, 15, 16, 17, 18, 19] : List Nat).Nodup by decide) (by kernel_rfl)).trans (hp 5 (by decide)))) ⟨rfl, σ, put_list _ _ _, hbc⟩)) ?_
  rintro e a' w4 ⟨rfl, σ4, rfl, hb4⟩
  have hB1 := hB1.trans (hb4.mono hB1.size)
  clear hb1
  rw [show tbS [14, 15, 16, 17, 18, 19] 6 σ4 = [(14, σ4 0), (15, σ4 1), (16, σ4 2), (17, σ4 3), (18, σ4 4), (19, σ4 5)] from rfl]
  dsimp only [setAll, List.set, List.append_nil, List.cons_append, List.nil_append]
  go_wp2_with fail
  refine wp_mono (region_each (Q := fun e a' w' => e = .normal ∧ ∃ σ : Nat → Value, a' = ({ tmps := ((setAll _ (tbS [20, 21, 22, 23, 24, 25, 26, 27, 28, 29, 30, 4] 12 σ)).set 5 (.int .i64 0)).toArray, defers := [] } : Act) ∧ earR N w.heap.size S B (σ 11) w' ∧ Below w4.heap.size w4 w') 13 12 [20, 21, 22, 23, 24, 25, 26, 27, 28, 29, 30, 4]
    [[7], [20], [21], [21], [22, 23], [24], [25], [2], [1], [26, 27, 28], [29], [30]] [1, 2, 4, 4, 5, 6, 9, 9, 9, 10, 11, 12]
    [eqR (.int .i64 (N : Int)), bufT N w.heap.size, bufQ N w.heap.size, eqR (.int .i64 0), bufQ N w.heap.size, bufQ N w.heap.size, bufV N w.heap.size, eqR S.val, eqR (.int .i64 (B : Int)), bufW N w.heap.size S B, earR N w.heap.size S B, earR N w.heap.size S B] w4 hmix rfl (by decide) rfl (by decide) (by kernel_rfl) (by kernel_rfl) (by kernel_rfl) (by kernel_rfl) (by kernel_rfl) (by kernel_rfl)
    (by intro R hR; simp only [List.mem_cons, List.not_mem_nil, or_false] at hR; rcases hR with rfl | rfl | rfl | rfl | rfl | rfl | rfl | rfl | rfl | rfl | rfl | rfl <;> (first | (exact eqR_mono _) | (exact bufT_mono _ _) | (exact bufQ_mono _ _) | (exact bufV_mono _ _) | (exact bufW_mono _ _ _ _) | (exact earR_mono _ _ _ _)))
    (fun i' hi' σ ac wc hbc hp hr Q K hK => by
      have hor : i' = 0 ∨ i' = 1 ∨ i' = 2 ∨ i' = 3 ∨ i' = 4 ∨ i' = 5 ∨ i' = 6 ∨ i' = 7 ∨ i' = 8 ∨ i' = 9 ∨ i' = 10 ∨ i' = 11 := by omega
      rcases hor with rfl | rfl | rfl | rfl | rfl | rfl | rfl | rfl | rfl | rfl | rfl | rfl
      · have e7 := hr 7 (by decide)
        exact op_value rfl rfl (run_moveQ wc rfl e7) (hK _ wc (grownL wc) rfl)
      · have e20 : ac.eval (.tmp 20) = (.int .i64 (N : Int)) := (hr 20 (by decide)).trans (hp 0 (by decide) (by kernel_rfl))
        refine op_callNL rfl rfl rfl (enters_of Tryz.func69 (by kernel_rfl) rfl) (map1L e20) (hnw wc) fun e w' hr' => ?_
        obtain ⟨p4, F4, rfl, hB4, hF4, hb'⟩ := hr'
        exact ⟨_, rfl, hK _ w' (grown_of_below hb') (bufT.mk hB4 (fun x hx => Nat.le_trans (Nat.le_trans (Nat.le_of_lt hl0) (Nat.le_trans hB1.size hbc.size)) (hF4 x hx)))⟩
      · obtain ⟨b21, g21, q21, h21⟩ := hp 1 (by decide) (by kernel_rfl)
        have e21 := (hr 21 (by decide)).trans q21
        exact op_value rfl rfl (run_extractL wc rfl e21 rfl) (hK _ wc (grownL wc) (show bufQ N w.heap.size _ _ from ⟨b21, g21, rfl, h21⟩))
      · obtain ⟨b21, g21, q21, h21⟩ := hp 1 (by decide) (by kernel_rfl)
        have e21 := (hr 21 (by decide)).trans q21
        exact op_value rfl rfl (run_extractL wc rfl e21 rfl) (hK _ wc (grownL wc) rfl)
      · obtain ⟨b22, g22, q22, h22⟩ := hp 2 (by decide) (by kernel_rfl)
        have e22 := (hr 22 (by decide)).trans q22
        have e23 : ac.eval (.tmp 23) = (.int .i64 0) := (hr 23 (by decide)).trans (hp 3 (by decide) (by kernel_rfl))
        refine op_callNL rfl rfl rfl (enters_of Tryz.func68 (by kernel_rfl) rfl) (map2L e22 e23) (mustF _ wc) fun e w' hr' => ?_
        obtain ⟨rfl, rfl⟩ := hr'
        exact ⟨_, rfl, hK _ _ (grownL _) (show bufQ N w.heap.size _ _ from ⟨b22, g22, rfl, h22⟩)⟩
      · obtain ⟨b24, g24, q24, h24⟩ := hp 4 (by decide) (by kernel_rfl)
        have e24 := (hr 24 (by decide)).trans q24
        exact op_value rfl rfl (run_nilL wc rfl e24) (hK _ wc (grownL wc) (show bufQ N w.heap.size _ _ from ⟨b24, g24, rfl, h24⟩))
      · obtain ⟨b25, g25, q25, h25⟩ := hp 5 (by decide) (by kernel_rfl)
        have e25 := (hr 25 (by decide)).trans q25
        exact op_value rfl rfl (run_loadBuf wc rfl e25 h25.1.cell) (hK _ wc (grownL wc) (show bufV N w.heap.size _ _ from ⟨g25, rfl, h25.2⟩))
      · have e2 := hr 2 (by decide)
        obtain ⟨c0, c1, c2, c3, c4⟩ := HCC.out wc (hB1.trans (hbc.mono hB1.size))
        exact op_value rfl rfl (run_loadSetL (S := S) wc rfl e2 c0 c1 c2 c3 c4) (hK _ wc (grownL wc) rfl)
      · have e1 := hr 1 (by decide)
        exact op_value rfl rfl (run_moveQ wc rfl e1) (hK _ wc (grownL wc) rfl)
      · obtain ⟨g26, q26, h26⟩ := hp 6 (by decide) (by kernel_rfl)
        have e26 := (hr 26 (by decide)).trans q26
        have e27 : ac.eval (.tmp 27) = S.val := (hr 27 (by decide)).trans (hp 7 (by decide) (by kernel_rfl))
        have e28 : ac.eval (.tmp 28) = (.int .i64 (B : Int)) := (hr 28 (by decide)).trans (hp 8 (by decide) (by kernel_rfl))
        exact op_value rfl rfl (run_buildLink (S := S) wc rfl e26 e27 e28) (hK _ wc (grownL wc) (show bufW N w.heap.size S B _ _ from ⟨g26, rfl, h26⟩))
      · obtain ⟨g29, q29, h29⟩ := hp 9 (by decide) (by kernel_rfl)
        have e29 := (hr 29 (by decide)).trans q29
        exact op_value rfl rfl (run_boxLink wc rfl e29) (hK _ _ (grown_allocL _ _) (earR.mk (Nat.le_trans (Nat.le_of_lt hl0) (Nat.le_trans hB1.size hbc.size)) h29))
      · obtain ⟨b30, g30, q30, h30⟩ := hp 10 (by decide) (by kernel_rfl)
        have e30 := (hr 30 (by decide)).trans q30
        exact op_value rfl rfl (run_assignL wc rfl e30) (hK _ wc (grownL wc) (show earR N w.heap.size S B _ _ from ⟨b30, g30, rfl, h30⟩)))
    (fun σ wc hbc hp => by
      refine op_value rfl rfl (run_assignL wc rfl rfl) ⟨rfl, σ, put_list _ _ _, hp 11 (by decide), hbc⟩)) ?_
  rintro e a' w5 ⟨rfl, σ5, rfl, ⟨b5, g5, q5, hE5⟩, hb5⟩
  rw [show tbS [20, 21, 22, 23, 24, 25, 26, 27, 28, 29, 30, 4] 12 σ5 = [(20, σ5 0), (21, σ5 1), (22, σ5 2), (23, σ5 3), (24, σ5 4), (25, σ5 5), (26, σ5 6), (27, σ5 7), (28, σ5 8), (29, σ5 9), (30, σ5 10), (4, σ5 11)] from rfl, q5]
  dsimp only [setAll, List.set, List.append_nil, List.cons_append, List.nil_append]
  have hBB := hb0.trans ((hB1.trans (hb5.mono hB1.size)).mono hb0.size)
  clear hb5 hb4 hB1
  go_wp2_with fail
  go_ret2
  exact ⟨_, [b5, g5], rfl, ⟨b5, g5, rfl, rfl, hE5.2.2.2.2, by rw [List.length_replicate]; exact hE5.1, hE5.2.1⟩, by simp; exact ⟨hE5.2.2.2.1, hE5.2.2.1⟩, hBB⟩
end Go.Proofs.YtplkmkbambbemadGreatDoor
