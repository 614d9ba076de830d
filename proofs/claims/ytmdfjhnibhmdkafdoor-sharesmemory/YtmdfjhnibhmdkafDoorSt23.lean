import Derived.Test.YtmdfjhnibhmdkafDoorSt22
import Derived.Test.YtmdfjhnibhmdkafDoorSt01
namespace Go.Proofs.YtmdfjhnibhmdkafDoor
open Go.ChangeShapes Go.WideShapes Go.ChangeAt Go.RowKit
def chAt (l : List ShM) (i : Nat) : ChM := (l.getD i .zero).ch
def cfT (l : List ShM) (n : Nat) (p q : Fin n) : Int := orIG (cmpIG (chAt l p.val).prio (chAt l q.val).prio) (cmpIG (chAt l p.val).id (chAt l q.val).id)
/-- No ID twice. -/
def IdsApart (l : List ShM) : Prop := ∀ i j, i < l.length → j < l.length → (chAt l i).id = (chAt l j).id → i = j
def befT (l : List ShM) (p q : Nat) : Bool := decide ((chAt l p).prio < (chAt l q).prio ∨ (chAt l p).prio = (chAt l q).prio ∧ (chAt l p).id < (chAt l q).id)
theorem ltT (l : List ShM) (n : Nat) (p q : Fin n) : ltOf (cfT l n) p q = befT l p.val q.val := by
  unfold ltOf cfT orIG cmpIG Lib.compareInt befT
  generalize (chAt l p.val).prio = x
  generalize (chAt l q.val).prio = y
  generalize (chAt l p.val).id = z
  generalize (chAt l q.val).id = t
  congr 1
  (repeat' split) <;> simp only [eq_iff_iff] <;> constructor <;> intro h <;> omega
theorem swoT (l : List ShM) (n : Nat) : Go.Sort.SWO (ltOf (cfT l n)) := {
  irrefl := fun x => by rw [ltT]; exact decide_eq_false (by omega)
  trans := fun x y z h1 h2 => by
    rw [ltT] at *
    have a := of_decide_eq_true h1
    have b := of_decide_eq_true h2
    exact decide_eq_true (by omega)
  ntrans := fun x y z h1 h2 => by
    rw [ltT] at *
    have a := of_decide_eq_false h1
    have b := of_decide_eq_false h2
    exact decide_eq_false (by omega) }
theorem totT {l : List ShM} (hI : IdsApart l) (n : Nat) (hn : n = l.length) (x y : Fin n) (h1 : ltOf (cfT l n) x y = false) (h2 : ltOf (cfT l n) y x = false) : x = y := by
  rw [ltT] at *
  have a := of_decide_eq_false h1
  have b := of_decide_eq_false h2
  refine Fin.ext (hI x.val y.val (by omega) (by omega) (by omega))
/-- The order of the turns. -/
def ordT (l : List ShM) : List Nat := (List.range l.length).mergeSort fun x y => !befT l y x
theorem ordT_perm (l : List ShM) : (ordT l).Perm (List.range l.length) := List.mergeSort_perm _ _
theorem ordT_length (l : List ShM) : (ordT l).length = l.length := by rw [(ordT_perm l).length_eq, List.length_range]
theorem ordT_lt {l : List ShM} {i : Nat} (h : i ∈ ordT l) : i < l.length := List.mem_range.1 ((ordT_perm l).mem_iff.1 h)
theorem ordT_mem {l : List ShM} {i : Nat} (h : i < l.length) : i ∈ ordT l := (ordT_perm l).mem_iff.2 (List.mem_range.2 h)
theorem sortedT (l : List ShM) : ((List.finRange l.length).mergeSort fun x y => !ltOf (cfT l l.length) y x).map Fin.val = ordT l := by
  rw [List.map_mergeSort (s := fun x y => !befT l y x) (by intro a _ b _; rw [ltT]), val_rangeG]
  rfl
theorem sortedT_cells (l : List ShM) : (((List.finRange l.length).mergeSort fun x y => !ltOf (cfT l l.length) y x).toArray.map (encFG l.length)) = ((intsG (ordT l)).map (Value.int .i64)).toArray := by
  rw [← sortedT]
  simp [intsG, encFG]
/-- 'slices.SortFunc' of all places. -/
theorem tsort_any (l : List ShM) (B g bx go T : Nat) (v : Value) (W : World) (h1 : 1 ≤ l.length) (h5 : l.length ≤ 1000) (hI : IdsApart l) (hP : PSh W B g v l) (hbx : W.heap[bx]? = some (.cells #[.pointer (some ⟨g, 0, none⟩)] T (0, 0))) (ho : ArrAt .i64 3 W go (intsG (List.range l.length))) (hg : g ≠ go) (hv : v.ownBlock ≠ some go) (hb : bx ≠ go) :
    Calls Tryd.prog 53 #[.slice (some ⟨go, 0, none⟩) l.length l.length, .func (.func 54) #[] #[.pointer (some ⟨bx, 0, none⟩)]] W fun e w' => e = .returned (.tuple #[]) ∧ ArrAt .i64 3 w' go (intsG (ordT l)) ∧ Kept [go] W w' := by
  have : Inhabited (Fin l.length) := ⟨⟨0, h1⟩⟩
  have hbl : bx < W.heap.size := (Array.getElem?_eq_some_iff.1 hbx).1
  obtain ⟨gb, c, rfl, -, hgl, hC⟩ := hP.own.at h1
  have hgo : gb ≠ go := fun e => hv (by rw [e]; rfl)
  have p0 := hP.cell
  have hgL := hP.lt
  have eg : ∀ args w, (callFunc 54 args).run Tryd.prog w = .ok (.enter 54 args) w := enters_of Tryd.func54 (by kernel_rfl) rfl
  have hcmp : CmpLays1 Tryd.prog 54 #[.pointer (some ⟨bx, 0, none⟩)] (encFG l.length) (cfT l l.length) go 0 (List.finRange l.length).toArray.size W := by
    intro m os dk _ x y
    have hk := sort_sortedG (enc := encFG l.length) (w := W) (g := go) (n := m) (d := dk) (os := os)
    have hcell : ∀ (a : Addr) u, W.cell? a = some u → a.block ≠ go → (sortWorld (encFG l.length) W go 0 m dk os).cell? a = some u := fun a u hu hne => by
      have hlt := World.block_lt_of_cell? W a hu
      rw [World.cell?_of_block (hk.block a.block hlt (by simpa using hne))]
      exact hu
    obtain ⟨⟨x0, x1, x2, x3, -⟩, -⟩ := hC x.val x.isLt
    obtain ⟨⟨y0, y1, y2, y3, -⟩, -⟩ := hC y.val y.isLt
    exact tclos_any x.val y.val l.length g gb bx c x.isLt y.isLt (chAt l x.val) (chAt l y.val) _ (hcell _ _ (by rw [cell_of_row _ _ _ _ _ _ hbx]; rfl) hb) (hcell _ _ p0 hg) (hcell _ _ x0 hgo) (hcell _ _ x1 hgo) (hcell _ _ x2 hgo) (hcell _ _ x3 hgo) (hcell _ _ y0 hgo) (hcell _ _ y1 hgo) (hcell _ _ y2 hgo) (hcell _ _ y3 hgo)
  have hS := Any.slices_SortFunc_total Tryd.sortL (encFG l.length) (fun _ => rfl) (cfT l l.length) (swoT l l.length) 54 #[.pointer (some ⟨bx, 0, none⟩)] go 0 l.length (List.finRange l.length).toArray W eg hcmp (holds_finG ho) ho.lt (by simp; omega) (totT hI l.length rfl)
  have hsz : (List.finRange l.length).toArray.size = l.length := by simp
  rw [hsz] at hS
  change Calls Tryd.prog 53 _ _ _ at hS
  refine hS.mono fun e w' h' => ?_
  obtain ⟨he, q, os, hq⟩ := h'
  subst hq
  refine ⟨he, ?_, sort_sortedG⟩
  have hr := sort_rowG (enc := encFG l.length) (n := q) (os := os) (d := ((List.finRange l.length).toArray.toList.mergeSort fun x y => !(ltOf (cfT l l.length)) y x).toArray) ho (by simp [intsG])
  refine hr.trans ?_
  rw [show (List.finRange l.length).toArray.toList = List.finRange l.length from rfl, sortedT_cells]
theorem OwnSh.lt_size {w : World} {B : Nat} {v : Value} {l : List ShM} (h : OwnSh w B v l) {k : Nat} (hk : v.ownBlock = some k) : k < w.heap.size := (h.lt k hk).2
set_option maxRecDepth 100000 in
set_option maxHeartbeats 2000000 in
theorem turn_any (l : List ShM) (B g : Nat) (v : Value) (w : World) (hP : PSh w B g v l) (h5 : l.length ≤ 1000) (hI : IdsApart l) :
    Calls Tryd.prog 35 #[.pointer (some ⟨g, 0, none⟩)] w fun e w' => ∃ go, e = .returned (.slice (some ⟨go, 0, none⟩) l.length l.length) ∧ ArrAt .i64 3 w' go (intsG (ordT l)) ∧ w.heap.size ≤ go ∧ Below w.heap.size w w' := by
  have hbA : Below w.heap.size w (w.alloc (.cells #[.pointer (some ⟨g, 0, none⟩)] 32)) := (Below.refl _ w).alloc (Nat.le_refl _) _
  have hPA := hP.below hbA
  have p0 := hPA.cell
  obtain ⟨sa, sc, rfl, -, -⟩ := hP.own.shape
  obtain ⟨n, en⟩ : ∃ n, n = l.length := ⟨_, rfl⟩
  have HP := hid hP
  have HN := hid en
  have HI := hid hI
  rw [← en] at p0 h5 ⊢
  have h9 : n ≤ 9223372036854775807 := by omega
  clear hP hPA en hI
  go_enter Tryd.func35, Tryd.ntmps35
  go_wp2_with (first | (at_make; refine wpList_makeInts w.heap.size w n rfl _ _ rfl _ _ rfl rfl rfl rfl (by omega) hbA (by simp) ?_; intro w1 hown1 hbel1 hlt1 hfr1))
  have e1 : (w.alloc (.cells #[.pointer (some ⟨g, 0, none⟩)] 32)).heap.size = w.heap.size + 1 := by simp
  have hbx1 : w1.heap[w.heap.size]? = some (.cells #[.pointer (some ⟨g, 0, none⟩)] 32 (0, 0)) := (hfr1.block w.heap.size (by rw [e1]; omega)).trans (heap_alloc_new w _)
  rw [e1] at hown1 hlt1
  have har1 := hown1.arr.1
  have HBX := hid hbx1
  clear hown1 hfr1 e1 hbx1 p0
  go_loopw [13] (fun q wr => ∃ i : Nat, i ≤ n ∧ q = .int .i64 i ∧ ArrAt .i64 3 wr (w.heap.size + 1) (idToG n i) ∧ Kept [w.heap.size + 1] w1 wr) (fun q _ => n - (intOf q).toNat)
  case atStart => exact ⟨0, Nat.zero_le _, rfl, by simpa [idToG, intsG] using har1, Kept.refl _ _⟩
  case round =>
    obtain ⟨i, hi, rfl, har, hkept⟩ := hrel
    by_cases hlt : i < n
    · have hset := har.set i (i : Int)
      rw [idTo_setG hlt] at hset
      have hf := har.free i
      have hcz := har.cell (j := i) (by rw [idTo_lengthG hi]; exact hlt)
      have hkept' := hkept.setCell (p := ⟨w.heap.size + 1, i, none⟩) (by simp) (.int .i64 (i : Int))
      generalize (idToG n i).getD i 0 = z at *
      clear har hkept
      go_wp2_with fail
      go_roundw
      case rel => exact ⟨i + 1, by omega, by go_num, hset, hkept'⟩
      case measure => simp [intOf]; omega
    · obtain rfl : i = n := by omega
      rw [idTo_allG] at har
      have hbr := (hkept.block w.heap.size (by omega) (by simp)).trans HBX.out
      have hbel2 : Below w.heap.size w wr := hbel1.trans (hkept.below (B := w.heap.size) (by omega) (by simp))
      have hPr := HP.out.below hbel2
      have hgw := HP.out.lt
      have hvw : Value.ownBlock (.slice sa i sc) ≠ some (w.heap.size + 1) := fun e => by
        have hq : Value.ownBlock (.slice sa l.length sc) = some (w.heap.size + 1) := by rw [← HN.out]; exact e
        have := HP.out.own.lt_size hq
        omega
      by_cases h0 : i = 0
      · have hno : (ordT l) = [] := List.eq_nil_of_length_eq_zero (by rw [ordT_length, ← HN.out]; exact h0)
        have hS := AnyF.slices_SortFunc_none (P := Tryd.prog) (ρ := Tryd.sortL_ren) { Tryd.sortL with } (some ⟨w.heap.size + 1, 0, none⟩) i (.func (.func 54) #[] #[.pointer (some ⟨w.heap.size, 0, none⟩)]) wr
        change Calls Tryd.prog 53 _ _ _ at hS
        subst h0
        have HA := hid (show ArrAt .i64 3 wr (w.heap.size + 1) (intsG (ordT l)) by rw [hno]; exact har)
        clear hno har hvw hPr hbr
        go_wp2_with (go_at_call 53; refine hS.mono ?_; rintro e w3 ⟨rfl, hw3⟩; subst hw3)
        go_ret
        exact ⟨w.heap.size + 1, rfl, HA.out, by omega, hbel2⟩
      · have hS := tsort_any l B g w.heap.size (w.heap.size + 1) 32 (.slice sa l.length sc) wr (by rw [← HN.out]; omega) (by rw [← HN.out]; exact h5) HI.out hPr hbr (by rw [← HN.out]; exact har) (by omega) (by rw [← HN.out]; exact hvw) (by omega)
        rw [← HN.out] at hS
        clear har hvw hPr hbr
        go_wp2_with (go_at_call 53; refine hS.mono ?_; rintro e w3 ⟨rfl, ha3, hk3⟩)
        go_ret
        exact ⟨w.heap.size + 1, rfl, ha3, by omega, hbel2.trans (hk3.below (B := w.heap.size) (by have := hbel2.size; omega) (by simp))⟩
end Go.Proofs.YtmdfjhnibhmdkafDoor
namespace Go.Proofs.YtmdfjhnibhmdkafDoor
def sumI (l : List Int) : Int := l.foldr (· + ·) 0
theorem sumI_cons (x : Int) (l : List Int) : sumI (x :: l) = x + sumI l := rfl
theorem sumI_set : ∀ (l : List Int) (i : Nat) (x : Int), i < l.length → sumI (l.set i x) = sumI l - l.getD i 0 + x
  | [], i, x, h => by simp at h
  | y :: l, 0, x, _ => by
    show x + sumI l = y + sumI l - y + x
    omega
  | y :: l, i + 1, x, h => by
    have ih := sumI_set l i x (by simpa using h)
    show y + sumI (l.set i x) = y + sumI l - (y :: l).getD (i + 1) 0 + x
    rw [ih]
    have e : (y :: l).getD (i + 1) 0 = l.getD i 0 := rfl
    rw [e]
    omega
/-- What was given so far, and what is left. -/
structure GiveM where
  out : List Int
  left : Int
/-- How much a channel is given when its turn comes: in the first round no more than its level. -/
def giveN (first : Bool) (lv w left : Int) : Int :=
  let n := if first = true ∧ lv < w then lv else w
  let n := if left < n then left else n
  if 0 < n then n else 0
def GiveM.give (first : Bool) (lv bl : List Int) (g : GiveM) (i : Nat) : GiveM :=
  ⟨g.out.set i (g.out.getD i 0 + giveN first (lv.getD i 0) (bl.getD i 0 - g.out.getD i 0) g.left), g.left - giveN first (lv.getD i 0) (bl.getD i 0 - g.out.getD i 0) g.left⟩
def GiveM.round (first : Bool) (lv bl : List Int) (ord : List Nat) (g : GiveM) : GiveM := ord.foldl (GiveM.give first lv bl) g
def grantM (lv bl : List Int) (bytes : Int) (ord : List Nat) : GiveM := GiveM.round false lv bl ord (GiveM.round true lv bl ord ⟨List.replicate bl.length 0, bytes⟩)
/-- What holds all the while. -/
structure GiveM.Ok (bl : List Int) (bytes : Int) (g : GiveM) : Prop where
  len : g.out.length = bl.length
  some : 0 ≤ g.left
  sum : sumI g.out + g.left = bytes
  each : ∀ i, i < bl.length → 0 ≤ g.out.getD i 0 ∧ g.out.getD i 0 ≤ bl.getD i 0
theorem giveN_le (first : Bool) (lv w left : Int) (hl : 0 ≤ left) (hw : 0 ≤ w) : 0 ≤ giveN first lv w left ∧ giveN first lv w left ≤ w ∧ giveN first lv w left ≤ left := by
  unfold giveN
  simp only
  split <;> split <;> split <;> omega
theorem getD_setI (l : List Int) (i j : Nat) (x : Int) (h : i < l.length) : (l.set i x).getD j 0 = if j = i then x else l.getD j 0 := by
  by_cases e : j = i
  · subst e
    simp [List.getD, h]
  · have e' : i ≠ j := fun h => e h.symm
    simp [List.getD, e, e']
theorem GiveM.Ok.give {bl : List Int} {bytes : Int} {g : GiveM} (h : g.Ok bl bytes) (first : Bool) (lv : List Int) {i : Nat} (hi : i < bl.length) : (g.give first lv bl i).Ok bl bytes := by
  have hb := h.each i hi
  obtain ⟨h1, h2, h3⟩ := giveN_le first (lv.getD i 0) (bl.getD i 0 - g.out.getD i 0) g.left h.some (by omega)
  have hil : i < g.out.length := by rw [h.len]; exact hi
  refine ⟨by simp [GiveM.give, h.len], ?_, ?_, ?_⟩
  · show 0 ≤ g.left - giveN first (lv.getD i 0) (bl.getD i 0 - g.out.getD i 0) g.left
    omega
  · show sumI (g.out.set i (g.out.getD i 0 + giveN first (lv.getD i 0) (bl.getD i 0 - g.out.getD i 0) g.left)) + (g.left - giveN first (lv.getD i 0) (bl.getD i 0 - g.out.getD i 0) g.left) = bytes
    rw [sumI_set _ _ _ hil]
    have := h.sum
    omega
  · intro j hj
    show 0 ≤ (g.out.set i (g.out.getD i 0 + giveN first (lv.getD i 0) (bl.getD i 0 - g.out.getD i 0) g.left)).getD j 0 ∧ (g.out.set i (g.out.getD i 0 + giveN first (lv.getD i 0) (bl.getD i 0 - g.out.getD i 0) g.left)).getD j 0 ≤ bl.getD j 0
    rw [getD_setI _ _ _ _ hil]
    by_cases e : j = i
    · rw [if_pos e, e]; omega
    · rw [if_neg e]; exact h.each j hj
theorem GiveM.Ok.round {bl : List Int} {bytes : Int} (first : Bool) (lv : List Int) : ∀ (ord : List Nat) {g : GiveM}, g.Ok bl bytes → (∀ i ∈ ord, i < bl.length) → (g.round first lv bl ord).Ok bl bytes
  | [], _, h, _ => h
  | i :: ord, _, h, ho => GiveM.Ok.round first lv ord (h.give first lv (ho i (by simp))) (fun j hj => ho j (by simp [hj]))
end Go.Proofs.YtmdfjhnibhmdkafDoor
namespace Go.Proofs.YtmdfjhnibhmdkafDoor
open Go.ChangeShapes Go.WideShapes Go.ChangeAt Go.RowKit
def lvs (l : List ShM) : List Int := l.map ShM.lv
theorem lvs_at {l : List ShM} {i : Nat} (h : i < l.length) : (lvs l).getD i 0 = (l.getD i .zero).lv := by
  unfold lvs
  simp [List.getD, h]
theorem give_first {lv bl : List Int} {S : GiveM} {i : Nat} (hb : 0 ≤ bl.getD i 0) (hl : 0 ≤ S.left) (h0 : S.out.getD i 0 = 0) :
    S.give true lv bl i = ⟨S.out.set i (min (min (bl.getD i 0) (max (lv.getD i 0) 0)) S.left), S.left - min (min (bl.getD i 0) (max (lv.getD i 0) 0)) S.left⟩ := by
  unfold GiveM.give
  rw [h0]
  have e : giveN true (lv.getD i 0) (bl.getD i 0 - 0) S.left = min (min (bl.getD i 0) (max (lv.getD i 0) 0)) S.left := by
    unfold giveN
    simp only [true_and]
    generalize bl.getD i 0 = b at *
    generalize lv.getD i 0 = v at *
    split <;> split <;> split <;> omega
  rw [e, Int.zero_add]
theorem give_second {lv bl : List Int} {S : GiveM} {i : Nat} (hb : S.out.getD i 0 ≤ bl.getD i 0) (hl : 0 ≤ S.left) :
    S.give false lv bl i = ⟨S.out.set i (S.out.getD i 0 + min (bl.getD i 0 - S.out.getD i 0) S.left), S.left - min (bl.getD i 0 - S.out.getD i 0) S.left⟩ := by
  unfold GiveM.give
  have e : giveN false (lv.getD i 0) (bl.getD i 0 - S.out.getD i 0) S.left = min (bl.getD i 0 - S.out.getD i 0) S.left := by
    unfold giveN
    simp only [Bool.false_eq_true, false_and, if_false]
    have hb' : 0 ≤ bl.getD i 0 - S.out.getD i 0 := by omega
    generalize bl.getD i 0 - S.out.getD i 0 = b at *
    split <;> split <;> omega
  rw [e]
theorem set_other (l : List Int) {i j : Nat} (x : Int) (h : j ≠ i) : (l.set i x).getD j 0 = l.getD j 0 := by
  have e' : i ≠ j := fun e => h e.symm
  simp [List.getD, e']
theorem round_other (first : Bool) (lv bl : List Int) {j : Nat} : ∀ (ord : List Nat) (g : GiveM), j ∉ ord → (g.round first lv bl ord).out.getD j 0 = g.out.getD j 0
  | [], _, _ => rfl
  | i :: ord, g, h => by
    have h1 : j ≠ i := fun e => h (by simp [e])
    have ih := round_other first lv bl ord (g.give first lv bl i) (fun hh => h (List.mem_cons_of_mem _ hh))
    show ((g.give first lv bl i).round first lv bl ord).out.getD j 0 = _
    rw [ih]
    exact set_other _ _ h1
theorem round_take (first : Bool) (lv bl : List Int) (ord : List Nat) (g : GiveM) {k : Nat} (h : k < ord.length) : g.round first lv bl (ord.take (k + 1)) = (g.round first lv bl (ord.take k)).give first lv bl (ord.getD k 0) := by
  have e : ord.getD k 0 = ord[k] := by simp [List.getD, h]
  unfold GiveM.round
  rw [List.take_succ_eq_append_getElem h, List.foldl_append, e]
  rfl
theorem not_before {ord : List Nat} (hn : ord.Nodup) {k : Nat} (h : k < ord.length) : ord.getD k 0 ∉ ord.take k := by
  have e : ord.getD k 0 = ord[k] := by simp [List.getD, h]
  rw [e]
  intro hm
  obtain ⟨j, hj, he⟩ := List.getElem_of_mem hm
  have hjk : j < k := by
    rw [List.length_take] at hj
    omega
  rw [List.getElem_take] at he
  exact (List.pairwise_iff_getElem.1 hn) j k (by omega) h hjk he
/-- Levels, once the channels of some places were given all they are given. -/
def lvTo (l : List ShM) (done : List Nat) (out : List Int) : List ShM := l.mapIdx fun j t => if j ∈ done then ⟨t.ch, t.lv - out.getD j 0⟩ else t
theorem lvTo_length (l : List ShM) (done : List Nat) (out : List Int) : (lvTo l done out).length = l.length := by simp [lvTo]
theorem lvTo_at {l : List ShM} {done : List Nat} {out : List Int} {i : Nat} (h : i < l.length) : (lvTo l done out).getD i .zero = if i ∈ done then ⟨(l.getD i .zero).ch, (l.getD i .zero).lv - out.getD i 0⟩ else l.getD i .zero := by
  unfold lvTo
  simp [List.getD, h]
theorem lvTo_get (l : List ShM) (done : List Nat) (out : List Int) (j : Nat) : (lvTo l done out)[j]? = (l[j]?).map fun t => if j ∈ done then ⟨t.ch, t.lv - out.getD j 0⟩ else t := by
  unfold lvTo
  rw [List.getElem?_mapIdx]
theorem lvTo_none (l : List ShM) (out : List Int) : lvTo l [] out = l := by
  refine List.ext_getElem? fun j => ?_
  rw [lvTo_get]
  cases l[j]? <;> simp
theorem lvTo_set {l : List ShM} {ord : List Nat} {out : List Int} {k : Nat} (hn : ord.Nodup) (hk : k < ord.length) (hi : ord.getD k 0 < l.length) (ho : ord.getD k 0 < out.length) (x : Int) :
    (lvTo l (ord.take k) out).set (ord.getD k 0) ⟨(l.getD (ord.getD k 0) .zero).ch, (l.getD (ord.getD k 0) .zero).lv - x⟩ = lvTo l (ord.take (k + 1)) (out.set (ord.getD k 0) x) := by
  have e : ord.getD k 0 = ord[k] := by simp [List.getD, hk]
  have htk : ∀ j, (j ∈ ord.take (k + 1)) ↔ (j ∈ ord.take k ∨ j = ord.getD k 0) := fun j => by
    rw [List.take_succ_eq_append_getElem hk, List.mem_append, List.mem_singleton, ← e]
  have hnb := not_before hn hk
  obtain ⟨i, ei⟩ : ∃ i, i = ord.getD k 0 := ⟨_, rfl⟩
  rw [← ei] at hi ho htk hnb ⊢
  refine List.ext_getElem? fun j => ?_
  rw [List.getElem?_set, lvTo_get, lvTo_get, lvTo_length]
  by_cases hj : i = j
  · subst hj
    rw [if_pos rfl, if_pos hi, List.getElem?_eq_getElem hi]
    have e2 : l.getD i .zero = l[i] := by simp [List.getD, hi]
    have e3 : (out.set i x).getD i 0 = x := by simp [List.getD, ho]
    rw [Option.map_some, if_pos ((htk i).2 (.inr rfl)), e2, e3]
  · rw [if_neg hj, set_other out x (fun h => hj h.symm)]
    have hm : (j ∈ ord.take (k + 1)) ↔ j ∈ ord.take k := by
      rw [htk]
      constructor
      · rintro (h | h)
        · exact h
        · exact absurd h.symm hj
      · exact .inl
    simp only [hm]
end Go.Proofs.YtmdfjhnibhmdkafDoor
