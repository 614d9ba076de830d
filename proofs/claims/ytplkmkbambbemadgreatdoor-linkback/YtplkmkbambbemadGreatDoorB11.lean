import Derived.Test.YtplkmkbambbemadGreatDoorB10
import Derived.Deep.RegionHeld3
import Derived.Deep.DeepFit
import Derived.Test.YtplkmkbambbemadGreatDoorB02
import Derived.Laws.CopyOwn
import Derived.Deep.MidRow
import Derived.Test.YtplkmkbambbemadGreatDoorB03
import Derived.Test.YtplkmkbambbemadGreatDoorB06
import Derived.Maps.Own
import Derived.Maps.OwnOps
import Derived.Maps.OwnSet
import Derived.Maps.Views
namespace Go.Proofs.YtplkmkbambbemadGreatDoor
open Go.ChangeShapes Go.WideShapes Go.ChangeAt Go.RowKit
theorem sort_row {α : Type} [Inhabited α] {enc : α → Value} {w : World} {g T n : Nat} {fr : Nat × Nat} {c : Array Value} {d : Array α} {os : Array Obj} (hw : w.heap[g]? = some (.cells c T fr)) (hs : c.size = d.size) :
    (Sort.grow (Sort.putRow enc (Sort.ahead w n) g 0 d) os).heap[g]? = some (.cells (d.map enc) T fr) := by
  have hlt : g < w.heap.size := by
    rcases Nat.lt_or_ge g w.heap.size with h | h
    · exact h
    · rw [Array.getElem?_eq_none h] at hw; cases hw
  rw [Sort.heap_grow_old _ _ (by simpa using hlt)]
  unfold Sort.putRow Sort.mapBlock
  have e : Sort.putCells enc 0 d c = d.map enc := by
    refine Array.ext (by simp [Sort.putCells, hs]) fun j h1 h2 => ?_
    have hj : j < d.size := by simpa using h2
    simp only [Sort.putCells, Array.getElem_mapIdx, Array.getElem_map]
    rw [if_pos ⟨Nat.zero_le _, by omega⟩, Nat.sub_zero, getElem!_pos d j hj]
  simp only [Sort.heap_ahead, Array.getElem?_modify, hw, if_true, Option.map_some, Sort.onCells, e]
theorem sort_kept {α : Type} [Inhabited α] {enc : α → Value} {w : World} {g n : Nat} {d : Array α} {os : Array Obj} : Kept [g] w (Sort.grow (Sort.putRow enc (Sort.ahead w n) g 0 d) os) := by
  refine ⟨rfl, rfl, rfl, by simp, fun k hk hn => ?_⟩
  rw [Sort.heap_grow_old _ _ (by simpa using hk)]
  unfold Sort.putRow Sort.mapBlock
  simp only [Sort.heap_ahead, Array.getElem?_modify]
  rw [if_neg (by intro e; exact hn (by simp [e]))]
theorem sort_sorted {α : Type} [Inhabited α] {enc : α → Value} {w : World} {g n : Nat} {d : Array α} {os : Array Obj} : Kept [g] w (sortWorld enc w g 0 n d os) := sort_kept
/-- 'cmp.Or' of two numbers. -/
def orI (x y : Int) : Int := if x = 0 then y else x
set_option maxRecDepth 100000 in
set_option maxHeartbeats 1000000 in
theorem or_any (x y : Int) (g : Nat) (w : World) (h0 : w.cell? ⟨g, 0, none⟩ = some (.int .i64 x)) (h1 : w.cell? ⟨g, 1, none⟩ = some (.int .i64 y)) :
    Calls Tryz.prog 126 #[.slice (some ⟨g, 0, none⟩) 2 2] w fun e w' => e = .returned (.int .i64 (orI x y)) ∧ w' = w := by
  go_enter Tryz.func126, Tryz.ntmps126
  go_wp2
  go_loop [8] (fun q => ∃ k : Nat, q = .int .i64 k ∧ (k = 0 ∨ (k = 1 ∧ x = 0) ∨ (k = 2 ∧ x = 0 ∧ y = 0))) (fun q => 2 - (intOf q).toNat)
  case atStart => exact ⟨0, rfl, .inl rfl⟩
  case round =>
    obtain ⟨k, rfl, rfl | ⟨rfl, rfl⟩ | ⟨rfl, rfl, rfl⟩⟩ := hrel
    · by_cases hx : x = 0
      · subst hx
        go_wp2
        go_round
        case rel => exact ⟨1, rfl, by simp⟩
        case measure => simp [intOf]
      · have hb : (x != 0) = true := by simpa using hx
        have E := hid (show x = orI x y from (if_neg hx).symm)
        clear hx
        go_wp2
        go_ret
        exact ⟨ret_int E.out, rfl⟩
    · by_cases hy : y = 0
      · subst hy
        go_wp2
        go_round
        case rel => exact ⟨2, rfl, by simp⟩
        case measure => simp [intOf]
      · have hb : (y != 0) = true := by simpa using hy
        have E := hid (show y = orI 0 y from (if_pos rfl).symm)
        clear hy
        go_wp2
        go_ret
        exact ⟨ret_int E.out, rfl⟩
    · go_wp2
      go_ret
      exact ⟨rfl, rfl⟩
theorem two_cell0 (w : World) (r s : Int) (T : TypeId) : (w.alloc (.cells #[.int .i64 r, .int .i64 s] T)).cell? ⟨w.heap.size, 0, none⟩ = some (.int .i64 r) := by
  rw [cell_of_row _ _ _ _ _ _ (heap_alloc_new w _)]; rfl
theorem two_cell1 (w : World) (r s : Int) (T : TypeId) : (w.alloc (.cells #[.int .i64 r, .int .i64 s] T)).cell? ⟨w.heap.size, 1, none⟩ = some (.int .i64 s) := by
  rw [cell_of_row _ _ _ _ _ _ (heap_alloc_new w _)]; rfl
def cmpI (x y : Int) : Int := Lib.compareInt x y
/-- The order of two places, by worth. -/
def cfPI (n : Nat) (p q : Fin n) : Int := orI (cmpI (worthI q.val) (worthI p.val)) (cmpI (q.val : Int) (p.val : Int))
theorem comp_any (x y : Int) (W : World) : Calls Tryz.prog 127 #[.int .i64 x, .int .i64 y] W fun e w' => e = .returned (.int .i64 (cmpI x y)) ∧ w' = W := AnyG.cmp_Compare_int Tryz.cmpL x y W
set_option maxRecDepth 100000 in
set_option maxHeartbeats 1000000 in
theorem clos_any (n p q gw bx c : Nat) (hp : p < n) (hq : q < n) (x y : Int) (W : World) (hb : W.cell? ⟨bx, 0, none⟩ = some (.slice (some ⟨gw, 0, none⟩) n c)) (h0 : W.cell? ⟨gw, p, none⟩ = some (.int .i64 x)) (h1 : W.cell? ⟨gw, q, none⟩ = some (.int .i64 y)) :
    Calls Tryz.prog 125 #[.int .i64 p, .int .i64 q, .pointer (some ⟨bx, 0, none⟩)] W fun e w' => e = .returned (.int .i64 (orI (cmpI y x) (cmpI q p))) ∧ ∃ k os, w' = Sort.grow (W.drewN k) os := by
  have p0 : (0 : Int) ≤ (p : Int) := by omega
  have pn : (p : Int) < (n : Int) := by omega
  have q0 : (0 : Int) ≤ (q : Int) := by omega
  have qn : (q : Int) < (n : Int) := by omega
  have hor := or_any (cmpI y x) (cmpI q p) W.heap.size (W.alloc (.cells #[.int .i64 (cmpI y x), .int .i64 (cmpI q p)] 3)).drew (two_cell0 W _ _ 3) (two_cell1 W _ _ 3)
  go_enter Tryz.func125, Tryz.ntmps125
  go_wp2_with fail
  go_region_held3 (fun w' => w'.cell? ⟨bx, 0, none⟩ = some (.slice (some ⟨gw, 0, none⟩) n c) ∧ w'.cell? ⟨gw, p, none⟩ = some (.int .i64 x) ∧ w'.cell? ⟨gw, q, none⟩ = some (.int .i64 y)) (go_keep) (first
    | (go_at_call 127; refine (comp_any _ _ _).mono ?_; rintro e w1 ⟨rfl, rfl⟩)
    | (go_at_call 126; go_fit hor; rintro e w1 ⟨rfl, rfl⟩))
  go_wp2
  go_ret
  exact ⟨rfl, 1, _, by rw [Sort.alloc_eq_grow]; rfl⟩
end Go.Proofs.YtplkmkbambbemadGreatDoor
namespace Go.Proofs.YtplkmkbambbemadGreatDoor
open Go.ChangeShapes Go.WideShapes Go.ChangeAt Go.RowKit
theorem Tryz.one3 : (Tryz.prog.info? 3).map (·.size) = some 1 := by kernel_rfl
/-- 'copy(d, s)' of numbers, d filling its block. -/
theorem run_copy_ints {w : World} {g k n : Nat} {O L : List Int} {a : Addr} {sc : Nat} (hd : ArrAt .i64 3 w g L) (hl : L.length = k) (hs : ∀ j, j < n → w.cell? (a.add j) = some (.int .i64 (O.getD j 0))) (hO : O.length = n) (hk : k ≤ n) (ty : TypeId) :
    ∃ w', (Builtin.copy_ #[23, 23] ty #[.slice (some ⟨g, 0, none⟩) k k, .slice (some a) n sc]).run Tryz.prog w = .ok (goInt k) w' ∧ ArrAt .i64 3 w' g (O.take k) ∧ Kept [g] w w' := by
  by_cases h0 : k = 0
  · subst h0
    refine ⟨w, ?_, ?_, Kept.refl _ _⟩
    · exact run_copy_none (P := Tryz.prog) w 23 23 ty 3 _ _ 0 0 n sc Tryz.underlying23 Tryz.one3 (by simp)
    · have : L = [] := List.eq_nil_of_length_eq_zero hl
      subst this
      simpa using hd
  · have hn : ((O.take k).map (Value.int .i64)).length = k := by simp; omega
    have hrun := run_copy_row (P := Tryz.prog) w 23 23 ty 3 g 0 k k a n sc _ 3 ((O.take k).map (Value.int .i64)) Tryz.underlying23 Tryz.one3 hd (hn.trans (Nat.min_eq_right hk).symm) ?_ ?_ ?_
    · rw [hn] at hrun
      refine ⟨_, hrun, ?_, ⟨rfl, rfl, rfl, by simp, fun j _ hj => setRow_other w g j _ (fun e => hj (by simp [e]))⟩⟩
      refine (setRow_heap w g _ _ 3 _ hd).trans ?_
      simp [hl]
    · intro j u hj
      have hjl : j < k := by
        rcases Nat.lt_or_ge j k with h' | h'
        · exact h'
        · rw [List.getElem?_eq_none (by rw [hn]; exact h')] at hj; cases hj
      have hjO : j < O.length := by omega
      rw [hs j (by omega), ← hj]
      simp [List.getD, hjO, hjl]
    · rw [hn]; simp; omega
    · intro u hu
      obtain ⟨y, _, rfl⟩ := List.mem_map.1 hu
      rfl
theorem wpList_copyInts {w : World} {ops : Array Oper} {rest : List Oper} {o : Oper} {a : Act} {Q : Exit → Act → World → Prop} {g k n sc : Nat} {O L : List Int} {ad : Addr} (hd : ArrAt .i64 3 w g L) (hl : L.length = k) (hs : ∀ j, j < n → w.cell? (ad.add j) = some (.int .i64 (O.getD j 0))) (hO : O.length = n) (hk : k ≤ n)
    (hgd : o.guard = none) (d s : Operand) (ho : o.op = .call { callee := .builtin .copy, args := #[d, s], argTypes := #[23, 23] }) (hde : a.eval d = .slice (some ⟨g, 0, none⟩) k k) (hse : a.eval s = .slice (some ad) n sc)
    (h : ∀ w', ArrAt .i64 3 w' g (O.take k) → Kept [g] w w' → wpList Tryz.prog ops Q rest (a.put o.dst (goInt k)) w') :
    wpList Tryz.prog ops Q (o :: rest) a w := by
  obtain ⟨w', hrun, h1, h2⟩ := run_copy_ints hd hl hs hO hk (sc := sc) o.type
  refine wpList_plain hgd fun K hK => ?_
  unfold Oper.wp
  simp [execOp, ho, resolve, invoke, builtin, hde, hse, hrun, Result.andThen]
  exact hK _ _ (h w' h1 h2)
theorem src_cells {w : World} {g n : Nat} {L : List Int} (h : ArrAt .i64 3 w g L) (hl : L.length = n) : ∀ j, j < n → w.cell? ((⟨g, 0, none⟩ : Addr).add j) = some (.int .i64 (L.getD j 0)) := fun j hj => by
  have e1 : (⟨g, 0, none⟩ : Addr).add j = ⟨g, j, none⟩ := by unfold Addr.add; split <;> simp_all
  rw [e1, h.cell (by omega)]
end Go.Proofs.YtplkmkbambbemadGreatDoor
namespace Go.Proofs.YtplkmkbambbemadGreatDoor
open Go.ChangeShapes Go.WideShapes Go.ChangeAt Go.RowKit
def encF (n : Nat) (i : Fin n) : Value := .int .i64 (i.val : Int)
theorem ltP (n : Nat) (p q : Fin n) : ltOf (cfPI n) p q = btr p.val q.val := by
  unfold ltOf cfPI orI cmpI Lib.compareInt btr
  generalize worthI p.val = x
  generalize worthI q.val = y
  obtain ⟨p, hp⟩ := p
  obtain ⟨q, hq⟩ := q
  simp only
  congr 1
  (repeat' split) <;> simp only [eq_iff_iff] <;> constructor <;> intro h <;> omega
theorem swoP (n : Nat) : Go.Sort.SWO (ltOf (cfPI n)) := {
  irrefl := fun x => by rw [ltP]; exact btr_irrefl _
  trans := fun x y z h1 h2 => by rw [ltP] at *; exact btr_trans h1 h2
  ntrans := fun x y z h1 h2 => by rw [ltP] at *; exact btr_neg h1 h2 }
theorem totP (n : Nat) (x y : Fin n) (h1 : ltOf (cfPI n) x y = false) (h2 : ltOf (cfPI n) y x = false) : x = y := by
  rw [ltP] at *
  apply Fin.ext
  rcases Nat.decEq x.val y.val with h | h
  · rcases btr_total h with h' | h'
    · rw [h1] at h'; cases h'
    · rw [h2] at h'; cases h'
  · exact h
theorem val_range (n : Nat) : (List.finRange n).map Fin.val = List.range n := by
  refine List.ext_getElem (by simp) fun j h1 h2 => ?_
  simp
theorem sorted_order (n : Nat) : ((List.finRange n).mergeSort fun x y => !ltOf (cfPI n) y x).map Fin.val = orderM n := by
  rw [List.map_mergeSort (s := fun x y => !btr y x) (by intro a _ b _; rw [ltP]), val_range]
  rfl
theorem sorted_cells (n : Nat) : (((List.finRange n).mergeSort fun x y => !ltOf (cfPI n) y x).toArray.map (encF n)) = ((ints (orderM n)).map (Value.int .i64)).toArray := by
  rw [← sorted_order]
  simp [ints, encF]
/-- The numbers 0, 1, .., as they are laid. -/
def idTo (n i : Nat) : List Int := ints (List.range i) ++ List.replicate (n - i) 0
theorem idTo_set {n i : Nat} (h : i < n) : (idTo n i).set i (i : Int) = idTo n (i + 1) := by
  unfold idTo ints
  obtain ⟨m, hm⟩ : ∃ m, n - i = m + 1 := ⟨n - i - 1, by omega⟩
  rw [hm, set_fill _ i m _ (by simp), show n - (i + 1) = m by omega, List.range_succ, List.map_append]
  rfl
theorem idTo_length {n i : Nat} (h : i ≤ n) : (idTo n i).length = n := by simp [idTo, ints_length]; omega
theorem idTo_all (n : Nat) : idTo n n = ints (List.range n) := by simp [idTo]
def worthsTo (n i : Nat) : List Int := (List.range i).map worthI ++ List.replicate (n - i) 0
theorem worthsTo_set {n i : Nat} (h : i < n) : (worthsTo n i).set i (worthI i) = worthsTo n (i + 1) := by
  unfold worthsTo
  obtain ⟨m, hm⟩ : ∃ m, n - i = m + 1 := ⟨n - i - 1, by omega⟩
  rw [hm, set_fill _ i m _ (by simp), show n - (i + 1) = m by omega, List.range_succ, List.map_append]
  rfl
theorem worthsTo_length {n i : Nat} (h : i ≤ n) : (worthsTo n i).length = n := by simp [worthsTo]; omega
theorem worthsTo_at {n j : Nat} (h : j < n) : (worthsTo n n).getD j 0 = worthI j := by simp [worthsTo, List.getD, h]
/-- Numbers as a sort wants them told. -/
theorem holds_arr {w : World} {g T : Nat} {L : List Int} (h : ArrAt .i64 T w g L) : Go.Sort.Holds (Value.int .i64) w g 0 L.toArray := fun j hj => by
  have hj' : j < L.length := by simpa using hj
  rw [Nat.zero_add, h.cell hj', getElem!_pos L.toArray j hj]
  exact ⟨by simp [List.getD, hj'], h.free j⟩
theorem holds_fin {w : World} {g T n : Nat} [Inhabited (Fin n)] (h : ArrAt .i64 T w g (ints (List.range n))) : Go.Sort.Holds (encF n) w g 0 (List.finRange n).toArray := fun j hj => by
  have hj' : j < n := by simpa using hj
  rw [Nat.zero_add, h.cell (by simpa [ints] using hj'), getElem!_pos _ j hj, ints_at]
  refine ⟨?_, h.free j⟩
  simp [encF, List.getD, hj']
/-- 'slices.SortFunc' of all places, by worth. -/
theorem psort_any (n gw bx go T : Nat) (W : World) (h1 : 1 ≤ n) (h5 : n ≤ 512) (hbx : W.heap[bx]? = some (.cells #[.slice (some ⟨gw, 0, none⟩) n n] T (0, 0))) (hw : ArrAt .i64 3 W gw (worthsTo n n)) (ho : ArrAt .i64 3 W go (ints (List.range n))) (hg : gw ≠ go) (hb : bx ≠ go) :
    Calls Tryz.prog 124 #[.slice (some ⟨go, 0, none⟩) n n, .func (.func 125) #[] #[.pointer (some ⟨bx, 0, none⟩)]] W fun e w' => e = .returned (.tuple #[]) ∧ ArrAt .i64 3 w' go (ints (orderM n)) ∧ Kept [go] W w' := by
  have : Inhabited (Fin n) := ⟨⟨0, h1⟩⟩
  have hbl : bx < W.heap.size := by
    rcases Nat.lt_or_ge bx W.heap.size with h | h
    · exact h
    · rw [Array.getElem?_eq_none h] at hbx; cases hbx
  have eg : ∀ args w, (callFunc 125 args).run Tryz.prog w = .ok (.enter 125 args) w := enters_of Tryz.func125 (by kernel_rfl) rfl
  have hcmp : CmpLays1 Tryz.prog 125 #[.pointer (some ⟨bx, 0, none⟩)] (encF n) (cfPI n) go 0 (List.finRange n).toArray.size W := by
    intro m os dk _ x y
    have hk := sort_sorted (enc := encF n) (w := W) (g := go) (n := m) (d := dk) (os := os)
    have hb' := (hk.block bx hbl (by simp; omega)).trans hbx
    have hw' : ArrAt .i64 3 (sortWorld (encF n) W go 0 m dk os) gw (worthsTo n n) := hw.kept hk (by simp; omega)
    have l := worthsTo_length (Nat.le_refl n)
    have c0 := hw'.cell (j := x.val) (by rw [l]; exact x.isLt)
    have c1 := hw'.cell (j := y.val) (by rw [l]; exact y.isLt)
    rw [worthsTo_at x.isLt] at c0
    rw [worthsTo_at y.isLt] at c1
    exact clos_any n x.val y.val gw bx n x.isLt y.isLt (worthI x.val) (worthI y.val) _ (by rw [cell_of_row _ _ _ _ _ _ hb']; rfl) c0 c1
  have hS := Any.slices_SortFunc_total Tryz.sortL (encF n) (fun _ => rfl) (cfPI n) (swoP n) 125 #[.pointer (some ⟨bx, 0, none⟩)] go 0 n (List.finRange n).toArray W eg hcmp (holds_fin ho) ho.lt (by simp; omega) (totP n)
  have hsz : (List.finRange n).toArray.size = n := by simp
  rw [hsz] at hS
  change Calls Tryz.prog 124 _ _ _ at hS
  refine hS.mono fun e w' h' => ?_
  obtain ⟨he, q, os, hq⟩ := h'
  subst hq
  refine ⟨he, ?_, sort_sorted⟩
  have hr := sort_row (enc := encF n) (n := q) (os := os) (d := ((List.finRange n).toArray.toList.mergeSort fun x y => !(ltOf (cfPI n)) y x).toArray) ho (by simp [ints])
  refine hr.trans ?_
  rw [show (List.finRange n).toArray.toList = List.finRange n from rfl, sorted_cells]
/-- 'slices.Sort' of numbers that fill their block. -/
theorem isort_any (g k : Nat) (L : List Int) (W : World) (hl : L.length = k) (hk : k ≤ 512) (ha : ArrAt .i64 3 W g L) :
    Calls Tryz.prog 128 #[.slice (some ⟨g, 0, none⟩) k k] W fun e w' => e = .returned (.tuple #[]) ∧ ArrAt .i64 3 w' g (L.mergeSort fun x y => decide (x ≤ y)) ∧ Kept [g] W w' := by
  have hS := Any.slices_Sort_int Tryz.lays189 g 0 k L W (holds_arr ha) ha.lt (by omega)
  rw [hl] at hS
  change Calls Tryz.prog 128 _ _ _ at hS
  refine hS.mono fun e w' h' => ?_
  obtain ⟨he, q, os, hq⟩ := h'
  subst hq
  refine ⟨he, ?_, sort_kept⟩
  have hr := sort_row (enc := Value.int .i64) (n := q) (os := os) (d := (L.mergeSort fun x y => decide (x ≤ y)).toArray) ha (by simp)
  refine hr.trans ?_
  simp
set_option maxRecDepth 100000 in
set_option maxHeartbeats 2000000 in
theorem best_any (n k gw : Nat) (w : World) (h1 : 1 ≤ n) (h5 : n ≤ 512) (hk : k ≤ n) (hw : ArrAt .i64 3 w gw (worthsTo n n)) :
    Calls Tryz.prog 98 #[.slice (some ⟨gw, 0, none⟩) n n, .int .i64 k] w fun e w' => ∃ g, e = .returned (.slice (some ⟨g, 0, none⟩) k k) ∧ ArrAt .i64 3 w' g (ints (placesM n k)) ∧ w.heap.size ≤ g ∧ Below w.heap.size w w' := by
  have hgl := hw.lt
  go_enter Tryz.func98, Tryz.ntmps98
  go_wp2_with (first | (refine wpList_makeInts w.heap.size w n rfl _ _ rfl _ _ rfl rfl rfl rfl (by omega) ((Below.refl _ _).alloc (Nat.le_refl _) _) (by simp) ?_; intro w1 hown1 hbel1 hlt1 hfr1))
  have e1 : (w.alloc (.cells #[.slice (some ⟨gw, 0, none⟩) n n] 23)).heap.size = w.heap.size + 1 := by simp
  have hbx1 : w1.heap[w.heap.size]? = some (.cells #[.slice (some ⟨gw, 0, none⟩) n n] 23 (0, 0)) := (hfr1.block w.heap.size (by rw [e1]; omega)).trans (heap_alloc_new w _)
  rw [e1] at hown1 hlt1
  have har1 := hown1.arr.1
  have HBX := hid hbx1
  clear hown1 hfr1 e1 hbx1
  go_loopw [13] (fun q wr => ∃ i : Nat, i ≤ n ∧ q = .int .i64 i ∧ ArrAt .i64 3 wr (w.heap.size + 1) (idTo n i) ∧ Kept [w.heap.size + 1] w1 wr) (fun q _ => n - (intOf q).toNat)
  case atStart => exact ⟨0, Nat.zero_le _, rfl, by simpa [idTo, ints] using har1, Kept.refl _ _⟩
  case round =>
    obtain ⟨i, hi, rfl, har, hkept⟩ := hrel
    by_cases hlt : i < n
    · have hset := har.set i (i : Int)
      rw [idTo_set hlt] at hset
      have hf := har.free i
      have hcz := har.cell (j := i) (by rw [idTo_length hi]; exact hlt)
      have hkept' := hkept.setCell (p := ⟨w.heap.size + 1, i, none⟩) (by simp) (.int .i64 (i : Int))
      generalize (idTo n i).getD i 0 = z at *
      clear har hkept
      go_wp2
      go_roundw
      case rel => exact ⟨i + 1, by omega, by go_num, hset, hkept'⟩
      case measure => simp [intOf]; omega
    · obtain rfl : i = n := by omega
      rw [idTo_all] at har
      have hbr := (hkept.block w.heap.size (by omega) (by simp)).trans HBX.out
      have hwr := (hw.below hbel1 hgl).kept hkept (by simp; omega)
      have hS := psort_any i gw w.heap.size (w.heap.size + 1) 23 wr h1 h5 hbr hwr har (by omega) (by omega)
      have hbel2 := hbel1.trans (hkept.below (B := w.heap.size) (by omega) (by simp))
      have hs2 := hkept.size
      have HOL := hid ((ints_length (orderM i)).trans (order_length i))
      clear hbr har hwr hkept
      go_wp2_with fail
      refine hS.mono ?_
      rintro e w2 ⟨rfl, har2, hk2⟩
      have hbel3 := hbel2.trans (hk2.below (B := w.heap.size) (by omega) (by simp))
      have hs3 := hk2.size
      go_wp2_with (first
        | (refine wpList_makeInts w2.heap.size w2 k rfl _ _ rfl _ _ rfl rfl rfl rfl (by omega) (Below.refl _ _) (Nat.le_refl _) ?_; intro w3 ho3 hb3 hlt3 _hx3; obtain ⟨har3, -, -⟩ := ho3.arr; have hao := har2.below hb3 har2.lt; have hsrc := src_cells hao HOL.out)
        | (refine wpList_copyInts har3 (by simp) hsrc HOL.out hk rfl (.tmp 26) (.tmp 27) rfl rfl rfl ?_; intro w4 har4 hk4; have hso := isort_any w2.heap.size k _ w4 (by rw [List.length_take, HOL.out]; omega) (by omega) har4)
        | (go_at_call 128; refine hso.mono ?_; rintro e w5 ⟨rfl, har5, hk5⟩))
      go_ret
      have e5 := order_best i k
      have e6 : (ints (orderM i)).take k = ints ((orderM i).take k) := by unfold ints; rw [List.map_take]
      rw [e6, e5] at har5
      refine ⟨w2.heap.size, rfl, har5, by omega, ?_⟩
      have hb4 := (hk4.trans hk5).below (B := w.heap.size) (by omega) (by simp; omega)
      exact (hbel3.trans (hb3.mono (by omega))).trans hb4
end Go.Proofs.YtplkmkbambbemadGreatDoor
namespace Go.Proofs.YtplkmkbambbemadGreatDoor
open Go.ChangeShapes Go.WideShapes Go.ChangeAt Go.RowKit
theorem size_yes {n : Int} (h : powI n = true) : sizeErr n = 0 := by unfold sizeErr; rw [h]; rfl
set_option maxRecDepth 100000 in
set_option maxHeartbeats 2000000 in
theorem pplaces_any (m n k : Nat) (w : World) (hm : m ≤ 9) (hn : n = 2 ^ m) (hk : k ≤ n) (hW : Wor w) :
    Calls Tryz.prog 49 #[.int .i64 n, .int .i64 k] w fun e w' => ∃ g, e = .returned (.tuple #[.slice (some ⟨g, 0, none⟩) k k, .int .i64 0]) ∧ ArrAt .i64 3 w' g (ints (placesM n k)) ∧ w.heap.size ≤ g ∧ Below w.heap.size w w' := by
  have h5 : n ≤ 512 := by rw [hn]; exact Nat.pow_le_pow_right (by omega) hm
  have h1 : 1 ≤ n := by rw [hn]; exact Nat.one_le_two_pow
  have hsz := size_any n w (by omega)
  rw [size_yes (by rw [hn]; exact of_pow hm)] at hsz
  have hWl := hW.lt
  have hk0 : ¬ (k : Int) < 0 := by omega
  have hkn : ¬ (n : Int) < (k : Int) := by omega
  clear hn
  go_enter Tryz.func49, Tryz.ntmps49
  go_wp2_with (first
    | (go_at_call 47; refine hsz.mono ?_; rintro e w1 ⟨rfl, rfl⟩)
    | (refine wpList_makeInts w.heap.size w n rfl _ _ rfl _ _ rfl rfl rfl rfl (by omega) (Below.refl _ _) (Nat.le_refl _) ?_; intro w1 hown1 hbel1 hlt1 _hx1; obtain ⟨har1, -, -⟩ := hown1.arr; clear hown1))
  go_loopw [25] (fun q wr => ∃ i : Nat, i ≤ n ∧ q = .int .i64 i ∧ ArrAt .i64 3 wr w.heap.size (worthsTo n i) ∧ Kept [w.heap.size] w1 wr) (fun q _ => n - (intOf q).toNat)
  case atStart => exact ⟨0, Nat.zero_le _, rfl, by simpa [worthsTo] using har1, Kept.refl _ _⟩
  case round =>
    obtain ⟨i, hi, rfl, har, hkept⟩ := hrel
    have hbel := hbel1.trans (hkept.below (B := w.heap.size) (by omega) (by simp))
    by_cases hlt : i < n
    · have hset := har.set i (worthI i)
      rw [worthsTo_set hlt] at hset
      have hf := har.free i
      have hcz := har.cell (j := i) (by rw [worthsTo_length hi]; exact hlt)
      have hkept' := hkept.setCell (p := ⟨w.heap.size, i, none⟩) (by simp) (.int .i64 (worthI i))
      have hwo := worthOf_any i wr (by omega) (hW.below hbel hWl)
      generalize (worthsTo n i).getD i 0 = z at *
      generalize worthI i = y at *
      clear har hkept
      go_wp2_with (first | (go_at_call 97; refine hwo.mono ?_; rintro e w2 ⟨rfl, rfl⟩))
      go_roundw
      case rel => exact ⟨i + 1, by omega, by go_num, hset, hkept'⟩
      case measure => simp [intOf]; omega
    · obtain rfl : i = n := by omega
      have hbe := best_any i k w.heap.size wr h1 h5 hk har
      go_wp2_with fail
      refine hbe.mono ?_
      rintro e w2 ⟨g, rfl, har2, hg2, hb2⟩
      have hs := hkept.size
      go_wp2
      go_ret2
      exact ⟨g, rfl, har2, by omega, hbel.trans (hb2.mono hbel.size)⟩
set_option maxRecDepth 100000 in
set_option maxHeartbeats 2000000 in
theorem pencode_any (m : Nat) (b : List Int) (a : Option Addr) (n k c : Nat) (w : World) (ha : Rd .u8 w a b) (hb : AllBits b) (hl : b.length = k) (hm : m ≤ 9) (hn : n = 2 ^ m) (hk : k ≤ n) (hW : Wor w) :
    Calls Tryz.prog 107 #[.slice a k c, .int .i64 n] w fun e w' => ∃ g, e = .returned (.tuple #[.slice (some ⟨g, 0, none⟩) n n, .int .i64 0]) ∧ Own w' w.heap.size (.slice (some ⟨g, 0, none⟩) n n) (turnM m (spreadM n (placesM n k) b k)) ∧ Below w.heap.size w w' := by
  have h5 : n ≤ 512 := by rw [hn]; exact Nat.pow_le_pow_right (by omega) hm
  have hck := check_any b a c w ha (by unfold maxLen; omega)
  rw [hl, err_none (fun j _ => (hb.at j).2) (by omega)] at hck
  have hpl := pplaces_any m n k w hm hn hk hW
  have HL := hid hl
  have HN := hid hn
  have HPI := hid ((ints_length (placesM n k)).trans (places_length hk))
  have hbb := spread_bits n (placesM n k) b hb.at k
  have HSL := hid (spread_length n (placesM n k) b k)
  clear hl hn
  go_enter Tryz.func107, Tryz.ntmps107
  go_wp2_with (first
    | (go_at_call 42; refine hck.mono ?_; rintro e w1 ⟨rfl, rfl⟩)
    | fail)
  refine hpl.mono ?_
  rintro e w1 ⟨gp, rfl, harP, hgp, hbel1⟩
  have hs1 := hbel1.size
  have hgpl := harP.lt
  go_wp2_with (first
    | (refine wpList_makeBytes w1.heap.size w1 n rfl _ _ rfl _ _ rfl rfl rfl rfl (by omega) (Below.refl _ _) (Nat.le_refl _) ?_; intro w2 hown2 hbel2 hlt2; obtain ⟨har2, -, -⟩ := hown2.arr; clear hown2))
  have harP2 := harP.below hbel2 hgpl
  go_loopw [31] (fun q wr => ∃ i : Nat, i ≤ k ∧ q = .int .i64 i ∧ ArrAt .u8 5 wr w1.heap.size (spreadM n (placesM n k) b i) ∧ Kept [w1.heap.size] w2 wr) (fun q _ => k - (intOf q).toNat)
  case atStart => exact ⟨0, Nat.zero_le _, rfl, har2, Kept.refl _ _⟩
  case round =>
    obtain ⟨i, hi, rfl, har, hkept⟩ := hrel
    have hbel := (hbel1.trans (hbel2.mono hs1)).trans (hkept.below (B := w.heap.size) (by omega) (by simp; omega))
    by_cases hlt : i < k
    · obtain ⟨b1, o1, rfl, hc1⟩ := (ha.below hbel).at (i := i) (by rw [HL.out]; exact hlt)
      have g1 := hc1 i (by rw [HL.out]; exact hlt)
      have g2 := (harP2.kept hkept (by simp; omega)).cell (j := i) (by rw [HPI.out]; exact hlt)
      rw [ints_at] at g2
      have hpl' := places_at hk hlt
      have hset := har.set ((placesM n k).getD i 0) (b.getD i 0)
      have HSP := hid (show (spreadM n (placesM n k) b i).set ((placesM n k).getD i 0) (b.getD i 0) = spreadM n (placesM n k) b (i + 1) from rfl)
      rw [HSP.out] at hset
      have hf := har.free ((placesM n k).getD i 0)
      have hcz := har.cell (j := (placesM n k).getD i 0) (by rw [spread_length]; exact hpl')
      have hkept' := hkept.setCell (p := ⟨w1.heap.size, (placesM n k).getD i 0, none⟩) (by simp) (.int .u8 (b.getD i 0))
      clear hc1 HSP har hkept
      generalize (placesM n k).getD i 0 = p at *
      generalize b.getD i 0 = y at *
      generalize (spreadM n (placesM n k) b i).getD p 0 = z at *
      have hpp : (p : Int) < (n : Int) := by omega
      go_wp2
      go_roundw
      case rel => exact ⟨i + 1, by omega, by go_num, hset, hkept'⟩
      case measure => simp [intOf]; omega
    · obtain rfl : i = k := by omega
      have hs := hkept.size
      have hT := turn_in m [] (spreadM n (placesM n i) b i) [] w1.heap.size 0 n n wr (by simpa using har) rfl HSL.out HN.out h5 (Nat.le_refl _) hbb
      go_wp2_with fail
      refine hT.mono ?_
      rintro e w3 ⟨rfl, har3, hk3⟩
      rw [List.nil_append, List.append_nil] at har3
      go_wp2
      go_ret2
      refine ⟨_, rfl, own_of_arr har3 (by omega) ?_ (by unfold maxLen; omega), hbel.trans (hk3.below (by omega) (by simp; omega))⟩
      rw [turn_length m _ (HSL.out.trans HN.out)]
      exact HN.out.symm
end Go.Proofs.YtplkmkbambbemadGreatDoor
namespace Go.Proofs.YtplkmkbambbemadGreatDoor
open Go.ChangeShapes Go.WideShapes Go.ChangeAt Go.RowKit Go.Maps
set_option maxRecDepth 100000 in
set_option maxHeartbeats 1000000 in
theorem lesser_any (x y : Int) (w : World) (hx : -4611686018427387904 ≤ x ∧ x ≤ 4611686018427387904) (hy : -4611686018427387904 ≤ y ∧ y ≤ 4611686018427387904) :
    Calls Tryz.prog 100 #[.int .i64 x, .int .i64 y] w fun e w' => e = .returned (.int .i64 (fI x y)) ∧ w' = w := by
  by_cases cx : x < 0
  · by_cases cy : y < 0
    · go_enter Tryz.func100, Tryz.ntmps100
      go_wp2
      go_ret
      exact ⟨ret_int (by unfold fI absI; (repeat' split) <;> omega), rfl⟩
    · go_enter Tryz.func100, Tryz.ntmps100
      go_wp2
      go_ret
      exact ⟨ret_int (by unfold fI absI; (repeat' split) <;> omega), rfl⟩
  · by_cases cy : y < 0
    · go_enter Tryz.func100, Tryz.ntmps100
      go_wp2
      go_ret
      exact ⟨ret_int (by unfold fI absI; (repeat' split) <;> omega), rfl⟩
    · go_enter Tryz.func100, Tryz.ntmps100
      go_wp2
      go_ret
      exact ⟨ret_int (by unfold fI absI; (repeat' split) <;> omega), rfl⟩
/-- The map of open places, as it is filled. -/
def dM (P : List Nat) : Nat → DataW Unit
  | 0 => .map []
  | i + 1 => (dM P i).put (.int .i64 (P.getD i 0 : Nat)) (.lit (.int .i64 i))
theorem dM_isMap (P : List Nat) : ∀ i, IsMap (dM P i)
  | 0 => isMap_empty
  | i + 1 => (dM_isMap P i).put _ _
theorem key_ne {a b : Nat} (h : a ≠ b) : (Lit.int .i64 (a : Int)) ≠ Lit.int .i64 (b : Int) := by
  intro e
  simp only [Lit.int.injEq, true_and] at e
  omega
theorem dM_has (P : List Nat) (p : Nat) : ∀ i, (∀ j, j < i → P.getD j 0 ≠ p) → Maps.has (dM P i) (.int .i64 (p : Int)) = false
  | 0, _ => rfl
  | i + 1, h => by
    rw [dM, has_put_other (key_ne (fun e => h i (by omega) e.symm))]
    exact dM_has P p i (fun j hj => h j (by omega))
theorem dM_at (P : List Nat) (hP : P.Pairwise (fun x y => x < y)) : ∀ i, i ≤ P.length → ∀ j, j < i → Maps.has (dM P i) (.int .i64 (P.getD j 0 : Nat)) = true ∧ ∀ z, (dM P i).atKey (.int .i64 (P.getD j 0 : Nat)) z = .lit (.int .i64 j)
  | 0, _, j, h => by omega
  | i + 1, hi, j, hj => by
    by_cases e : j = i
    · subst e
      rw [dM]
      have hkl : WideAt.IsKeyLit (.int .i64 (P.getD j 0 : Nat)) := trivial
      exact ⟨has_put_same (dM_isMap P j) hkl _, fun z => atKey_put_same (dM_isMap P j) hkl _ z⟩
    · have hne : P.getD j 0 ≠ P.getD i 0 := by
        have gi : P.getD i 0 = P[i] := by simp [List.getD, show i < P.length by omega]
        have gj : P.getD j 0 = P[j] := by simp [List.getD, show j < P.length by omega]
        have := (List.pairwise_iff_getElem.1 hP) j i (by omega) (by omega) (by omega)
        omega
      have ih := dM_at P hP i (by omega) j (by omega)
      rw [dM, has_put_other (key_ne hne)]
      exact ⟨ih.1, fun z => by rw [atKey_put_other (key_ne hne)]; exact ih.2 z⟩
theorem Tryz.law3 : Keyed Tryz.prog 3 := int_keyed Tryz.underlying3
theorem Tryz.zero3 (w : World) : (zeroValue 3).run Tryz.prog w = .ok (.int .i64 0) w := by kernel_rfl
/-- The map of open places lies in a block. -/
def MapAt (w : World) (b : Nat) (P : List Nat) (k : Nat) : Prop := w.ownsMap Tryz.prog 3 (plainElem Tryz.prog 3) b k (dM P k)
theorem MapAt.same {w w' : World} {b k : Nat} {P : List Nat} (h : MapAt w b P k) (e : w'.heap[b]? = w.heap[b]?) : MapAt w' b P k := by
  obtain ⟨es, clock, hb, r⟩ := h
  exact ⟨es, clock, e.trans hb, r⟩
theorem MapAt.kept {w w' : World} {b k : Nat} {P : List Nat} {S : List Nat} (h : MapAt w b P k) (hk : Kept S w w') (hS : b ∉ S) : MapAt w' b P k := h.same (hk.block b (World.ownsMap.lt h) hS)
/-- The finder: its map, what it has found. -/
def FinderAt (w : World) (gf bm gd k : Nat) : Prop := ∃ T, w.heap[gf]? = some (.cells #[.map (some bm), .slice (some ⟨gd, 0, none⟩) k k] T (0, 0))
theorem FinderAt.lt {w : World} {gf bm gd k : Nat} (h : FinderAt w gf bm gd k) : gf < w.heap.size := by
  obtain ⟨T, e⟩ := h
  rcases Nat.lt_or_ge gf w.heap.size with h | h
  · exact h
  · rw [Array.getElem?_eq_none h] at e; cases e
theorem FinderAt.kept {w w' : World} {gf bm gd k : Nat} {S : List Nat} (h : FinderAt w gf bm gd k) (hk : Kept S w w') (hS : gf ∉ S) : FinderAt w' gf bm gd k := by
  have hl := h.lt
  obtain ⟨T, e⟩ := h
  exact ⟨T, (hk.block gf hl hS).trans e⟩
theorem FinderAt.cells {w : World} {gf bm gd k : Nat} (h : FinderAt w gf bm gd k) : w.cell? ⟨gf, 0, none⟩ = some (.map (some bm)) ∧ w.cell? ⟨gf, 1, none⟩ = some (.slice (some ⟨gd, 0, none⟩) k k) := by
  obtain ⟨T, e⟩ := h
  constructor
  · rw [cell_of_row _ _ _ _ _ _ e]; rfl
  · rw [cell_of_row _ _ _ _ _ _ e]; rfl
theorem lit_inj {a b : Int} (h : (DataW.lit (.int .i64 a) : DataW Unit) = .lit (.int .i64 b)) : a = b := by
  simpa using h
/-- What is found at a place by its sight. -/
def bitM (q : Bool) (z : Int) : Int := if q && decide (z < 0) then 1 else 0
set_option maxRecDepth 100000 in
set_option maxHeartbeats 2000000 in
theorem bit_no (P : List Nat) (k p gf bm gd : Nat) (z : Int) (w : World) (hp : p ≤ 512) (hno : ∀ j, j < k → P.getD j 0 ≠ p) (hM : MapAt w bm P k) (hF : FinderAt w gf bm gd k) :
    Calls Tryz.prog 99 #[.pointer (some ⟨gf, 0, none⟩), .int .i64 p, .int .i64 z] w fun e w' => e = .returned (.int .u8 0) ∧ w' = w := by
  obtain ⟨f0, f1⟩ := hF.cells
  have hkey : keyOf Tryz.prog 3 (.int .i64 (p : Int)) = some (.int .i64 (p : Int)) := keyOf_int_mk Tryz.underlying3 (WalkArith.wf_i64 (by omega))
  have hh := dM_has P p k hno
  clear hF
  go_enter Tryz.func99, Tryz.ntmps99
  go_wp2_with (first
    | (at_lookup; refine wpList_lookup_own_ok_int _ rfl _ _ 93 rfl 3 3 .i64 Tryz.law3 Tryz.underlying93 Tryz.underlying3 (Tryz.zero3 _) bm k _ rfl hM _ _ rfl hkey ?_; intro c hat hwc; rw [hh]))
  go_ret
  exact ⟨rfl, rfl⟩
set_option maxRecDepth 100000 in
set_option maxHeartbeats 2000000 in
theorem bit_yes (P : List Nat) (hP : P.Pairwise (fun x y => x < y)) (k p i gf bm gd : Nat) (fd : List Int) (z : Int) (w : World) (hp : p ≤ 512) (hl : P.length = k) (hi : i < k) (hpi : P.getD i 0 = p) (hM : MapAt w bm P k) (hF : FinderAt w gf bm gd k) (hD : ArrAt .u8 5 w gd fd) (hfd : fd.length = k) :
    Calls Tryz.prog 99 #[.pointer (some ⟨gf, 0, none⟩), .int .i64 p, .int .i64 z] w fun e w' => e = .returned (.int .u8 (bitM true z)) ∧ ArrAt .u8 5 w' gd (if z < 0 then fd.set i 1 else fd) ∧ Kept [gd] w w' := by
  obtain ⟨f0, f1⟩ := hF.cells
  have hkey : keyOf Tryz.prog 3 (.int .i64 (p : Int)) = some (.int .i64 (p : Int)) := keyOf_int_mk Tryz.underlying3 (WalkArith.wf_i64 (by omega))
  have ha := dM_at P hP k (by omega) i hi
  rw [hpi] at ha
  obtain ⟨hh, hv⟩ := ha
  have HV := hid (hv (.lit (.int .i64 0)))
  clear hF hv
  by_cases hz : z < 0
  · have HB := hid (show bitM true z = 1 by simp [bitM, hz])
    rw [if_pos hz]
    have hset := hD.set i 1
    have hf := hD.free i
    have hc := hD.cell (j := i) (by omega)
    have hkept := (Kept.refl [gd] w).setCell (p := ⟨gd, i, none⟩) (by simp) (.int .u8 1)
    generalize fd.getD i 0 = old at *
    have HL := hid hl
    have HFD := hid hfd
    clear hl hfd hpi
    rw [HB.out]
    go_enter Tryz.func99, Tryz.ntmps99
    go_wp2_with (first
      | (at_lookup; refine wpList_lookup_own_ok_int _ rfl _ _ 93 rfl 3 3 .i64 Tryz.law3 Tryz.underlying93 Tryz.underlying3 (Tryz.zero3 _) bm k _ rfl hM _ _ rfl hkey ?_; intro c hat hwc; rw [hh]; obtain rfl : c = (i : Int) := lit_inj (hat.symm.trans HV.out)))
    go_ret
    exact ⟨rfl, hset, hkept⟩
  · have HB := hid (show bitM true z = 0 by simp [bitM, hz])
    rw [if_neg hz, HB.out]
    have HL := hid hl
    have HFD := hid hfd
    clear hl hfd hpi
    go_enter Tryz.func99, Tryz.ntmps99
    go_wp2_with (first
      | (at_lookup; refine wpList_lookup_own_ok_int _ rfl _ _ 93 rfl 3 3 .i64 Tryz.law3 Tryz.underlying93 Tryz.underlying3 (Tryz.zero3 _) bm k _ rfl hM _ _ rfl hkey ?_; intro c hat hwc; rw [hh]; obtain rfl : c = (i : Int) := lit_inj (hat.symm.trans HV.out)))
    go_ret
    exact ⟨rfl, hD, Kept.refl _ _⟩
end Go.Proofs.YtplkmkbambbemadGreatDoor
namespace Go.Proofs.YtplkmkbambbemadGreatDoor
open Go.ChangeShapes Go.WideShapes Go.ChangeAt Go.RowKit Go.Maps
/-- Which of n places from first on are open. -/
def flagsM (P : List Nat) (first n : Nat) : List Bool := (List.range n).map fun j => decide (first + j ∈ P)
theorem flags_take (P : List Nat) (first h : Nat) : (flagsM P first (h + h)).take h = flagsM P first h := by
  unfold flagsM
  rw [← List.map_take, List.take_range, Nat.min_eq_left (by omega)]
theorem flags_drop (P : List Nat) (first h : Nat) : (flagsM P first (h + h)).drop h = flagsM P (first + h) h := by
  refine List.ext_getElem (by simp [flagsM]) fun j h1 h2 => ?_
  simp [flagsM, Nat.add_assoc]
theorem dec_step (m : Nat) (l : List Int) (P : List Nat) (first h : Nat) (eh : h = 2 ^ m) : decP (m + 1) l (flagsM P first (h + h)) =
    decP m (fL (l.take h) (l.drop h)) (flagsM P first h) ++ decP m (gL (turnM m (decP m (fL (l.take h) (l.drop h)) (flagsM P first h))) (l.take h) (l.drop h)) (flagsM P (first + h) h) := by
  subst eh
  rw [decP, flags_take, flags_drop]
theorem turn_halves (m : Nat) (u v : List Int) (hu : u.length = 2 ^ m) : turnM (m + 1) (u ++ v) = addL (turnM m u) (turnM m v) ++ turnM m v := by
  rw [turnM, List.take_left' hu, List.drop_left' hu]
theorem mem_at {P : List Nat} {p : Nat} (h : p ∈ P) : ∃ i, i < P.length ∧ P.getD i 0 = p := by
  obtain ⟨i, hi, rfl⟩ := List.getElem_of_mem h
  exact ⟨i, hi, by simp [List.getD, hi]⟩
theorem not_mem_at {P : List Nat} {p : Nat} (h : p ∉ P) {k : Nat} (hk : P.length = k) : ∀ j, j < k → P.getD j 0 ≠ p := fun j hj e => by
  have gj : P.getD j 0 = P[j] := by simp [List.getD, hk, hj]
  rw [gj] at e
  exact h (e ▸ List.getElem_mem _)
/-- What holds of the finder's memory. -/
structure Fm (P : List Nat) (k gf bm gd gt b1 : Nat) : Prop where
  sorted : P.Pairwise (fun x y => x < y)
  len : P.length = k
  fd : gf ≠ gd
  ft : gf ≠ gt
  md : bm ≠ gd
  mt : bm ≠ gt
  dt : gd ≠ gt
  hd : b1 ≠ gd
  ht : b1 ≠ gt
set_option maxRecDepth 100000 in
set_option maxHeartbeats 2000000 in
theorem find_one (P : List Nat) (k gf bm gd gt b1 o1 o c ct first : Nat) (l A x Z fd : List Int) (w : World) (H : Fm P k gf bm gd gt b1) (ha : Rd .i64 w (some ⟨b1, o1, none⟩) l) (hl : l.length = 1) (hr : ArrAt .u8 5 w gt (A ++ x ++ Z)) (hA : A.length = o) (hx : x.length = 1)
    (hM : MapAt w bm P k) (hF : FinderAt w gf bm gd k) (hD : ArrAt .u8 5 w gd fd) (hfd : fd.length = k) (h5 : first ≤ 512) :
    Calls Tryz.prog 50 #[.pointer (some ⟨gf, 0, none⟩), .slice (some ⟨b1, o1, none⟩) 1 c, .int .i64 first, .slice (some ⟨gt, o, none⟩) 1 ct] w fun e w' =>
      e = .returned (.tuple #[]) ∧ ArrAt .u8 5 w' gt (A ++ turnM 0 (decP 0 l (flagsM P first 1)) ++ Z) ∧ ArrAt .u8 5 w' gd (updM P fd first (decP 0 l (flagsM P first 1))) ∧ Kept [gt, gd] w w' := by
  obtain ⟨b, o', e, hc1⟩ := ha.at (i := 0) (by omega)
  simp only [Option.some.injEq, Addr.mk.injEq, and_true] at e
  obtain ⟨rfl, rfl⟩ := e
  have g1 := hc1 0 (by omega)
  rw [Nat.add_zero] at g1
  obtain ⟨z, ez⟩ : ∃ z, z = l.getD 0 0 := ⟨_, rfl⟩
  have hdec : decP 0 l (flagsM P first 1) = [bitM (decide (first ∈ P)) z] := by
    rw [ez]
    simp [decP, flagsM, bitM]
  rw [hdec, turnM]
  rw [← ez] at g1
  have hx1 : ∃ y, x = [y] := by
    match x, hx with
    | [y], _ => exact ⟨y, rfl⟩
  obtain ⟨y, rfl⟩ := hx1
  have hro : (A ++ [y] ++ Z).getD o 0 = y := by
    have := row_at (A := A) (x := [y]) (Z := Z) (o := o) (k := 0) hA (by simp)
    simpa using this
  have hso : ∀ v, (A ++ [y] ++ Z).set o v = A ++ [v] ++ Z := fun v => by
    have := row_set (A := A) (x := [y]) (Z := Z) (o := o) (k := 0) hA (by simp) v
    simpa using this
  have hlo : o < (A ++ [y] ++ Z).length := by simp; omega
  clear ha hl hc1 ez hdec hx
  by_cases hin : first ∈ P
  · obtain ⟨i, hi, hpi⟩ := mem_at hin
    rw [H.len] at hi
    have hb := bit_yes P H.sorted k first i gf bm gd fd z w h5 H.len hi hpi hM hF hD hfd
    rw [decide_eq_true hin]
    have HU : Hid ((if z < 0 then fd.set i 1 else fd) = updM P fd first [bitM true z]) := by
      unfold Hid
      by_cases hz : z < 0
      · have e : bitM true z = 1 := by simp [bitM, hz]
        rw [if_pos hz, e, ← hpi, upd_one P H.sorted fd (hfd.trans H.len.symm) i (by rw [H.len]; exact hi)]
      · have e : bitM true z = 0 := by simp [bitM, hz]
        rw [if_neg hz, upd_none P fd first _ e]
    rw [HU.out] at hb
    generalize bitM true z = v at *
    have HH := hid H
    have HA := hid hA
    have HS := hid hso
    have HO := hid hro
    clear hpi hin hA H HU hso hro hfd hD hM hF
    go_enter Tryz.func50, Tryz.ntmps50
    go_wp2_with fail
    refine hb.mono ?_
    rintro e w1 ⟨rfl, hD1, hk1⟩
    have hr1 := hr.kept hk1 (by simp; exact HH.out.dt.symm)
    have hcz := hr1.cell hlo
    have hf := hr1.free o
    have hset := hr1.set o v
    rw [HS.out] at hset
    rw [HO.out] at hcz
    go_wp2
    refine bodyPost_ret (results_none rfl _ _ _) rfl ?_
    refine ⟨rfl, hset, hD1.other _ _ HH.out.dt, (hk1.wider (by simp)).setCell (by simp) _⟩
  · have hb := bit_no P k first gf bm gd z w h5 (not_mem_at hin H.len) hM hF
    rw [decide_eq_false hin]
    have e0 : bitM false z = 0 := by simp [bitM]
    rw [e0, upd_none P fd first 0 rfl]
    have HS := hid hso
    have HH := hid H
    have hcz := hr.cell hlo
    have hf := hr.free o
    have hset := hr.set o 0
    rw [hro] at hcz
    rw [HS.out] at hset
    have HD := hid hD
    clear hin hA H hso hro hfd hM hF e0 hD
    go_enter Tryz.func50, Tryz.ntmps50
    go_wp2_with fail
    refine hb.mono ?_
    rintro e w1 ⟨rfl, rfl⟩
    go_wp2
    refine bodyPost_ret (results_none rfl _ _ _) rfl ?_
    exact ⟨rfl, hset, HD.out.other _ _ HH.out.dt, (Kept.refl _ _).setCell (by simp) _⟩
end Go.Proofs.YtplkmkbambbemadGreatDoor
