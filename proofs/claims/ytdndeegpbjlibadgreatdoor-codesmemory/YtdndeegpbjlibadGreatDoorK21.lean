import Derived.Test.YtdndeegpbjlibadGreatDoorK20
import Derived.Test.YtdndeegpbjlibadGreatDoorK19
namespace Go.Proofs.YtdndeegpbjlibadGreatDoor
open Go.ChangeShapes Go.WideShapes Go.ChangeAt Go.RowKit

/-! THE PROGRAM'S best. -/

def encF (n : Nat) (i : Fin n) : Value := .int .i64 (i.val : Int)
theorem ltP (n : Nat) (p q : Fin n) : ltOf (cfPI n) p q = btr p.val q.val := by
  unfold ltOf cfPI orI cmpI Lib.compareInt btr
  generalize worthI p.val = x
  generalize worthI q.val = y
  obtain ⟨p, hp⟩ := p
  obtain ⟨q, hq⟩ := q
  simp only
  congr 1
  (repeat' split) <;> simp only [eq_iff_iff] <;> constructor <;> intro h <;> omega
theorem swoP (n : Nat) : Go.Sort.SWO (ltOf (cfPI n)) := {
  irrefl := fun x => by rw [ltP]; exact btr_irrefl _
  trans := fun x y z h1 h2 => by rw [ltP] at *; exact btr_trans h1 h2
  ntrans := fun x y z h1 h2 => by rw [ltP] at *; exact btr_neg h1 h2 }
theorem totP (n : Nat) (x y : Fin n) (h1 : ltOf (cfPI n) x y = false) (h2 : ltOf (cfPI n) y x = false) : x = y := by
  rw [ltP] at *
  apply Fin.ext
  rcases Nat.decEq x.val y.val with h | h
  · rcases btr_total h with h' | h'
    · rw [h1] at h'; cases h'
    · rw [h2] at h'; cases h'
  · exact h
theorem val_range (n : Nat) : (List.finRange n).map Fin.val = List.range n := by
  refine List.ext_getElem (by simp) fun j h1 h2 => ?_
  simp
theorem sorted_order (n : Nat) : ((List.finRange n).mergeSort fun x y => !ltOf (cfPI n) y x).map Fin.val = orderM n := by
  rw [List.map_mergeSort (s := fun x y => !btr y x) (by intro a _ b _; rw [ltP]), val_range]
  rfl
theorem sorted_cells (n : Nat) : (((List.finRange n).mergeSort fun x y => !ltOf (cfPI n) y x).toArray.map (encF n)) = ((ints (orderM n)).map (Value.int .i64)).toArray := by
  rw [← sorted_order]
  simp [ints, encF]

theorem Tryz.one3 : (Tryz.prog.info? 3).map (·.size) = some 1 := by kernel_rfl
/-- 'copy(d, s)' of numbers, d filling its block. -/
theorem run_copy_ints {w : World} {g k n : Nat} {O L : List Int} {a : Addr} {sc : Nat} (hd : ArrAt .i64 3 w g L) (hl : L.length = k) (hs : ∀ j, j < n → w.cell? (a.add j) = some (.int .i64 (O.getD j 0))) (hO : O.length = n) (hk : k ≤ n) (ty : TypeId) :
    ∃ w', (Builtin.copy_ #[23, 23] ty #[.slice (some ⟨g, 0, none⟩) k k, .slice (some a) n sc]).run Tryz.prog w = .ok (goInt k) w' ∧ ArrAt .i64 3 w' g (O.take k) ∧ Kept [g] w w' := by
  by_cases h0 : k = 0
  · subst h0
    refine ⟨w, ?_, ?_, Kept.refl _ _⟩
    · exact run_copy_none (P := Tryz.prog) w 23 23 ty 3 _ _ 0 0 n sc Tryz.underlying23 Tryz.one3 (by simp)
    · have : L = [] := List.eq_nil_of_length_eq_zero hl
      subst this
      simpa using hd
  · have hn : ((O.take k).map (Value.int .i64)).length = k := by simp; omega
    have hrun := run_copy_row (P := Tryz.prog) w 23 23 ty 3 g 0 k k a n sc _ 3 ((O.take k).map (Value.int .i64)) Tryz.underlying23 Tryz.one3 hd (hn.trans (Nat.min_eq_right hk).symm) ?_ ?_ ?_
    · rw [hn] at hrun
      refine ⟨_, hrun, ?_, ⟨rfl, rfl, rfl, by simp, fun j _ hj => setRow_other w g j _ (fun e => hj (by simp [e]))⟩⟩
      refine (setRow_heap w g _ _ 3 _ hd).trans ?_
      simp [hl]
    · intro j u hj
      have hjl : j < k := by
        rcases Nat.lt_or_ge j k with h' | h'
        · exact h'
        · rw [List.getElem?_eq_none (by rw [hn]; exact h')] at hj; cases hj
      have hjO : j < O.length := by omega
      rw [hs j (by omega), ← hj]
      simp [List.getD, hjO, hjl]
    · rw [hn]; simp; omega
    · intro u hu
      obtain ⟨y, _, rfl⟩ := List.mem_map.1 hu
      rfl

/-- The numbers 0, 1, .., as they are laid. -/
def idTo (n i : Nat) : List Int := ints (List.range i) ++ List.replicate (n - i) 0
theorem idTo_set {n i : Nat} (h : i < n) : (idTo n i).set i (i : Int) = idTo n (i + 1) := by
  unfold idTo ints
  obtain ⟨m, hm⟩ : ∃ m, n - i = m + 1 := ⟨n - i - 1, by omega⟩
  rw [hm, set_fill _ i m _ (by simp), show n - (i + 1) = m by omega, List.range_succ, List.map_append]
  rfl
theorem idTo_length {n i : Nat} (h : i ≤ n) : (idTo n i).length = n := by simp [idTo, ints_length]; omega
theorem idTo_all (n : Nat) : idTo n n = ints (List.range n) := by simp [idTo]
def worthsTo (n i : Nat) : List Int := (List.range i).map worthI ++ List.replicate (n - i) 0
theorem worthsTo_set {n i : Nat} (h : i < n) : (worthsTo n i).set i (worthI i) = worthsTo n (i + 1) := by
  unfold worthsTo
  obtain ⟨m, hm⟩ : ∃ m, n - i = m + 1 := ⟨n - i - 1, by omega⟩
  rw [hm, set_fill _ i m _ (by simp), show n - (i + 1) = m by omega, List.range_succ, List.map_append]
  rfl
theorem worthsTo_length {n i : Nat} (h : i ≤ n) : (worthsTo n i).length = n := by simp [worthsTo]; omega
theorem worthsTo_at {n j : Nat} (h : j < n) : (worthsTo n n).getD j 0 = worthI j := by simp [worthsTo, List.getD, h]

theorem wpList_copyInts {w : World} {ops : Array Oper} {rest : List Oper} {o : Oper} {a : Act} {Q : Exit → Act → World → Prop} {g k n sc : Nat} {O L : List Int} {ad : Addr} (hd : ArrAt .i64 3 w g L) (hl : L.length = k) (hs : ∀ j, j < n → w.cell? (ad.add j) = some (.int .i64 (O.getD j 0))) (hO : O.length = n) (hk : k ≤ n)
    (hgd : o.guard = none) (d s : Operand) (ho : o.op = .call { callee := .builtin .copy, args := #[d, s], argTypes := #[23, 23] }) (hde : a.eval d = .slice (some ⟨g, 0, none⟩) k k) (hse : a.eval s = .slice (some ad) n sc)
    (h : ∀ w', ArrAt .i64 3 w' g (O.take k) → Kept [g] w w' → wpList Tryz.prog ops Q rest (a.put o.dst (goInt k)) w') :
    wpList Tryz.prog ops Q (o :: rest) a w := by
  obtain ⟨w', hrun, h1, h2⟩ := run_copy_ints hd hl hs hO hk (sc := sc) o.type
  refine wpList_plain hgd fun K hK => ?_
  unfold Oper.wp
  simp [execOp, ho, resolve, invoke, builtin, hde, hse, hrun, Result.andThen]
  exact hK _ _ (h w' h1 h2)

theorem src_cells {w : World} {g n : Nat} {L : List Int} (h : ArrAt .i64 3 w g L) (hl : L.length = n) : ∀ j, j < n → w.cell? ((⟨g, 0, none⟩ : Addr).add j) = some (.int .i64 (L.getD j 0)) := fun j hj => by
  have e1 : (⟨g, 0, none⟩ : Addr).add j = ⟨g, j, none⟩ := by unfold Addr.add; split <;> simp_all
  rw [e1, h.cell (by omega)]
/-- Numbers as a sort wants them told. -/
theorem holds_arr {w : World} {g T : Nat} {L : List Int} (h : ArrAt .i64 T w g L) : Go.Sort.Holds (Value.int .i64) w g 0 L.toArray := fun j hj => by
  have hj' : j < L.length := by simpa using hj
  rw [Nat.zero_add, h.cell hj', getElem!_pos L.toArray j hj]
  exact ⟨by simp [List.getD, hj'], h.free j⟩
theorem holds_fin {w : World} {g T n : Nat} [Inhabited (Fin n)] (h : ArrAt .i64 T w g (ints (List.range n))) : Go.Sort.Holds (encF n) w g 0 (List.finRange n).toArray := fun j hj => by
  have hj' : j < n := by simpa using hj
  rw [Nat.zero_add, h.cell (by simpa [ints] using hj'), getElem!_pos _ j hj, ints_at]
  refine ⟨?_, h.free j⟩
  simp [encF, List.getD, hj']

/-- 'slices.SortFunc' of all places, by worth. -/
theorem psort_any (n gw bx go T : Nat) (W : World) (h1 : 1 ≤ n) (h5 : n ≤ 512) (hbx : W.heap[bx]? = some (.cells #[.slice (some ⟨gw, 0, none⟩) n n] T (0, 0))) (hw : ArrAt .i64 3 W gw (worthsTo n n)) (ho : ArrAt .i64 3 W go (ints (List.range n))) (hg : gw ≠ go) (hb : bx ≠ go) :
    Calls Tryz.prog 65 #[.slice (some ⟨go, 0, none⟩) n n, .func (.func 66) #[] #[.pointer (some ⟨bx, 0, none⟩)]] W fun e w' => e = .returned (.tuple #[]) ∧ ArrAt .i64 3 w' go (ints (orderM n)) ∧ Kept [go] W w' := by
  have : Inhabited (Fin n) := ⟨⟨0, h1⟩⟩
  have hbl : bx < W.heap.size := by
    rcases Nat.lt_or_ge bx W.heap.size with h | h
    · exact h
    · rw [Array.getElem?_eq_none h] at hbx; cases hbx
  have eg : ∀ args w, (callFunc 66 args).run Tryz.prog w = .ok (.enter 66 args) w := enters_of Tryz.func66 (by kernel_rfl) rfl
  have hcmp : CmpLays1 Tryz.prog 66 #[.pointer (some ⟨bx, 0, none⟩)] (encF n) (cfPI n) go 0 (List.finRange n).toArray.size W := by
    intro m os dk _ x y
    have hk := sort_sorted (enc := encF n) (w := W) (g := go) (n := m) (d := dk) (os := os)
    have hb' := (hk.block bx hbl (by simp; omega)).trans hbx
    have hw' : ArrAt .i64 3 (sortWorld (encF n) W go 0 m dk os) gw (worthsTo n n) := hw.kept hk (by simp; omega)
    have l := worthsTo_length (Nat.le_refl n)
    have c0 := hw'.cell (j := x.val) (by rw [l]; exact x.isLt)
    have c1 := hw'.cell (j := y.val) (by rw [l]; exact y.isLt)
    rw [worthsTo_at x.isLt] at c0
    rw [worthsTo_at y.isLt] at c1
    exact clos_any n x.val y.val gw bx n x.isLt y.isLt (worthI x.val) (worthI y.val) _ (by rw [cell_of_row _ _ _ _ _ _ hb']; rfl) c0 c1
  have hS := Any.slices_SortFunc_total Tryz.sortL (encF n) (fun _ => rfl) (cfPI n) (swoP n) 66 #[.pointer (some ⟨bx, 0, none⟩)] go 0 n (List.finRange n).toArray W eg hcmp (holds_fin ho) ho.lt (by simp; omega) (totP n)
  have hsz : (List.finRange n).toArray.size = n := by simp
  rw [hsz] at hS
  change Calls Tryz.prog 65 _ _ _ at hS
  refine hS.mono fun e w' h' => ?_
  obtain ⟨he, q, os, hq⟩ := h'
  subst hq
  refine ⟨he, ?_, sort_sorted⟩
  have hr := sort_row (enc := encF n) (n := q) (os := os) (d := ((List.finRange n).toArray.toList.mergeSort fun x y => !(ltOf (cfPI n)) y x).toArray) ho (by simp [ints])
  refine hr.trans ?_
  rw [show (List.finRange n).toArray.toList = List.finRange n from rfl, sorted_cells]

/-- 'slices.Sort' of numbers that fill their block. -/
theorem isort_any (g k : Nat) (L : List Int) (W : World) (hl : L.length = k) (hk : k ≤ 512) (ha : ArrAt .i64 3 W g L) :
    Calls Tryz.prog 69 #[.slice (some ⟨g, 0, none⟩) k k] W fun e w' => e = .returned (.tuple #[]) ∧ ArrAt .i64 3 w' g (L.mergeSort fun x y => decide (x ≤ y)) ∧ Kept [g] W w' := by
  have hS := Any.slices_Sort_int Tryz.lays189 g 0 k L W (holds_arr ha) ha.lt (by omega)
  rw [hl] at hS
  change Calls Tryz.prog 69 _ _ _ at hS
  refine hS.mono fun e w' h' => ?_
  obtain ⟨he, q, os, hq⟩ := h'
  subst hq
  refine ⟨he, ?_, sort_kept⟩
  have hr := sort_row (enc := Value.int .i64) (n := q) (os := os) (d := (L.mergeSort fun x y => decide (x ≤ y)).toArray) ha (by simp)
  refine hr.trans ?_
  simp

set_option maxRecDepth 100000 in
set_option maxHeartbeats 2000000 in
theorem best_any (n k gw : Nat) (w : World) (h1 : 1 ≤ n) (h5 : n ≤ 512) (hk : k ≤ n) (hw : ArrAt .i64 3 w gw (worthsTo n n)) :
    Calls Tryz.prog 54 #[.slice (some ⟨gw, 0, none⟩) n n, .int .i64 k] w fun e w' => ∃ g, e = .returned (.slice (some ⟨g, 0, none⟩) k k) ∧ ArrAt .i64 3 w' g (ints (placesM n k)) ∧ w.heap.size ≤ g ∧ Below w.heap.size w w' := by
  have hgl := hw.lt
  go_enter Tryz.func54, Tryz.ntmps54
  go_wp2_with (first | (refine wpList_makeInts w.heap.size w n rfl _ _ rfl _ _ rfl rfl rfl rfl (by omega) ((Below.refl _ _).alloc (Nat.le_refl _) _) (by simp) ?_; intro w1 hown1 hbel1 hlt1 hfr1))
  have e1 : (w.alloc (.cells #[.slice (some ⟨gw, 0, none⟩) n n] 23)).heap.size = w.heap.size + 1 := by simp
  have hbx1 : w1.heap[w.heap.size]? = some (.cells #[.slice (some ⟨gw, 0, none⟩) n n] 23 (0, 0)) := (hfr1.block w.heap.size (by rw [e1]; omega)).trans (heap_alloc_new w _)
  rw [e1] at hown1 hlt1
  have har1 := hown1.arr.1
  have HBX := hid hbx1
  clear hown1 hfr1 e1 hbx1
  go_loopw [13] (fun q wr => ∃ i : Nat, i ≤ n ∧ q = .int .i64 i ∧ ArrAt .i64 3 wr (w.heap.size + 1) (idTo n i) ∧ Kept [w.heap.size + 1] w1 wr) (fun q _ => n - (intOf q).toNat)
  case atStart => exact ⟨0, Nat.zero_le _, rfl, by simpa [idTo, ints] using har1, Kept.refl _ _⟩
  case round =>
    obtain ⟨i, hi, rfl, har, hkept⟩ := hrel
    by_cases hlt : i < n
    · have hset := har.set i (i : Int)
      rw [idTo_set hlt] at hset
      have hf := har.free i
      have hcz := har.cell (j := i) (by rw [idTo_length hi]; exact hlt)
      have hkept' := hkept.setCell (p := ⟨w.heap.size + 1, i, none⟩) (by simp) (.int .i64 (i : Int))
      generalize (idTo n i).getD i 0 = z at *
      clear har hkept
      go_wp2
      go_roundw
      case rel => exact ⟨i + 1, by omega, by go_num, hset, hkept'⟩
      case measure => simp [intOf]; omega
    · obtain rfl : i = n := by omega
      rw [idTo_all] at har
      have hbr := (hkept.block w.heap.size (by omega) (by simp)).trans HBX.out
      have hwr := (hw.below hbel1 hgl).kept hkept (by simp; omega)
      have hS := psort_any i gw w.heap.size (w.heap.size + 1) 23 wr h1 h5 hbr hwr har (by omega) (by omega)
      have hbel2 := hbel1.trans (hkept.below (B := w.heap.size) (by omega) (by simp))
      have hs2 := hkept.size
      have HOL := hid ((ints_length (orderM i)).trans (order_length i))
      clear hbr har hwr hkept
      go_wp2_with fail
      refine hS.mono ?_
      rintro e w2 ⟨rfl, har2, hk2⟩
      have hbel3 := hbel2.trans (hk2.below (B := w.heap.size) (by omega) (by simp))
      have hs3 := hk2.size
      go_wp2_with (first
        | (refine wpList_makeInts w2.heap.size w2 k rfl _ _ rfl _ _ rfl rfl rfl rfl (by omega) (Below.refl _ _) (Nat.le_refl _) ?_; intro w3 ho3 hb3 hlt3 _hx3; obtain ⟨har3, -, -⟩ := ho3.arr; have hao := har2.below hb3 har2.lt; have hsrc := src_cells hao HOL.out)
        | (refine wpList_copyInts har3 (by simp) hsrc HOL.out hk rfl (.tmp 26) (.tmp 27) rfl rfl rfl ?_; intro w4 har4 hk4; have hso := isort_any w2.heap.size k _ w4 (by rw [List.length_take, HOL.out]; omega) (by omega) har4)
        | (go_at_call 69; refine hso.mono ?_; rintro e w5 ⟨rfl, har5, hk5⟩))
      go_ret
      have e5 := order_best i k
      have e6 : (ints (orderM i)).take k = ints ((orderM i).take k) := by unfold ints; rw [List.map_take]
      rw [e6, e5] at har5
      refine ⟨w2.heap.size, rfl, har5, by omega, ?_⟩
      have hb4 := (hk4.trans hk5).below (B := w.heap.size) (by omega) (by simp; omega)
      exact (hbel3.trans (hb3.mono (by omega))).trans hb4
end Go.Proofs.YtdndeegpbjlibadGreatDoor

namespace Go.Proofs.YtdndeegpbjlibadGreatDoor
open Go.ChangeShapes Go.WideShapes Go.ChangeAt Go.RowKit

/-! THE PROGRAM'S Places and Encode. -/

def placesOk (n k : Int) : Bool := powI n && decide (0 ≤ k) && decide (k ≤ n)
theorem places_ok {n k : Int} (h : placesOk n k = true) : powI n = true ∧ 0 ≤ k ∧ k ≤ n := by
  unfold placesOk at h
  simpa [and_assoc] using h
theorem size_no {n : Int} (h : powI n = false) : sizeErr n = 1 := by unfold sizeErr; rw [h]; rfl
theorem size_yes {n : Int} (h : powI n = true) : sizeErr n = 0 := by unfold sizeErr; rw [h]; rfl

set_option maxRecDepth 100000 in
set_option maxHeartbeats 1000000 in
theorem pplaces_bad (n k : Int) (w : World) (hn : -9223372036854775808 ≤ n ∧ n ≤ 9223372036854775807) (h : placesOk n k = false) :
    Calls Tryz.prog 35 #[.int .i64 n, .int .i64 k] w fun e w' => e = .returned (.tuple #[.slice none 0 0, .int .i64 1]) ∧ w = w' := by
  have hsz := size_any n w hn
  cases hp : powI n with
  | false =>
    rw [size_no hp] at hsz
    clear h hp
    go_enter Tryz.func35, Tryz.ntmps35
    go_wp2_with (first | (go_at_call 33; refine hsz.mono ?_; rintro e w1 ⟨rfl, rfl⟩))
    go_ret2
    exact ⟨rfl, rfl⟩
  | true =>
    rw [size_yes hp] at hsz
    have hk : k < 0 ∨ (¬ k < 0 ∧ n < k) := by
      unfold placesOk at h
      rw [hp] at h
      simp at h
      omega
    clear h hp
    rcases hk with hk | ⟨hk, hk'⟩
    · go_enter Tryz.func35, Tryz.ntmps35
      go_wp2_with (first | (go_at_call 33; refine hsz.mono ?_; rintro e w1 ⟨rfl, rfl⟩))
      go_ret2
      exact ⟨rfl, rfl⟩
    · go_enter Tryz.func35, Tryz.ntmps35
      go_wp2_with (first | (go_at_call 33; refine hsz.mono ?_; rintro e w1 ⟨rfl, rfl⟩))
      go_ret2
      exact ⟨rfl, rfl⟩

set_option maxRecDepth 100000 in
set_option maxHeartbeats 2000000 in
theorem pplaces_any (m n k : Nat) (w : World) (hm : m ≤ 9) (hn : n = 2 ^ m) (hk : k ≤ n) (hW : Wor w) :
    Calls Tryz.prog 35 #[.int .i64 n, .int .i64 k] w fun e w' => ∃ g, e = .returned (.tuple #[.slice (some ⟨g, 0, none⟩) k k, .int .i64 0]) ∧ ArrAt .i64 3 w' g (ints (placesM n k)) ∧ w.heap.size ≤ g ∧ Below w.heap.size w w' := by
  have h5 : n ≤ 512 := by rw [hn]; exact Nat.pow_le_pow_right (by omega) hm
  have h1 : 1 ≤ n := by rw [hn]; exact Nat.one_le_two_pow
  have hsz := size_any n w (by omega)
  rw [size_yes (by rw [hn]; exact of_pow hm)] at hsz
  have hWl := hW.lt
  have hk0 : ¬ (k : Int) < 0 := by omega
  have hkn : ¬ (n : Int) < (k : Int) := by omega
  clear hn
  go_enter Tryz.func35, Tryz.ntmps35
  go_wp2_with (first
    | (go_at_call 33; refine hsz.mono ?_; rintro e w1 ⟨rfl, rfl⟩)
    | (refine wpList_makeInts w.heap.size w n rfl _ _ rfl _ _ rfl rfl rfl rfl (by omega) (Below.refl _ _) (Nat.le_refl _) ?_; intro w1 hown1 hbel1 hlt1 _hx1; obtain ⟨har1, -, -⟩ := hown1.arr; clear hown1))
  go_loopw [25] (fun q wr => ∃ i : Nat, i ≤ n ∧ q = .int .i64 i ∧ ArrAt .i64 3 wr w.heap.size (worthsTo n i) ∧ Kept [w.heap.size] w1 wr) (fun q _ => n - (intOf q).toNat)
  case atStart => exact ⟨0, Nat.zero_le _, rfl, by simpa [worthsTo] using har1, Kept.refl _ _⟩
  case round =>
    obtain ⟨i, hi, rfl, har, hkept⟩ := hrel
    have hbel := hbel1.trans (hkept.below (B := w.heap.size) (by omega) (by simp))
    by_cases hlt : i < n
    · have hset := har.set i (worthI i)
      rw [worthsTo_set hlt] at hset
      have hf := har.free i
      have hcz := har.cell (j := i) (by rw [worthsTo_length hi]; exact hlt)
      have hkept' := hkept.setCell (p := ⟨w.heap.size, i, none⟩) (by simp) (.int .i64 (worthI i))
      have hwo := worthOf_any i wr (by omega) (hW.below hbel hWl)
      generalize (worthsTo n i).getD i 0 = z at *
      generalize worthI i = y at *
      clear har hkept
      go_wp2_with (first | (go_at_call 53; refine hwo.mono ?_; rintro e w2 ⟨rfl, rfl⟩))
      go_roundw
      case rel => exact ⟨i + 1, by omega, by go_num, hset, hkept'⟩
      case measure => simp [intOf]; omega
    · obtain rfl : i = n := by omega
      have hbe := best_any i k w.heap.size wr h1 h5 hk har
      go_wp2_with fail
      refine hbe.mono ?_
      rintro e w2 ⟨g, rfl, har2, hg2, hb2⟩
      have hs := hkept.size
      go_wp2
      go_ret2
      exact ⟨g, rfl, har2, by omega, hbel.trans (hb2.mono hbel.size)⟩

def pencErr (b : List Int) (n : Int) : Int := if errOf b = 0 then (if placesOk n b.length then 0 else 1) else errOf b

end Go.Proofs.YtdndeegpbjlibadGreatDoor
