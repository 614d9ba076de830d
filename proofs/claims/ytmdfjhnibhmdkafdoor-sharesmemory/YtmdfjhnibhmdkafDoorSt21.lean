import Derived.Test.YtmdfjhnibhmdkafDoorSt20
import Derived.Deep.RegionLaw
namespace Go.Proofs.YtmdfjhnibhmdkafDoor
open Go.ChangeShapes Go.WideShapes Go.ChangeAt Go.RowKit
def ChM.zero : ChM := ⟨0, 0, 0, 0⟩
structure ShM where
  ch : ChM
  lv : Int
def ShM.zero : ShM := ⟨.zero, 0⟩
def ChM.ok (c : ChM) : Bool := decide (1 ≤ c.id ∧ c.id ≤ 32 ∧ (0 ≤ c.prio ∧ c.prio ≤ 100) ∧ (0 ≤ c.rate ∧ c.rate ≤ 10000) ∧ (0 ≤ c.depth ∧ c.depth ≤ 100000))
def ChM.err (c : ChM) : Int := if c.ok = true then 0 else 1
def ChM.cells (c : ChM) : List Value := [.int .i64 c.id, .int .i64 c.prio, .int .i64 c.rate, .int .i64 c.depth]
def ShM.cells (t : ShM) : List Value := [.int .i64 t.ch.id, .int .i64 t.ch.prio, .int .i64 t.ch.rate, .int .i64 t.ch.depth, .int .i64 t.lv]
def cellsS (l : List ShM) : List Value := l.flatMap ShM.cells
theorem cellsS_length (l : List ShM) : (cellsS l).length = l.length * 5 := by
  induction l with
  | nil => rfl
  | cons x l ih =>
    have : cellsS (x :: l) = x.cells ++ cellsS l := rfl
    rw [this, List.length_append, ih]
    simp [ShM.cells]
    omega
theorem cellsS_snoc (l : List ShM) (t : ShM) : cellsS (l ++ [t]) = cellsS l ++ t.cells := by
  unfold cellsS
  rw [List.flatMap_append, List.flatMap_singleton]
theorem cellsS_at : ∀ (l : List ShM) (i k : Nat), i < l.length → k < 5 → (cellsS l)[i * 5 + k]? = (l.getD i .zero).cells[k]?
  | [], i, k, h, _ => by simp at h
  | x :: l, 0, k, _, hk => by
    have e : cellsS (x :: l) = x.cells ++ cellsS l := rfl
    rw [e, Nat.zero_mul, Nat.zero_add, List.getElem?_append_left (by simpa [ShM.cells] using hk)]
    rfl
  | x :: l, i + 1, k, h, hk => by
    have e : cellsS (x :: l) = x.cells ++ cellsS l := rfl
    have ih := cellsS_at l i k (by simpa using h) hk
    have h5 : x.cells.length = 5 := rfl
    rw [e, List.getElem?_append_right (by rw [h5]; omega), h5, show (i + 1) * 5 + k - 5 = i * 5 + k by omega]
    exact ih
theorem cellsS_set : ∀ (l : List ShM) (i : Nat) (x : Int), i < l.length → (cellsS l).set (i * 5 + 4) (.int .i64 x) = cellsS (l.set i ⟨(l.getD i .zero).ch, x⟩)
  | [], i, x, h => by simp at h
  | y :: l, 0, x, _ => by
    have e : cellsS (y :: l) = y.cells ++ cellsS l := rfl
    rw [e]
    rfl
  | y :: l, i + 1, x, h => by
    have e : cellsS (y :: l) = y.cells ++ cellsS l := rfl
    have ih := cellsS_set l i x (by simpa using h)
    have h5 : y.cells.length = 5 := rfl
    rw [e, List.set_append_right _ _ (by rw [h5]; omega), h5, show (i + 1) * 5 + 4 - 5 = i * 5 + 4 by omega, ih]
    rfl
def OwnSh (w : World) (B : Nat) (v : Value) (l : List ShM) : Prop := w.ownsRow B 79 5 v l.length (cellsS l)
theorem OwnSh.nil (w : World) (B : Nat) : OwnSh w B (.slice none 0 0) [] := World.ownsRow_nil _ _ _ _
theorem OwnSh.below {w w' : World} {B : Nat} {v : Value} {l : List ShM} (h : OwnSh w B v l) (hb : Below w.heap.size w w') : OwnSh w' B v l := by
  refine ⟨h.1, ?_⟩
  rcases h.2 with h' | ⟨g, cap, cur, h1, h2, h3, h4⟩
  · exact .inl h'
  · have hlt : g < w.heap.size := (Array.getElem?_eq_some_iff.1 h3).1
    exact .inr ⟨g, cap, cur, h1, h2, (hb.block g hlt).trans h3, h4⟩
theorem OwnSh.shape {w : World} {B : Nat} {v : Value} {l : List ShM} (h : OwnSh w B v l) : ∃ a c, v = .slice a l.length c ∧ l.length ≤ c ∧ c ≤ maxLen := by
  rcases h.2 with ⟨rfl, h0⟩ | ⟨g, cap, cur, rfl, _, _, h1, h2, _⟩
  · exact ⟨none, 0, by rw [h0], by omega, by unfold maxLen; omega⟩
  · exact ⟨_, cap, rfl, h1, h2⟩
/-- Where the rows lie, and what each cell holds. -/
theorem OwnSh.at {w : World} {B : Nat} {v : Value} {l : List ShM} (h : OwnSh w B v l) (hl : 0 < l.length) : ∃ gb c, v = .slice (some ⟨gb, 0, none⟩) l.length c ∧ B ≤ gb ∧ gb < w.heap.size ∧ ∀ i, i < l.length →
    (w.cell? ⟨gb, i * 5, none⟩ = some (.int .i64 (l.getD i .zero).ch.id) ∧ w.cell? ⟨gb, i * 5 + 1, none⟩ = some (.int .i64 (l.getD i .zero).ch.prio) ∧ w.cell? ⟨gb, i * 5 + 2, none⟩ = some (.int .i64 (l.getD i .zero).ch.rate) ∧ w.cell? ⟨gb, i * 5 + 3, none⟩ = some (.int .i64 (l.getD i .zero).ch.depth) ∧ w.cell? ⟨gb, i * 5 + 4, none⟩ = some (.int .i64 (l.getD i .zero).lv)) ∧ w.frozen? ⟨gb, i * 5 + 4, none⟩ = false := by
  rcases h.2 with ⟨h', h0⟩ | ⟨g, cap, cur, h', hB, hg, hlc, _, hcs, ht⟩
  · omega
  · refine ⟨g, cap, h', hB, (Array.getElem?_eq_some_iff.1 hg).1, fun i hi => ?_⟩
    have hc := fun k hk => cellsS_at l i k hi hk
    have hat : ∀ j, j < l.length * 5 → cur[j]? = (cellsS l)[j]? := fun j hj => by
      rw [← ht, List.getElem?_take_of_lt hj]
      simp
    refine ⟨⟨?_, ?_, ?_, ?_, ?_⟩, frozen_of_row _ _ _ _ _ hg⟩
    · rw [cell_of_row _ _ _ _ _ _ hg, hat _ (by omega)]; exact hc 0 (by omega)
    · rw [cell_of_row _ _ _ _ _ _ hg, hat _ (by omega)]; exact hc 1 (by omega)
    · rw [cell_of_row _ _ _ _ _ _ hg, hat _ (by omega)]; exact hc 2 (by omega)
    · rw [cell_of_row _ _ _ _ _ _ hg, hat _ (by omega)]; exact hc 3 (by omega)
    · rw [cell_of_row _ _ _ _ _ _ hg, hat _ (by omega)]; exact hc 4 (by omega)
/-- A level that is stored. -/
theorem OwnSh.setLv {w : World} {B gb n c : Nat} {l : List ShM} (h : OwnSh w B (.slice (some ⟨gb, 0, none⟩) n c) l) {i : Nat} (hi : i < l.length) (x : Int) : OwnSh (w.setCell ⟨gb, i * 5 + 4, none⟩ (.int .i64 x)) B (.slice (some ⟨gb, 0, none⟩) n c) (l.set i ⟨(l.getD i .zero).ch, x⟩) := by
  refine ⟨by rw [List.length_set, cellsS_length, List.length_set], ?_⟩
  rcases h.2 with ⟨h', h0⟩ | ⟨g, cap, cur, h', hB, hg, hlc, hcm, hcs, ht⟩
  · cases h'
  · simp only [Value.slice.injEq, Option.some.injEq, Addr.mk.injEq, and_true] at h'
    obtain ⟨rfl, rfl, rfl⟩ := h'
    refine .inr ⟨gb, c, cur.set! (i * 5 + 4) (.int .i64 x), by rw [List.length_set], hB, ?_, by rw [List.length_set]; exact hlc, hcm, by simpa using hcs, ?_⟩
    · have := heap_setCell_same w gb (i * 5 + 4) _ _ (.int .i64 x) hg
      simpa [Array.set!_eq_setIfInBounds] using this
    · rw [List.length_set, ← cellsS_set l i x hi, ← ht]
      simp [Array.set!_eq_setIfInBounds, List.take_set]
/-- Shares behind a pointer. -/
structure PSh (w : World) (B g : Nat) (v : Value) (l : List ShM) : Prop where
  box : w.heap[g]? = some (.cells #[v] 75 (0, 0))
  own : OwnSh w B v l
  ne : v.ownBlock ≠ some g
  le : B ≤ g
theorem PSh.lt {w : World} {B g : Nat} {v : Value} {l : List ShM} (h : PSh w B g v l) : g < w.heap.size := (Array.getElem?_eq_some_iff.1 h.box).1
theorem PSh.below {w w' : World} {B g : Nat} {v : Value} {l : List ShM} (h : PSh w B g v l) (hb : Below w.heap.size w w') : PSh w' B g v l := ⟨(hb.block g h.lt).trans h.box, h.own.below hb, h.ne, h.le⟩
theorem PSh.cell {w : World} {B g : Nat} {v : Value} {l : List ShM} (h : PSh w B g v l) : w.cell? ⟨g, 0, none⟩ = some v := by rw [cell_of_row _ _ _ _ _ _ h.box]; rfl
theorem PSh.setLv {w : World} {B g gb n c : Nat} {l : List ShM} (h : PSh w B g (.slice (some ⟨gb, 0, none⟩) n c) l) {i : Nat} (hi : i < l.length) (x : Int) : PSh (w.setCell ⟨gb, i * 5 + 4, none⟩ (.int .i64 x)) B g (.slice (some ⟨gb, 0, none⟩) n c) (l.set i ⟨(l.getD i .zero).ch, x⟩) := by
  have hne : g ≠ gb := fun e => h.ne (by rw [e]; rfl)
  exact ⟨(heap_setCell_other w _ g _ hne).trans h.box, h.own.setLv hi x, h.ne, h.le⟩
theorem cellA {w : World} {a : Addr} {v : Value} (h : w.cell? a = some v) (o : Obj) : (w.alloc o).cell? a = some v := (World.cell?_alloc_lt _ _ _ (World.block_lt_of_cell? w a h)).trans h
theorem cellB {w w' : World} (hb : Below w.heap.size w w') {a : Addr} {v : Value} (h : w.cell? a = some v) : w'.cell? a = some v := (hb.cell (World.block_lt_of_cell? w _ h)).trans h
def withM (n most : Int) : Bool := decide (0 ≤ n ∧ n ≤ most)
set_option maxHeartbeats 1000000 in
theorem within_any (n most : Int) (w : World) : Calls Tryd.prog 49 #[.int .i64 n, .int .i64 most] w fun e w' => e = .returned (.bool (withM n most)) ∧ w' = w := by
  by_cases h0 : 0 ≤ n
  · have x0 : decide (0 ≤ n) = true := decide_eq_true h0
    by_cases h1 : n ≤ most
    · have x1 : decide (n ≤ most) = true := decide_eq_true h1
      have HX := hid (show true = withM n most from (decide_eq_true ⟨h0, h1⟩).symm)
      clear h0 h1
      go_enter Tryd.func49, Tryd.ntmps49
      go_wp2
      go_ret
      exact ⟨by rw [← HX.out]; rfl, rfl⟩
    · have x1 : decide (n ≤ most) = false := decide_eq_false h1
      have HX := hid (show false = withM n most from (decide_eq_false fun h => h1 h.2).symm)
      clear h0 h1
      go_enter Tryd.func49, Tryd.ntmps49
      go_wp2
      go_ret
      exact ⟨by rw [← HX.out]; rfl, rfl⟩
  · have x0 : decide (0 ≤ n) = false := decide_eq_false h0
    have HX := hid (show false = withM n most from (decide_eq_false fun h => h0 h.1).symm)
    clear h0
    go_enter Tryd.func49, Tryd.ntmps49
    go_wp2
    go_ret
    exact ⟨by rw [← HX.out]; rfl, rfl⟩
set_option maxHeartbeats 1000000 in
theorem fclos_any (t : ShM) (id : Int) (bx : Nat) (w : World) (hb : w.cell? ⟨bx, 0, none⟩ = some (.int .i64 id)) :
    Calls Tryd.prog 51 #[.agg #[.int .i64 t.ch.id, .int .i64 t.ch.prio, .int .i64 t.ch.rate, .int .i64 t.ch.depth, .int .i64 t.lv], .pointer (some ⟨bx, 0, none⟩)] w fun e w' => e = .returned (.bool (t.ch.id == id)) ∧ Below w.heap.size w w' := by
  have hb2 := cellA hb (.cells #[.int .i64 t.ch.id, .int .i64 t.ch.prio, .int .i64 t.ch.rate, .int .i64 t.ch.depth, .int .i64 t.lv] 79)
  go_enter Tryd.func51, Tryd.ntmps51
  go_wp2
  go_ret
  exact ⟨rfl, (Below.refl _ w).alloc (Nat.le_refl _) _⟩
/-- Where the channel of an ID stands. -/
def findN (l : List ShM) (id : Int) : Option Nat := l.findIdx? fun x => x.ch.id == id
def findI (l : List ShM) (id : Int) : Int := match findN l id with
  | some i => (i : Int)
  | none => -1
theorem findI_hit {l : List ShM} {id : Int} {k : Nat} (hk : k < l.length) (h : ((l.getD k .zero).ch.id == id) = true) (hb : ∀ j, j < k → ((l.getD j .zero).ch.id == id) = false) : findI l id = (k : Int) := by
  have e : findN l id = some k := by
    unfold findN
    rw [List.findIdx?_eq_some_iff_getElem]
    refine ⟨hk, by simpa [List.getD, hk] using h, fun j hj => ?_⟩
    have hjl : j < l.length := by omega
    have := hb j hj
    simpa [List.getD, hjl] using this
  unfold findI
  rw [e]
theorem findI_miss {l : List ShM} {id : Int} (hb : ∀ j, j < l.length → ((l.getD j .zero).ch.id == id) = false) : findI l id = -1 := by
  have e : findN l id = none := by
    unfold findN
    rw [List.findIdx?_eq_none_iff]
    intro x hx
    obtain ⟨j, hj, rfl⟩ := List.getElem_of_mem hx
    have := hb j hj
    simpa [List.getD, hj] using this
  unfold findI
  rw [e]
set_option maxRecDepth 100000 in
set_option maxHeartbeats 1000000 in
theorem index_any (l : List ShM) (id : Int) (B bx nl : Nat) (v : Value) (w : World) (hO : OwnSh w B v l) (hnl : l.length = nl) (hb : w.cell? ⟨bx, 0, none⟩ = some (.int .i64 id)) (hn : nl ≤ 1000) :
    Calls Tryd.prog 50 #[v, .func (.func 51) #[] #[.pointer (some ⟨bx, 0, none⟩)]] w fun e w' => e = .returned (.int .i64 (findI l id)) ∧ Below w.heap.size w w' := by
  have HO := hid hO
  have HNL := hid hnl
  have HB := hid hb
  obtain ⟨a, c, rfl, -, -⟩ := hO.shape
  rw [hnl]
  clear hO hnl hb
  go_enter Tryd.func50, Tryd.ntmps50
  go_wp2_with fail
  go_loopw [8] (fun i wr => ∃ k : Nat, k ≤ nl ∧ i = .int .i64 k ∧ Hid (∀ j, j < k → ((l.getD j .zero).ch.id == id) = false) ∧ Below w.heap.size w wr) (fun i _ => nl - (intOf i).toNat)
  case atStart => exact ⟨0, by omega, rfl, fun j hj => absurd hj (Nat.not_lt_zero _), Below.refl _ w⟩
  case round =>
    obtain ⟨k, hk, rfl, HN, hw⟩ := hrel
    by_cases hlt : k < nl
    · have hkl : k < l.length := by rw [HNL.out]; exact hlt
      obtain ⟨gb, c', e, -, -, hC⟩ := HO.out.at (by omega)
      simp only [Value.slice.injEq] at e
      obtain ⟨rfl, -, rfl⟩ := e
      obtain ⟨⟨c0, c1, c2, c3, c4⟩, -⟩ := hC k hkl
      have HH := hid (fun h => findI_hit (l := l) (id := id) hkl h HN.out)
      obtain ⟨t, et⟩ : ∃ t, t = l.getD k .zero := ⟨_, rfl⟩
      rw [← et] at c0 c1 c2 c3 c4 HH
      have HT := hid et
      have c0 := cellB hw c0
      have c1 := cellB hw c1
      have c2 := cellB hw c2
      have c3 := cellB hw c3
      have c4 := cellB hw c4
      have hcl := fclos_any t id bx wr (cellB hw HB.out)
      clear hC et hkl
      cases hq : (t.ch.id == id) with
      | true =>
        rw [hq] at hcl
        have HX := hid (HH.out hq)
        clear hq HH
        go_wp2_with (go_at_call 51; refine hcl.mono ?_; rintro e w1 ⟨rfl, hb1⟩)
        go_ret
        exact ⟨ret_int HX.out.symm, hw.trans (hb1.mono hw.size)⟩
      | false =>
        rw [hq] at hcl
        have HQ := hid hq
        clear hq HH
        go_wp2_with (go_at_call 51; refine hcl.mono ?_; rintro e w1 ⟨rfl, hb1⟩)
        go_roundw
        case rel => exact ⟨k + 1, by omega, by go_num, (show Hid _ from fun j hj => by
          by_cases e : j = k
          · rw [e, ← HT.out]; exact HQ.out
          · exact HN.out j (by omega)), hw.trans (hb1.mono hw.size)⟩
        case measure => simp [intOf]; omega
    · have e : k = nl := by omega
      subst e
      have HX := hid (findI_miss (l := l) (id := id) (by rw [HNL.out]; exact HN.out))
      go_wp2_with fail
      go_ret
      exact ⟨ret_int HX.out.symm, hw⟩
set_option maxHeartbeats 1000000 in
theorem find_any (l : List ShM) (id : Int) (B g : Nat) (v : Value) (w : World) (hP : PSh w B g v l) (hn : l.length ≤ 1000) :
    Calls Tryd.prog 32 #[.pointer (some ⟨g, 0, none⟩), .int .i64 id] w fun e w' => e = .returned (.int .i64 (findI l id)) ∧ Below w.heap.size w w' := by
  have hc := cellA hP.cell (.cells #[.int .i64 id] 3)
  have hO := (hP.below ((Below.refl _ w).alloc (Nat.le_refl _) (.cells #[.int .i64 id] 3))).own
  have hix := index_any l id B w.heap.size l.length v _ hO rfl (by rw [cell_of_row _ _ _ _ _ _ (heap_alloc_new w _)]; rfl) hn
  have hba : Below w.heap.size w (w.alloc (.cells #[.int .i64 id] 3)) := (Below.refl _ w).alloc (Nat.le_refl _) _
  clear hP hO hn
  go_enter Tryd.func32, Tryd.ntmps32
  go_wp2_with (go_at_call 50; refine hix.mono ?_; rintro e w1 ⟨rfl, hb1⟩)
  go_ret
  exact ⟨rfl, hba.trans (hb1.mono hba.size)⟩
set_option maxRecDepth 100000 in
set_option maxHeartbeats 1000000 in
theorem cchan_any (c : ChM) (w : World) :
    Calls Tryd.prog 31 #[.agg #[.int .i64 c.id, .int .i64 c.prio, .int .i64 c.rate, .int .i64 c.depth]] w fun e w' => e = .returned (.int .i64 c.err) ∧ Below w.heap.size w w' := by
  have hw1 := fun n m wz => within_any n m wz
  have hba : Below w.heap.size w (w.alloc (.cells #[.int .i64 c.id, .int .i64 c.prio, .int .i64 c.rate, .int .i64 c.depth] 38)) := (Below.refl _ w).alloc (Nat.le_refl _) _
  have HE1 : Hid (c.ok = true → c.err = 0) := fun h => if_pos h
  have HE0 : Hid (c.ok = false → c.err = 1) := fun h => if_neg (by rw [h]; decide)
  by_cases h1 : c.id < 1
  · have x1 : decide (c.id < 1) = true := decide_eq_true h1
    have HX := hid (HE0.out (decide_eq_false (by omega)))
    clear h1
    go_enter Tryd.func31, Tryd.ntmps31
    go_wp2_with (go_at_call 49; refine (hw1 _ _ _).mono ?_; rintro e w1 ⟨rfl, rfl⟩)
    go_ret
    exact ⟨ret_int HX.out.symm, hba⟩
  · have x1 : decide (c.id < 1) = false := decide_eq_false h1
    by_cases h2 : 32 < c.id
    · have x2 : decide (32 < c.id) = true := decide_eq_true h2
      have HX := hid (HE0.out (decide_eq_false (by omega)))
      clear h1 h2
      go_enter Tryd.func31, Tryd.ntmps31
      go_wp2_with (go_at_call 49; refine (hw1 _ _ _).mono ?_; rintro e w1 ⟨rfl, rfl⟩)
      go_ret
      exact ⟨ret_int HX.out.symm, hba⟩
    · have x2 : decide (32 < c.id) = false := decide_eq_false h2
      cases hp : withM c.prio 100 with
      | false =>
        have hq := of_decide_eq_false hp
        have HX := hid (HE0.out (decide_eq_false (by omega)))
        clear h1 h2 hq
        go_enter Tryd.func31, Tryd.ntmps31
        go_wp2_with (go_at_call 49; refine (hw1 _ _ _).mono ?_; rintro e w1 ⟨rfl, rfl⟩)
        go_ret
        exact ⟨ret_int HX.out.symm, hba⟩
      | true =>
        have hq := of_decide_eq_true hp
        cases hr : withM c.rate 10000 with
        | false =>
          have hq2 := of_decide_eq_false hr
          have HX := hid (HE0.out (decide_eq_false (by omega)))
          clear h1 h2 hq hq2
          go_enter Tryd.func31, Tryd.ntmps31
          go_wp2_with (go_at_call 49; refine (hw1 _ _ _).mono ?_; rintro e w1 ⟨rfl, rfl⟩)
          go_ret
          exact ⟨ret_int HX.out.symm, hba⟩
        | true =>
          have hq2 := of_decide_eq_true hr
          cases hd : withM c.depth 100000 with
          | false =>
            have hq3 := of_decide_eq_false hd
            have HX := hid (HE0.out (decide_eq_false (by omega)))
            clear h1 h2 hq hq2 hq3
            go_enter Tryd.func31, Tryd.ntmps31
            go_wp2_with (go_at_call 49; refine (hw1 _ _ _).mono ?_; rintro e w1 ⟨rfl, rfl⟩)
            go_ret
            exact ⟨ret_int HX.out.symm, hba⟩
          | true =>
            have hq3 := of_decide_eq_true hd
            have HX := hid (HE1.out (decide_eq_true (by omega)))
            clear h1 h2 hq hq2 hq3
            go_enter Tryd.func31, Tryd.ntmps31
            go_wp2_with (go_at_call 49; refine (hw1 _ _ _).mono ?_; rintro e w1 ⟨rfl, rfl⟩)
            go_ret
            exact ⟨ret_int HX.out.symm, hba⟩
end Go.Proofs.YtmdfjhnibhmdkafDoor
namespace Go.Proofs.YtmdfjhnibhmdkafDoor
open Go.ChangeShapes Go.WideShapes Go.ChangeAt Go.RowKit
theorem Tryd.infoSh : (Tryd.prog.info? 79).map (fun i => (i.zero, i.size, i.bytes)) = some (some (.agg #[.int .i64 0, .int .i64 0, .int .i64 0, .int .i64 0, .int .i64 0]), 5, 40) := by kernel_rfl
/-- Channels that can be read. -/
def Chs (w : World) (a : Option Addr) (l : List ChM) : Prop := l ≠ [] → ∃ b o, a = some ⟨b, o, none⟩ ∧ ∀ i, i < l.length → w.cell? ⟨b, o + i * 4, none⟩ = some (.int .i64 (l.getD i .zero).id) ∧ w.cell? ⟨b, o + i * 4 + 1, none⟩ = some (.int .i64 (l.getD i .zero).prio) ∧ w.cell? ⟨b, o + i * 4 + 2, none⟩ = some (.int .i64 (l.getD i .zero).rate) ∧ w.cell? ⟨b, o + i * 4 + 3, none⟩ = some (.int .i64 (l.getD i .zero).depth)
theorem Chs.at {w : World} {a : Option Addr} {l : List ChM} (h : Chs w a l) {i : Nat} (hi : i < l.length) : ∃ b o, a = some ⟨b, o, none⟩ ∧ (w.cell? ⟨b, o + i * 4, none⟩ = some (.int .i64 (l.getD i .zero).id) ∧ w.cell? ⟨b, o + i * 4 + 1, none⟩ = some (.int .i64 (l.getD i .zero).prio) ∧ w.cell? ⟨b, o + i * 4 + 2, none⟩ = some (.int .i64 (l.getD i .zero).rate) ∧ w.cell? ⟨b, o + i * 4 + 3, none⟩ = some (.int .i64 (l.getD i .zero).depth)) := by
  obtain ⟨b, o, e, hc⟩ := h (by rintro rfl; simp at hi)
  exact ⟨b, o, e, hc i hi⟩
def shOf (c : ChM) : ShM := ⟨c, 0⟩
/-- The first channels may be, and no ID comes twice among them. -/
def okTo (l : List ChM) (k : Nat) : Prop := ∀ j, j < k → (l.getD j .zero).ok = true ∧ findI ((l.take j).map shOf) (l.getD j .zero).id = -1
def OkAll (l : List ChM) : Prop := okTo l l.length
theorem findI_lt (l : List ShM) (id : Int) : findI l id < l.length := by
  unfold findI findN
  cases h : l.findIdx? fun x => x.ch.id == id with
  | none => simp only; omega
  | some i =>
    rw [List.findIdx?_eq_some_iff_getElem] at h
    obtain ⟨h1, -⟩ := h
    simp only
    omega
theorem findI_ge (l : List ShM) (id : Int) : findI l id = -1 ∨ 0 ≤ findI l id := by
  unfold findI
  cases findN l id with
  | none => exact .inl rfl
  | some i => exact .inr (by simp only; omega)
theorem findI_none {l : List ShM} {id : Int} (h : findI l id = -1) {j : Nat} (hj : j < l.length) : (l.getD j .zero).ch.id ≠ id := by
  intro e
  unfold findI findN at h
  cases hq : l.findIdx? fun x => x.ch.id == id with
  | some i => rw [hq] at h; simp only at h; omega
  | none =>
    rw [List.findIdx?_eq_none_iff] at hq
    have := hq (l[j]) (List.getElem_mem hj)
    have e2 : l.getD j .zero = l[j] := by simp [List.getD, hj]
    rw [e2] at e
    simp [e] at this
theorem take_shOf {l : List ChM} {k : Nat} (h : k < l.length) : (l.take (k + 1)).map shOf = (l.take k).map shOf ++ [shOf (l.getD k .zero)] := by
  have e : l.getD k .zero = l[k] := by simp [List.getD, h]
  rw [List.take_succ_eq_append_getElem h, List.map_append, e]
  rfl
/-- As no ID comes twice there are no more channels than IDs. -/
theorem ok_few {l : List ChM} {k : Nat} (h : okTo l k) (hk : k ≤ l.length) : k ≤ 32 := by
  have hid : ∀ j, j < k → 1 ≤ (l.getD j .zero).id ∧ (l.getD j .zero).id ≤ 32 := fun j hj => by
    have := of_decide_eq_true (h j hj).1
    exact ⟨this.1, this.2.1⟩
  have hne : ∀ i j, i < j → j < k → (l.getD i .zero).id ≠ (l.getD j .zero).id := fun i j hij hj e => by
    have h2 := (h j hj).2
    have hlen : ((l.take j).map shOf).length = j := by simp; omega
    refine findI_none h2 (j := i) (by rw [hlen]; exact hij) ?_
    have hi : i < l.length := by omega
    have e3 : ((l.take j).map shOf).getD i .zero = shOf (l.getD i .zero) := by
      simp [List.getD, hi, hij]
    rw [e3]
    exact e
  have hnd : ((List.range k).map fun j => (l.getD j .zero).id.toNat).Nodup := by
    rw [List.nodup_iff_pairwise_ne, List.pairwise_map]
    refine List.Pairwise.imp_of_mem (R := (· < ·)) ?_ List.pairwise_lt_range
    intro i j hi hj hij e
    have hi' := List.mem_range.1 hi
    have hj' := List.mem_range.1 hj
    have := hid i hi'
    have := hid j hj'
    exact hne i j hij hj' (by omega)
  have hsub : ((List.range k).map fun j => (l.getD j .zero).id.toNat) ⊆ List.range 33 := by
    intro x hx
    obtain ⟨j, hj, rfl⟩ := List.mem_map.1 hx
    have := hid j (List.mem_range.1 hj)
    exact List.mem_range.2 (by omega)
  have h0 : 0 ∉ (List.range k).map fun j => (l.getD j .zero).id.toNat := by
    intro hx
    obtain ⟨j, hj, e⟩ := List.mem_map.1 hx
    have := hid j (List.mem_range.1 hj)
    omega
  have hnd2 : (0 :: (List.range k).map fun j => (l.getD j .zero).id.toNat).Nodup := List.nodup_cons.2 ⟨h0, hnd⟩
  have hle : (0 :: (List.range k).map fun j => (l.getD j .zero).id.toNat).length ≤ (List.range 33).length := by
    refine List.Nodup.length_le_of_subset hnd2 ?_
    intro x hx
    rcases List.mem_cons.1 hx with rfl | hx
    · exact List.mem_range.2 (by omega)
    · exact hsub hx
  simp at hle
  omega
end Go.Proofs.YtmdfjhnibhmdkafDoor
