import Derived.Test.YtpeidccpplfbaaeDoorHsE
import Derived.Test.YtpeidccpplfbaaeDoorHsG
namespace Go.Proofs.YtpeidccpplfbaaeDoor
open Go.ChangeShapes Go.WideShapes Go.ChangeAt Go.RowKit

/-! THE DOCUMENT'S Tries: its cells; Submit, Waiting. -/

theorem tries_at : ∀ (l : List TryM) (k j : Nat) (t : TryM), l[k]? = some t → j < 5 → (l.flatMap TryM.cells)[k * 5 + j]? = t.cells[j]?
  | [], k, j, t, h, _ => by simp at h
  | x :: l, 0, j, t, h, hj => by
    simp at h
    subst h
    rw [List.flatMap_cons, Nat.zero_mul, Nat.zero_add, List.getElem?_append_left (by simpa [TryM.cells] using hj)]
  | x :: l, k + 1, j, t, h, hj => by
    simp at h
    have e : (k + 1) * 5 + j = x.cells.length + (k * 5 + j) := by simp [TryM.cells]; omega
    rw [List.flatMap_cons, e, List.getElem?_append_right (by omega), Nat.add_sub_cancel_left]
    exact tries_at l k j t h hj
theorem tries_set : ∀ (l : List TryM) (k j : Nat) (t t' : TryM) (v : Value), l[k]? = some t → j < 5 → t'.cells = t.cells.set j v → (l.flatMap TryM.cells).set (k * 5 + j) v = (l.set k t').flatMap TryM.cells
  | [], k, j, t, t', v, h, _, _ => by simp at h
  | x :: l, 0, j, t, t', v, h, hj, e => by
    simp at h
    subst h
    rw [List.flatMap_cons, Nat.zero_mul, Nat.zero_add, List.set_append_left _ _ (by simpa [TryM.cells] using hj), ← e]
    simp
  | x :: l, k + 1, j, t, t', v, h, hj, e => by
    simp at h
    have e1 : (k + 1) * 5 + j = x.cells.length + (k * 5 + j) := by simp [TryM.cells]; omega
    rw [List.flatMap_cons, e1, List.set_append_right _ _ (by omega), Nat.add_sub_cancel_left, tries_set l k j t t' v h hj e]
    simp
def triesCells (m : SendM) : Array Value := (Value.int .i64 m.limit :: m.p.flatMap TryM.cells).toArray
def RTries (w : World) (g : Nat) (m : SendM) : Prop := w.heap[g]? = some (.cells (triesCells m) 32 (0, 0))
theorem RTries.lt {w : World} {g : Nat} {m : SendM} (h : RTries w g m) : g < w.heap.size := (Array.getElem?_eq_some_iff.1 h).1
theorem RTries.old {w w' : World} {g : Nat} {m : SendM} (h : RTries w g m) (hb : Below w.heap.size w w') : RTries w' g m := (hb.block g h.lt).trans h
theorem RTries.kept {w w' : World} {g : Nat} {m : SendM} {S : List Nat} (h : RTries w g m) (hk : Kept S w w') (h1 : g ∉ S) : RTries w' g m := (hk.block g h.lt h1).trans h
theorem RTries.drew {w : World} {g : Nat} {m : SendM} (h : RTries w g m) : RTries w.drew g m := h
theorem RTries.free {w : World} {g : Nat} {m : SendM} (h : RTries w g m) (k : Nat) : w.frozen? ⟨g, k, none⟩ = false := frozen_of_row w g k _ _ h
theorem RTries.limit {w : World} {g : Nat} {m : SendM} (h : RTries w g m) : w.cell? ⟨g, 0, none⟩ = some (.int .i64 m.limit) := by
  rw [cell_of_row _ _ _ _ _ _ h]
  simp [triesCells]
theorem tat_some {m : SendM} (hl : m.p.length = 8) {k : Nat} (hk : k < 8) : m.p[k]? = some (m.tat k) := by
  have hk' : k < m.p.length := by omega
  simp [SendM.tat, List.getD, hk']
theorem RTries.cell {w : World} {g : Nat} {m : SendM} (h : RTries w g m) (hl : m.p.length = 8) {k : Nat} (hk : k < 8) {j : Nat} (hj : j < 5) : w.cell? ⟨g, 1 + k * 5 + j, none⟩ = (m.tat k).cells[j]? := by
  rw [cell_of_row _ _ _ _ _ _ h]
  have := tries_at m.p k j _ (tat_some hl hk) hj
  simp only [triesCells, List.getElem?_toArray]
  rw [show 1 + k * 5 + j = (k * 5 + j) + 1 by omega, List.getElem?_cons_succ]
  exact this
theorem RTries.set {w : World} {g : Nat} {m : SendM} (h : RTries w g m) (hl : m.p.length = 8) {k : Nat} (hk : k < 8) {j : Nat} (hj : j < 5) (v : Value) (t : TryM) (ht : t.cells = (m.tat k).cells.set j v) : RTries (w.setCell ⟨g, 1 + k * 5 + j, none⟩ v) g (m.set k t) := by
  refine (heap_setCell_same w g (1 + k * 5 + j) _ _ v h).trans ?_
  have := tries_set m.p k j _ t v (tat_some hl hk) hj ht
  rw [show 1 + k * 5 + j = (k * 5 + j) + 1 by omega]
  simp only [triesCells, List.setIfInBounds_toArray, List.set_cons_succ]
  rw [this]
  rfl
theorem set_set {m : SendM} (k : Nat) (t u : TryM) : (m.set k t).set k u = m.set k u := by simp [SendM.set]

theorem tat_same {m : SendM} (hl : m.p.length = 8) {k : Nat} (hk : k < 8) (t : TryM) : (m.set k t).tat k = t := by rw [SendM.tat_set hl hk, if_pos rfl]
theorem set_len {m : SendM} (hl : m.p.length = 8) (k : Nat) (t : TryM) : (m.set k t).p.length = 8 := by simp [SendM.set, hl]
theorem RTries.setj {w : World} {g : Nat} {m : SendM} {k : Nat} {u : TryM} (h : RTries w g (m.set k u)) (hl : m.p.length = 8) (hk : k < 8) {j : Nat} (hj : j < 5) (v : Value) (t : TryM) (ht : t.cells = u.cells.set j v) : RTries (w.setCell ⟨g, 1 + k * 5 + j, none⟩ v) g (m.set k t) := by
  have := RTries.set h (set_len hl k u) hk hj v t (by rw [tat_same hl hk]; exact ht)
  rw [set_set] at this
  exact this
theorem RTries.set5 {w : World} {g : Nat} {m : SendM} (h : RTries w g m) (hl : m.p.length = 8) {k : Nat} (hk : k < 8) (t : TryM) : RTries (((((w.setCell ⟨g, 1 + k * 5, none⟩ (.bool t.busy)).setCell ⟨g, 1 + k * 5 + 1, none⟩ (.bool t.flag)).setCell ⟨g, 1 + k * 5 + 2, none⟩ (.bool t.opn)).setCell ⟨g, 1 + k * 5 + 3, none⟩ (.string t.data)).setCell ⟨g, 1 + k * 5 + 4, none⟩ (.int .i64 t.tries)) g (m.set k t) := by
  have h0 := h.set hl hk (j := 0) (by omega) (.bool t.busy) ⟨t.busy, (m.tat k).flag, (m.tat k).opn, (m.tat k).data, (m.tat k).tries⟩ rfl
  have h1 := h0.setj hl hk (j := 1) (by omega) (.bool t.flag) ⟨t.busy, t.flag, (m.tat k).opn, (m.tat k).data, (m.tat k).tries⟩ rfl
  have h2 := h1.setj hl hk (j := 2) (by omega) (.bool t.opn) ⟨t.busy, t.flag, t.opn, (m.tat k).data, (m.tat k).tries⟩ rfl
  have h3 := h2.setj hl hk (j := 3) (by omega) (.string t.data) ⟨t.busy, t.flag, t.opn, t.data, (m.tat k).tries⟩ rfl
  exact h3.setj hl hk (j := 4) (by omega) (.int .i64 t.tries) t rfl

set_option maxHeartbeats 1000000 in
theorem rsubmit_large {w : World} {g : Nat} (s : ByteArray) (hs : 1500 < s.size) :
    Calls Tryd.prog 7 #[.pointer (some ⟨g, 0, none⟩), .string s] w fun e w' => e = .returned (.tuple #[.int .i64 0, .int .i64 2]) ∧ w = w' := by
  have d1 : decide ((1500 : Int) < (s.size : Int)) = true := decide_eq_true (by omega)
  clear hs
  go_enter Tryd.func7, Tryd.ntmps7
  go_wp2
  go_ret2
  exact ⟨rfl, rfl⟩

set_option maxHeartbeats 2000000 in
theorem rsubmit_any {w : World} {g : Nat} {m : SendM} (h : RTries w g m) (hl : m.p.length = 8) (s : ByteArray) (hs : s.size ≤ 1500) :
    Calls Tryd.prog 7 #[.pointer (some ⟨g, 0, none⟩), .string s] w fun e w' => (m.least = 8 ∧ e = .returned (.tuple #[.int .i64 0, .int .i64 7]) ∧ w = w') ∨ (m.least < 8 ∧ e = .returned (.tuple #[.int .i64 (m.least : Int), .int .i64 0]) ∧ RTries w' g (m.set m.least ((m.tat m.least).given s)) ∧ Kept [g] w w') := by
  have d1 : decide ((1500 : Int) < (s.size : Int)) = false := decide_eq_false (by omega)
  clear hs
  go_enter Tryd.func7, Tryd.ntmps7
  go_wp2_with fail
  go_loopw [6] (fun i wr => ∃ k : Nat, k ≤ 8 ∧ i = .int .i64 k ∧ (∀ j, j < k → (m.tat j).busy = true) ∧ w = wr) (fun i _ => 8 - (intOf i).toNat)
  case atStart => exact ⟨0, by omega, rfl, fun j hj => by omega, rfl⟩
  case round =>
    obtain ⟨k, hk, rfl, hbs, rfl⟩ := hrel
    by_cases hlt : k < 8
    · have c0 : w.cell? ⟨g, 1 + k * 5, none⟩ = some (.bool (m.tat k).busy) := h.cell hl hlt (j := 0) (by omega)
      cases hT : (m.tat k).busy with
      | true =>
        rw [hT] at c0
        have HB := hid hT
        have HBS := hid hbs
        clear hT hbs
        go_wp2_with fail
        go_roundw
        case rel => exact ⟨k + 1, by omega, by go_num, fun j hj => by
          by_cases e : j = k
          · subst e; exact HB.out
          · exact HBS.out j (by omega), trivial⟩
        case measure => simp [intOf]; omega
      | false =>
        have HL := hid (SendM.least_eq hl hlt hbs hT)
        rw [hT] at c0
        have c1 : w.cell? ⟨g, 1 + k * 5 + 1, none⟩ = some (.bool (m.tat k).flag) := h.cell hl hlt (j := 1) (by omega)
        have c2 : w.cell? ⟨g, 1 + k * 5 + 2, none⟩ = some (.bool (m.tat k).opn) := h.cell hl hlt (j := 2) (by omega)
        have c3 : w.cell? ⟨g, 1 + k * 5 + 3, none⟩ = some (.string (m.tat k).data) := h.cell hl hlt (j := 3) (by omega)
        have c4 : w.cell? ⟨g, 1 + k * 5 + 4, none⟩ = some (.int .i64 (m.tat k).tries) := h.cell hl hlt (j := 4) (by omega)
        have f0 := h.free (1 + k * 5)
        have f1 := h.free (1 + k * 5 + 1)
        have f2 := h.free (1 + k * 5 + 2)
        have f3 := h.free (1 + k * 5 + 3)
        have f4 := h.free (1 + k * 5 + 4)
        clear hT hbs
        go_wp2_with fail
        go_region
        have hR := (h.set5 hl hlt ((m.tat k).given s)).drew
        have hKk : Kept [g] w (((((w.setCell ⟨g, 1 + k * 5, none⟩ (.bool true)).setCell ⟨g, 1 + k * 5 + 1, none⟩ (.bool (!(m.tat k).flag))).setCell ⟨g, 1 + k * 5 + 2, none⟩ (.bool false)).setCell ⟨g, 1 + k * 5 + 3, none⟩ (.string s)).setCell ⟨g, 1 + k * 5 + 4, none⟩ (.int .i64 0)).drew := ((((((Kept.refl [g] w).setCell (by simp) _).setCell (by simp) _).setCell (by simp) _).setCell (by simp) _).setCell (by simp) _).drew
        go_wp2_with fail
        go_ret2
        refine .inr ⟨by rw [HL.out]; exact hlt, by rw [HL.out]; rfl, ?_, hKk⟩
        rw [HL.out]
        exact hR
    · have e : k = 8 := by omega
      subst e
      have HL := hid (SendM.least_none hl hbs)
      clear hbs
      go_wp2_with fail
      go_ret2
      exact .inl ⟨HL.out, rfl, rfl⟩

set_option maxHeartbeats 1000000 in
theorem rwaiting_any {w : World} {g : Nat} {m : SendM} (h : RTries w g m) (hl : m.p.length = 8) :
    Calls Tryd.prog 14 #[.pointer (some ⟨g, 0, none⟩)] w fun e w' => ∃ a c, e = .returned (.slice a (m.waitTo 8).length c) ∧ Rd .i64 w' a (m.waitTo 8) ∧ Below w.heap.size w w' := by
  go_enter Tryd.func14, Tryd.ntmps14
  go_wp2_with fail
  go_loopw [3, 4] (fun v i wr => ∃ k : Nat, k ≤ 8 ∧ i = .int .i64 k ∧ OwnI wr w.heap.size v (m.waitTo k) ∧ Below w.heap.size w wr) (fun v i _ => 8 - (intOf i).toNat)
  case atStart => exact ⟨0, by omega, rfl, OwnI.nil w _, Below.refl _ w⟩
  case round =>
    obtain ⟨k, hk, rfl, ho, hb⟩ := hrel
    by_cases hlt : k < 8
    · have c0 : wr.cell? ⟨g, 1 + k * 5, none⟩ = some (.bool (m.tat k).busy) := (h.old hb).cell hl hlt (j := 0) (by omega)
      have hle := SendM.waitTo_len m k
      cases hT : (m.tat k).busy with
      | true =>
        have HW := hid (SendM.waitTo_yes hT)
        have HLE : Hid ((m.waitTo k).length < 8796093022208) := by show _ < _; omega
        rw [hT] at c0
        clear hT hle
        go_wp2_with (at_builtin; refine wpList_pushI w.heap.size w (k : Int) ho rfl _ _ rfl rfl rfl HLE.out hb hb.size ?_; intro v' w' ho' hb')
        go_roundw
        case rel => exact ⟨k + 1, by omega, by go_num, by rw [HW.out]; exact ho', hb'⟩
        case measure => simp [intOf]; omega
      | false =>
        have HW := hid (SendM.waitTo_no hT)
        rw [hT] at c0
        clear hT hle
        go_wp2_with fail
        go_roundw
        case rel => exact ⟨k + 1, by omega, by go_num, by rw [HW.out]; exact ho, hb⟩
        case measure => simp [intOf]; omega
    · have e : k = 8 := by omega
      subst e
      go_wp2_with fail
      go_ret
      obtain ⟨a, c, rfl, _, _⟩ := OwnI.shape ho
      exact ⟨a, c, rfl, ho.rd, hb⟩
end Go.Proofs.YtpeidccpplfbaaeDoor
