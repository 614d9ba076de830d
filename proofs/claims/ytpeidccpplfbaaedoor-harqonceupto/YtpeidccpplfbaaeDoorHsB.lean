import Derived.Test.YtpeidccpplfbaaeDoorHsA
import Derived.Test.YtpeidccpplfbaaeDoorHqP
namespace Go.Proofs.YtpeidccpplfbaaeDoor
open Go.ChangeShapes Go.WideShapes Go.ChangeAt Go.RowKit Go.Maps

/-! THE PROGRAM'S SENDER: its cells, its map. -/

def heldElem (v : Value) : Option (DataW Value × List MemPlace) := some (.held v, [])
theorem Tryd.lawI : Keyed Tryd.prog 3 := int_keyed Tryd.underlying3
theorem Tryd.zeroB (w : World) : (zeroValue 62).run Tryd.prog w = .ok (.agg #[.string { data := #[] }, .int .i64 0, .bool false]) w := by kernel_rfl
theorem keyI {k : Nat} (h : k < 8) : keyOf Tryd.prog 3 (.int .i64 (k : Int)) = some (.int .i64 (k : Int)) := keyOf_int_mk Tryd.underlying3 (WalkArith.wf_i64 (by omega))
theorem keyLitI (k : Int) : WideAt.IsKeyLit (.int .i64 k) := by simp [WideAt.IsKeyLit]
theorem litI_ne {j k : Nat} (h : j ≠ k) : Lit.int .i64 (j : Int) ≠ Lit.int .i64 (k : Int) := by
  intro e
  injection e with _ e
  exact h (by omega)
/-- A block that is the map of a sender's blocks. -/
def BlkMap (w : World) (bm : Nat) (m : SendM) : Prop := ∃ D : DataW Value, w.ownsMap Tryd.prog 3 heldElem bm 8 D ∧ Maps.size D = m.busyN ∧ ∀ k : Nat, k < 8 → Maps.has D (.int .i64 (k : Int)) = (m.tat k).busy ∧ ((m.tat k).busy = true → ∀ z, D.atKey (.int .i64 (k : Int)) z = .held (m.tat k).blk)
theorem ownsMap_tight {w : World} {P : Program} {k : TypeId} {R : Value → Option (DataW Value × List MemPlace)} {b n n' : Nat} {D : DataW Value} (h : w.ownsMap P k R b n D) (hs : Maps.size D ≤ n') : w.ownsMap P k R b n' D := by
  obtain ⟨es, clock, hb, F, _, rfl⟩ := h
  refine ⟨es, clock, hb, F, ?_, rfl⟩
  simpa [Maps.size, length_sorted] using hs
theorem BlkMap.same {w w' : World} {bm : Nat} {m : SendM} (h : BlkMap w bm m) (e : w'.heap[bm]? = w.heap[bm]?) : BlkMap w' bm m := by
  obtain ⟨D, ⟨es, clock, hb, F, hs, hD⟩, r⟩ := h
  exact ⟨D, ⟨es, clock, by rw [e]; exact hb, F, hs, hD⟩, r⟩
theorem BlkMap.lt {w : World} {bm : Nat} {m : SendM} (h : BlkMap w bm m) : bm < w.heap.size := by
  obtain ⟨D, h, _⟩ := h
  exact World.ownsMap.lt h
theorem BlkMap.made (w : World) (l : Nat) : BlkMap (w.alloc (.map #[] 0)) w.heap.size (SendM.new l) := by
  refine ⟨.map [], ownsMap_tight (World.ownsMap_made w _ _ _) (by simp [Maps.size]), ?_, fun k hk => ?_⟩
  · show 0 = List.countP _ (List.replicate 8 TryM.zero)
    decide
  · have e : (SendM.new l).tat k = TryM.zero := by
      simp only [SendM.tat, SendM.new, List.getD, List.getElem?_replicate]
      split <;> rfl
    rw [e]
    exact ⟨rfl, fun h => by cases h⟩
/-- What comes of laying a block by its process. -/
theorem BlkMap.put {w w' : World} {bm : Nat} {m : SendM} {D : DataW Value} {n : Nat} (hm : m.p.length = 8) {k : Nat} (hk : k < 8) (t : TryM) (ht : t.busy = true) (ho : w.ownsMap Tryd.prog 3 heldElem bm 8 D) (hs : Maps.size D = m.busyN) (hD : ∀ k : Nat, k < 8 → Maps.has D (.int .i64 (k : Int)) = (m.tat k).busy ∧ ((m.tat k).busy = true → ∀ z, D.atKey (.int .i64 (k : Int)) z = .held (m.tat k).blk))
    (h : w'.ownsMap Tryd.prog 3 heldElem bm n (D.put (.int .i64 (k : Int)) (.held t.blk))) : BlkMap w' bm (m.set k t) := by
  have hsz : Maps.size (D.put (.int .i64 (k : Int)) (.held t.blk)) = (m.set k t).busyN := by
    rw [size_put (ho.tidy Tryd.lawI), (hD k hk).1, hs]
    have := SendM.busyN_set hm hk t
    rw [ht] at this
    split
    · rename_i hb
      rw [hb] at this
      simp at this
      omega
    · rename_i hb
      rw [Bool.not_eq_true] at hb
      rw [hb] at this
      simp at this
      omega
  refine ⟨_, ownsMap_tight h (by rw [hsz]; exact SendM.busyN_le (by simp [SendM.set, hm])), hsz, fun j hj => ?_⟩
  rw [SendM.tat_set hm hk]
  by_cases e : j = k
  · subst e
    rw [if_pos rfl, has_put_same ho.isMap (keyLitI _), ht]
    exact ⟨rfl, fun _ z => atKey_put_same ho.isMap (keyLitI _) _ _⟩
  · rw [if_neg e, has_put_other (litI_ne e)]
    exact ⟨(hD j hj).1, fun hb z => by rw [atKey_put_other (litI_ne e)]; exact (hD j hj).2 hb z⟩
theorem BlkMap.del {w w' : World} {bm : Nat} {m : SendM} {D : DataW Value} {n : Nat} (hm : m.p.length = 8) {k : Nat} (hk : k < 8) (t : TryM) (ht : t.busy = false) (ho : w.ownsMap Tryd.prog 3 heldElem bm 8 D) (hs : Maps.size D = m.busyN) (hD : ∀ k : Nat, k < 8 → Maps.has D (.int .i64 (k : Int)) = (m.tat k).busy ∧ ((m.tat k).busy = true → ∀ z, D.atKey (.int .i64 (k : Int)) z = .held (m.tat k).blk))
    (h : w'.ownsMap Tryd.prog 3 heldElem bm n (D.del (.int .i64 (k : Int)))) : BlkMap w' bm (m.set k t) := by
  have hsz : Maps.size (D.del (.int .i64 (k : Int))) = (m.set k t).busyN := by
    have h1 := size_del (k := .int .i64 (k : Int)) (ho.tidy Tryd.lawI)
    rw [(hD k hk).1, hs] at h1
    have := SendM.busyN_set hm hk t
    rw [ht] at this
    simp at this
    omega
  refine ⟨_, ownsMap_tight h (by rw [hsz]; exact SendM.busyN_le (by simp [SendM.set, hm])), hsz, fun j hj => ?_⟩
  rw [SendM.tat_set hm hk]
  by_cases e : j = k
  · subst e
    rw [if_pos rfl, has_del_same, ht]
    exact ⟨rfl, fun h => by cases h⟩
  · rw [if_neg e, has_del_other (litI_ne e)]
    exact ⟨(hD j hj).1, fun hb z => by rw [atKey_del_other (litI_ne e)]; exact (hD j hj).2 hb z⟩
/-- What a look at the map tells. -/
theorem held_inj {v : Value} {x : DataW Value} {ps : List MemPlace} (h : heldElem v = some (x, ps)) : x = .held v := by
  unfold heldElem at h
  simp at h
  exact h.1.symm

/-- The cells of the program's sender. -/
def sendCells (m : SendM) (bm : Nat) : Array Value := (Value.int .i64 m.limit :: m.p.map (fun t => Value.bool t.flag) ++ [Value.map (some bm)]).toArray
def PSend (w : World) (g bm : Nat) (m : SendM) : Prop := w.heap[g]? = some (.cells (sendCells m bm) 59 (0, 0)) ∧ BlkMap w bm m ∧ m.Ok
theorem PSend.lt {w : World} {g bm : Nat} {m : SendM} (h : PSend w g bm m) : g < w.heap.size := (Array.getElem?_eq_some_iff.1 h.1).1
theorem PSend.ne {w : World} {g bm : Nat} {m : SendM} (h : PSend w g bm m) : g ≠ bm := by
  rintro rfl
  obtain ⟨D, ⟨es, clock, hb, _⟩, _⟩ := h.2.1
  rw [h.1] at hb
  cases hb
theorem PSend.old {w w' : World} {g bm : Nat} {m : SendM} (h : PSend w g bm m) (hb : Below w.heap.size w w') : PSend w' g bm m := ⟨(hb.block g h.lt).trans h.1, h.2.1.same (hb.block bm h.2.1.lt), h.2.2⟩
theorem PSend.kept {w w' : World} {g bm : Nat} {m : SendM} {S : List Nat} (h : PSend w g bm m) (hk : Kept S w w') (h1 : g ∉ S) (h2 : bm ∉ S) : PSend w' g bm m := ⟨(hk.block g h.lt h1).trans h.1, h.2.1.same (hk.block bm h.2.1.lt h2), h.2.2⟩
theorem PSend.drew {w : World} {g bm : Nat} {m : SendM} (h : PSend w g bm m) : PSend w.drew g bm m := ⟨h.1, h.2.1.same rfl, h.2.2⟩
theorem PSend.limit {w : World} {g bm : Nat} {m : SendM} (h : PSend w g bm m) : w.cell? ⟨g, 0, none⟩ = some (.int .i64 m.limit) := by
  rw [cell_of_row _ _ _ _ _ _ h.1]
  simp [sendCells]
theorem PSend.flag {w : World} {g bm : Nat} {m : SendM} (h : PSend w g bm m) {k : Nat} (hk : k < 8) : w.cell? ⟨g, 1 + k, none⟩ = some (.bool (m.tat k).flag) := by
  have hl := h.2.2.len
  have hk' : k < m.p.length := by omega
  rw [cell_of_row _ _ _ _ _ _ h.1]
  simp [sendCells, SendM.tat, List.getD, hk', Nat.add_comm 1 k, List.getElem?_append_left]
theorem PSend.map {w : World} {g bm : Nat} {m : SendM} (h : PSend w g bm m) : w.cell? ⟨g, 9, none⟩ = some (.map (some bm)) := by
  have hl := h.2.2.len
  rw [cell_of_row _ _ _ _ _ _ h.1]
  simp [sendCells, hl]
theorem PSend.free {w : World} {g bm : Nat} {m : SendM} (h : PSend w g bm m) (k : Nat) : w.frozen? ⟨g, k, none⟩ = false := frozen_of_row w g k _ _ h.1
end Go.Proofs.YtpeidccpplfbaaeDoor
