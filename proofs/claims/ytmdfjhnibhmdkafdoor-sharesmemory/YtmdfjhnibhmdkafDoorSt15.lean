import Derived.Test.YtmdfjhnibhmdkafDoorSt14
namespace Go.Proofs.YtmdfjhnibhmdkafDoor
open Go.ChangeShapes Go.WideShapes Go.ChangeAt Go.RowKit Go.Maps
theorem set_flags {m : SendM} (k : Nat) (t : TryM) : (m.set k t).p.map (fun t => Value.bool t.flag) = (m.p.map (fun t => Value.bool t.flag)).set k (.bool t.flag) := by
  simp [SendM.set, List.map_set]
theorem PSend.setFlag {w : World} {g bm : Nat} {m : SendM} (h : PSend w g bm m) {k : Nat} (hk : k < 8) (t : TryM) : (w.setCell ⟨g, 1 + k, none⟩ (.bool t.flag)).heap[g]? = some (.cells (sendCells (m.set k t) bm) 97 (0, 0)) := by
  refine (heap_setCell_same w g (1 + k) _ _ (.bool t.flag) h.1).trans ?_
  have hl := h.2.2.len
  unfold sendCells
  rw [set_flags]
  simp [Nat.add_comm 1 k, List.set_append_left, hl, hk, SendM.set]
set_option maxHeartbeats 1000000 in
theorem pnew_good (l : Nat) (w : World) (h1 : 1 ≤ l) (h8 : l ≤ 8) : Calls Tryd.prog 23 #[.int .i64 (l : Int)] w fun e w' => ∃ g bm, e = .returned (.tuple #[.pointer (some ⟨g, 0, none⟩), .int .i64 0]) ∧ w.heap.size ≤ g ∧ w.heap.size ≤ bm ∧ PSend w' g bm (SendM.new l) ∧ Below w.heap.size w w' := by
  have d1 : decide ((l : Int) < 1) = false := decide_eq_false (by omega)
  have d8 : decide ((8 : Int) < (l : Int)) = false := decide_eq_false (by omega)
  have hok := SendM.new_ok h1 h8
  have hmm := @run_makeMap Tryd.prog
  go_enter Tryd.func23, Tryd.ntmps23
  go_wp2
  go_ret2
  refine ⟨w.heap.size + 1, w.heap.size, ?_, by omega, Nat.le_refl _, ⟨?_, (BlkMap.made w l).alloc _, hok⟩, ((Below.refl _ w).alloc (Nat.le_refl _) _).alloc (by simp) _⟩
  · rfl
  · exact heap_alloc2_new w _ _
set_option maxHeartbeats 1000000 in
theorem psubmit_good {w : World} {g bm : Nat} {m : SendM} (h : PSend w g bm m) (s : ByteArray) (hs : s.size ≤ 1500) (k : Nat) (hl : m.least = k) (hk : k < 8) :
    Calls Tryd.prog 24 #[.pointer (some ⟨g, 0, none⟩), .string s] w fun e w' => e = .returned (.tuple #[.int .i64 (k : Int), .int .i64 0]) ∧ PSend w' g bm (m.set k ((m.tat k).given s)) ∧ Kept [g, bm] w w' := by
  have d1 : decide ((1500 : Int) < (s.size : Int)) = false := decide_eq_false (by omega)
  have d2 : ((k : Int) == 8) = false := by simp; omega
  have hle := pleast_any h
  rw [hl] at hle
  have hgb := h.ne
  have hok := h.2.2
  clear hs hl
  go_enter Tryd.func24, Tryd.ntmps24
  go_wp2_with (go_at_call 40; refine hle.mono ?_; rintro e w1 ⟨rfl, hb1⟩; have h1 := h.old hb1; have cf := h1.flag hk; have fz := h1.free (1 + k))
  go_region
  have hset := h1.setFlag hk ((m.tat k).given s)
  have cm : (w1.setCell ⟨g, 1 + k, none⟩ (.bool (!(m.tat k).flag))).drew.cell? ⟨g, 9, none⟩ = some (.map (some bm)) := by
    have hne : (⟨g, 1 + k, none⟩ : Addr) ≠ ⟨g, 9, none⟩ := fun e => by injection e with _ e; omega
    exact (World.cell?_setCell_other w1 _ _ _ hne).trans h1.map
  have hB : BlkMap (w1.setCell ⟨g, 1 + k, none⟩ (.bool (!(m.tat k).flag))).drew bm m := h1.2.1.same (Below.heap_setCell w1 ⟨g, 1 + k, none⟩ _ bm (fun e => hgb e.symm))
  have hK1 : Kept [g, bm] w (w1.setCell ⟨g, 1 + k, none⟩ (.bool (!(m.tat k).flag))).drew := ((Kept.of_below hb1).setCell (by simp) _).drew
  have hset : (w1.setCell ⟨g, 1 + k, none⟩ (.bool (!(m.tat k).flag))).drew.heap[g]? = _ := hset
  have hgl : g < (w1.setCell ⟨g, 1 + k, none⟩ (.bool (!(m.tat k).flag))).drew.heap.size := (Array.getElem?_eq_some_iff.1 hset).1
  generalize (w1.setCell ⟨g, 1 + k, none⟩ (.bool (!(m.tat k).flag))).drew = w2 at *
  go_wp2_with (at_mapUpdate; refine wpList_putBlk _ rfl _ _ _ rfl rfl hB hok.len hk rfl ((m.tat k).given s) rfl rfl ?_; intro w3 hB3 hg3)
  go_ret2
  have hk3 : Kept [bm] w2 w3 := kept_grownH hg3 (by simp)
  exact ⟨rfl, ⟨(hk3.block g hgl (by simpa using hgb)).trans hset, hB3, hok.set hk (given_right hok _ s)⟩, hK1.trans (kept_grownH hg3 (by simp))⟩
end Go.Proofs.YtmdfjhnibhmdkafDoor
