import Derived.Test.YtjpohfghibhkiadGridL
namespace Go.Proofs.Ytjpohfghibhkiad
open Go.ChangeShapes Go.WideShapes Go.ChangeAt Go.RowKit Go.Maps

/-! A POINT IN A BLOCK OF ITS OWN; the map of what has been met. -/

theorem Try.sizeX : (Try.prog.info? 47).map (·.size) = some 2 := by kernel_rfl
def XAt (w : World) (g : Nat) (p : Int × Int) : Prop := w.heap[g]? = some (.cells #[.int .i64 p.1, .int .i64 p.2] 47 (0, 0))
theorem XAt.cells {w : World} {g : Nat} {p : Int × Int} (h : XAt w g p) : w.cell? ⟨g, 0, none⟩ = some (.int .i64 p.1) ∧ w.cell? ⟨g, 1, none⟩ = some (.int .i64 p.2) := by
  rw [cell_of_row w g _ _ _ (0, 0) h, cell_of_row w g _ _ _ (0, 0) h]
  exact ⟨rfl, rfl⟩
theorem XAt.free {w : World} {g : Nat} {p : Int × Int} (h : XAt w g p) (j : Nat) : w.frozen? ⟨g, j, none⟩ = false := frozen_of_row w g j _ _ h
theorem XAt.there {w : World} {g : Nat} {p : Int × Int} (h : XAt w g p) : w.there g 0 2 := fun j hj => by
  have h2 : j = 0 ∨ j = 1 := by omega
  rcases h2 with rfl | rfl
  · exact ⟨by rw [Nat.zero_add, h.cells.1]; rfl, h.free _⟩
  · exact ⟨by rw [Nat.zero_add, h.cells.2]; rfl, h.free _⟩
theorem XAt.store {w : World} {g : Nat} {p : Int × Int} (h : XAt w g p) (q : Int × Int) : XAt (w.setCells g 0 [.int .i64 q.1, .int .i64 q.2]) g q := by
  have h1 := heap_setCell_same w g 0 _ _ (.int .i64 q.1) h
  have h2 := heap_setCell_same _ g 1 _ _ (.int .i64 q.2) h1
  exact h2
theorem XAt.setQ {w : World} {g : Nat} {p : Int × Int} (h : XAt w g p) (y : Int) : XAt (w.setCell ⟨g, 1, none⟩ (.int .i64 y)) g (p.1, y) := heap_setCell_same w g 1 _ _ (.int .i64 y) h
theorem XAt.below {w w' : World} {g : Nat} {p : Int × Int} (h : XAt w g p) (hb : Below w.heap.size w w') : XAt w' g p := (hb.block g (Array.getElem?_eq_some_iff.1 h).1).trans h
theorem XAt.lt {w : World} {g : Nat} {p : Int × Int} (h : XAt w g p) : g < w.heap.size := (Array.getElem?_eq_some_iff.1 h).1
theorem xat_new (w : World) (x y : Int) : XAt (w.alloc (.cells #[.int .i64 x, .int .i64 y] 47)) w.heap.size (x, y) := heap_alloc_new w _
/-- What all worlds of a round share: old things, and the map. -/
structure RoundAt (w3 wz : World) (gM N : Nat) (ss : List Sh) (t z : Nat) : Prop where
  bel : Below w3.heap.size w3 wz
  lt : gM < wz.heap.size
  seen : SeenMap wz gM N ss t z
theorem RoundAt.below {w3 wz wz' : World} {gM N t z : Nat} {ss : List Sh} (h : RoundAt w3 wz gM N ss t z) (hb : Below wz.heap.size wz wz') : RoundAt w3 wz' gM N ss t z :=
  ⟨h.bel.trans (hb.mono h.bel.size), Nat.lt_of_lt_of_le h.lt hb.size, h.seen.same (hb.block gM h.lt)⟩
theorem RoundAt.setCell {w3 wz : World} {gM N t z : Nat} {ss : List Sh} (h : RoundAt w3 wz gM N ss t z) {p : Addr} (hp : w3.heap.size ≤ p.block) (hM : gM ≠ p.block) (v : Value) : RoundAt w3 (wz.setCell p v) gM N ss t z :=
  ⟨h.bel.setCell hp v, by have := h.lt; simpa [World.setCell] using this, h.seen.same (heap_setCell_other wz p gM v hM)⟩
theorem RoundAt.store {w3 wz : World} {gM N t z g : Nat} {ss : List Sh} (h : RoundAt w3 wz gM N ss t z) (hg : w3.heap.size ≤ g) (hM : gM ≠ g) (u v : Value) : RoundAt w3 (wz.setCells g 0 [u, v]) gM N ss t z :=
  (h.setCell (p := ⟨g, 0, none⟩) hg hM u).setCell (p := ⟨g, 1, none⟩) hg hM v
theorem Try.law3g : Keyed Try.prog 3 := int_keyed Try.underlying3
theorem Try.zero3g (w : World) : (zeroValue 3).run Try.prog w = .ok (.int .i64 0) w := by kernel_rfl
theorem run_make_mapG (w : World) : (Instr.makeMap 69 none).run Try.prog w = .ok (.map (some w.heap.size)) (w.alloc (.map #[] 0)) := by
  simp [Instr.makeMap]
theorem seen_new (w : World) (N : Nat) (ss : List Sh) : SeenMap (w.alloc (.map #[] 0)) w.heap.size N ss 0 0 := by
  refine ⟨0, .map [], Nat.zero_le _, World.ownsMap_made w Try.prog 3 (plainElem Try.prog 3), fun who => ?_⟩
  rw [show seenAt N ss who 0 0 = 0 by simp [seenAt, placesTo, rowOf]]
  rfl
theorem run_lookG {ρ : Operand → Value} {w : World} {o : Oper} {x y : Operand} {gM N t z : Nat} {ss : List Sh} {who : Int} (hM : SeenMap w gM N ss t z) (hw : (Lit.int .i64 who).wf = true) (ho : o.op = .lookup 69 x y false) (h : ρ x = .map (some gM)) (h' : ρ y = .int .i64 who) : (execOp ρ o).run Try.prog w = .ok (.value (.int .i64 (seenAt N ss who t z))) w := by
  obtain ⟨n, D, -, hown, hD⟩ := hM
  obtain ⟨c, hrun, hat, -⟩ := hown.lookup_int Try.law3g Try.underlying69 Try.underlying3 (Try.zero3g w) (keyOf_int_mk Try.underlying3 hw)
  rw [hD who] at hat
  have hc : ((seenAt N ss who t z : Nat) : Int) = c := by simpa using hat
  rw [← hc] at hrun
  simp [execOp, ho, h, h', hrun, Result.andThen]
theorem SeenMap.put {w' : World} {gM N t z n : Nat} {ss : List Sh} {D : DataW Unit} {wo : Int} (hn : n ≤ t * N + z) (hD : ∀ who : Int, D.atKey (.int .i64 who) (.lit (.int .i64 0)) = .lit (.int .i64 (seenAt N ss who t z))) (hI : IsMap D) (hp : placeOf ss wo z t = true) (hq : ∀ who, who ≠ wo → placeOf ss who z t = false)
    (hM : w'.ownsMap Try.prog 3 (plainElem Try.prog 3) gM (n + 1) (D.put (.int .i64 wo) (.lit (.int .i64 ((seenAt N ss wo t z : Nat) + 1))))) : SeenMap w' gM N ss t (z + 1) := by
  refine ⟨n + 1, _, by omega, hM, fun who => ?_⟩
  by_cases e : who = wo
  · subst e
    rw [atKey_put_same hI (by trivial), seen_succ, hp]
    simp
  · rw [atKey_put_other (by simpa using e), hD who, seen_succ, hq who e]
    rfl
end Go.Proofs.Ytjpohfghibhkiad
